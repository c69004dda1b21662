import Derived.Test.YtbhhpheailbebaaGreatDoorSL2
set_option maxHeartbeats 40000000
set_option maxRecDepth 100000
open List renaming getElem?_eq_getElem->Y8,length_cons->XB,getElem?_append_right->XC,getElem?_append_left->XD,mem_of_getElem?->XE,length_append->XG,getElem?_map->XH,cons_append->XK,length_take->XL,any_eq_false->XP,filter_cons_of_pos->XQ,filter_cons_of_neg->XR,getElem_map->XS,append_nil->XT,length_map->XU,filter_append->XW,flatten_cons->XY,flatMap_cons->XZ,not_mem_nil->X',nil_append->Wb,length_nil->WA,mem_cons->WB,any_cons->WC
open Go.RowKit.Below renaming refl->Y9,heap_alloc->XJ
open Nat renaming le_add_right->Y',le_refl->XA,le_trans->XM,zero_le->XN,lt_trichotomy->X2
open Int renaming toNat_natCast->XF,natCast_zero->X6,add_zero->WD
open Go.World renaming size_alloc->XI,news_of_block->XO,cell?_alloc_at->XV,ownsRow_nil->XX
open Option renaming getD_some->X4
namespace Go.Proofs.YtbhhpheailbebaaGreatDoor
open Tryz RowKit Shelf Joins Lib
open Go.Sort (grow)
namespace S
variable{P:Tb->Prop}{i j:Nat}{c k n:Int}{l r:CT}
def dR(P:ByteArray->Prop)(a:Value)(b c:ByteArray->Int)(gt:ByteArray->ByteArray)(w:World):Prop :=
 ∀(W:World)(s:ByteArray),P s->Zb w W->Zc 57 #[a,.string s] W λe d=>e=.returned (.agg #[Zi (b s),Zi (c s),.string (gt s)])/\Zb W d
theorem dR.up{P:Tb->Prop}{v:Tv}{b c:Tb->Int}{gt:Tb->Tb}{w W:Tw}(h:dR P v b c gt w)(e:Zb w W):dR P v b c gt W :=
 λd s f a=>h d s f (Below.up e a)
def Kg(P:ByteArray->Prop):CT->Prop
 | .nil=>True
 | .node _ _ ⟨c,Bl,_,_,_⟩ l r=>if c=11 then Kg P l else if c=9\/c=10 then Kg P l/\Kg P r else P Bl
theorem Kg.Bl{P:Tb->Prop}{i j:Nat}{c:Int}{Bl:Tb}{k n:Int}{t:Tb}{l r:CT}(h:Kg P (.node i j ⟨c,Bl,k,n,t⟩ l r))(a:¬(c=9\/c=10\/c=11)):P Bl:=by simp only[Kg] at h;rwa[if_neg (by omega),if_neg (by omega)] at h
theorem Kg.left{Bl:Tb}{t:Tb}(h:Kg P (.node i j ⟨c,Bl,k,n,t⟩ l r))(a:c=9\/c=10\/c=11):Kg P l:=by
 simp only[Kg] at h
 by_cases h11:c=11
 ·rwa[if_pos h11] at h
 rw[if_neg h11,if_pos (by omega)] at h;exact h.1
theorem Kg.right{Bl:Tb}{t:Tb}(h:Kg P (.node i j ⟨c,Bl,k,n,t⟩ l r))(a:c=9\/c=10):Kg P r:=by simp only[Kg] at h;rw[if_neg (by omega),if_pos a] at h;exact h.2
theorem R9(P:ByteArray->Prop)(j:Value)(a f:ByteArray->Int)(gt:ByteArray->ByteArray):∀(T:CT)(v:Value)(w:World),Gy w T v->Kg P T->dR P j a f gt w ->
 Zc 32 #[v,j] w λe w'=>e=.returned (.int .i64 (Io a f gt T))/\Zb w w'
 | .nil,v,w,h,_,_=>by obtain rfl:v=.pointer none:=h;have o:Hid (1=Io a f gt .nil):=rfl;go_enter func32,ntmps32;go_wp2;go_ret;exact⟨Bd o.out,Y9 _ _⟩
 | .node u y ⟨c,Bl,k,n,t⟩ l r,v,w,h,ha,hg=>by
   obtain⟨b,V,X,rfl,R,_,hl,hr⟩:=h;have c0:w.cell? ⟨b,0,none⟩=some (.int .i64 c):=cell_of_heap R 0;have c1:w.cell? ⟨b,1,none⟩=some (.string Bl):=cell_of_heap R 1;have c2:w.cell? ⟨b,2,none⟩=some (.int .i64 k):=cell_of_heap R 2;have c3:w.cell? ⟨b,3,none⟩=some (.int .i64 n):=cell_of_heap R 3;have c4:w.cell? ⟨b,4,none⟩=some (.string t):=cell_of_heap R 4;have c5:w.cell? ⟨b,5,none⟩=some V:=cell_of_heap R 5;have c6:w.cell? ⟨b,6,none⟩=some X:=cell_of_heap R 6;clear R;have s:Hid (¬(c=9\/c=10\/c=11)->∀W,Zb w W->Zc 57 #[j,.string Bl] W λe w'=>e=.returned (.agg #[.int .i64 (a Bl),.int .i64 (f Bl),.string (gt Bl)])/\Zb W w'):=λhc W hb=>hg W Bl (ha.Bl hc) hb
   have q:Hid ((c=9\/c=10\/c=11)->∀W,Zb w W->Zc 32 #[V,j] W λe w'=>e=.returned (.int .i64 (Io a f gt l))/\Zb W w'):=λhc W hb=>R9 P j a f gt l V W (hl.up hb) (ha.left hc) (hg.up hb)
   have IR:Hid ((c=9\/c=10)->∀W,Zb w W->Zc 32 #[X,j] W λe w'=>e=.returned (.int .i64 (Io a f gt r))/\Zb W w'):=λhc W hb=>R9 P j a f gt r X W (hr.up hb) (ha.right hc) (hg.up hb)
   have Y:=Kw a f gt l;have rr:=Kw a f gt r;clear hl hr hg ha
   by_cases h7:c=7
   ·have o:Hid (gG (a Bl==0)=Io a f gt (.node u y ⟨c,Bl,k,n,t⟩ l r)):=e7 h7
    replace s:=Ab (s.out (by omega));subst h7;clear q IR;generalize Io a f gt (.node u y ⟨7,Bl,k,n,t⟩ l r)=ee at *;generalize a Bl=M,f Bl=N,gt Bl=O at *;clear Y rr;have aa:=fld M N O;go_enter func32,ntmps32;go_wp2_with fail;refine(s.out _ (Y9 _ _)).mono ?_;rintro e w1⟨rfl,I⟩;go_wp2_with (go_at_call 56;refine(Jc _ _).mono ?_;rintro e w2⟨rfl,rfl⟩);go_ret;exact⟨Bd o.out,I⟩
   by_cases h8:c=8
   ·have o:Hid (gG (a Bl != 0)=Io a f gt (.node u y ⟨c,Bl,k,n,t⟩ l r)):=e8 h8
    replace s:=Ab (s.out (by omega));subst h8;clear q IR h7;generalize Io a f gt (.node u y ⟨8,Bl,k,n,t⟩ l r)=ee at *;generalize a Bl=M,f Bl=N,gt Bl=O at *;clear Y rr;have aa:=fld M N O;go_enter func32,ntmps32;go_wp2_with fail;refine(s.out _ (Y9 _ _)).mono ?_;rintro e w1⟨rfl,I⟩;go_wp2_with (go_at_call 56;refine(Jc _ _).mono ?_;rintro e w2⟨rfl,rfl⟩);go_ret;exact⟨Bd o.out,I⟩
   by_cases h11:c=11
   ·have o:Hid (Wk (Io a f gt l)=Io a f gt (.node u y ⟨c,Bl,k,n,t⟩ l r)):=e11 h11
    replace q:=Ab (q.out (by omega));subst h11;clear s IR h7 h8 rr;generalize Io a f gt (.node u y ⟨11,Bl,k,n,t⟩ l r)=ee at *;generalize Io a f gt l=x at *;go_enter func32,ntmps32;go_wp2_with fail;refine(q.out _ (Y9 _ _)).mono ?_;rintro e w1⟨rfl,I⟩;go_wp2_with (go_at_call 58;refine(AHu _ Y.1 Y.2 _).mono ?_;rintro e w2⟨rfl,rfl⟩);go_ret;exact⟨Bd o.out,I⟩
   by_cases h9:c=9
   ·have o:Hid (Su (Io a f gt l) (Io a f gt r)=Io a f gt (.node u y ⟨c,Bl,k,n,t⟩ l r)):=e9 h9
    replace q:=Ab (q.out (by omega));replace IR:=Ab (IR.out (by omega));subst h9;clear s h7 h8 h11 Y rr;generalize Io a f gt (.node u y ⟨9,Bl,k,n,t⟩ l r)=ee at *;generalize Io a f gt l=x,Io a f gt r=G at *;go_enter func32,ntmps32;go_wp2_with fail;replace c0:=cell_regrown c0;replace c5:=cell_regrown c5;replace c6:=cell_regrown c6;clear c1 c2 c3 c4;have z:Hid (∀d i,Zc 32 #[V,j] (grow (redrawn w d) i) λe g=>e=.returned (.int .i64 x)/\∃p:Regrown,g=grow (redrawn w p.d) p.os):=λd i=>Calls.regrown_of (q.out _ (below_regrown w d i))
    have D:Hid (∀d i,Zc 32 #[X,j] (grow (redrawn w d) i) λe g=>e=.returned (.int .i64 G)/\∃p:Regrown,g=grow (redrawn w p.d) p.os):=λd i=>Calls.regrown_of (IR.out _ (below_regrown w d i))
    have U:Hid (∀d i,Zc 59 #[.int .i64 x,.int .i64 G] (grow (redrawn w d) i) λe g=>e=.returned (.int .i64 (Su x G))/\∃p:Regrown,g=grow (redrawn w p.d) p.os):=λd i=>(AHo x G _).mono λ_ _⟨he,hw⟩=>⟨he,⟨⟨d,i⟩,hw⟩⟩
    refine wp_region_quiet_below (by kernel_rfl) (by kernel_rfl) ?_
    repeat (go_big_quiet_step (first
     | (go_at_call_of 32 (#[V,j]:Array Value);exact z.out _ _)
     | (go_at_call_of 32 (#[X,j]:Array Value);exact D.out _ _)
     | (go_at_call_of 59 (#[.int .i64 x,.int .i64 G]:Array Value);exact U.out _ _)))
    refine wpQuiet_nil ?_;intro _ J;obtain⟨⟨dq,L⟩,m⟩:=J;subst m;go_wp2;go_ret;exact⟨Bd o.out,below_regrown w dq L⟩
   by_cases h10:c=10
   ·have o:Hid (orJ (Io a f gt l) (Io a f gt r)=Io a f gt (.node u y ⟨c,Bl,k,n,t⟩ l r)):=e10 h10
    replace q:=Ab (q.out (by omega));replace IR:=Ab (IR.out (by omega));subst h10;clear s h7 h8 h11 h9 Y rr;generalize Io a f gt (.node u y ⟨10,Bl,k,n,t⟩ l r)=ee at *;generalize Io a f gt l=x,Io a f gt r=G at *;go_enter func32,ntmps32;go_wp2_with fail;replace c0:=cell_regrown c0;replace c5:=cell_regrown c5;replace c6:=cell_regrown c6;clear c1 c2 c3 c4;have z:Hid (∀d i,Zc 32 #[V,j] (grow (redrawn w d) i) λe g=>e=.returned (.int .i64 x)/\∃p:Regrown,g=grow (redrawn w p.d) p.os):=λd i=>Calls.regrown_of (q.out _ (below_regrown w d i))
    have D:Hid (∀d i,Zc 32 #[X,j] (grow (redrawn w d) i) λe g=>e=.returned (.int .i64 G)/\∃p:Regrown,g=grow (redrawn w p.d) p.os):=λd i=>Calls.regrown_of (IR.out _ (below_regrown w d i))
    have U:Hid (∀d i,Zc 60 #[.int .i64 x,.int .i64 G] (grow (redrawn w d) i) λe g=>e=.returned (.int .i64 (orJ x G))/\∃p:Regrown,g=grow (redrawn w p.d) p.os):=λd i=>(AHi x G _).mono λ_ _⟨he,hw⟩=>⟨he,⟨⟨d,i⟩,hw⟩⟩
    refine wp_region_quiet_below (by kernel_rfl) (by kernel_rfl) ?_
    repeat (go_big_quiet_step (first
     | (go_at_call_of 32 (#[V,j]:Array Value);exact z.out _ _)
     | (go_at_call_of 32 (#[X,j]:Array Value);exact D.out _ _)
     | (go_at_call_of 60 (#[.int .i64 x,.int .i64 G]:Array Value);exact U.out _ _)))
    refine wpQuiet_nil ?_;intro _ J;obtain⟨⟨dq,L⟩,m⟩:=J;subst m;go_wp2;go_ret;exact⟨Bd o.out,below_regrown w dq L⟩
   have o:Hid (Vq c (a Bl) (f Bl) (gt Bl) k n t=Io a f gt (.node u y ⟨c,Bl,k,n,t⟩ l r)):=e0 ⟨h7,h8,h11,h9,h10⟩;replace s:=Ab (s.out (by omega));have b7:(c==7)=false:=by simpa using h7
   have b8:(c==8)=false:=by simpa using h8
   have ac:(c==11)=false:=by simpa using h11
   have b9:(c==9)=false:=by simpa using h9
   have ab:(c==10)=false:=by simpa using h10
   clear q IR h7 h8 h11 h9 h10 Y rr;generalize Io a f gt (.node u y ⟨c,Bl,k,n,t⟩ l r)=ee at *;generalize a Bl=M,f Bl=N,gt Bl=O at *;go_enter func32,ntmps32;go_wp2_with fail;replace c0:=cell_regrown c0;replace c1:=cell_regrown c1;replace c2:=cell_regrown c2;replace c3:=cell_regrown c3;replace c4:=cell_regrown c4;clear c5 c6;have z:Hid (∀d i,Zc 57 #[j,.string Bl] (grow (redrawn w d) i) λe g=>e=.returned (.agg #[.int .i64 M,.int .i64 N,.string O])/\∃p:Regrown,g=grow (redrawn w p.d) p.os):=λd i=>Calls.regrown_of (s.out _ (below_regrown w d i))
   have D:Hid (∀d i,Zc 61 #[.int .i64 c,.agg #[.int .i64 M,.int .i64 N,.string O],.agg #[.int .i64 k,.int .i64 n,.string t]] (grow (redrawn w d) i) λe g=>e=.returned (.int .i64 (Vq c M N O k n t))/\∃p:Regrown,g=grow (redrawn w p.d) p.os):=λd i=>Calls.regrown_of (AEl c M N k n O t _)
   refine wp_region_quiet_below (by kernel_rfl) (by kernel_rfl) ?_
   repeat (go_big_quiet_step (first
    | (go_at_call_of 57 (#[j,.string Bl]:Array Value);exact z.out _ _)
    | (go_at_call_of 61 (#[.int .i64 c,.agg #[.int .i64 M,.int .i64 N,.string O],.agg #[.int .i64 k,.int .i64 n,.string t]]:Array Value);exact D.out _ _)))
   refine wpQuiet_nil ?_;intro _ J;obtain⟨⟨dq,L⟩,m⟩:=J;subst m;go_wp2;go_ret;exact⟨Bd o.out,below_regrown w dq L⟩
theorem AAk(P:Tb->Prop)(c:Tv)(a b:Tb->Int)(gt:Tb->Tb)(T:CT)(v:Tv)(w:Tw)(h:Gy w T v)(g:Kg P T)(j:dR P c a b gt w)(i:C9 T 24=true):
 Zc 13 #[v,c] w λe f=>e=Zr (Zi (Io a b gt T))/\Zb w f:=by
 have H1:Hid (Zc 30 #[v] w λe f=>e=Zr (Zo true)/\f=w):=by have:=Uh T v w h;rw[i] at this;exact this
 have H2:=Ab (R9 P c a b gt T v w h g j);generalize Io a b gt T=k at *;clear h j i g;go_enter func13,ntmps13;go_wp2_with fail;refine H1.out.mono ?_;rintro e l⟨rfl,rfl⟩;go_wp2_with fail;refine H2.out.mono ?_;rintro e m⟨rfl,d⟩;go_wp2;go_ret;exact⟨rfl,d⟩
theorem ABs(p:Addr)(w:Tw):
 CallsD prog 240 #[Zp (some p)] .returning w λe c d=>e=Zr (Zu #[])/\c=.returning/\d=w:=by
 refine callsD_of_wpS func240 rfl λa cs b=>?_
 apply wpS_seq;apply wpS_region;simp[wpOpsS,go_sem,recoverD,b,ntmps240,Exit.thenS];refine wpS_cond (t:=false) (by simp[Act.eval,Array.replicate]) ?_;simp only[Bool.false_eq_true,if_false];refine wpS_of_wp (wp_skip ?_);cases a
 simp_all [bodyPostS,results,results240]
theorem r8(pa l o:Tv)(gs:Tb->St)(s:Tb)(w:Tw)(j:∀(W:Tw)(s:Tb),Zb w W->Zc 94 #[Zt s,pa,l,o] W λe h=>e=Zr (Zg (E6 (gs s)))/\Zb W h):
 Zc 201 #[.func (.func 94) #[] #[pa,l,o],Zt s] w λe h=>e=Zr (Zg (E6 (gs s)))/\Zb w h:=by
 have d:=Ab (λW G=>j W s G);clear j;have I:∀(i:Fn)(first b:Array Tv)(w:Tw),(Instr.makeFunc i first b).run prog w=.ok (.func i first b) w:=λ_ _ _ _=>rfl
 generalize gs s=st at *;obtain⟨sc,sm,⟨sk,sn,M⟩,⟨J,L,p⟩⟩:=st;unfold E6 at d ⊢;simp only at d ⊢
 go_enter_defers func201,ntmps201
 go_wp2_with fail;refine(d.out _ (Zal)).mono ?_;rintro e q⟨rfl,a⟩;have g:Nq q w.heap.size F6:=Nq.up (heap_alloc_new _ _) a;obtain⟨c0,c1,u,v,x,y,z,D⟩:=Nq.cells (c:=0) (m:=0) (k:=0) (n:=0) (t:=⟨#[]⟩) (k':=0) (n':=0) (t':=⟨#[]⟩) g;obtain⟨O,P,R,T,U,V,X,Y⟩:=g.free;have r:Hid (Zb w q):=((Y9 _ w).alloc (XA _) _).trans (a.mono (by simp));clear a g;go_wp2;refine leaves_cons (f:=240) (args:=#[Zp (some ⟨w.heap.size,0,none⟩)]) (by simp) (by simp[go_sem]) ?_;refine(ABs ⟨w.heap.size,0,none⟩ _).mono ?_;rintro e u' N⟨rfl,rfl,rfl⟩;simp[Leaves,settle,results,results201,go_sem,c0,c1,u,v,x,y,z,D];exact b8c r.out (XA _) _ _ _ _ _ _ _ _
end S
namespace F
def Rf(l:List Aj)(s:ByteArray):Prop:=0<=Ce l s
theorem V5(k p:Nat)(cv gv:Tv)(cols:List Aj)(gs:List Fk)(g:Fk)(st:S.St)(c1:Int)(I:Tb)(J:Int)(L:Bool)(M N:Int)(O:Tb)(w:Tw)(y:Hm w cv gv (cols,gs))(hk:gs[k]? = some g)(h1:1<=cols.length)(h8:cols.length<=8)(ab:Gb cols g=true)(hp:cM cols c1=p)(aa:g.2.1[p]? = some st):
 Zc 95 #[Zg #[cv,gv],Zi k,Zg #[Zi c1,Zt I,Zi J,Zo L,Zi M,Zi N,Zt O]] w λe w'=>e=Zr (Zg (S.E6 st))/\Zb w w':=by
 have s:=Aa (λW(hW:Zb w W)=>nL k cv gv cols gs g W (y.up hW).1 (y.up hW).2 hk);have t:=Aa (λW(hW:Zb w W)=>U9 cv gv cols c1 I J L M N O W (y.up hW).1 h1 h8);obtain⟨ga,gc,rfl,_⟩:=y.2.slice;obtain⟨ca,cc,rfl,_⟩:=y.1.slice;dsimp only at s t ⊢;rw[ab] at s;rw[hp] at t;clear y ab;obtain⟨s1,s2,⟨k1,n1,t1⟩,⟨k2,n2,t2⟩⟩:=st;obtain⟨u,P,l,R,U⟩:=Jl w (Zk #[Zs ca cols.length cc,Zs ga gs.length gc] 98) (Zk #[Zi c1,Zt I,Zi J,Zo L,Zi M,Zi N,Zt O] 72) (Zk #[Zi 0,Zi 0,Zi 0,Zi 0,Zt ⟨#[]⟩,Zi 0,Zi 0,Zt ⟨#[]⟩] 186);have HA:=Aa P;have HB:=Aa l;have G:=Aa R;have z:=Aa U;have af:=Aa u;have f:=Aa aa;clear P l R U u aa;go_enter func95,ntmps95;go_wp2_with fail;generalize ((w.alloc (Zk #[Zs ca cols.length cc,Zs ga gs.length gc] 98)).alloc (Zk #[Zi c1,Zt I,Zi J,Zo L,Zi M,Zi N,Zt O] 72)).alloc (Zk #[Zi 0,Zi 0,Zi 0,Zi 0,Zt ⟨#[]⟩,Zi 0,Zi 0,Zt ⟨#[]⟩] 186)=W3 at *;refine(s.out W3 z.out).mono ?_;rintro e h⟨sv,bv,rfl,x,Y,V⟩;obtain⟨n,o,rfl,_⟩:=x.slice;obtain⟨i,j,rfl,_⟩:=Y.slice;have u:=af.out;have X:Zb h (h.alloc (Zk #[Zi g.1,Zs n g.2.1.length o,Zs i g.2.2.length j] 128)):=Zal;have d:=Ap V X;have P:=(d.block w.heap.size (by omega)).trans HA.out;have l:=(d.block (w.heap.size+1) (by omega)).trans HB.out;have ad:=Aa ((d.block (w.heap.size+2) (by omega)).trans G.out);obtain⟨f0,f1⟩:=Hg P;have x0:(h.alloc (Zk #[Zi g.1,Zs n g.2.1.length o,Zs i g.2.2.length j] 128)).cell? ⟨w.heap.size+1,0,none⟩=some (Zi c1):=A4 l rfl;have x1:(h.alloc (Zk #[Zi g.1,Zs n g.2.1.length o,Zs i g.2.2.length j] 128)).cell? ⟨w.heap.size+1,1,none⟩=some (Zt I):=A4 l rfl;have x2:(h.alloc (Zk #[Zi g.1,Zs n g.2.1.length o,Zs i g.2.2.length j] 128)).cell? ⟨w.heap.size+1,2,none⟩=some (Zi J):=A4 l rfl;have x3:(h.alloc (Zk #[Zi g.1,Zs n g.2.1.length o,Zs i g.2.2.length j] 128)).cell? ⟨w.heap.size+1,3,none⟩=some (Zo L):=A4 l rfl;have x4:(h.alloc (Zk #[Zi g.1,Zs n g.2.1.length o,Zs i g.2.2.length j] 128)).cell? ⟨w.heap.size+1,4,none⟩=some (Zi M):=A4 l rfl;have x5:(h.alloc (Zk #[Zi g.1,Zs n g.2.1.length o,Zs i g.2.2.length j] 128)).cell? ⟨w.heap.size+1,5,none⟩=some (Zi N):=A4 l rfl;have x6:(h.alloc (Zk #[Zi g.1,Zs n g.2.1.length o,Zs i g.2.2.length j] 128)).cell? ⟨w.heap.size+1,6,none⟩=some (Zt O):=A4 l rfl;have ae:=Aa (heap_alloc_new h (Zk #[Zi g.1,Zs n g.2.1.length o,Zs i g.2.2.length j] 128));have ag:=Aa (x.up d);have D:=Aa (Ap z.out d);have am:=d.size;have ak:h.heap.size<(h.alloc (Zk #[Zi g.1,Zs n g.2.1.length o,Zs i g.2.2.length j] 128)).heap.size:=by simp
 clear x Y V X d P l HA HB G;go_wp2_with fail;generalize h.alloc (Zk #[Zi g.1,Zs n g.2.1.length o,Zs i g.2.2.length j] 128)=W5 at *;refine(t.out W5 D.out).mono ?_;rintro e c⟨rfl,m⟩;have aj:=Ax f.out;obtain⟨q,r,an,es,_,_,a⟩:=(ag.out.up m).cons (by omega);injection es with ah _ ai;subst ah ai;have y0:c.cell? ⟨q,r+p*8,none⟩=some (Zi s1):=a p _ f.out 0 _ rfl;have y1:c.cell? ⟨q,r+p*8+1,none⟩=some (Zi s2):=a p _ f.out 1 _ rfl;have y2:c.cell? ⟨q,r+p*8+2,none⟩=some (Zi k1):=a p _ f.out 2 _ rfl;have y3:c.cell? ⟨q,r+p*8+3,none⟩=some (Zi n1):=a p _ f.out 3 _ rfl;have y4:c.cell? ⟨q,r+p*8+4,none⟩=some (Zt t1):=a p _ f.out 4 _ rfl;have y5:c.cell? ⟨q,r+p*8+5,none⟩=some (Zi k2):=a p _ f.out 5 _ rfl;have y6:c.cell? ⟨q,r+p*8+6,none⟩=some (Zi n2):=a p _ f.out 6 _ rfl;have y7:c.cell? ⟨q,r+p*8+7,none⟩=some (Zt t2):=a p _ f.out 7 _ rfl;have b:=(m.block (w.heap.size+2) (by omega)).trans ad.out;have T:=(m.block h.heap.size ak).trans ae.out;obtain⟨_,g1,_⟩:=J5 T;have al:(p:Int)<(g.2.1.length:Int):=by omega
 have r0:c.cell? ⟨w.heap.size+2,0,none⟩=some (Zi 0):=A4 b rfl;have r1:c.cell? ⟨w.heap.size+2,1,none⟩=some (Zi 0):=A4 b rfl;have r2:c.cell? ⟨w.heap.size+2,2,none⟩=some (Zi 0):=A4 b rfl;have r3:c.cell? ⟨w.heap.size+2,3,none⟩=some (Zi 0):=A4 b rfl;have r4:c.cell? ⟨w.heap.size+2,4,none⟩=some (Zt ⟨#[]⟩):=A4 b rfl;have r5:c.cell? ⟨w.heap.size+2,5,none⟩=some (Zi 0):=A4 b rfl;have r6:c.cell? ⟨w.heap.size+2,6,none⟩=some (Zi 0):=A4 b rfl;have r7:c.cell? ⟨w.heap.size+2,7,none⟩=some (Zt ⟨#[]⟩):=A4 b rfl;have z0:=frozen_of_row c (w.heap.size+2) 0 _ _ b;have z1:=frozen_of_row c (w.heap.size+2) 1 _ _ b;have z2:=frozen_of_row c (w.heap.size+2) 2 _ _ b;have z3:=frozen_of_row c (w.heap.size+2) 3 _ _ b;have z4:=frozen_of_row c (w.heap.size+2) 4 _ _ b;have z5:=frozen_of_row c (w.heap.size+2) 5 _ _ b;have z6:=frozen_of_row c (w.heap.size+2) 6 _ _ b;have z7:=frozen_of_row c (w.heap.size+2) 7 _ _ b;have ac:=Aa (Ap D.out m);clear a b T m x0 x1 x2 x3 x4 x5 x6 f0 f1 aj;go_wp2;refine bodyPost_ret (v:=Zg #[Zi s1,Zi s2,Zi k1,Zi n1,Zt t1,Zi k2,Zi n2,Zt t2]) (by simp[results,results95,go_sem,r0,r1,r2,r3,r4,r5,r6,r7]) rfl ⟨rfl,?_⟩;exact(((((((ac.out.setCell (p:=⟨w.heap.size+2,0,none⟩) (Y' _ _) _).setCell (p:=⟨w.heap.size+2,1,none⟩) (Y' _ _) _).setCell (p:=⟨w.heap.size+2,2,none⟩) (Y' _ _) _).setCell (p:=⟨w.heap.size+2,3,none⟩) (Y' _ _) _).setCell (p:=⟨w.heap.size+2,4,none⟩) (Y' _ _) _).setCell (p:=⟨w.heap.size+2,5,none⟩) (Y' _ _) _).setCell (p:=⟨w.heap.size+2,6,none⟩) (Y' _ _) _).setCell (p:=⟨w.heap.size+2,7,none⟩) (Y' _ _) _
end F
namespace S
variable{i j:Nat}{c k n:Int}{l r:CT}
def gU(a:Value)(gs:ByteArray->St)(w:World):Prop :=
 ∀(W:World)(s:ByteArray),Zb w W->Zc 201 #[a,.string s] W λe b=>e=.returned (.agg (E6 (gs s)))/\Zb W b
theorem gU.up{v:Tv}{gs:Tb->St}{w W:Tw}(h:gU v gs w)(c:Zb w W):gU v gs W :=
 λb s a=>h b s (Below.up c a)
def Bp(gs:ByteArray->St):Bool->CT->Bool
 | b,.nil=>!b
 | b,.node _ _ ⟨c,Bl,k,n,t⟩ l r=>if c=9 then (if b then Bp gs b l || Bp gs b r else Bp gs b l && Bp gs b r) else if c=10 then (if b then Bp gs b l && Bp gs b r else Bp gs b l || Bp gs b r) else if c=11 then Bp gs (!b) l else E0 (if b then Pw c else c) (gs Bl) (k,n,t)
theorem m9f{gs:Tb->St}{Bl:Tb}{t:Tb}(h:c=9):(Bp gs false l && Bp gs false r)=Bp gs false (.node i j ⟨c,Bl,k,n,t⟩ l r):=by rw[Bp,if_pos h];rfl
theorem m9t{gs:Tb->St}{Bl:Tb}{t:Tb}(h:c=9):(Bp gs true l || Bp gs true r)=Bp gs true (.node i j ⟨c,Bl,k,n,t⟩ l r):=by rw[Bp,if_pos h];rfl
theorem AJv{gs:Tb->St}{Bl:Tb}{t:Tb}(h:c=10):(Bp gs false l || Bp gs false r)=Bp gs false (.node i j ⟨c,Bl,k,n,t⟩ l r):=by rw[Bp,if_neg (by omega),if_pos h];rfl
theorem AJu{gs:Tb->St}{Bl:Tb}{t:Tb}(h:c=10):(Bp gs true l && Bp gs true r)=Bp gs true (.node i j ⟨c,Bl,k,n,t⟩ l r):=by rw[Bp,if_neg (by omega),if_pos h];rfl
theorem AKD{gs:Tb->St}{Bl:Tb}{t:Tb}(h:c=11):Bp gs true l=Bp gs false (.node i j ⟨c,Bl,k,n,t⟩ l r):=by rw[Bp,if_neg (by omega),if_neg (by omega),if_pos h];rfl
theorem AJz{gs:Tb->St}{Bl:Tb}{t:Tb}(h:c=11):Bp gs false l=Bp gs true (.node i j ⟨c,Bl,k,n,t⟩ l r):=by rw[Bp,if_neg (by omega),if_neg (by omega),if_pos h];rfl
theorem m0f{gs:Tb->St}{Bl:Tb}{t:Tb}(h:¬c=9/\¬c=10/\¬c=11):E0 c (gs Bl) (k,n,t)=Bp gs false (.node i j ⟨c,Bl,k,n,t⟩ l r):=by rw[Bp,if_neg h.1,if_neg h.2.1,if_neg h.2.2];rfl
theorem m0t{gs:Tb->St}{Bl:Tb}{t:Tb}(h:¬c=9/\¬c=10/\¬c=11):E0 (Pw c) (gs Bl) (k,n,t)=Bp gs true (.node i j ⟨c,Bl,k,n,t⟩ l r):=by rw[Bp,if_neg h.1,if_neg h.2.1,if_neg h.2.2];rfl
theorem AAU(s:Value)(gs:ByteArray->St)(m o:Nat)(c:Int)(Bl:ByteArray)(k n:Int)(t:ByteArray)(l r:CT)(b:Nat)(V R:Value)(w:World)(u:w.heap[b]? = some (.cells #[.int .i64 c,.string Bl,.int .i64 k,.int .i64 n,.string t,V,R] 94))(hg:gU s gs w)(ho:Lp w)(hl:∀W,Zb w W->Zc 149 #[V,s] W λe q=>e=.returned (.bool (Bp gs false l))/\Zb W q)(hr:∀W,Zb w W->Zc 149 #[R,s] W λe q=>e=.returned (.bool (Bp gs false r))/\Zb W q)(hn:∀W,Zb w W->Zc 199 #[V,s] W λe q=>e=.returned (.bool (Bp gs true l))/\Zb W q):
 Zc 149 #[.pointer (some ⟨b,0,none⟩),s] w λe q=>e=.returned (.bool (Bp gs false (.node m o ⟨c,Bl,k,n,t⟩ l r)))/\Zb w q:=by
 have c0:w.cell? ⟨b,0,none⟩=some (.int .i64 c):=cell_of_heap u 0;have c1:w.cell? ⟨b,1,none⟩=some (.string Bl):=cell_of_heap u 1;have c2:w.cell? ⟨b,2,none⟩=some (.int .i64 k):=cell_of_heap u 2;have c3:w.cell? ⟨b,3,none⟩=some (.int .i64 n):=cell_of_heap u 3;have c4:w.cell? ⟨b,4,none⟩=some (.string t):=cell_of_heap u 4;have c5:w.cell? ⟨b,5,none⟩=some V:=cell_of_heap u 5;have N:w.cell? ⟨b,6,none⟩=some R:=cell_of_heap u 6;have O:b<w.heap.size:=block_lt_of_cell c0;have z:Hid (∀W,Zb w W->Zc 201 #[s,.string Bl] W λe q=>e=.returned (.agg (E6 (gs Bl)))/\Zb W q):=λW hb=>hg W Bl hb
 have HO:=Ab ho;have y:=Ab hl;have IR:=Ab hr;have T:=Ab hn;clear u hg ho hl hr hn
 by_cases h9:c=9
 ·have j:Hid ((Bp gs false l && Bp gs false r)=Bp gs false (.node m o ⟨c,Bl,k,n,t⟩ l r)):=m9f h9
  subst h9;clear z HO T;generalize Bp gs false (.node m o ⟨9,Bl,k,n,t⟩ l r)=ee at *;generalize Bp gs false l=U at *;generalize Bp gs false r=er at *;cases hel:U
  ·subst hel
   go_enter func149,ntmps149;go_wp2_with fail;refine(y.out _ (Y9 _ _)).mono ?_;rintro e M⟨rfl,a⟩;go_wp2;go_ret;exact⟨Af j.out,a⟩
  subst hel;go_enter func149,ntmps149;go_wp2_with fail;refine(y.out _ (Y9 _ _)).mono ?_;rintro e M⟨rfl,a⟩;replace N:M.cell? ⟨b,6,none⟩=some R:=(a.cell (p:=⟨b,6,none⟩) O).trans N;go_wp2_with fail;refine(IR.out _ a).mono ?_;rintro e w2⟨rfl,v⟩;go_wp2;go_ret;exact⟨Af j.out,Below.up a v⟩
 by_cases h10:c=10
 ·have j:Hid ((Bp gs false l || Bp gs false r)=Bp gs false (.node m o ⟨c,Bl,k,n,t⟩ l r)):=AJv h10
  subst h10;clear z HO T;generalize Bp gs false (.node m o ⟨10,Bl,k,n,t⟩ l r)=ee at *;generalize Bp gs false l=U at *;generalize Bp gs false r=er at *;cases hel:U
  ·subst hel
   go_enter func149,ntmps149;go_wp2_with fail;refine(y.out _ (Y9 _ _)).mono ?_;rintro e M⟨rfl,a⟩;replace N:M.cell? ⟨b,6,none⟩=some R:=(a.cell (p:=⟨b,6,none⟩) O).trans N;go_wp2_with fail;refine(IR.out _ a).mono ?_;rintro e w2⟨rfl,v⟩;go_wp2;go_ret;exact⟨Af j.out,Below.up a v⟩
  subst hel;go_enter func149,ntmps149;go_wp2_with fail;refine(y.out _ (Y9 _ _)).mono ?_;rintro e M⟨rfl,a⟩;go_wp2;go_ret;exact⟨Af j.out,a⟩
 by_cases h11:c=11
 ·have j:Hid (Bp gs true l=Bp gs false (.node m o ⟨c,Bl,k,n,t⟩ l r)):=AKD h11
  subst h11;clear z HO y IR;generalize Bp gs false (.node m o ⟨11,Bl,k,n,t⟩ l r)=ee at *;generalize Bp gs true l=U at *;go_enter func149,ntmps149;go_wp2_with fail;refine(T.out _ (Y9 _ _)).mono ?_;rintro e M⟨rfl,a⟩;go_wp2;go_ret;exact⟨Af j.out,a⟩
 have j:Hid (E0 c (gs Bl) (k,n,t)=Bp gs false (.node m o ⟨c,Bl,k,n,t⟩ l r)):=m0f ⟨h9,h10,h11⟩;have b9:(c==9)=false:=by simpa using h9
 have ac:(c==10)=false:=by simpa using h10
 have ad:(c==11)=false:=by simpa using h11
 clear y IR T h9 h10 h11;generalize Bp gs false (.node m o ⟨c,Bl,k,n,t⟩ l r)=ee at *;generalize gs Bl=st at *;obtain⟨G,J,⟨I,L,i⟩,⟨g,h,f⟩⟩:=st;unfold E6 at z;simp only at z;have X:Hid (∀d D,Zc 201 #[s,.string Bl] (grow (redrawn w d) D) λe x=>e=.returned (.agg #[.int .i64 G,.int .i64 J,.int .i64 I,.int .i64 L,.string i,.int .i64 g,.int .i64 h,.string f])/\∃p:Regrown,x=grow (redrawn w p.d) p.os):=λd D=>Calls.regrown_of (z.out _ (below_regrown w d D))
 have Y:Hid (∀d D,Zc 200 #[.int .i64 c,.agg #[.int .i64 G,.int .i64 J,.int .i64 I,.int .i64 L,.string i,.int .i64 g,.int .i64 h,.string f],.agg #[.int .i64 k,.int .i64 n,.string t]] (grow (redrawn w d) D) λe x=>e=.returned (.bool (E0 c (G,J,(I,L,i),(g,h,f)) (k,n,t)))/\∃p:Regrown,x=grow (redrawn w p.d) p.os):=λd D=>Calls.regrown_of (Qq c G J I L i g h f k n t _)
 generalize E0 c (G,J,(I,L,i),(g,h,f)) (k,n,t)=mc at *;go_enter func149,ntmps149;go_wp2_with fail;replace c0:=cell_regrown c0;replace c1:=cell_regrown c1;replace c2:=cell_regrown c2;replace c3:=cell_regrown c3;replace c4:=cell_regrown c4;clear c5 N;refine wp_region_quiet_below (by kernel_rfl) (by kernel_rfl) ?_
 repeat (go_big_quiet_step (first
  | (go_at_call_of 201 (#[s,.string Bl]:Array Value);exact X.out _ _)
  | (go_at_call_of 200 (#[.int .i64 c,.agg #[.int .i64 G,.int .i64 J,.int .i64 I,.int .i64 L,.string i,.int .i64 g,.int .i64 h,.string f],.agg #[.int .i64 k,.int .i64 n,.string t]]:Array Value);exact Y.out _ _)))
 refine wpQuiet_nil ?_;intro _ aa;obtain⟨⟨dq,ab⟩,P⟩:=aa;subst P;go_wp2;go_ret;exact⟨Af j.out,below_regrown w dq ab⟩
theorem ADJ(b:Tv)(gs:Tb->St)(w:Tw):
 Zc 149 #[Zp none,b] w λe c=>e=Zr (Zo (Bp gs false .nil))/\Zb w c:=by
 have a:Hid (true=Bp gs false .nil):=rfl;go_enter func149,ntmps149;go_wp2;go_ret;exact⟨Af a.out,Y9 _ _⟩
theorem zJ(v:Value)(gs:ByteArray->St)(q s:Nat)(c:Int)(Bl:ByteArray)(k n:Int)(t:ByteArray)(l r:CT)(b:Nat)(X R:Value)(w:World)(x:w.heap[b]? = some (.cells #[.int .i64 c,.string Bl,.int .i64 k,.int .i64 n,.string t,X,R] 94))(hg:gU v gs w)(ho:Lp w)(hl:∀W,Zb w W->Zc 199 #[X,v] W λe u=>e=.returned (.bool (Bp gs true l))/\Zb W u)(hr:∀W,Zb w W->Zc 199 #[R,v] W λe u=>e=.returned (.bool (Bp gs true r))/\Zb W u)(hn:∀W,Zb w W->Zc 149 #[X,v] W λe u=>e=.returned (.bool (Bp gs false l))/\Zb W u):
 Zc 199 #[.pointer (some ⟨b,0,none⟩),v] w λe u=>e=.returned (.bool (Bp gs true (.node q s ⟨c,Bl,k,n,t⟩ l r)))/\Zb w u:=by
 have c0:w.cell? ⟨b,0,none⟩=some (.int .i64 c):=cell_of_heap x 0;have c1:w.cell? ⟨b,1,none⟩=some (.string Bl):=cell_of_heap x 1;have c2:w.cell? ⟨b,2,none⟩=some (.int .i64 k):=cell_of_heap x 2;have c3:w.cell? ⟨b,3,none⟩=some (.int .i64 n):=cell_of_heap x 3;have c4:w.cell? ⟨b,4,none⟩=some (.string t):=cell_of_heap x 4;have c5:w.cell? ⟨b,5,none⟩=some X:=cell_of_heap x 5;have N:w.cell? ⟨b,6,none⟩=some R:=cell_of_heap x 6;have O:b<w.heap.size:=block_lt_of_cell c0;have D:Hid (∀W,Zb w W->Zc 201 #[v,.string Bl] W λe u=>e=.returned (.agg (E6 (gs Bl)))/\Zb W u):=λW hb=>hg W Bl hb
 have T:=Ab ho;have z:=Ab hl;have IR:=Ab hr;have U:=Ab hn;clear x hg ho hl hr hn
 by_cases h9:c=9
 ·have o:Hid ((Bp gs true l || Bp gs true r)=Bp gs true (.node q s ⟨c,Bl,k,n,t⟩ l r)):=m9t h9
  subst h9;clear D T U;generalize Bp gs true (.node q s ⟨9,Bl,k,n,t⟩ l r)=ee at *;generalize Bp gs true l=V at *;generalize Bp gs true r=er at *;cases hel:V
  ·subst hel
   go_enter func199,ntmps199;go_wp2_with fail;refine(z.out _ (Y9 _ _)).mono ?_;rintro e M⟨rfl,a⟩;replace N:M.cell? ⟨b,6,none⟩=some R:=(a.cell (p:=⟨b,6,none⟩) O).trans N;go_wp2_with fail;refine(IR.out _ a).mono ?_;rintro e w2⟨rfl,y⟩;go_wp2;go_ret;exact⟨Af o.out,Below.up a y⟩
  subst hel;go_enter func199,ntmps199;go_wp2_with fail;refine(z.out _ (Y9 _ _)).mono ?_;rintro e M⟨rfl,a⟩;go_wp2;go_ret;exact⟨Af o.out,a⟩
 by_cases h10:c=10
 ·have o:Hid ((Bp gs true l && Bp gs true r)=Bp gs true (.node q s ⟨c,Bl,k,n,t⟩ l r)):=AJu h10
  subst h10;clear D T U;generalize Bp gs true (.node q s ⟨10,Bl,k,n,t⟩ l r)=ee at *;generalize Bp gs true l=V at *;generalize Bp gs true r=er at *;cases hel:V
  ·subst hel
   go_enter func199,ntmps199;go_wp2_with fail;refine(z.out _ (Y9 _ _)).mono ?_;rintro e M⟨rfl,a⟩;go_wp2;go_ret;exact⟨Af o.out,a⟩
  subst hel;go_enter func199,ntmps199;go_wp2_with fail;refine(z.out _ (Y9 _ _)).mono ?_;rintro e M⟨rfl,a⟩;replace N:M.cell? ⟨b,6,none⟩=some R:=(a.cell (p:=⟨b,6,none⟩) O).trans N;go_wp2_with fail;refine(IR.out _ a).mono ?_;rintro e w2⟨rfl,y⟩;go_wp2;go_ret;exact⟨Af o.out,Below.up a y⟩
 by_cases h11:c=11
 ·have o:Hid (Bp gs false l=Bp gs true (.node q s ⟨c,Bl,k,n,t⟩ l r)):=AJz h11
  subst h11;clear D T z IR;generalize Bp gs true (.node q s ⟨11,Bl,k,n,t⟩ l r)=ee at *;generalize Bp gs false l=V at *;go_enter func199,ntmps199;go_wp2_with fail;refine(U.out _ (Y9 _ _)).mono ?_;rintro e M⟨rfl,a⟩;go_wp2;go_ret;exact⟨Af o.out,a⟩
 have o:Hid (E0 (Pw c) (gs Bl) (k,n,t)=Bp gs true (.node q s ⟨c,Bl,k,n,t⟩ l r)):=m0t ⟨h9,h10,h11⟩;have b9:(c==9)=false:=by simpa using h9
 have ae:(c==10)=false:=by simpa using h10
 have af:(c==11)=false:=by simpa using h11
 clear z IR U h9 h10 h11;generalize Bp gs true (.node q s ⟨c,Bl,k,n,t⟩ l r)=ee at *;generalize gs Bl=st at *;obtain⟨G,J,⟨I,L,i⟩,⟨g,h,f⟩⟩:=st;unfold E6 at D;simp only at D;have Y:Hid (∀d j,Zc 238 #[.int .i64 c] (grow (redrawn w d) j) λe m=>e=.returned (.int .i64 (Pw c))/\∃p:Regrown,m=grow (redrawn w p.d) p.os):=λd j=>(o9 c _ (T.out.below (below_regrown w d j))).mono λ_ _⟨he,hw⟩=>⟨he,⟨⟨d,j⟩,hw⟩⟩
 have aa:Hid (∀d j,Zc 201 #[v,.string Bl] (grow (redrawn w d) j) λe m=>e=.returned (.agg #[.int .i64 G,.int .i64 J,.int .i64 I,.int .i64 L,.string i,.int .i64 g,.int .i64 h,.string f])/\∃p:Regrown,m=grow (redrawn w p.d) p.os):=λd j=>Calls.regrown_of (D.out _ (below_regrown w d j))
 have ab:Hid (∀d j,Zc 200 #[.int .i64 (Pw c),.agg #[.int .i64 G,.int .i64 J,.int .i64 I,.int .i64 L,.string i,.int .i64 g,.int .i64 h,.string f],.agg #[.int .i64 k,.int .i64 n,.string t]] (grow (redrawn w d) j) λe m=>e=.returned (.bool (E0 (Pw c) (G,J,(I,L,i),(g,h,f)) (k,n,t)))/\∃p:Regrown,m=grow (redrawn w p.d) p.os):=λd j=>Calls.regrown_of (Qq (Pw c) G J I L i g h f k n t _)
 generalize Pw c=oc at *;generalize E0 oc (G,J,(I,L,i),(g,h,f)) (k,n,t)=mc at *;go_enter func199,ntmps199;go_wp2_with fail;replace c0:=cell_regrown c0;replace c1:=cell_regrown c1;replace c2:=cell_regrown c2;replace c3:=cell_regrown c3;replace c4:=cell_regrown c4;clear c5 N;refine wp_region_quiet_below (by kernel_rfl) (by kernel_rfl) ?_
 repeat (go_big_quiet_step (first
  | (go_at_call_of 238 (#[.int .i64 c]:Array Value);exact Y.out _ _)
  | (go_at_call_of 201 (#[v,.string Bl]:Array Value);exact aa.out _ _)
  | (go_at_call_of 200 (#[.int .i64 oc,.agg #[.int .i64 G,.int .i64 J,.int .i64 I,.int .i64 L,.string i,.int .i64 g,.int .i64 h,.string f],.agg #[.int .i64 k,.int .i64 n,.string t]]:Array Value);exact ab.out _ _)))
 refine wpQuiet_nil ?_;intro _ ac;obtain⟨⟨dq,ad⟩,P⟩:=ac;subst P;go_wp2;go_ret;exact⟨Af o.out,below_regrown w dq ad⟩
theorem ADf(b:Tv)(gs:Tb->St)(w:Tw):
 Zc 199 #[Zp none,b] w λe c=>e=Zr (Zo (Bp gs true .nil))/\Zb w c:=by
 have a:Hid (false=Bp gs true .nil):=rfl;go_enter func199,ntmps199;go_wp2;go_ret;exact⟨Af a.out,Y9 _ _⟩
theorem gR(d:Tv)(gs:Tb->St):∀(T:CT)(v:Tv)(w:Tw),Gy w T v->gU d gs w->Lp w ->
 (Zc 149 #[v,d] w λe j=>e=Zr (Zo (Bp gs false T))/\Zb w j)/\(Zc 199 #[v,d] w λe j=>e=Zr (Zo (Bp gs true T))/\Zb w j)
 | .nil,v,w,h,_,_=>by obtain rfl:v=Zp none:=h;exact⟨ADJ d gs w,ADf d gs w⟩
 | .node a0 o0 ⟨c,Bl,k,n,t⟩ l r,v,w,h,hg,ho=>by
   obtain⟨b,g,i,rfl,m,_,o,p⟩:=h;have f:=λW a=>gR d gs l g W (o.up a) (hg.up a) (ho.below a)
   have IR:=λW a=>gR d gs r i W (p.up a) (hg.up a) (ho.below a)
   exact⟨AAU d gs a0 o0 c Bl k n t l r b g i w m hg ho (λW a=>(f W a).1) (λW a=>(IR W a).1) (λW a=>(f W a).2),
    zJ d gs a0 o0 c Bl k n t l r b g i w m hg ho (λW a=>(f W a).2) (λW a=>(IR W a).2) (λW a=>(f W a).1)⟩
theorem AG4(a:Tv)(gs:Tb->St)(T:CT)(v:Tv)(w:Tw)(h:Gy w T v)(f:gU a gs w)(g:Lp w)(d:C9 T 24=true):
 Zc 93 #[v,a] w λe c=>e=Zr (Zo (Bp gs false T))/\Zb w c:=by
 have H1:Hid (Zc 30 #[v] w λe c=>e=Zr (Zo true)/\c=w):=by have:=Uh T v w h;rw[d] at this;exact this
 have H2:=Ab (gR a gs T v w h f g).1;generalize Bp gs false T=i at *;clear h f g d;go_enter func93,ntmps93;go_wp2_with fail;refine H1.out.mono ?_;rintro e j⟨rfl,rfl⟩;go_wp2_with fail;refine H2.out.mono ?_;rintro e k⟨rfl,b⟩;go_wp2;go_ret;exact⟨rfl,b⟩
variable{c n:Int}{v x:V}
def okT:CT->Prop
 | .nil=>True
 | .node _ _ ⟨c,_,_,_,_⟩ l r=>(1<=c/\c<=11)/\okT l/\okT r
theorem Gy.ok{w:Tw}:∀{T:CT}{v:Tv},Gy w T v->okT T
 | .nil,_,_=>trivial
 | .node _ _ ⟨_,_,_,_,_⟩ _ _,_,⟨_,_,_,_,_,hcd,hl,hr⟩=>⟨hcd,Gy.ok hl,Gy.ok hr⟩
def AJG(s:St)(x:V):Prop:=∃l,Pk l s/\AIN l/\x∈l
def Kn(c:Int)(x v:V):Int:=if c=7 then gG (x.1==0) else if c=8 then gG (x.1 != 0) else Vq c x.1 x.2.1 x.2.2 v.1 v.2.1 v.2.2
theorem AHV(h:Vq c x.1 x.2.1 x.2.2 v.1 v.2.1 v.2.2=1):¬x.1=0/\x.1=v.1/\B6 c (Eu x v)=true:=by
 unfold Vq at h;split at h
 ·omega
 rename_i hk;refine⟨λe=>hk (.inl e),Classical.byContradiction λe=>hk (.inr e),?_⟩;cases hs:B6 c (Eu x v) with
 | true=>rfl
 | false=>unfold Eu at hs;rw[hs] at h;simp[gG] at h
theorem vV(h:Vq c x.1 x.2.1 x.2.2 v.1 v.2.1 v.2.2=0):¬x.1=0/\x.1=v.1/\B6 c (Eu x v)=false:=by
 unfold Vq at h;split at h
 ·omega
 rename_i hk;refine⟨λe=>hk (.inl e),Classical.byContradiction λe=>hk (.inr e),?_⟩;cases hs:B6 c (Eu x v) with
 | false=>rfl
 | true=>unfold Eu at hs;rw[hs] at h;simp[gG] at h
theorem AFD(b:¬x.1=0)(d:x.1=v.1)(a:B6 c (Eu x v)=true):Vq c x.1 x.2.1 x.2.2 v.1 v.2.1 v.2.2=1:=by unfold Vq;rw[if_neg (by rintro(e|e);exact b e;exact e d)];unfold Eu at a;rw[a];rfl
theorem O2(a:¬x.1=0)(b:x.1=v.1)(d:B6 c (Eu x v)=true):O9 c x v=true:=by unfold O9;rw[AFD a b d];rfl
theorem mN(o:Int):B6 1 o=true↔o=0:=by simp[B6]
theorem Sm(o:Int):B6 2 o=true↔¬o=0:=by simp[B6]
theorem aO(o:Int):B6 3 o=true↔o<0:=by simp[B6]
theorem Uo(o:Int):B6 4 o=true↔o<=0:=by simp[B6]
theorem aR(o:Int):B6 5 o=true↔0<o:=by simp[B6]
theorem S4(o:Int):B6 6 o=true↔0<=o:=by simp[B6]
theorem wJ{c o:Int}(b:1<=c)(a:c<=6)(h:B6 c o=false):B6 (Pw c) o=true:=by
 rcases (show c=1\/c=2\/c=3\/c=4\/c=5\/c=6 by omega) with rfl|rfl|rfl|rfl|rfl|rfl
 ·rw[show Pw 1=2 from rfl,Sm];intro e;rw[(mN o).2 e] at h;cases h
 ·rw[show Pw 2=1 from rfl,mN];exact Classical.byContradiction λe=>by rw[(Sm o).2 e] at h;cases h
 ·rw[show Pw 3=6 from rfl,S4];exact Classical.byContradiction λe=>by rw[(aO o).2 (by omega)] at h;cases h
 ·rw[show Pw 4=5 from rfl,aR];exact Classical.byContradiction λe=>by rw[(Uo o).2 (by omega)] at h;cases h
 ·rw[show Pw 5=4 from rfl,Uo];exact Classical.byContradiction λe=>by rw[(aR o).2 (by omega)] at h;cases h
 rw[show Pw 6=3 from rfl,aO];exact Classical.byContradiction λe=>by rw[(S4 o).2 (by omega)] at h;cases h
theorem AB9(b:1<=c)(a:c<=8):1<=Pw c/\Pw c<=8:=by rcases (show c=1\/c=2\/c=3\/c=4\/c=5\/c=6\/c=7\/c=8 by omega) with rfl|rfl|rfl|rfl|rfl|rfl|rfl|rfl <;> decide
theorem AHy(b:1<=c)(a:c<=6):¬Pw c=7/\¬Pw c=8:=by rcases (show c=1\/c=2\/c=3\/c=4\/c=5\/c=6 by omega) with rfl|rfl|rfl|rfl|rfl|rfl <;> decide
theorem AFf(d:1<=c)(k:c<=8)(h:Kn c x v=0):Kn (Pw c) x v=1:=by
 by_cases h7:c=7
 ·subst h7
  have a:(x.1==0)=false:=by
   cases e:(x.1==0) with
   | false=>rfl
   | true=>simp[Kn,e,gG] at h
  rw[show Pw 7=8 from rfl];have b:¬x.1=0:=by simpa using a
  simp[Kn,gG,b]
 by_cases h8:c=8
 ·subst h8
  have a:x.1=0:=Classical.byContradiction λe=>by simp[Kn,gG,e] at h
  rw[show Pw 8=7 from rfl];simp[Kn,gG,a]
 have l:Vq c x.1 x.2.1 x.2.2 v.1 v.2.1 v.2.2=0:=by simpa[Kn,h7,h8] using h
 obtain⟨g,i,j⟩:=vV l;have f:=AHy d (by omega);unfold Kn;rw[if_neg f.1,if_neg f.2];exact AFD g i (wJ d (by omega) j)
theorem rH{s:St}(T:1<=c)(I:c<=8)(J:AJG s x)(h:Kn c x v=1):E0 c s v=true:=by
 obtain⟨l,p,D,q⟩:=J
 by_cases h7:c=7
 ·subst h7
  have d:x.1=0:=Classical.byContradiction λe=>by simp[Kn,gG,e] at h
  have:=p.null q d;simp[E0,this]
 by_cases h8:c=8
 ·subst h8
  have d:¬x.1=0:=λe=>by simp[Kn,gG,e] at h
  have:=(p.some D q d).1;simp[E0,this]
 have L:Vq c x.1 x.2.1 x.2.2 v.1 v.2.1 v.2.2=1:=by simpa[Kn,h7,h8] using h
 obtain⟨o,r,b⟩:=AHV L;obtain⟨_,t,u,g,i⟩:=p.some D q o;have j:¬s.2.2.1.1=0:=by rw[t];exact o
 have k:s.2.2.1.1=v.1:=t.trans r;have m:¬s.2.2.2.1=0:=by rw[u];exact o
 have n:s.2.2.2.1=v.1:=u.trans r;have M:=He s.2.2.1 v;have N:=He s.2.2.2 v;have O:=He x v;have P:=He x s.2.2.2;have R:=He s.2.2.1 x
 rcases (show c=1\/c=2\/c=3\/c=4\/c=5\/c=6 by omega) with rfl|rfl|rfl|rfl|rfl|rfl
 ·rw[mN] at b
  have e:=Ig.1 b;subst e;have a:O9 4 s.2.2.1 x=true:=O2 j k ((Uo _).2 g);have G:O9 6 s.2.2.2 x=true:=O2 m n ((S4 _).2 (by omega));simp[E0,a,G]
 ·rw[Sm] at b
  have:¬Eu s.2.2.1 v=0\/¬Eu s.2.2.2 v=0:=Classical.byContradiction λe=>by
   have w:Eu s.2.2.1 v=0:=Classical.byContradiction λf=>e (.inl f)
   have z:Eu s.2.2.2 v=0:=Classical.byContradiction λf=>e (.inr f)
   rw[Ig] at w z;rw[w] at g;rw[z] at i;exact b (Ig.2 (ADy i g))
  rcases this with e|e
  ·have a:O9 2 s.2.2.1 v=true:=O2 j k ((Sm _).2 e)
   simp[E0,a]
  have a:O9 2 s.2.2.2 v=true:=O2 m n ((Sm _).2 e);simp[E0,a]
 ·rw[aO] at b
  have:Eu s.2.2.1 v<0:=Classical.byContradiction λe=>by have:Eu v x<=0:=Ha (y:=s.2.2.1) (by omega) g;omega
  have a:O9 3 s.2.2.1 v=true:=O2 j k ((aO _).2 this);simp[E0,a]
 ·rw[Uo] at b
  have a:O9 4 s.2.2.1 v=true:=O2 j k ((Uo _).2 (Ha g b));simp[E0,a]
 ·rw[aR] at b
  have:0<Eu s.2.2.2 v:=Classical.byContradiction λe=>by have:Eu x v<=0:=Ha i (by omega);omega
  have a:O9 5 s.2.2.2 v=true:=O2 m n ((aR _).2 this);simp[E0,a]
 rw[S4] at b;have:Eu v s.2.2.2<=0:=Ha (y:=x) (by omega) i;have a:O9 6 s.2.2.2 v=true:=O2 m n ((S4 _).2 (by omega));simp[E0,a]
theorem AFm(h:Wk n=1):n=0:=by unfold Wk at h;split at h <;> omega
theorem tP(h:Wk n=0):n=1:=by unfold Wk at h;split at h <;> omega
theorem AGM{a b:Int}(c : -1<=a/\a<=1)(d : -1<=b/\b<=1)(h:Su a b=1):a=1/\b=1:=by unfold Su at h;split at h <;> omega
theorem tL{a b:Int}(h:Su a b=0):a=0\/b=0:=by unfold Su at h;split at h <;> omega
theorem AHO{a b:Int}(c : -1<=a/\a<=1)(d : -1<=b/\b<=1)(h:orJ a b=1):a=1\/b=1:=by unfold orJ at h;split at h <;> omega
theorem AAQ{a b:Int}(c : -1<=a/\a<=1)(d : -1<=b/\b<=1)(h:orJ a b=0):a=0/\b=0:=by
 unfold orJ at h;split at h
 ·omega
 constructor <;> omega
theorem sound(P:Tb->Prop)(gs:Tb->St)(a:Tb->V)(g:∀Bl,P Bl->AJG (gs Bl) (a Bl)):∀T:CT,okT T->Kg P T ->
 (Io (λs=>(a s).1) (λs=>(a s).2.1) (λs=>(a s).2.2) T=1->Bp gs false T=true)/\(Io (λs=>(a s).1) (λs=>(a s).2.1) (λs=>(a s).2.2) T=0->Bp gs true T=true)
 | .nil,_,_=>⟨λ_=>rfl,λh=>by simp[Io] at h⟩
 | .node a0 o0 ⟨c,Bl,k,n,t⟩ l r,h,ha=>by
   obtain⟨w,u,v⟩:=h;have b:=λj=>sound P gs a g l u (ha.left j)
   have f:=λj=>sound P gs a g r v (ha.right j)
   have m:=Kw (λs=>(a s).1) (λs=>(a s).2.1) (λs=>(a s).2.2) l;have o:=Kw (λs=>(a s).1) (λs=>(a s).2.1) (λs=>(a s).2.2) r
   by_cases h9:c=9
   ·replace b:=b (by omega)
    replace f:=f (by omega);rw[<-m9f h9,<-m9t h9,<-e9 h9];constructor
    ·intro e
     obtain⟨d,i⟩:=AGM m o e;rw[b.1 d,f.1 i];rfl
    intro e
    rcases tL e with d|d
    ·rw[b.2 d];rfl
    rw[f.2 d];simp
   by_cases h10:c=10
   ·replace b:=b (by omega)
    replace f:=f (by omega);rw[<-AJv h10,<-AJu h10,<-e10 h10];constructor
    ·intro e
     rcases AHO m o e with d|d
     ·rw[b.1 d];rfl
     rw[f.1 d];simp
    intro e;obtain⟨d,i⟩:=AAQ m o e;rw[b.2 d,f.2 i];rfl
   by_cases h11:c=11
   ·replace b:=b (by omega)
    rw[<-AKD h11,<-AJz h11,<-e11 h11];exact⟨λe=>b.2 (AFm e),λe=>b.1 (tP e)⟩
   have q:Io (λs=>(a s).1) (λs=>(a s).2.1) (λs=>(a s).2.2) (.node a0 o0 ⟨c,Bl,k,n,t⟩ l r)=Kn c (a Bl) (k,n,t):=by
    by_cases h7:c=7
    ·rw[<-e7 h7];simp[Kn,h7]
    by_cases h8:c=8
    ·rw[<-e8 h8];simp[Kn,h8]
    rw[<-e0 ⟨h7,h8,h11,h9,h10⟩];simp[Kn,h7,h8]
   rw[q,<-m0f ⟨h9,h10,h11⟩,<-m0t ⟨h9,h10,h11⟩];refine⟨λe=>rH (by omega) (by omega) (g Bl (ha.Bl (by omega))) e,λe=>?_⟩;have p:=AB9 (c:=c) (by omega) (by omega);exact rH p.1 p.2 (g Bl (ha.Bl (by omega))) (AFf (by omega) (by omega) e)
end S
namespace F
theorem dF(l:List Aj)(p:List (List V))(a:1<=p.length)(b:p.length<=6):Gb l (An l p)=true:=by simp[Gb,An,a,b]
theorem ACi(l:List Aj)(p:List (List V)){j:Nat}(a:j<l.length):(An l p).2.1[j]? = some (S.Iv (D7 p j)):=by simp[An,a]
theorem Nh{c:Array Oper}{o:Oper}{a:Act}{W:Tw}{K:Act->Tw->Prop}{Q:Exit->Act->Tw->Prop}{E:Prop}(b:o.guard=none)(f:Nat)(x y z:Operand)(t s r:TypeId)(j:o.op=.call { callee:=.value (.func f),args:=#[x,y,z],argTypes:=#[t,s,r] })(u v q:Tv)(k:a.eval x=u)(l:a.eval y=v)(m:a.eval z=q)(g:∀args w,(callFunc f args).run prog w=.ok (.enter f args) w)(R:Ending->Tw->Prop)(i:Zc f #[u,v,q] W R)(h:∀e d,R e d->∃v,e=Zr v/\K (a.put o.dst v) d):
 if Region.wanted o (yielded c a.tmps)=true then Oper.wp prog o a W K Q else E :=
 Ih b f #[x,y,z] #[t,s,r] j #[u,v,q] (by simp[k,l,m]) g R i h
theorem AF1(w:Tw)(X Y Z:Obj):(((w.alloc X).alloc Y).alloc Z).heap[w.heap.size]? = some X/\(((w.alloc X).alloc Y).alloc Z).heap[w.heap.size+1]? = some Y/\(((w.alloc X).alloc Y).alloc Z).heap[w.heap.size+2]? = some Z:=by
 have b:Below (w.alloc X).heap.size (w.alloc X) (((w.alloc X).alloc Y).alloc Z):=S.Gj (w.alloc X) Y Z;have a:Below ((w.alloc X).alloc Y).heap.size ((w.alloc X).alloc Y) (((w.alloc X).alloc Y).alloc Z):=Zal;refine⟨(b.block _ (by simp)).trans (heap_alloc_new w X),?_,?_⟩
 ·have:=heap_alloc_new (w.alloc X) Y
  rw[XI] at this;exact(a.block _ (by simp)).trans this
 have:=heap_alloc_new ((w.alloc X).alloc Y) Z;rwa[XI,XI] at this
def Uk(l:List Aj)(r:List V)(s:ByteArray):V:=r[(Ce l s).toNat]?.getD zV
theorem AEu{c:Aj}{v:V}(h:Lx c v=true):v.1=0\/v.1=kd c:=by unfold Lx Cm at h;simp only[Bool.and_eq_true,Bool.or_eq_true,beq_iff_eq] at h;omega
end F
theorem AHr{w:Tw}(h:Lw w):Lw w:=h
theorem AJI{w:Tw}(h:B.Ob w):Ob w:=h
def Eh(p:ByteArray):ByteArray:=⟨#[100,97,116,97,47]⟩++p
theorem lS(p:Tb):(Eh p).size=5+p.size:=by simp[Eh,ByteArray.size_append];rfl
theorem tC(p:Tb)(w:Tw)(c:p.size<=1000):Zc 49 #[Zt p] w λe b=>e=Zr (Zt (Eh p))/\b=w:=by have a:Hid ((⟨#[100,97,116,97,47]⟩:Tb)++p=Eh p):=rfl;go_enter func49,ntmps49;go_wp2;go_ret;exact⟨by rw[a.out];rfl,rfl⟩
def iB(D:DataW Unit)(p:ByteArray)(w:World)(e:Ending)(a:World):Prop :=
 (Maps.has D (B.lit (Eh p))=false/\e=.returned (.tuple #[.agg #[.slice none 0 0,.slice none 0 0],.iface 90 (.int .i64 7)])/\Zb w a) \/
 (Maps.has D (B.lit (Eh p))=true/\∃t:ByteArray,D.atKey (B.lit (Eh p)) (B.Gw ByteArray.empty)=B.Gw t/\F.Kx (F.Kj t.data.toList) w e a)
theorem AD9(bb n:Nat)(D:Td)(mv:Tv)(p:Tb)(w:Tw)(h:Ground w bb n D mv)(O:B.Ob w)(P:p.size<=1000)(R:∀t:Tb,Maps.has D (B.lit (Eh p))=true->D.atKey (B.lit (Eh p)) (B.Gw ByteArray.empty)=B.Gw t->t.size<=1000000):
 Zc 28 #[Zp (some ⟨bb,0,none⟩),Zt p] w (iB D p w):=by
 have W:=Aa (λV=>tC p V P);have M:=Aa (λV(r:Zb w V)=>B.aP bb n D mv (Eh p) V (h.up r).c0 (h.up r).th (by rw[lS];unfold maxLen;omega));have q:Hid (Zb w (w.alloc (Zk #[Zs none 0 0,Zs none 0 0] 98))):=Aa (Zal);have J:=Aa (heap_alloc_new w (Zk #[Zs none 0 0,Zs none 0 0] 98))
 have X:Hid (∀(t:Tb)V,Zb w V->t.size<=1000000->Zc 50 #[Zt t] V (F.Kx (F.Kj t.data.toList) V)):=Aa λt V r ht=>by
  have:=F.Vf t.data.toList V (by rw[<-Lib.size_eq];exact ht) (AHr (h.nc.below r)) (AJI (O.below r));have e:E.str t.data.toList=t:=by simp[E.str]
  rw[e] at this;exact this
 have Y:=Aa R;clear h O P R;unfold iB;unfold B.Um at M;go_enter func28,ntmps28;go_wp2_with fail;refine(W.out _).mono ?_;rintro e w1⟨rfl,rfl⟩;go_wp2_with fail;refine(M.out _ q.out).mono ?_;rintro e T⟨t,rfl,o,u,g⟩;have j:=Below.Ap q.out g;have c:=Aa ((g.block w.heap.size (by simp)).trans J.out);have z:=cell_of_heap c.out 0;have n1:=cell_of_heap c.out 1;simp at z n1;have N:∀i,T.frozen? ⟨w.heap.size,i,none⟩=false:=λi=>by simp[World.frozen?,c.out]
 clear g;cases hh:Maps.has D (B.lit (Eh p)) with
 | false=>rw[if_neg (by simp)];have e7:B.L8 7=Zf 90 (Zi 7):=rfl;rw[e7];have d:=Aa j;clear j o u;go_wp2;exact bodyPost_ret (v:=Zu #[Zg #[Zs none 0 0,Zs none 0 0],Zf 90 (Zi 7)]) (by simp[results,results28,go_sem,z,n1]) rfl (.inl ⟨hh,rfl,(d.out.setCell (XA _) _).setCell (XA _) _⟩)
 | true=>
   rw[if_pos rfl];have e0:B.L8 0=Zn:=rfl;rw[e0];have G:=Aa (o hh);have HZ:=Aa (Y.out t hh G.out);have d:=Aa j;clear j o u;go_wp2_with fail;refine(X.out t T d.out HZ.out).mono ?_;intro e U l;have s:=Ac c.out;cases hr:F.Kj t.data.toList with
   | none=>
     rw[hr] at l;obtain⟨rfl,b⟩:=l;have a:=(b.block w.heap.size s).trans c.out;have x:=cell_of_heap a 0;have y:=cell_of_heap a 1;simp at x y;have g0:∀i,U.frozen? ⟨w.heap.size,i,none⟩=false:=λi=>by simp[World.frozen?,a]
     have m:=Aa (Below.Ap d.out b);clear b a z n1 N;go_wp2;refine bodyPost_ret (v:=Zu #[Zg #[Zs none 0 0,Zs none 0 0],Zf 90 (Zi 3)]) (by simp[results,results28,go_sem,x,y]) rfl (.inr ⟨hh,t,G.out,?_⟩);rw[hr];exact⟨rfl,(m.out.setCell (XA _) _).setCell (XA _) _⟩
   | some f=>
     rw[hr] at l;obtain⟨cv,gv,rfl,k,b⟩:=l;obtain⟨ca,cc,ec,_⟩:=k.1.slice;obtain⟨ga,gc,eg,_⟩:=k.2.slice;subst ec eg;have a:=(b.block w.heap.size s).trans c.out;have x:=cell_of_heap a 0;have y:=cell_of_heap a 1;simp at x y;have g0:∀i,U.frozen? ⟨w.heap.size,i,none⟩=false:=λi=>by simp[World.frozen?,a]
     have m:=Aa (Below.Ap d.out b);have I:=Aa k;have L:=Aa a;clear b a z n1 N k;go_wp2;refine bodyPost_ret (v:=Zu #[Zg #[Zs ca f.1.length cc,Zs ga f.2.length gc],Zn]) (by simp[results,results28,go_sem,x,y]) rfl (.inr ⟨hh,t,G.out,?_⟩);rw[hr];exact⟨_,_,rfl,I.out.far L.out ((Aq _ _ 0 _).trans (Aq _ _ 1 _)),(m.out.setCell (XA _) _).setCell (XA _) _⟩
namespace F
variable{u v:Tv}{W w:Tw}{c k n:Int}{X:List Tv}{p:List (List V)}{i j:Nat}{T x y:S.CT}{r:List V}{L l:List Aj}{D:Td}{s:Ah}{m:List Int}{H:List (Dn×Ah)}{U:List Tb}
theorem AFz(k:Nat)(cv gv:Tv)(cols:List Aj)(gs:List Fk)(g:Fk)(c1:Int)(y:Tb)(z:Int)(D:Bool)(m n:Int)(o:Tb)(w:Tw)(O:Hm w cv gv (cols,gs))(hk:gs[k]? = some g)(h1:1<=cols.length)(h8:cols.length<=8)(t:Gb cols g=true)(hp:cM cols c1 = -1):
 Zc 95 #[Zg #[cv,gv],Zi k,Zg #[Zi c1,Zt y,Zi z,Zo D,Zi m,Zi n,Zt o]] w λe P=>e=Zr (Zg (S.E6 (S.Iv (List.replicate g.1 (m,n,o)))))/\Zb w P:=by
 have I:=Aa (λW(hW:Zb w W)=>nL k cv gv cols gs g W (O.up hW).1 (O.up hW).2 hk);have J:=Aa (λW(hW:Zb w W)=>U9 cv gv cols c1 y z D m n o W (O.up hW).1 h1 h8);have s:1<=g.1/\g.1<=6:=by simp only[Gb,decide_eq_true_eq] at t;exact⟨t.2.2.1,t.2.2.2⟩
 have am:Hid (∀W(i f:To)(sn j bn h:Nat),Zc 152 #[Zg #[Zi g.1,Zs i sn j,Zs f bn h],Zg #[Zi c1,Zt y,Zi z,Zo D,Zi m,Zi n,Zt o]] W λe P=>∃v',e=Zr v'/\P.ownsRow W.heap.size 56 3 v' g.1 (rep (m,n,o) g.1)/\Zb W P):=Aa λW i f sn j bn h=>Sf g.1 _ _ i f sn j bn h c1 y z D m n o W s.1 s.2 rfl rfl
 have u:Hid (∀v W B,W.ownsRow B 56 3 v g.1 (rep (m,n,o) g.1)->Zc 151 #[v] W λe P=>e=Zr (Zg (S.E6 (S.Iv (List.replicate g.1 (m,n,o)))))/\Zb W P):=Aa λv W B ho=>S.yU v _ W (E.Cy (by rw[List.length_replicate];exact ho)) (by simp;omega)
 obtain⟨ga,gc,rfl,_⟩:=O.2.slice;obtain⟨ca,cc,rfl,_⟩:=O.1.slice;dsimp only at I J ⊢;rw[t] at I;rw[hp] at J;clear O t s;obtain⟨⟨s1,s2,⟨k1,n1,t1⟩,⟨k2,n2,t2⟩⟩,af⟩:∃st,S.Iv (List.replicate g.1 (m,n,o))=st:=⟨_,rfl⟩;rw[af] at u ⊢;unfold S.E6 at u ⊢;simp only at u ⊢;clear af;obtain⟨N,V,q,X,aa⟩:=Jl w (Zk #[Zs ca cols.length cc,Zs ga gs.length gc] 98) (Zk #[Zi c1,Zt y,Zi z,Zo D,Zi m,Zi n,Zt o] 72) (Zk #[Zi 0,Zi 0,Zi 0,Zi 0,Zt ⟨#[]⟩,Zi 0,Zi 0,Zt ⟨#[]⟩] 186);have HA:=Aa V;have HB:=Aa q;have U:=Aa X;have R:=Aa aa;have ao:=Aa N;clear V q X aa N;go_enter func95,ntmps95;go_wp2_with fail;generalize ((w.alloc (Zk #[Zs ca cols.length cc,Zs ga gs.length gc] 98)).alloc (Zk #[Zi c1,Zt y,Zi z,Zo D,Zi m,Zi n,Zt o] 72)).alloc (Zk #[Zi 0,Zi 0,Zi 0,Zi 0,Zt ⟨#[]⟩,Zi 0,Zi 0,Zt ⟨#[]⟩] 186)=W3 at *;refine(I.out W3 R.out).mono ?_;rintro e l⟨sv,bv,rfl,ag,ad,ab⟩;obtain⟨i,j,rfl,_⟩:=ag.slice;obtain⟨f,h,rfl,_⟩:=ad.slice;have N:=ao.out;have ac:Zb l (l.alloc (Zk #[Zi g.1,Zs i g.2.1.length j,Zs f g.2.2.length h] 128)):=Zal;have b:=Ap ab ac;have V:=(b.block w.heap.size (by omega)).trans HA.out;have q:=(b.block (w.heap.size+1) (by omega)).trans HB.out;have aj:=Aa q;have ak:=Aa ((b.block (w.heap.size+2) (by omega)).trans U.out);obtain⟨f0,f1⟩:=Hg V;have x0:(l.alloc (Zk #[Zi g.1,Zs i g.2.1.length j,Zs f g.2.2.length h] 128)).cell? ⟨w.heap.size+1,0,none⟩=some (Zi c1):=A4 q rfl;have x1:(l.alloc (Zk #[Zi g.1,Zs i g.2.1.length j,Zs f g.2.2.length h] 128)).cell? ⟨w.heap.size+1,1,none⟩=some (Zt y):=A4 q rfl;have x2:(l.alloc (Zk #[Zi g.1,Zs i g.2.1.length j,Zs f g.2.2.length h] 128)).cell? ⟨w.heap.size+1,2,none⟩=some (Zi z):=A4 q rfl;have x3:(l.alloc (Zk #[Zi g.1,Zs i g.2.1.length j,Zs f g.2.2.length h] 128)).cell? ⟨w.heap.size+1,3,none⟩=some (Zo D):=A4 q rfl;have x4:(l.alloc (Zk #[Zi g.1,Zs i g.2.1.length j,Zs f g.2.2.length h] 128)).cell? ⟨w.heap.size+1,4,none⟩=some (Zi m):=A4 q rfl;have x5:(l.alloc (Zk #[Zi g.1,Zs i g.2.1.length j,Zs f g.2.2.length h] 128)).cell? ⟨w.heap.size+1,5,none⟩=some (Zi n):=A4 q rfl;have x6:(l.alloc (Zk #[Zi g.1,Zs i g.2.1.length j,Zs f g.2.2.length h] 128)).cell? ⟨w.heap.size+1,6,none⟩=some (Zt o):=A4 q rfl;have an:=Aa (heap_alloc_new l (Zk #[Zi g.1,Zs i g.2.1.length j,Zs f g.2.2.length h] 128));have T:=Aa (Ap R.out b);have ar:=b.size;have ap:l.heap.size<(l.alloc (Zk #[Zi g.1,Zs i g.2.1.length j,Zs f g.2.2.length h] 128)).heap.size:=by simp
 clear ag ad ab ac b V q HA HB U;go_wp2_with fail;generalize l.alloc (Zk #[Zi g.1,Zs i g.2.1.length j,Zs f g.2.2.length h] 128)=W5 at *;refine(J.out W5 T.out).mono ?_;rintro e G⟨rfl,r⟩;have L:=(r.block (w.heap.size+2) (by omega)).trans ak.out;have Y:=(r.block l.heap.size ap).trans an.out;have c:=(r.block (w.heap.size+1) (by omega)).trans aj.out;have al:=Aa L;have aq:w.heap.size+2<G.heap.size:=E.Ac L;obtain⟨g0,g1,g2,_⟩:=J5 Y;have y0:G.cell? ⟨w.heap.size+1,0,none⟩=some (Zi c1):=A4 c rfl;have y1:G.cell? ⟨w.heap.size+1,1,none⟩=some (Zt y):=A4 c rfl;have y2:G.cell? ⟨w.heap.size+1,2,none⟩=some (Zi z):=A4 c rfl;have y3:G.cell? ⟨w.heap.size+1,3,none⟩=some (Zo D):=A4 c rfl;have y4:G.cell? ⟨w.heap.size+1,4,none⟩=some (Zi m):=A4 c rfl;have y5:G.cell? ⟨w.heap.size+1,5,none⟩=some (Zi n):=A4 c rfl;have y6:G.cell? ⟨w.heap.size+1,6,none⟩=some (Zt o):=A4 c rfl;have ah:=Aa (Ap T.out r);clear r x0 x1 x2 x3 x4 x5 x6 f0 f1 L Y c;go_wp2_with fail;refine(am.out _ _ _ _ _ _ _).mono ?_;rintro e w7⟨v7,rfl,ae,x⟩;go_wp2_with fail;refine(u.out v7 w7 _ ae).mono ?_;rintro e d⟨rfl,M⟩;have a:=(M.block (w.heap.size+2) (by have:=x.size;omega)).trans ((x.block (w.heap.size+2) aq).trans al.out);have r0:d.cell? ⟨w.heap.size+2,0,none⟩=some (Zi 0):=A4 a rfl;have r1:d.cell? ⟨w.heap.size+2,1,none⟩=some (Zi 0):=A4 a rfl;have r2:d.cell? ⟨w.heap.size+2,2,none⟩=some (Zi 0):=A4 a rfl;have r3:d.cell? ⟨w.heap.size+2,3,none⟩=some (Zi 0):=A4 a rfl;have r4:d.cell? ⟨w.heap.size+2,4,none⟩=some (Zt ⟨#[]⟩):=A4 a rfl;have r5:d.cell? ⟨w.heap.size+2,5,none⟩=some (Zi 0):=A4 a rfl;have r6:d.cell? ⟨w.heap.size+2,6,none⟩=some (Zi 0):=A4 a rfl;have r7:d.cell? ⟨w.heap.size+2,7,none⟩=some (Zt ⟨#[]⟩):=A4 a rfl;have z0:=frozen_of_row d (w.heap.size+2) 0 _ _ a;have z1:=frozen_of_row d (w.heap.size+2) 1 _ _ a;have z2:=frozen_of_row d (w.heap.size+2) 2 _ _ a;have z3:=frozen_of_row d (w.heap.size+2) 3 _ _ a;have z4:=frozen_of_row d (w.heap.size+2) 4 _ _ a;have z5:=frozen_of_row d (w.heap.size+2) 5 _ _ a;have z6:=frozen_of_row d (w.heap.size+2) 6 _ _ a;have z7:=frozen_of_row d (w.heap.size+2) 7 _ _ a;have ai:=Aa (Ap (Ap ah.out x) M);clear x M a ae y0 y1 y2 y3 y4 y5 y6 g0 g1 g2;go_wp2;refine bodyPost_ret (v:=Zg #[Zi s1,Zi s2,Zi k1,Zi n1,Zt t1,Zi k2,Zi n2,Zt t2]) (by simp[results,results95,go_sem,r0,r1,r2,r3,r4,r5,r6,r7]) rfl ⟨rfl,?_⟩;exact(((((((ai.out.setCell (p:=⟨w.heap.size+2,0,none⟩) (Y' _ _) _).setCell (p:=⟨w.heap.size+2,1,none⟩) (Y' _ _) _).setCell (p:=⟨w.heap.size+2,2,none⟩) (Y' _ _) _).setCell (p:=⟨w.heap.size+2,3,none⟩) (Y' _ _) _).setCell (p:=⟨w.heap.size+2,4,none⟩) (Y' _ _) _).setCell (p:=⟨w.heap.size+2,5,none⟩) (Y' _ _) _).setCell (p:=⟨w.heap.size+2,6,none⟩) (Y' _ _) _).setCell (p:=⟨w.heap.size+2,7,none⟩) (Y' _ _) _
def I5(b:List Aj)(p:List (List V))(a:List Aj)(s:ByteArray):S.St:=if Ce a s<0 then S.F6 else S.Iv (p.map λr=>pick b r (a[(Ce a s).toNat]?.getD zC))
theorem AB3(k:Nat)(l m:Tv)(a:List Aj)(gs:List Fk)(p:List (List V))(c1:Int)(f:Tb)(g:Int)(h:Bool)(b c:Int)(d:Tb)(w:Tw)(q:Hm w l m (a,gs))(s:gs[k]? = some (An a p))(n:1<=a.length)(o:a.length<=8)(i:1<=p.length)(j:p.length<=6):
 Zc 95 #[Zg #[l,m],Zi k,Zg #[Zi c1,Zt f,Zi g,Zo h,Zi b,Zi c,Zt d]] w λe t=>e=Zr (Zg (S.E6 (S.Iv (p.map λr=>pick a r (c1,f,g,h,b,c,d)))))/\Zb w t:=by
 by_cases hp:pos a c1<a.length
 ·have e:(p.map λr=>pick a r (c1,f,g,h,b,c,d))=D7 p (pos a c1):=by
   unfold D7 pick;simp only[if_pos hp]
  rw[e];exact V5 k (pos a c1) l m a gs (An a p) _ c1 f g h b c d w q s n o (dF a p i j) (by unfold cM;rw[if_pos hp]) (ACi a p hp)
 have e:(p.map λr=>pick a r (c1,f,g,h,b,c,d))=List.replicate (An a p).1 (b,c,d):=by unfold pick;simp only[if_neg hp];rw[List.map_const'];rfl
 rw[e];exact AFz k l m a gs (An a p) c1 f g h b c d w q s n o (dF a p i j) (ABF hp)
theorem AFd(f l:List Aj)(gs:List Fk)(p:List (List V))(k:Nat)(cv gv:Tv)(g o cp L y M:Nat)(s:Tb)(w:Tw)(T:Hm w cv gv (f,gs))(hk:gs[k]? = some (An f p))(aj:1<=f.length)(ak:f.length<=8)(h8:l.length<=8)(al:1<=p.length)(am:p.length<=6)(hs:I1 w g o l)(Y:w.cell? ⟨L,0,none⟩=some (Zs (some ⟨g,o,none⟩) l.length cp))(U:w.cell? ⟨y,0,none⟩=some cv)(X:w.cell? ⟨y,1,none⟩=some gv)(aa:w.cell? ⟨M,0,none⟩=some (Zi k))(ab:L<w.heap.size)(J:y<w.heap.size)(ad:M<w.heap.size):
 Zc 94 #[Zt s,Zp (some ⟨L,0,none⟩),Zp (some ⟨y,0,none⟩),Zp (some ⟨M,0,none⟩)] w λe w'=>e=Zr (Zg (S.E6 (I5 f p l s)))/\Zb w w':=by
 have P:=Aa (λW(b:Zb w W)=>E8 g o cp l s W (hs.below b) h8);have h:Zb w (w.alloc (Zk (S.E6 S.F6) 186)):=Zal;obtain⟨ca,cc,ec,_⟩:=T.1.slice;obtain⟨ga,gc,eg,_⟩:=T.2.slice;dsimp only at ec eg;subst ec eg
 rcases Gz l s with⟨N,_⟩|⟨j,hj,N,_⟩
 ·have R:Hid (I5 f p l s=S.F6):=Aa (by unfold I5;rw[if_pos (by omega)])
  rw[R.out];simp only[N] at P;clear R N T hk hs;go_enter func94,ntmps94;go_wp2_with fail;refine(P.out _ h).mono ?_;rintro e i⟨rfl,a⟩;have G:S.Nq i w.heap.size S.F6:=S.Nq.up (heap_alloc_new _ _) a;obtain⟨c0,c1,c2,c3,c4,c5,c6,c7⟩:=S.Nq.cells (c:=0) (m:=0) (k:=0) (n:=0) (t:=⟨#[]⟩) (k':=0) (n':=0) (t':=⟨#[]⟩) G;obtain⟨f0,f1,f2,f3,f4,f5,f6,f7⟩:=G.free;have B1:Hid (Zb w i):=Aa (Ap h a);clear a G h;go_wp2;exact bodyPost_ret (v:=Zg #[Zi 0,Zi 0,Zi 0,Zi 0,Zt ⟨#[]⟩,Zi 0,Zi 0,Zt ⟨#[]⟩]) (by simp[results,results94,go_sem,c0,c1,c2,c3,c4,c5,c6,c7]) rfl ⟨rfl,S.b8c B1.out (XA _) _ _ _ _ _ _ _ _⟩
 have R:Hid (I5 f p l s=S.Iv (p.map λr=>pick f r (l[j]?.getD zC))):=Aa (by unfold I5;rw[if_neg (by omega),N];rfl);rw[R.out];simp only[N] at P;have ex:∃x,l[j]! = x:=⟨_,rfl⟩;obtain⟨⟨y1,y2,y3,y4,y5,y6,y7⟩,hx⟩:=ex
 have hx? : (l[j]?.getD zC)=(y1,y2,y3,y4,y5,y6,y7):=by rw[Y8 hj,X4,<-hx,getElem!_pos l j hj]
 have q:=Aa (λW(b:Zb w W)=>AB3 k (Zs ca f.length cc) (Zs ga gs.length gc) f gs p y1 y2 y3 y4 y5 y6 y7 W (T.up b) hk aj ak al am);rw[<-hx?] at q;have HS:=Aa hs;have aq:(j:Int)<(l.length:Int):=by omega
 have ao:¬(j:Int)<0:=by omega
 have ap:(0:Int)<=(j:Int):=by omega
 obtain⟨⟨s1,s2,⟨k1,n1,t1⟩,⟨k2,n2,t2⟩⟩,af⟩:∃st,S.Iv (p.map λr=>pick f r (l[j]?.getD zC))=st:=⟨_,rfl⟩;rw[af] at q ⊢;unfold S.E6 at q ⊢;simp only at q ⊢;clear af;clear R N T hk hs hx?;go_enter func94,ntmps94;go_wp2_with fail;refine(P.out _ h).mono ?_;rintro e i⟨rfl,u⟩;have G:S.Nq i w.heap.size S.F6:=S.Nq.up (heap_alloc_new _ _) u;have a:=Ap h u;have an:w.heap.size<i.heap.size:=E.Ac G;clear u h;obtain⟨e0,e1,e2,e3,e4,e5,e6⟩:=(HS.out.below a).cells hj hx;have d0:=(a.cell (p:=⟨L,0,none⟩) ab).trans Y;have d1:=(a.cell (p:=⟨y,0,none⟩) J).trans U;have d2:=(a.cell (p:=⟨y,1,none⟩) J).trans X;have d3:=(a.cell (p:=⟨M,0,none⟩) ad).trans aa;clear Y U X aa hx P;have d:g<i.heap.size:=(HS.out.below a).1;have ac:L<i.heap.size:=Ya ab a.size;have D:y<i.heap.size:=Ya J a.size;have ae:M<i.heap.size:=Ya ad a.size
 have HK:Hid (∀W,Zb i W->W.cell? ⟨L,0,none⟩=some (Zs (some ⟨g,o,none⟩) l.length cp)/\W.cell? ⟨y,0,none⟩=some (Zs ca f.length cc)/\W.cell? ⟨y,1,none⟩=some (Zs ga gs.length gc)/\W.cell? ⟨M,0,none⟩=some (Zi k)/\W.cell? ⟨g,o+j*7,none⟩=some (Zi y1)/\W.cell? ⟨g,o+j*7+1,none⟩=some (Zt y2)/\W.cell? ⟨g,o+j*7+2,none⟩=some (Zi y3)/\W.cell? ⟨g,o+j*7+3,none⟩=some (Zo y4)/\W.cell? ⟨g,o+j*7+4,none⟩=some (Zi y5)/\W.cell? ⟨g,o+j*7+5,none⟩=some (Zi y6)/\W.cell? ⟨g,o+j*7+6,none⟩=some (Zt y7)):=Aa (λW b=>⟨(b.cell (p:=⟨L,0,none⟩) ac).trans d0,(b.cell (p:=⟨y,0,none⟩) D).trans d1,(b.cell (p:=⟨y,1,none⟩) D).trans d2,(b.cell (p:=⟨M,0,none⟩) ae).trans d3,(b.cell (p:=⟨g,o+j*7,none⟩) d).trans e0,(b.cell (p:=⟨g,o+j*7+1,none⟩) d).trans e1,(b.cell (p:=⟨g,o+j*7+2,none⟩) d).trans e2,(b.cell (p:=⟨g,o+j*7+3,none⟩) d).trans e3,(b.cell (p:=⟨g,o+j*7+4,none⟩) d).trans e4,(b.cell (p:=⟨g,o+j*7+5,none⟩) d).trans e5,(b.cell (p:=⟨g,o+j*7+6,none⟩) d).trans e6⟩)
 have ai:Hid (∀W,Zb i W->S.Nq W w.heap.size S.F6):=Aa (λW b=>S.Nq.up G b);have O:=Aa a;have ah:Hid (∀args w,(callFunc 95 args).run prog w=.ok (.enter 95 args) w):=Aa (enters_of func95 (by kernel_rfl) rfl);clear G a;go_wp2_with fail;clear HK
 go_region_law
  (first
    | (refine Nh (by rfl) 95 (.tmp 13) (.tmp 14) (.tmp 18) 98 3 72 (by rfl) (Zg #[Zs ca f.length cc,Zs ga gs.length gc]) (Zi k) (Zg #[Zi y1,Zt y2,Zi y3,Zo y4,Zi y5,Zi y6,Zt y7]) (by rfl) (by rfl) (by rfl) ah.out _ (q.out i.drew O.out.drew) ?_
       rintro e w2⟨rfl,z⟩;have I:Zb i w2:=Ap (Y9 _ _).drew z;have K2:=ai.out w2 I;obtain⟨c0,c1,c2,c3,c4,c5,c6,c7⟩:=S.Nq.cells (c:=0) (m:=0) (k:=0) (n:=0) (t:=⟨#[]⟩) (k':=0) (n':=0) (t':=⟨#[]⟩) K2;obtain⟨f0,f1,f2,f3,f4,f5,f6,f7⟩:=K2.free;clear K2;refine⟨_,rfl,?_⟩)
    | fail)
 all_goals
  have ag:=Aa (Ap O.out I);clear I z;go_wp2;exact bodyPost_ret (v:=Zg #[Zi s1,Zi s2,Zi k1,Zi n1,Zt t1,Zi k2,Zi n2,Zt t2]) (by simp[results,results94,go_sem,c0,c1,c2,c3,c4,c5,c6,c7]) rfl ⟨rfl,S.b8c ag.out (XA _) _ _ _ _ _ _ _ _⟩
theorem pE(a l:List Aj)(gs:List Fk)(p:List (List V))(k:Nat)(d f:Tv)(g o j:Nat)(T:S.CT)(v:Tv)(w:Tw)(m:Hm w d f (a,gs))(L:gs[k]? = some (An a p))(q:1<=a.length)(r:a.length<=8)(h8:l.length<=8)(t:1<=p.length)(u:p.length<=6)(N:I1 w g o l)(O:S.Gy w T v)(M:S.Lp w)(J:S.C9 T 24=true):
 Zc 51 #[Zg #[d,f],Zi k,Zs (some ⟨g,o,none⟩) l.length j,v] w λe y=>e=Zr (Zo (S.Bp (I5 a p l) false T))/\Zb w y:=by
 have i:Zb w (((w.alloc (Zk #[d,f] 98)).alloc (Zk #[Zi k] 3)).alloc (Zk #[Zs (some ⟨g,o,none⟩) l.length j] 34)):=b3 w _ _ _
 have X:Hid (∀W,Zb w W->W.heap[w.heap.size]? = some (Zk #[d,f] 98)->W.heap[w.heap.size+1]? = some (Zk #[Zi k] 3)->W.heap[w.heap.size+2]? = some (Zk #[Zs (some ⟨g,o,none⟩) l.length j] 34) ->
  Zc 93 #[v,.func (.func 94) #[] #[Zp (some ⟨w.heap.size+2,0,none⟩),Zp (some ⟨w.heap.size,0,none⟩),Zp (some ⟨w.heap.size+1,0,none⟩)]] W λe y=>e=Zr (Zo (S.Bp (I5 a p l) false T))/\Zb W y):=Aa (λW hW q0 q1 q2=>
  S.AG4 _ (I5 a p l) T v W (O.up hW) (λY s h=>S.r8 _ _ _ (I5 a p l) s Y (λW2 s2 hW2=>by have I:=Ap (Ap hW h) hW2;have b:=Ap h hW2;have x:=(b.block _ (E.Ac q0)).trans q0;have P:=(b.block _ (E.Ac q1)).trans q1;have U:=(b.block _ (E.Ac q2)).trans q2;exact AFd a l gs p k d f g o j _ _ _ s2 W2 (m.up I) L q r h8 t u (N.below I) (S.cell_of_heap U 0) (S.cell_of_heap x 0) (S.cell_of_heap x 1) (S.cell_of_heap P 0) (E.Ac U) (E.Ac x) (E.Ac P))) (M.below hW) J)
 have aa:∀(G:Fn)(first c:Array Tv)(w:Tw),(Instr.makeFunc G first c).run prog w=.ok (.func G first c) w:=λ_ _ _ _=>rfl
 obtain⟨ca,cc,z,_⟩:=m.1.slice;obtain⟨ga,gc,D,_⟩:=m.2.slice;dsimp only at z D;subst z D;generalize S.Bp (I5 a p l) false T=R at *;clear m L N O M J;go_enter func51,ntmps51;go_wp2_with fail;refine(X.out _ i (AF1 w _ _ _).1 (AF1 w _ _ _).2.1 (AF1 w _ _ _).2.2).mono ?_;rintro e w1⟨rfl,n⟩;go_wp2;go_ret;exact⟨rfl,Ap i n⟩
theorem ADM(l:List Aj)(r:List V)(g o G D z a b q:Nat)(s:Tb)(w:Tw)(h8:l.length<=8)(hs:I1 w g o l)(N:r.length=l.length)(h:Rf l s)(t:w.cell? ⟨z,0,none⟩=some (Zs (some ⟨g,o,none⟩) l.length G))(i:w.cell? ⟨D,0,none⟩=some (Zs (some ⟨a,b,none⟩) l.length q))(hc:∀j x,r[j]? = some x->w.cell? ⟨a,b+j*3,none⟩=some (Zi x.1)/\w.cell? ⟨a,b+j*3+1,none⟩=some (Zi x.2.1)/\w.cell? ⟨a,b+j*3+2,none⟩=some (Zt x.2.2))(q1:z<w.heap.size)(q4:D<w.heap.size)(O:a<w.heap.size):
 Zc 155 #[Zt s,Zp (some ⟨D,0,none⟩),Zp (some ⟨z,0,none⟩)] w λe w'=>e=Zr (Zg #[Zi (Uk l r s).1,Zi (Uk l r s).2.1,Zt (Uk l r s).2.2])/\Zb w w':=by
 obtain⟨j,hj,n⟩:∃j:Nat,j<l.length/\Ce l s=j:=by
  rcases Gz l s with⟨n,_⟩|⟨j,hj,n,_⟩
  ·unfold Rf at h;omega
  exact⟨j,hj,n⟩
 have X:=Aa (λW(c:Zb w W)=>E8 g o G l s W (hs.below c) h8);simp only[n] at X;obtain⟨⟨P,R,T⟩,y⟩:∃v,Uk l r s=v:=⟨_,rfl⟩
 have u:r[j]? = some (P,R,T):=by unfold Uk at y;rw[n,XF,Y8 (by omega)] at y;rw[Y8 (by omega)];simpa using y
 rw[y];obtain⟨x0,x1,x2⟩:=hc j _ u;have ab:(j:Int)<(l.length:Int):=by omega
 have aa:(0:Int)<=(j:Int):=by omega
 have L:Hid (∀args w,(callFunc 15 args).run prog w=.ok (.enter 15 args) w):=Aa (enters_of func15 (by kernel_rfl) rfl);clear y u hc hs h n N;go_enter func155,ntmps155;go_wp2_with fail;have m:Zb w (w.alloc (Zk #[Zi 0,Zi 0,Zt ⟨#[]⟩] 56)):=Zal;have M:=heap_alloc_new w (Zk #[Zi 0,Zi 0,Zt ⟨#[]⟩] 56)
 have Y:Hid (∀W,Zb w W->W.cell? ⟨z,0,none⟩=some (Zs (some ⟨g,o,none⟩) l.length G)/\W.cell? ⟨D,0,none⟩=some (Zs (some ⟨a,b,none⟩) l.length q)/\W.cell? ⟨a,b+j*3,none⟩=some (Zi P)/\W.cell? ⟨a,b+j*3+1,none⟩=some (Zi R)/\W.cell? ⟨a,b+j*3+2,none⟩=some (Zt T)):=Aa (λW c=>⟨(c.cell (p:=⟨z,0,none⟩) q1).trans t,(c.cell (p:=⟨D,0,none⟩) q4).trans i,(c.cell (p:=⟨a,b+j*3,none⟩) O).trans x0,(c.cell (p:=⟨a,b+j*3+1,none⟩) O).trans x1,(c.cell (p:=⟨a,b+j*3+2,none⟩) O).trans x2⟩)
 generalize w.alloc (Zk #[Zi 0,Zi 0,Zt ⟨#[]⟩] 56)=I at *;obtain⟨p0,p3,p4,p5,p6⟩:=Y.out I m;have HZ:Hid (∀W,Zb I W->W.heap[w.heap.size]? = some (Zk #[Zi 0,Zi 0,Zt ⟨#[]⟩] 56)):=Aa (λW c=>(c.block _ (E.Ac M)).trans M);have k:=Aa m;clear t i x0 x1 x2 m M
 go_region_law
  (first
    | (refine Gc (by rfl) 15 (.tmp 6) (.tmp 7) 34 9 (by rfl) (Zs (some ⟨g,o,none⟩) l.length G) (Zt s) (by rfl) (by rfl) L.out _ (X.out I.drew k.out.drew) ?_
       rintro e U⟨rfl,f⟩;have d:Zb I U:=Ap (Y9 _ _).drew f;obtain⟨r0,r3,r4,r5,r6⟩:=Y.out U (Ap k.out d);obtain⟨z0,z1,z2,t0,t1,t2⟩:=J5 (HZ.out U d);refine⟨_,rfl,?_⟩)
    | fail)
 all_goals
  have J:=Aa (Ap k.out d);clear d f;go_wp2;exact bodyPost_ret (v:=Zg #[Zi P,Zi R,Zt T]) (by simp[results,results155,go_sem,z0,z1,z2]) rfl ⟨rfl,((J.out.setCell (p:=⟨w.heap.size,0,none⟩) (XA _) _).setCell (p:=⟨w.heap.size,1,none⟩) (XA _) _).setCell (p:=⟨w.heap.size,2,none⟩) (XA _) _⟩
theorem ACq(pa i:Tv)(g h:Tb->Int)(gt:Tb->Tb)(P:Tb->Prop)(s:Tb)(w:Tw)(r:P s)(l:∀(W:Tw)(s:Tb),P s->Zb w W->Zc 155 #[Zt s,pa,i] W λe d=>e=Zr (Zg #[Zi (g s),Zi (h s),Zt (gt s)])/\Zb W d):
 Zc 57 #[.func (.func 155) #[] #[pa,i],Zt s] w λe d=>e=Zr (Zg #[Zi (g s),Zi (h s),Zt (gt s)])/\Zb w d:=by
 have o:Hid (∀W,Zb w W->Zc 155 #[Zt s,pa,i] W λe d=>e=Zr (Zg #[Zi (g s),Zi (h s),Zt (gt s)])/\Zb W d):=λW hb=>l W s r hb
 clear l;have u:∀(j:Fn)(first c:Array Tv)(w:Tw),(Instr.makeFunc j first c).run prog w=.ok (.func j first c) w:=λ_ _ _ _=>rfl
 generalize g s=k,h s=n,gt s=t at *
 go_enter_defers func57,ntmps57
 go_wp2_with fail;refine(o.out _ (Zal)).mono ?_;rintro e b⟨rfl,a⟩;have c0:b.cell? ⟨w.heap.size,0,none⟩=some (Zi 0):=(a.cell (p:=⟨w.heap.size,0,none⟩) (by simp)).trans (by go_simp);have c1:b.cell? ⟨w.heap.size,1,none⟩=some (Zi 0):=(a.cell (p:=⟨w.heap.size,1,none⟩) (by simp)).trans (by go_simp);have q:b.cell? ⟨w.heap.size,2,none⟩=some (Zt ⟨#[]⟩):=(a.cell (p:=⟨w.heap.size,2,none⟩) (by simp)).trans (by go_simp);have x:b.frozen? ⟨w.heap.size,0,none⟩=false:=(a.frozen (p:=⟨w.heap.size,0,none⟩) (by simp)).trans (by go_simp);have y:b.frozen? ⟨w.heap.size,1,none⟩=false:=(a.frozen (p:=⟨w.heap.size,1,none⟩) (by simp)).trans (by go_simp);have z:b.frozen? ⟨w.heap.size,2,none⟩=false:=(a.frozen (p:=⟨w.heap.size,2,none⟩) (by simp)).trans (by go_simp);have m:Hid (Zb w b):=((Y9 _ w).alloc (XA _) _).trans (a.mono (by simp));clear a;go_wp2;refine leaves_cons (f:=100) (args:=#[Zp (some ⟨w.heap.size,0,none⟩)]) (by simp) (by simp[go_sem]) ?_;refine(S.AEX ⟨w.heap.size,0,none⟩ _).mono ?_;rintro e D v⟨rfl,rfl,rfl⟩;simp[Leaves,settle,results,results57,go_sem,c0,c1,q];exact((m.out.setCell (XA _) _).setCell (XA _) _).setCell (XA _) _
structure kI(W:World)(a b:Nat)(lv vv:Value):Prop where
 va:W.heap[a]? = some (.cells #[vv] 51)
 lb:W.heap[b]? = some (.cells #[lv] 34)
theorem kI.up{W V:Tw}{a b:Nat}(h:kI W a b v u)(c:Zb W V):kI V a b v u :=
 ⟨(c.block a (E.Ac h.va)).trans h.va,(c.block b (E.Ac h.lb)).trans h.lb⟩
def AA0(a b:Nat):Value:=.func (.func 155) #[] #[.pointer (some ⟨a,0,none⟩),.pointer (some ⟨b,0,none⟩)]
theorem AGC(d h:To)(g f j i:Nat)(w:Tw):Zc 99 #[Zs d g f,Zs h j i] w λe m=>∃a b,e=Zr (AA0 a b)/\kI m a b (Zs d g f) (Zs h j i)/\Below w.heap.size w m:=by
 have n:∀(k:Fn)(first c:Array Tv)(w:Tw),(Instr.makeFunc k first c).run prog w=.ok (.func k first c) w:=λ_ _ _ _=>rfl
 go_enter func99,ntmps99;go_wp2;go_ret;have l:=heap_alloc_new (w.alloc (Zk #[Zs d g f] 34)) (Zk #[Zs h j i] 51);rw[XI] at l;exact⟨w.heap.size+1,w.heap.size,rfl,⟨l,(XJ _ _ _ (by simp)).trans (heap_alloc_new w _)⟩,S.Gj w _ _⟩
def evR(l:List Aj)(r:List V)(T:S.CT):Int:=S.Io (λs=>(Uk l r s).1) (λs=>(Uk l r s).2.1) (λs=>(Uk l r s).2.2) T
theorem AB4(l:List Aj)(r:List V)(g o m a b:Nat)(n:Tv)(T:S.CT)(v:Tv)(w:Tw)(q:l.length<=8)(I:I1 w g o l)(f:r.length=l.length)(O:1<=l.length)(J:E.Sl w n r)(t:kI w a b (Zs (some ⟨g,o,none⟩) l.length m) n)(G:S.Gy w T v)(x:S.Kg (Rf l) T)(D:S.C9 T 24=true):
 Zc 13 #[v,AA0 a b] w λe M=>e=Zr (Zi (evR l r T))/\Zb w M:=by
 refine S.AAk (Rf l) (AA0 a b) _ _ _ T v w G x (λW s u y=>?_) D;refine ACq (Zp (some ⟨a,0,none⟩)) (Zp (some ⟨b,0,none⟩)) (λs=>(Uk l r s).1) (λs=>(Uk l r s).2.1) (λs=>(Uk l r s).2.2) (Rf l) s W u (λW2 s2 hP2 hb2=>?_);have h:=Ap y hb2;have d:=t.up h;obtain⟨N,c,rfl,_,z⟩:=J.up h;obtain⟨p,L,rfl,k,i⟩:=z (by intro e;rw[e] at f;simp at f;omega);have j:=d.va;rw[f] at j;exact ADM l r g o m a b p L c s2 W2 q (I.below h) f hP2 (S.cell_of_heap d.lb 0) (S.cell_of_heap j 0) i (E.Ac d.lb) (E.Ac d.va) k
abbrev Px:=ByteArray×Int×List V
def Og(x:ByteArray×Int×Value):List Value:=[.string x.1,Zi x.2.1,x.2.2]
def Fp(I B:Nat)(w:World)(v:Value)(rs:List Px):Prop:=∃xs:List (ByteArray×Int×Value),xs.length=rs.length/\w.ownsRow B 53 3 v rs.length (xs.flatMap Og)/\∀(j:Nat)x r,xs[j]? = some x->rs[j]? = some r->x.1=r.1/\x.2.1=r.2.1/\w.ownsRow I 56 3 x.2.2 r.2.2.length (E.A1 r.2.2)
theorem Fp.up{I B:Nat}{rs:List Px}(h:Fp I B w v rs)(d:Zb w W):Fp I B W v rs:=by obtain⟨xs,e,f,a⟩:=h;exact⟨xs,e,E.Ad f d,λj x r c b=>⟨(a j x r c b).1,(a j x r c b).2.1,E.Ad (a j x r c b).2.2 d⟩⟩
theorem P6(I B:Nat)(w:Tw):Fp I B w (Zs none 0 0) []:=⟨[],rfl,XX _ _ _ _,λj x r a=>by simp at a⟩
def Jw(path:ByteArray)(mask:List Int)(l:List Aj)(T:S.CT):Int->List (List V)->List Px
 | _,[]=>[]
 | p,r :: rs=>if (mask.any λy=>p==y)=false/\evR l r T=1 then (path,p,r) :: Jw path mask l T (p+1) rs else Jw path mask l T (p+1) rs
theorem rC(path:Tb)(mask:List Int)(l:List Aj)(T:S.CT):∀(rs:List (List V))(p:Int)(r:List V),Jw path mask l T p (rs++[r])=Jw path mask l T p rs++(if (mask.any λy=>(p+rs.length)==y)=false/\evR l r T=1 then [(path,p+rs.length,r)] else [])
 | [],p,r=>by simp only[Wb,Jw,WA,X6,WD]
 | q :: rs,p,r=>by
   have a:=rC path mask l T rs (p+1) r;have e:p+1+(rs.length:Int)=p+((q :: rs).length:Int):=by simp only[XB];omega
   rw[e] at a;simp only[XK,Jw];split
   ·rw[a];rfl
   exact a
def ABC:Value:=.agg #[.string ⟨#[]⟩,Zi 0,.slice none 0 0]
theorem AEA:(prog.info? 53).map (λi=>(i.zero,i.size,i.bytes))=some (some ABC,3,48):=by kernel_rfl
def Ev:Value->Nat
 | .int _ n=>n.toNat
 | _=>0
theorem yF.at{I:Nat}{w:Tw}{v:Tv}{rows:List (List V)}(h:yF I w v rows){k:Nat}{r:List V}(i:rows[k]? = some r):∃d c x,v=Zs (some ⟨d,0,none⟩) rows.length c/\d<w.heap.size/\rows.length<=c/\w.cell? ⟨d,k,none⟩=some x/\w.ownsRow I 56 3 x r.length (E.A1 r):=by
 obtain⟨p,s,e,m⟩:=h;have o:=Ax i;obtain⟨x,j⟩:∃x,p[k]? = some x:=⟨_,Y8 (by omega)⟩
 rcases e.2 with⟨_,q⟩|⟨g,b,l,rfl,t,n,a,_,_⟩
 ·omega
 have f:=e.cells (g:=g) rfl;simp only[E.addr_add] at f;have:=f k x j;exact⟨g,b,x,rfl,E.Ac n,a,by simpa using this,m k x r j i⟩
theorem a8{n i j m n1 n2:Nat}{c d:TypeId}{Y:List Tv}(e:w.ownsRow n c j v n1 X)(f:w.ownsRow i d m u n2 Y)(g:c≠d):∀k,v.ownBlock=some k->u.ownBlock≠some k:=λk h b=>by
 obtain⟨c1,l⟩:=Ho e h;obtain⟨o,a⟩:=Ho f b;rw[l] at a;injection a with a;injection a with _ a;exact g a
theorem Fp.snoc{I B:Nat}{v v':Tv}{rs:List Px}{p:Tb}{i:Int}{x:Tv}{xs:List (Tb×Int×Tv)}(o:xs.length=rs.length)(t:w.ownsRow B 53 3 v rs.length (xs.flatMap Og))(u:∀(j:Nat)x r,xs[j]? = some x->rs[j]? = some r->x.1=r.1/\x.2.1=r.2.1/\w.ownsRow I 56 3 x.2.2 r.2.2.length (E.A1 r.2.2))(G:w.ownsRow I 56 3 x r.length (E.A1 r))(z:w.grownBy W v.ownBlock)(D:W.ownsRow B 53 3 v' (rs.length+1) (xs.flatMap Og++Og (p,i,x))):Fp I B W v' (rs++[(p,i,r)]):=by
 have g:∀{y:Tv}{n:Nat}{s:List Tv},w.ownsRow I 56 3 y n s->W.ownsRow I 56 3 y n s:=λd=>Az d z λk g e=>a8 t d (by decide) k e g
 refine⟨xs++[(p,i,x)],by simp[o],?_,λj y q d f=>?_⟩
 ·simpa using D
 rcases Yc j xs.length with l|h
 ·rw[XD l] at d
  rw[XD (by omega)] at f;obtain⟨a,b,c⟩:=u j y q d f;exact⟨a,b,g c⟩
 rw[XC h] at d;rw[XC (by omega)] at f;rw[o] at d;cases hj:j-rs.length with
 | zero=>rw[hj] at d f;simp at d f;subst d f;exact⟨rfl,rfl,g G⟩
 | succ m=>rw[hj] at d;simp at d
theorem rI(I:Nat)(gr:Tv)(rows:List (List V))(first:Nat)(path:Tb)(er:Int)(ma:To)(mn mc:Nat)(mask:List Int)(g o cp:Nat)(l:List Aj)(T:S.CT)(v:Tv)(w:Tw)(hR:yF I w gr rows)(bb:rows.length<=6)(ah:∀r∈rows,r.length=l.length)(hf:first<=1000)(hm:Ph w (Zs ma mn mc) mask)(a9:mask.length<=1000)(h8:l.length<=8)(h1:1<=l.length)(hs:I1 w g o l)(hi:S.Gy w T v)(ha:S.Kg (Rf l) T)(hd:S.C9 T 24=true):
 Zc 53 #[gr,Zi (first:Int),Zg #[Zt path,Zi er,Zs ma mn mc],Zs (some ⟨g,o,none⟩) l.length cp,v] w λe w'=>∃v',e=Zr v'/\Fp I w.heap.size w' v' (Jw path mask l T first rows)/\Zb w w':=by
 obtain⟨ga,gc,rfl,a7⟩:=hR.o.slr.slice;go_enter func53,ntmps53;go_wp2_with fail;have HR:=Aa hR;have av:=Aa ah;have HM:=Aa hm;have HS:=Aa hs;have HI:=Aa hi;have HA:=Aa ha;have HD:=Aa hd;have ar:=Aa (heap_alloc_new w (Zk #[Zt path,Zi er,Zs ma mn mc] 65));have an:Hid (Zb w (w.alloc (Zk #[Zt path,Zi er,Zs ma mn mc] 65))):=Aa (Zal);obtain⟨iC,aj,ak,al,am⟩:=info_parts AEA;have s:=Zy aj ak al am;clear hR ah hm hs hi ha hd aj ak al am
 go_loopw [11,17] (λvr vi wr=>∃(k:Nat)(a:To)(n c:Nat),k<=rows.length/\vi=Zi (k:Int)/\vr=Zs a n c/\n<=k/\Hid (Fp I w.heap.size wr (Zs a n c) (Jw path mask l T first (rows.take k))/\n=(Jw path mask l T first (rows.take k)).length)/\Hid (Zb w wr)/\Hid (wr.heap[w.heap.size]? = some (Zk #[Zt path,Zi er,Zs ma mn mc] 65))) (λ_ vi _=>rows.length-Ev vi)
 case atStart=>exact⟨0,none,0,0,XN _,rfl,rfl,XA _,Aa ⟨P6 _ _ _,rfl⟩,an,ar⟩
 case round=>
  obtain⟨k,a,n,c,hk,rfl,rfl,ba,HF,HB,Y⟩:=hrel
  rcases Yc k rows.length with a1|a8
  ·obtain⟨r,X⟩:∃r,rows[k]? = some r:=⟨_,Y8 a1⟩
   obtain⟨gb,a5,x,eg,a6,a3,hx,U⟩:=(HR.out.up HB.out).at X;injection eg with ax _ ay;subst ax ay;obtain⟨xa,xc,rfl,_⟩:=(E.Cy U);have a0:(k:Int)<(rows.length:Int):=by omega
   have n0:=S.cell_of_heap Y.out 0;have n1:=S.cell_of_heap Y.out 1;have n2:=S.cell_of_heap Y.out 2;simp at n0 n1 n2;have HX:=Aa U;clear U;have ai:rows.take (k+1)=rows.take k++[r]:=S.Cs X;have ag:(rows.take k).length=k:=by rw[XL];omega
   have t:=Aa (rC path mask l T (rows.take k) first r);rw[ag,<-ai] at t;clear ai ag;have ao:=Aa (Nc (Zs ma mn mc) mask ((first:Int)+(k:Int)) wr (HM.out.below HB.out) (by unfold maxLen;omega));go_wp2_with fail;refine ao.out.mono ?_;rintro e w1⟨rfl,rfl⟩;cases hb:mask.any (λy=>((first:Int)+(k:Int))==y) with
   | true=>have HQ:Hid (Jw path mask l T first (rows.take (k+1))=Jw path mask l T first (rows.take k)):=Aa (by rw[t.out,if_neg (by rw[hb];simp),XT]);clear hb;go_wp2;refine⟨⟨k+1,a,n,c,by omega,rfl,rfl,by omega,?_,HB,Y⟩,by simp only[Ev];omega⟩;rw[HQ.out];exact HF
   | false=>
     have aa:=Aa (λ(A B:Nat)W(hW:Zb w W)(hS:kI W A B (Zs (some ⟨g,o,none⟩) l.length cp) (Zs xa r.length xc))(hv:E.Sl W (Zs xa r.length xc) r)=>AB4 l r g o cp A B (Zs xa r.length xc) T v W h8 (HS.out.below hW) (av.out r (XE X)) h1 hv hS (HI.out.up hW) HA.out HD.out);go_wp2_with fail;refine(AGC _ _ _ _ _ _ _).mono ?_;rintro e w2⟨A,B,rfl,ad,f⟩;have z:=Aa (Ap HB.out f);have P:=Aa (E.Ad HX.out f);have L:=Aa (And.intro (HF.out.1.up f) HF.out.2);have O:=Aa ((f.block _ (E.Ac Y.out)).trans Y.out);have ac:=Aa ad;clear f ad;unfold AA0 at aa ⊢;go_wp2_with fail;refine(aa.out A B w2 z.out ac.out (E.Cy P.out)).mono ?_;rintro e w3⟨rfl,i⟩;have D:=Aa (Ap z.out i);have aw:=Aa (E.Ad P.out i);have M:=Aa (And.intro (L.out.1.up i) L.out.2);have d:=Aa ((i.block _ (E.Ac O.out)).trans O.out);clear i z P L O ac n0 n1 n2;have n0:=S.cell_of_heap d.out 0;have n1:=S.cell_of_heap d.out 1;have n2:=S.cell_of_heap d.out 2;simp at n0 n1 n2
     by_cases hev:evR l r T=1
     ·have HQ:Hid (Jw path mask l T first (rows.take (k+1))=Jw path mask l T first (rows.take k)++[(path,(first:Int)+(k:Int),r)]):=Aa (by rw[t.out,if_pos ⟨hb,hev⟩])
      rw[hev];clear hb hev;obtain⟨⟨xs,e1,e2,e3⟩,hn⟩:=M.out;rw[<-hn] at e1 e2;have ap:=Aa e1;have p:=Aa e2;have G:=Aa e3;have au:=Aa hn;have b:Hid (Zb w3 (w3.alloc (Zk #[Zt path,Zi ((first:Int)+(k:Int)),Zs xa r.length xc] 53))):=Aa (Zal);clear e1 e2 e3 hn M
      go_wp2_with (first
       | (at_builtin;refine wpList_append_own _ rfl _ _ 47 rfl w.heap.size 53 iC ABC 3 48 underlying47 s.out.1 s.out.2.1 s.out.2.2.1 s.out.2.2.2 rfl (by decide) (.slice a n c) n (xs.flatMap Og) rfl (E.Ad p.out b.out) ⟨w3.heap.size,0,none⟩ 1 1 (Og (path,(first:Int)+(k:Int),.slice xa r.length xc)) rfl rfl (λj u hj=>XO (heap_alloc_new _ _) j u hj) (by intro u hu;simp[Og] at hu;rcases hu with rfl|rfl|rfl <;> rfl) (by unfold maxLen;omega) (by omega) (XM D.out.size b.out.size) ?_
          intro v1 w5 m af _;have ab:=Aa m;have N:=Aa af;clear m af))
      obtain⟨a',c',rfl,_⟩:=Au ab.out;have ae:=Ap D.out b.out;have R:=(b.out.block _ (E.Ac d.out)).trans d.out;have hn:=au.out;subst hn;refine⟨⟨k+1,a',_,c',by omega,by simp,rfl,by omega,Aa ⟨?_,?_⟩,Aa (ae.grown N.out ae.size (λj hj=>Fu p.out hj)),Aa ?_⟩,by simp only[Ev];omega⟩
      ·rw[HQ.out]
       exact Fp.snoc ap.out (E.Ad p.out b.out) (λj x r hx X=>⟨(G.out j x r hx X).1,(G.out j x r hx X).2.1,E.Ad (G.out j x r hx X).2.2 b.out⟩) (E.Ad aw.out b.out) N.out ab.out
      ·rw[HQ.out]
       simp
      refine(N.out.block _ (E.Ac R) (λe=>?_)).trans R;obtain⟨a4,q⟩:=Ho (E.Ad p.out b.out) e.symm;rw[R] at q;injection q with q;injection q with _ q;exact absurd q (by decide)
     have HQ:Hid (Jw path mask l T first (rows.take (k+1))=Jw path mask l T first (rows.take k)):=Aa (by rw[t.out,if_neg (λh=>hev h.2),XT]);have a2:(evR l r T==1)=false:=by simpa using hev
     generalize evR l r T=ev at *;go_wp2;refine⟨⟨k+1,a,n,c,by omega,rfl,rfl,by omega,?_,D,d⟩,by simp only[Ev];omega⟩;rw[HQ.out];exact M
  have a0:¬((k:Int)<(rows.length:Int)):=by omega
  have az:k=rows.length:=by omega
  subst az;have J:=HF.out;rw[Ye] at J;have aq:=Aa J;clear J;go_wp2;go_ret;exact⟨_,rfl,aq.out.1,HB.out⟩
def Cw(a l:List Aj)(p:List (List V)):List (List V):=p.map λr=>l.map (pick a r)
def Oe(path:ByteArray)(mask:List Int)(l:List Aj)(T:S.CT)(a:List Aj):Int->List (List (List V))->List Px×Nat
 | _,[]=>([],0)
 | f,p :: ps=>if S.Bp (I5 a p l) false T=true then (Jw path mask l T f (Cw a l p)++(Oe path mask l T a (f+p.length) ps).1,(Oe path mask l T a (f+p.length) ps).2+1) else Oe path mask l T a (f+p.length) ps
def En:List (List (List V))->Nat
 | []=>0
 | p :: ps=>p.length+En ps
theorem sQ(a:List (List (List V)))(p:List (List V)):En (a++[p])=En a+p.length:=by
 induction a with
 | nil=>simp[En]
 | cons q a ih=>simp only[XK,En,ih];omega
theorem tQ(path:Tb)(mask:List Int)(l:List Aj)(T:S.CT)(b:List Aj)(p:List (List V)):∀(a:List (List (List V)))(f:Int),Oe path mask l T b f (a++[p])=if S.Bp (I5 b p l) false T=true then ((Oe path mask l T b f a).1++Jw path mask l T (f+En a) (Cw b l p),(Oe path mask l T b f a).2+1) else Oe path mask l T b f a
 | [],f=>by simp only[Wb,Oe,En,X6,WD,XT,Nat.zero_add]
 | q :: a,f=>by
   have c:=tQ path mask l T b p a (f+q.length);have e:f+(q.length:Int)+(En a:Int)=f+(En (q :: a):Int):=by simp only[En];omega
   rw[e] at c;simp only[XK,Oe,c];split <;> split <;> simp
theorem AGe(path:Tb)(mask:List Int)(l:List Aj)(T:S.CT)(rs:List (List V)):∀p:Int,(Jw path mask l T p rs).length<=rs.length:=by
 induction rs with
 | nil=>intro p;simp[Jw]
 | cons r rs ih=>intro p;simp only[Jw];split <;> simp <;> have:=ih (p+1) <;> omega
theorem xP(path:Tb)(mask:List Int)(l:List Aj)(T:S.CT)(b:List Aj):∀(a:List (List (List V)))(f:Int),(Oe path mask l T b f a).2<=a.length/\(Oe path mask l T b f a).1.length<=En a
 | [],f=>by simp[Oe,En]
 | q :: a,f=>by
   have e:=xP path mask l T b a (f+q.length);have c:=AGe path mask l T (Cw b l q) f;have d:(Cw b l q).length=q.length:=by simp[Cw]
   simp only[Oe,En,XB];split
   ·simp only[XG];omega
   omega
theorem Mk{base z n b:Nat}{e t:TypeId}{xs:List Tv}{cs:Array Tv}(h:w.ownsRow base e z v n xs)(d:w.heap[b]? = some (Zk cs t))(i:t≠e)(f:w.grownBy W (some b)):W.ownsRow base e z v n xs :=
 Az h f λk g a=>by obtain⟨c,q⟩:=Ho h g;injection a with a;subst a;rw[d] at q;injection q with q;injection q with _ q;exact i q
theorem Hq{base z n b:Nat}{e t:TypeId}{xs:List Tv}{cs:Array Tv}(a:w.heap[b]? = some (Zk cs t))(g:w.ownsRow base e z v n xs)(h:t≠e)(f:w.grownBy W v.ownBlock):W.heap[b]? = some (Zk cs t):=by refine(f.block _ (E.Ac a) (λd=>?_)).trans a;obtain⟨c,q⟩:=Ho g d.symm;rw[a] at q;injection q with q;injection q with _ q;exact h q
theorem Fp.app{I B:Nat}{v v':Tv}{rs h:List Px}{xs i:List (Tb×Int×Tv)}(o:xs.length=rs.length)(p:w.ownsRow B 53 3 v rs.length (xs.flatMap Og))(s:∀(j:Nat)x r,xs[j]? = some x->rs[j]? = some r->x.1=r.1/\x.2.1=r.2.1/\w.ownsRow I 56 3 x.2.2 r.2.2.length (E.A1 r.2.2))(z:i.length=h.length)(D:∀(j:Nat)x r,i[j]? = some x->h[j]? = some r->x.1=r.1/\x.2.1=r.2.1/\w.ownsRow I 56 3 x.2.2 r.2.2.length (E.A1 r.2.2))(t:w.grownBy W v.ownBlock)(u:W.ownsRow B 53 3 v' (rs.length+h.length) (xs.flatMap Og++i.flatMap Og)):Fp I B W v' (rs++h):=by
 have f:∀{y:Tv}{n:Nat}{zs:List Tv},w.ownsRow I 56 3 y n zs->W.ownsRow I 56 3 y n zs:=λd=>Az d t λk f e=>a8 p d (by decide) k e f
 refine⟨xs++i,by simp[o,z],?_,λj y q d g=>?_⟩
 ·simpa using u
 rcases Yc j xs.length with m|l
 ·rw[XD m] at d
  rw[XD (by omega)] at g;obtain⟨a,b,c⟩:=s j y q d g;exact⟨a,b,f c⟩
 rw[XC l] at d;rw[XC (by omega)] at g;rw[o] at d;obtain⟨a,b,c⟩:=D _ y q d g;exact⟨a,b,f c⟩
theorem ABB{I:Nat}{xs:List (Tb×Int×Tv)}{rs:List Px}(i:xs.length=rs.length)(f:∀(j:Nat)x r,xs[j]? = some x->rs[j]? = some r->x.1=r.1/\x.2.1=r.2.1/\w.ownsRow I 56 3 x.2.2 r.2.2.length (E.A1 r.2.2)):∀u∈xs.flatMap Og,u.oneCell'=true:=by
 intro u b;obtain⟨x,h,b⟩:=List.mem_flatMap.1 b;obtain⟨j,d⟩:=List.getElem?_of_mem h;obtain⟨r,g⟩:∃r,rs[j]? = some r:=⟨_,Y8 (by have:=Ax d;omega)⟩;obtain⟨a,c,e,_⟩:=Au (f j x r d g).2.2;simp only[Og,WB,X',or_false] at b
 rcases b with rfl|rfl|rfl
 ·rfl
 ·rfl
 rw[e];rfl
theorem wE(I:Nat)(cv gv:Tv)(d:List Aj)(f:List (List (List V)))(path:Tb)(er:Int)(Y:To)(mn mc:Nat)(mask:List Int)(g o cp:Nat)(l:List Aj)(T:S.CT)(v:Tv)(w:Tw)(hF:Hm w cv gv (d,f.map (An d)))(ce:f.length<=10)(t:∀p∈f,Gr d p/\1<=p.length/\p.length<=6)(hK:Kl d)(a8:∀p∈f,∀b∈(An d p).2.2,b.length<=1000000)(a2:1<=d.length)(a3:d.length<=8)(hm:Ph w (Zs Y mn mc) mask)(b9:mask.length<=1000)(h8:l.length<=8)(h1:1<=l.length)(b6:l.length<=cp)(hs:I1 w g o l)(hi:S.Gy w T v)(ha:S.Kg (Rf l) T)(hd:S.C9 T 24=true)(a6:S.Lp w)(hI:I<=w.heap.size):
 Zc 29 #[Zg #[cv,gv],Zg #[Zt path,Zi er,Zs Y mn mc],Zs (some ⟨g,o,none⟩) l.length cp,v] w λe w'=>∃v',e=Zr (Zu #[v',Zi ((Oe path mask l T d 0 f).2:Int)])/\Fp I w.heap.size w' v' (Oe path mask l T d 0 f).1/\Below w.heap.size w w':=by
 obtain⟨O,P,ec,_⟩:=hF.1.slice;obtain⟨R,U,eg,a4⟩:=hF.2.slice;dsimp only at ec eg a4;subst ec eg;have ax:=Aa (λ(k:Nat)(p:List (List V))(hk:f[k]? = some p)W(x:Below w.heap.size w W)=>pE d l (f.map (An d)) p k (Zs O d.length P) (Zs R (f.map (An d)).length U) g o cp T v W (hF.up x) (by rw[XH,hk];rfl) a2 a3 h8 (t p (XE hk)).2.1 (t p (XE hk)).2.2 (hs.below x) (hi.up x) (a6.below x) hd)
 have az:Hid (∀(k:Nat)(p:List (List V))W,f[k]? = some p->Below w.heap.size w W->Zc 52 #[Zg #[Zs O d.length P,Zs R (f.map (An d)).length U],Zi k,Zs (some ⟨g,o,none⟩) l.length cp] W (l4 (some (Cw d l p)) W)):=Aa λk p W hk x=>by have hm:=XE hk;have:=AFP k (Zs O d.length P) (Zs R (f.map (An d)).length U) (Zs (some ⟨g,o,none⟩) l.length cp) d (f.map (An d)) (An d p) l W (hF.up x) (by rw[XH,hk];rfl) (AI5 (hs.below x) b6) h8 a2 a3 (a8 p hm);rw[cG (Xl d) (t p hm).1 hK (t p hm).2.1 (t p hm).2.2 l] at this;exact this
 have bu:=Aa (λ(p:List (List V))(f0:Nat)(gr:Tv)W(x:Below w.heap.size w W)(hR:yF I W gr (Cw d l p))(al:p.length<=6)(b3:f0<=1000)=>rI I gr (Cw d l p) f0 path er Y mn mc mask g o cp l T v W hR (by simpa[Cw] using al) (λr hr=>by obtain⟨q,_,rfl⟩:=List.mem_map.1 hr;simp) b3 (hm.below x) b9 h8 h1 (hs.below x) (hi.up x) ha hd);have ar:=Aa (λW(x:Below w.heap.size w W)=>(hF.up x).2);obtain⟨iC,bd,bf,bg,bh⟩:=info_parts AEA;have N:=Zy bd bf bg bh;have bw:=Aa t
 have a5:∀qs:List (List (List V)),(∀p∈qs,p.length<=6)->En qs<=6*qs.length:=by
  intro qs
  induction qs with
  | nil=>intro _;simp[En]
  | cons q qs ih=>intro h;have:=ih (λp X=>h p (Yg _ X));have:=h q (Yf ..);simp only[En,XB];omega
 have aw:Hid (∀k,En (f.take k)<=60):=Aa λk=>by
  have:=a5 (f.take k) (λp X=>(t p (Yi X)).2.2);have hl:(f.take k).length<=f.length:=by rw[XL];omega
  omega
 have br:Hid (∀k,(Oe path mask l T d 0 (f.take k)).2<=10):=Aa λk=>by
  have:=(xP path mask l T d (f.take k) 0).1;have hl:(f.take k).length<=f.length:=by rw[XL];omega
  omega
 clear a5;clear hF t a8 hm hs hi ha hd a6 hK bd bf bg bh;simp only[XU] at ax az ar a4 ⊢
 have bi:∀W0:Tw,((W0.alloc (Zk #[Zs O d.length P,Zs R f.length U] 98)).alloc (Zk #[Zt path,Zi er,Zs Y mn mc] 65)).heap[W0.heap.size]? = some (Zk #[Zs O d.length P,Zs R f.length U] 98)/\((W0.alloc (Zk #[Zs O d.length P,Zs R f.length U] 98)).alloc (Zk #[Zt path,Zi er,Zs Y mn mc] 65)).heap[W0.heap.size+1]? = some (Zk #[Zt path,Zi er,Zs Y mn mc] 65):=λW0=>by have hn:=heap_alloc_new (W0.alloc (Zk #[Zs O d.length P,Zs R f.length U] 98)) (Zk #[Zt path,Zi er,Zs Y mn mc] 65);rw[XI] at hn;exact⟨(XJ _ _ _ (by simp)).trans (heap_alloc_new W0 _),hn⟩
 have bx:=Aa (bi w);have bj:=Aa (S.Gj w (Zk #[Zs O d.length P,Zs R f.length U] 98) (Zk #[Zt path,Zi er,Zs Y mn mc] 65));clear bi;go_enter func29,ntmps29;go_wp2_with fail
 go_loopw [10,11,12,20] (λvr vl vf vi wr=>∃(k:Nat)(a:To)(n c:Nat),k<=f.length/\vi=Zi (k:Int)/\vr=Zs a n c/\n<=6*k/\vl=Zi ((Oe path mask l T d 0 (f.take k)).2:Int)/\vf=Zi (En (f.take k):Int)/\Hid (Fp I w.heap.size wr (Zs a n c) (Oe path mask l T d 0 (f.take k)).1/\n=(Oe path mask l T d 0 (f.take k)).1.length)/\Hid (Below w.heap.size w wr)/\Hid (wr.heap[w.heap.size]? = some (Zk #[Zs O d.length P,Zs R f.length U] 98)/\wr.heap[w.heap.size+1]? = some (Zk #[Zt path,Zi er,Zs Y mn mc] 65))) (λ_ _ _ vi _=>f.length-Ev vi)
 case atStart=>exact⟨0,none,0,0,XN _,rfl,rfl,XN _,rfl,rfl,Aa ⟨P6 _ _ _,rfl⟩,bj,bx⟩
 case round=>
  obtain⟨k,a,n,c,hk,rfl,rfl,ck,rfl,rfl,HF,HB,HN⟩:=hrel
  rcases Yc k f.length with b8|ci
  ·obtain⟨p,X⟩:∃p,f[k]? = some p:=⟨_,Y8 b8⟩
   obtain⟨_,cl,al⟩:=bw.out p (XE X);obtain⟨gb,go,cg,nn,sv,bv,eg,ch,en,g0,g1,g2,a7,a1⟩:=(ar.out wr HB.out).at (k:=k) (g:=An d p) (by rw[XH,X];rfl);obtain⟨sa,sc,rfl,_⟩:=a7.slice;obtain⟨ba,bc,rfl,_⟩:=a1.slice;clear a7 a1;simp only[XU] at eg;injection eg with b0 _ b1;subst b0 b1;have b2:nn=(p.length:Int):=en;subst b2;have b5:(k:Int)<(f.length:Int):=by omega
   have bb:f.take (k+1)=f.take k++[p]:=S.Cs X;have ah:=Aa (tQ path mask l T d p (f.take k) 0);have ag:=Aa (sQ (f.take k) p);rw[<-bb] at ah ag;clear bb en;have n0:=S.cell_of_heap HN.out.1 0;have n1:=S.cell_of_heap HN.out.1 1;simp at n0 n1;have cd:En (f.take k)<=60:=aw.out k;have b7:(Oe path mask l T d 0 (f.take k)).2<=10:=br.out k;have cj:(En (f.take k):Int)+(p.length:Int)<=1000:=by omega
   have cf:=Aa b7;generalize hS:(An d p).2.1.length=sn at *;generalize hT:(An d p).2.2.length=bn at *;clear hS hT;have af:Hid (Below wr.heap.size wr (wr.alloc (Zk #[Zi (p.length:Int),Zs sa sn sc,Zs ba bn bc] 128))):=Aa (Zal);have aq:=Aa (heap_alloc_new wr (Zk #[Zi (p.length:Int),Zs sa sn sc,Zs ba bn bc] 128));have am:=(XJ wr (Zk #[Zi (p.length:Int),Zs sa sn sc,Zs ba bn bc] 128) _ (E.Ac HN.out.1)).trans HN.out.1;have m0:=S.cell_of_heap am 0;have m1:=S.cell_of_heap am 1;simp at m0 m1;clear am;generalize aj:(Oe path mask l T d 0 (f.take k)).2=lk at *;generalize hlen:En (f.take k)=ln at *;go_wp2_with fail;refine(ax.out k p X _ (Ap HB.out af.out)).mono ?_;rintro e w1⟨rfl,ai⟩;have s:=Ap af.out ai;have G:=Aa (Ap HB.out s);have L:=Aa (And.intro (HF.out.1.up s) HF.out.2);have i:=Aa (And.intro ((s.block _ (E.Ac HN.out.1)).trans HN.out.1) ((s.block _ (E.Ac HN.out.2)).trans HN.out.2));have M:=Aa ((ai.block wr.heap.size (by simp)).trans aq.out);clear ai s m0 m1 n0 n1 g0 g1 g2 af aq;cases hmay:S.Bp (I5 d p l) false T with
   | false=>have HQ:Hid (Oe path mask l T d 0 (f.take (k+1))=Oe path mask l T d 0 (f.take k)):=Aa (by rw[ah.out,if_neg (by rw[hmay];simp)]);have x0:=S.cell_of_heap M.out 0;simp at x0;clear hmay;go_wp2;refine⟨⟨k+1,a,n,c,by omega,rfl,rfl,by omega,by rw[HQ.out,aj],by rw[ag.out];simp,?_,G,i⟩,by simp only[Ev];omega⟩;rw[HQ.out];exact L
   | true=>
     have HQ:Hid (Oe path mask l T d 0 (f.take (k+1))=((Oe path mask l T d 0 (f.take k)).1++Jw path mask l T (ln:Int) (Cw d l p),lk+1)):=Aa (by rw[ah.out,if_pos hmay,Int.zero_add]);clear hmay;have y0:=S.cell_of_heap i.out.1 0;have y1:=S.cell_of_heap i.out.1 1;simp at y0 y1;go_wp2_with fail;refine(az.out k p w1 X G.out).mono ?_;rintro e w2⟨v2,rfl,J,y⟩;have ab:=Aa (Ap G.out y);have ad:=Aa (And.intro (L.out.1.up y) L.out.2);have m:=Aa (And.intro ((y.block _ (E.Ac i.out.1)).trans i.out.1) ((y.block _ (E.Ac i.out.2)).trans i.out.2));have ae:=Aa ((y.block _ (E.Ac M.out)).trans M.out);have a0:=Aa (J.low (I':=I) (XM hI G.out.size));obtain⟨va,vc,rfl,_⟩:=J.o.slr.slice;have z0:=S.cell_of_heap m.out.2 0;have z1:=S.cell_of_heap m.out.2 1;have z2:=S.cell_of_heap m.out.2 2;simp at z0 z1 z2;clear J y y0 y1 G L i M;go_wp2_with fail;refine(bu.out p ln _ w2 ab.out a0.out al (by omega)).mono ?_;rintro e w3⟨v3,rfl,aa,z⟩;have an:=Aa (Ap ab.out z);have ay:=Aa (And.intro ((z.block _ (E.Ac m.out.1)).trans m.out.1) ((z.block _ (E.Ac m.out.2)).trans m.out.2));have bp:=Aa ((z.block _ (E.Ac ae.out)).trans ae.out);have ao:=Aa (And.intro (ad.out.1.up z) ad.out.2);have ap:=Aa aa;clear z aa z0 z1 z2 ab ad m ae a0;obtain⟨⟨xs,e1,e2,e3⟩,hn⟩:=ao.out;obtain⟨ys,k1,k2,k3⟩:=ap.out;rw[<-hn] at e1 e2;obtain⟨ya,yc,rfl,_⟩:=Au k2
     have cm:(Jw path mask l T (ln:Int) (Cw d l p)).length<=6:=by
      have h2:=AGe path mask l T (Cw d l p) (ln:Int);have h3:(Cw d l p).length=p.length:=by simp[Cw]
      omega
     have bl:=Aa e1;have u:=Aa e2;have bm:=Aa e3;have au:=Aa k1;have bq:=Aa k2;have av:=Aa k3;have bt:=Aa hn;generalize cb:Jw path mask l T (ln:Int) (Cw d l p)=qs at *;have a9:=an.out.size;clear e1 e2 e3 k1 k2 k3 hn ao ap cb;go_wp2_with (at_builtin;refine E.Ck rfl _ _ 47 rfl w.heap.size 53 iC ABC 3 48 underlying47 N.out.1 N.out.2.1 N.out.2.2.1 N.out.2.2.2 rfl (by decide) _ _ _ rfl u.out _ _ _ _ rfl bq.out (ABB au.out av.out) ?f1 ?f2 ?f3 ?_)
     case f1=>unfold maxLen;omega
     case f2=>omega
     case f3=>omega
     intro v4 w4 ak D;obtain⟨a',c',rfl,_⟩:=Au ak;have hn:=bt.out;subst hn;have bz:=Aa (Fp.app bl.out u.out bm.out au.out av.out D ak);have bk:=Aa (an.out.grown D a9 (λj hj=>Fu u.out hj));have bs:=Aa (And.intro (Hq ay.out.1 u.out (by decide) D) (Hq ay.out.2 u.out (by decide) D));have x0:=S.cell_of_heap (Hq bp.out u.out (by decide) D) 0;simp at x0;clear ak D;go_wp2;refine⟨⟨k+1,a',_,c',by omega,rfl,rfl,by omega,by rw[HQ.out];simp,by rw[ag.out];simp,Aa ⟨?_,?_⟩,bk,bs⟩,by simp only[Ev];omega⟩
     ·rw[HQ.out]
      exact bz.out
     rw[HQ.out];simp
  have b5:¬((k:Int)<(f.length:Int)):=by omega
  have b4:k=f.length:=by omega
  subst b4;have ac:=HF.out;rw[Ye] at ac ⊢;have bo:=Aa ac;clear ac;go_wp2;go_ret2;exact⟨_,rfl,bo.out.1,HB.out⟩
def AEy(x:Int):Value:=if x=0 then .nilIface else .iface 90 (Zi x)
def wB(l:List Aj)(s:ByteArray):Int:=kd (l[(Ce l s).toNat]?.getD zC)
def Mz(l:List Aj)(c:Int)(Bl:ByteArray)(k:Int):Int:=if Ce l Bl<0 then 5 else if c=7\/c=8\/k=0\/k=wB l Bl then 0 else 1
def D4(l:List Aj):S.CT->Int
 | .nil=>0
 | .node _ _ ⟨c,Bl,k,_,_⟩ x y=>if c=9\/c=10 then (if D4 l x=0 then D4 l y else D4 l x) else if c=11 then D4 l x else Mz l c Bl k
def Ex(l:List Aj)(T:S.CT):Int:=if S.C9 T 24=true then D4 l T else 1
def EPost(x:Int)(w:World)(e:Ending)(a:World):Prop:=e=.returned (AEy x)/\Zb w a
theorem N7:AEy 0=Zn:=rfl
theorem Et{x:Int}(h:x≠0):AEy x=Zf 90 (Zi x):=if_neg h
theorem bC(l:List Aj):∀T:S.CT,D4 l T=0->S.Kg (Rf l) T
 | .nil,_=>trivial
 | .node _ _ ⟨c,Bl,k,_,_⟩ x y,h=>by
   simp only[D4] at h;simp only[S.Kg]
   by_cases h9:c=9\/c=10
   ·rw[if_pos h9] at h
    rw[if_neg (by omega),if_pos h9];split at h
    ·exact⟨bC l x ‹_›,bC l y h⟩
    exact absurd h ‹_›
   rw[if_neg h9] at h
   by_cases h11:c=11
   ·rw[if_pos h11] at h ⊢
    exact bC l x h
   rw[if_neg h11] at h ⊢;rw[if_neg h9];unfold Mz at h;unfold Rf;split at h
   ·cases h
   omega
theorem gP(h:Ex l T=0):S.Kg (Rf l) T/\S.C9 T 24=true:=by
 unfold Ex at h;split at h
 ·exact⟨bC l T h,‹_›⟩
 cases h
theorem ACe(g o U:Nat)(l:List Aj)(b:Nat)(c:Int)(Bl:Tb)(k n:Int)(t:Tb)(pl pr:Tv)(w:Tw)(h:I1 w g o l)(X:l.length<=8)(I:w.heap[b]? = some (Zk #[Zi c,Zt Bl,Zi k,Zi n,Zt t,pl,pr] 94)):
 Zc 55 #[Zs (some ⟨g,o,none⟩) l.length U,Zp (some ⟨b,0,none⟩)] w (EPost (Mz l c Bl k) w):=by
 have r:=Aa (E8 g o U l Bl w h X);have c0:w.cell? ⟨b,0,none⟩=some (Zi c):=S.cell_of_heap I 0;have c1:w.cell? ⟨b,1,none⟩=some (Zt Bl):=S.cell_of_heap I 1;have i:w.cell? ⟨b,2,none⟩=some (Zi k):=S.cell_of_heap I 2;have d:b<w.heap.size:=E.Ac I;have s:=Aa h;clear I h
 rcases Gz l Bl with⟨u,_⟩|⟨j,R,u,_⟩
 ·have f:Hid (Mz l c Bl k=5):=Aa (by unfold Mz;rw[if_pos (by omega)])
  rw[f.out];rw[u] at r;clear u;go_enter func55,ntmps55;go_wp2_with fail;refine r.out.mono ?_;rintro e L⟨rfl,a⟩;go_wp2;go_ret;exact⟨rfl,a⟩
 have W:∃x,l[j]! = x:=⟨_,rfl⟩;obtain⟨⟨y1,y2,P,y4,y5,y6,y7⟩,T⟩:=W
 have J:wB l Bl=P:=by unfold wB;rw[u,XF,Y8 R,X4,<-getElem!_pos l j R,T];rfl
 have f:Hid (Mz l c Bl k=if c=7\/c=8\/k=0\/k=P then 0 else 1):=Aa (by unfold Mz;rw[if_neg (by omega),J]);rw[u] at r;obtain⟨e0,v,m,y,z,D,G⟩:=s.out.cells R T;have ab:(j:Int)<(l.length:Int):=by omega
 have Y:¬(j:Int)<0:=by omega
 have aa:(0:Int)<=(j:Int):=by omega
 clear u T J;generalize Mz l c Bl k=q at *
 by_cases h7:c=7
 ·subst h7
  obtain rfl:q=0:=f.out.trans (if_pos (.inl rfl));clear f;go_enter func55,ntmps55;go_wp2_with fail;refine r.out.mono ?_;rintro e L⟨rfl,a⟩;have M:=(a.cell (p:=⟨b,0,none⟩) d).trans c0;have N:=(a.cell (p:=⟨b,2,none⟩) d).trans i;have O:=(a.cell (p:=⟨g,o+j*7+2,none⟩) s.out.1).trans m;clear c0 c1 i e0 v m y z D G;go_wp2;go_ret;exact⟨rfl,a⟩
 have b7:(c==7)=false:=by simpa using h7
 by_cases h8':c=8
 ·subst h8'
  obtain rfl:q=0:=f.out.trans (if_pos (.inr (.inl rfl)));clear f;go_enter func55,ntmps55;go_wp2_with fail;refine r.out.mono ?_;rintro e L⟨rfl,a⟩;have M:=(a.cell (p:=⟨b,0,none⟩) d).trans c0;have N:=(a.cell (p:=⟨b,2,none⟩) d).trans i;have O:=(a.cell (p:=⟨g,o+j*7+2,none⟩) s.out.1).trans m;clear c0 c1 i e0 v m y z D G;go_wp2;go_ret;exact⟨rfl,a⟩
 have b8:(c==8)=false:=by simpa using h8'
 by_cases hk:k=0
 ·subst hk
  obtain rfl:q=0:=f.out.trans (if_pos (.inr (.inr (.inl rfl))));clear f;go_enter func55,ntmps55;go_wp2_with fail;refine r.out.mono ?_;rintro e L⟨rfl,a⟩;have M:=(a.cell (p:=⟨b,0,none⟩) d).trans c0;have N:=(a.cell (p:=⟨b,2,none⟩) d).trans i;have O:=(a.cell (p:=⟨g,o+j*7+2,none⟩) s.out.1).trans m;clear c0 c1 i e0 v m y z D G;go_wp2;go_ret;exact⟨rfl,a⟩
 have bk:(k==0)=false:=by simpa using hk
 by_cases hy:k=P
 ·subst hy
  obtain rfl:q=0:=f.out.trans (if_pos (.inr (.inr (.inr rfl))));clear f;go_enter func55,ntmps55;go_wp2_with fail;refine r.out.mono ?_;rintro e L⟨rfl,a⟩;have M:=(a.cell (p:=⟨b,0,none⟩) d).trans c0;have N:=(a.cell (p:=⟨b,2,none⟩) d).trans i;have O:=(a.cell (p:=⟨g,o+j*7+2,none⟩) s.out.1).trans m;clear c0 c1 i e0 v m y z D G;go_wp2_with fail
  go_region
  go_wp2;go_ret;exact⟨rfl,a.drew⟩
 have V:(k==P)=false:=by simpa using hy
 obtain rfl:q=1:=f.out.trans (if_neg (by omega));clear f;go_enter func55,ntmps55;go_wp2_with fail;refine r.out.mono ?_;rintro e L⟨rfl,a⟩;have M:=(a.cell (p:=⟨b,0,none⟩) d).trans c0;have N:=(a.cell (p:=⟨b,2,none⟩) d).trans i;have O:=(a.cell (p:=⟨g,o+j*7+2,none⟩) s.out.1).trans m;clear c0 c1 i e0 v m y z D G;go_wp2_with fail
 go_region
 go_wp2;go_ret;exact⟨rfl,a.drew⟩
theorem p9{Bl:Tb}{t:Tb}(h:c=9\/c=10):(if D4 l x=0 then D4 l y else D4 l x)=D4 l (.node i j ⟨c,Bl,k,n,t⟩ x y):=by rw[D4,if_pos h]
theorem p11{Bl:Tb}{t:Tb}(h:c=11):D4 l x=D4 l (.node i j ⟨c,Bl,k,n,t⟩ x y):=by rw[D4,if_neg (by omega),if_pos h]
theorem p0{Bl:Tb}{t:Tb}(h:¬(c=9\/c=10))(a:¬c=11):Mz l c Bl k=D4 l (.node i j ⟨c,Bl,k,n,t⟩ x y):=by rw[D4,if_neg h,if_neg a]
theorem Ws(g o q:Nat)(l:List Aj)(J:l.length<=8):∀(T:S.CT)(v:Tv)(w:Tw),S.Gy w T v->I1 w g o l ->
 Zc 31 #[Zs (some ⟨g,o,none⟩) l.length q,v] w (EPost (D4 l T) w)
 | .nil,v,w,h,_=>by obtain rfl:v=Zp none:=h;have O:Hid (D4 l .nil=0):=rfl;rw[O.out];go_enter func31,ntmps31;go_wp2;go_ret;exact⟨rfl,Y9 _ _⟩
 | .node a0 o0 ⟨c,Bl,k,n,t⟩ x y,v,w,h,hs=>by
   obtain⟨b,G,I,rfl,r,_,M,N⟩:=h;have d:Hid (∀W,Zb w W->Zc 31 #[Zs (some ⟨g,o,none⟩) l.length q,G] W (EPost (D4 l x) W)):=λW z=>Ws g o q l J x G W (M.up z) (hs.below z)
   have i:Hid (∀W,Zb w W->Zc 31 #[Zs (some ⟨g,o,none⟩) l.length q,I] W (EPost (D4 l y) W)):=λW z=>Ws g o q l J y I W (N.up z) (hs.below z)
   have f:=Aa (ACe g o q l b c Bl k n t G I w hs J r);have c0:w.cell? ⟨b,0,none⟩=some (Zi c):=S.cell_of_heap r 0;have c5:w.cell? ⟨b,5,none⟩=some G:=S.cell_of_heap r 5;have L:w.cell? ⟨b,6,none⟩=some I:=S.cell_of_heap r 6;have D:b<w.heap.size:=E.Ac r;clear r M N hs;unfold EPost at d i f ⊢
   by_cases j:c=9\/c=10
   ·rw[<-p9 j]
    clear f;generalize D4 l x=u at *;generalize D4 l y=V at *
    by_cases hx:u=0
    ·subst hx
     rw[N7] at d;rw[if_pos rfl]
     by_cases hy:V=0
     ·subst hy
      rw[N7] at i ⊢
      rcases j with rfl|rfl
      all_goals
       go_enter func31,ntmps31;go_wp2_with fail;refine(d.out _ (Y9 _ _)).mono ?_;rintro e s⟨rfl,a⟩;have U:=(a.cell (p:=⟨b,6,none⟩) D).trans L;go_wp2_with fail;refine(i.out _ a).mono ?_;rintro e X⟨rfl,m⟩;go_wp2;go_ret;exact⟨rfl,Ap a m⟩
     rw[Et hy] at i ⊢
     rcases j with rfl|rfl
     all_goals
      go_enter func31,ntmps31;go_wp2_with fail;refine(d.out _ (Y9 _ _)).mono ?_;rintro e s⟨rfl,a⟩;have U:=(a.cell (p:=⟨b,6,none⟩) D).trans L;go_wp2_with fail;refine(i.out _ a).mono ?_;rintro e X⟨rfl,m⟩;go_wp2;go_ret;exact⟨rfl,Ap a m⟩
    rw[Et hx] at d;rw[if_neg hx,Et hx]
    rcases j with rfl|rfl
    all_goals
     go_enter func31,ntmps31;go_wp2_with fail;refine(d.out _ (Y9 _ _)).mono ?_;rintro e s⟨rfl,a⟩;go_wp2;go_ret;exact⟨rfl,a⟩
   by_cases h11:c=11
   ·rw[<-p11 h11]
    subst h11;clear f i j;generalize D4 l x=u at *
    by_cases hx:u=0
    ·subst hx
     rw[N7] at d ⊢;go_enter func31,ntmps31;go_wp2_with fail;refine(d.out _ (Y9 _ _)).mono ?_;rintro e s⟨rfl,a⟩;go_wp2;go_ret;exact⟨rfl,a⟩
    rw[Et hx] at d ⊢;go_enter func31,ntmps31;go_wp2_with fail;refine(d.out _ (Y9 _ _)).mono ?_;rintro e s⟨rfl,a⟩;go_wp2;go_ret;exact⟨rfl,a⟩
   rw[<-p0 j h11];have Y:(c==9)=false:=by rw[beq_eq_false_iff_ne];omega
   have P:(c==10)=false:=by rw[beq_eq_false_iff_ne];omega
   have R:(c==11)=false:=by rw[beq_eq_false_iff_ne];omega
   clear d i j h11;generalize Mz l c Bl k=u at *
   by_cases hx:u=0
   ·subst hx
    rw[N7] at f ⊢;go_enter func31,ntmps31;go_wp2_with fail;refine f.out.mono ?_;rintro e s⟨rfl,a⟩;go_wp2;go_ret;exact⟨rfl,a⟩
   rw[Et hx] at f ⊢;go_enter func31,ntmps31;go_wp2_with fail;refine f.out.mono ?_;rintro e s⟨rfl,a⟩;go_wp2;go_ret;exact⟨rfl,a⟩
theorem ADv(g o c:Nat)(l:List Aj)(j:l.length<=8)(T:S.CT)(v:Tv)(w:Tw)(h:S.Gy w T v)(d:I1 w g o l):
 Zc 12 #[Zs (some ⟨g,o,none⟩) l.length c,v] w (EPost (Ex l T) w):=by
 have H1:=Aa (S.Uh T v w h);have H2:=Aa (Ws g o c l j T v w h d);clear h d;unfold EPost at H2 ⊢;cases hw:S.C9 T 24 with
 | false=>have b:Hid (Ex l T=1):=Aa (by unfold Ex;rw[if_neg (by rw[hw];simp)]);rw[b.out];rw[hw] at H1;clear hw b;go_enter func12,ntmps12;go_wp2_with fail;refine H1.out.mono ?_;rintro e f⟨rfl,rfl⟩;go_wp2;go_ret;exact⟨rfl,Y9 _ _⟩
 | true=>
   have b:Hid (Ex l T=D4 l T):=Aa (by unfold Ex;rw[if_pos hw]);rw[b.out];rw[hw] at H1;clear hw b;generalize D4 l T=i at *
   by_cases hx:i=0
   ·subst hx
    rw[N7] at H2 ⊢;go_enter func12,ntmps12;go_wp2_with fail;refine H1.out.mono ?_;rintro e f⟨rfl,rfl⟩;go_wp2_with fail;refine H2.out.mono ?_;rintro e k⟨rfl,a⟩;go_wp2;go_ret;exact⟨rfl,a⟩
   rw[Et hx] at H2 ⊢;go_enter func12,ntmps12;go_wp2_with fail;refine H1.out.mono ?_;rintro e f⟨rfl,rfl⟩;go_wp2_with fail;refine H2.out.mono ?_;rintro e k⟨rfl,a⟩;go_wp2;go_ret;exact⟨rfl,a⟩
abbrev A6:=Vc×List Aj×List (List V)
structure Gt(D:DataW Unit)(x:A6):Prop where
 has:Maps.has D (B.lit (Eh x.1.1))=true
 Gw:D.atKey (B.lit (Eh x.1.1)) (B.Gw ByteArray.empty)=B.Gw (E.str (Cq (x.2.1,Ay x.2.1 x.2.2)))
 ok:De x.2.1 x.2.2=true
 i64:K9 x.2.2
 name:x.1.1.size<=1000
 mask:x.1.2.2.length<=1000
def N9(l:List Aj)(T:S.CT)(x:A6):List Px×Nat:=Oe x.1.1 x.1.2.2 l T (By x.2.1) 0 (parts x.2.2)
def Bo(l:List Aj)(T:S.CT):List A6->List Px×Nat
 | []=>([],0)
 | x :: xs=>((N9 l T x).1++(Bo l T xs).1,(N9 l T x).2+(Bo l T xs).2)
theorem j6(l:List Aj)(T:S.CT)(x:A6):∀xs:List A6,Bo l T (xs++[x])=((Bo l T xs).1++(N9 l T x).1,(Bo l T xs).2+(N9 l T x).2)
 | []=>by simp[Bo]
 | y :: ys=>by have a:=j6 l T x ys;simp only[XK,Bo,a,List.append_assoc];congr 1;omega
theorem oU{rows p:List (List V)}(h:Gr l rows)(g:∀r∈p,r∈rows):Gr (By l) p:=λr f=>by
 obtain⟨c,d⟩:=h r (g r f);rw[Je];refine⟨c,λi e=>?_⟩;obtain⟨a,b⟩:=d i e;exact⟨by rw[ABo ((It l).kdq i)];exact a,b⟩
theorem vH(h:Kl l):Kl (By l):=λi a=>by
 rw[Je] at a;rw[(It l).kdq i];exact h i a
theorem wH(g:Gr l p)(f:Kl l)(h:p.length<=6):∀b∈(An l p).2.2,b.length<=1000000:=λb d=>by
 simp only[An,List.mem_map,List.mem_range] at d;obtain⟨i,e,rfl⟩:=d;obtain⟨a,c⟩:=Ot g e (f i e);have:=AAr a c (by rw[Gn];omega);omega
structure AJL(fl:List Aj)(ps:List (List (List V))):Prop where
 p10:ps.length<=10
 each:∀p∈ps,Gr fl p/\1<=p.length/\p.length<=6
 kinds:Kl fl
 bytes:∀p∈ps,∀b∈(An fl p).2.2,b.length<=1000000
 one:1<=fl.length
 eight:fl.length<=8
theorem opened{rows:List (List V)}(h:De l rows=true)(i:K9 rows):AJL (By l) (parts rows)/\Ay l rows=(parts rows).map (An (By l)):=by
 obtain⟨j,n,g,e⟩:=B4.1 h;have k:=Mu e i;have m:=vH j.kinds
 have d:∀p∈parts rows,Gr (By l) p/\1<=p.length/\p.length<=6:=λp f=>by obtain⟨a,b,c⟩:=Ij f;exact⟨oU k c,a,b⟩
 refine⟨⟨by rw[Vg];exact AAB g,d,m,λp f=>wH (d p f).1 m (d p f).2.2,by rw[Je];exact j.one,by rw[Je];exact j.eight⟩,?_⟩;unfold Ay;exact Yw λp _=>(Ul (It l) p).symm
theorem X0:∀a:List (List (List V)),En a=a.flatten.length
 | []=>rfl
 | p :: a=>by simp only[En,XY,XG,X0 a]
theorem tX{x:A6}(h:Gt D x)(l:List Aj)(T:S.CT):(N9 l T x).2<=10/\(N9 l T x).1.length<=60:=by obtain⟨a,b⟩:=xP x.1.1 x.1.2.2 l T (By x.2.1) (parts x.2.2) 0;obtain⟨_,_,c,_⟩:=B4.1 h.ok;have d:=(opened h.ok h.i64).1.p10;rw[X0,V2] at b;unfold N9;omega
theorem L0{D:Td}(l:List Aj)(T:S.CT):∀xs:List A6,(∀x∈xs,Gt D x)->(Bo l T xs).2<=10*xs.length/\(Bo l T xs).1.length<=60*xs.length
 | [],_=>by simp[Bo]
 | x :: xs,h=>by
   have b:=tX (h x (Yf ..)) l T;have c:=L0 l T xs λy a=>h y (Yg _ a)
   simp only[Bo,XG,XB];omega
def qP(l:List Aj)(T:S.CT)(xs:List A6)(w:World)(e:Ending)(a:World):Prop :=
 Zb w a/\((Ex l T≠0/\e=.returned (.tuple #[.slice none 0 0,Zi 0,AEy (Ex l T)]))\/(Ex l T=0/\∃v',e=.returned (.tuple #[v',Zi ((Bo l T xs).2:Int),.nilIface])/\Fp w.heap.size w.heap.size a v' (Bo l T xs).1))
theorem AFL(bb n:Nat)(D:Td)(mv:Tv)(s:Ah)(g cp:Nat)(fa:To)(fc:Nat)(L:List Ef)(xs:List A6)(T:S.CT)(v:Tv)(w:Tw)(h:Ground w bb n D mv)(he:B.Ob w)(ao:S.Lp w)(hV:X8 w s (Zs (some ⟨g,0,none⟩) s.cols.length cp) (Zs fa L.length fc) L)(hx:xs.map (·.1)=s.files)(d:∀x∈xs,Gt D x)(cd:xs.length<=1000)(h8:s.cols.length<=8)(h1:1<=s.cols.length)(hi:S.Gy w T v):
 Zc 11 #[Zp (some ⟨bb,0,none⟩),Zg #[Zi s.Eb,Zs (some ⟨g,0,none⟩) s.cols.length cp,Zi s.next,Zs fa L.length fc],v] w (qP s.cols T xs w):=by
 have hs:I1 w g 0 s.cols:=I1.Fz hV.cols rfl
 have b6:s.cols.length<=cp:=by obtain⟨a,c,e,hc⟩:=Au hV.cols;injection e with _ _ e;omega
 have z:=Aa (λW(P:Zb w W)=>ADv g 0 cp s.cols h8 T v W (hi.up P) (hs.below P));have G:Hid (Zb w (w.alloc (Zk #[Zi s.Eb,Zs (some ⟨g,0,none⟩) s.cols.length cp,Zi s.next,Zs fa L.length fc] 42))):=Aa (Zal);have a0:=Aa (heap_alloc_new w (Zk #[Zi s.Eb,Zs (some ⟨g,0,none⟩) s.cols.length cp,Zi s.next,Zs fa L.length fc] 42));unfold qP;unfold EPost at z
 by_cases hce:Ex s.cols T=0
 rotate_left
 ·rw[Et hce] at z ⊢
  have HC:=Aa hce;clear hs hV hi h he ao d hx;generalize Ex s.cols T=ce at *;go_enter func11,ntmps11;go_wp2_with fail;refine(z.out _ G.out).mono ?_;rintro e w1⟨rfl,M⟩;go_wp2;go_ret3;exact⟨Ap G.out M,.inl ⟨HC.out,rfl⟩⟩
 rw[hce,N7] at z;obtain⟨has,a9⟩:=gP hce;go_enter func11,ntmps11;go_wp2_with fail;refine(z.out _ G.out).mono ?_;rintro e w1⟨rfl,M⟩;have am:=(M.block w.heap.size (by simp)).trans a0.out;have n3:=S.cell_of_heap am 3;simp at n3
 have hlen:L.length=xs.length:=by have:=congrArg List.length (hx.trans hV.files);simpa using this.symm
 have bw:=Aa (λ(x:A6)(b:x∈xs)W(P:Zb w W)=>AD9 bb n D mv x.1.1 W (h.up P) (he.below P) (d x b).name (λt _ ht=>by have e:=B.aS ((d x b).Gw.symm.trans ht);rw[<-e,E.Ds];have:=Vn (d x b).ok (d x b).i64;omega))
 have bv:=Aa (λ(x:A6)(b:x∈xs)(cv gv:Tv)(J:Int)(ma:To)(mn mc:Nat)W(P:Zb w W)(hF:Hm W cv gv (By x.2.1,(parts x.2.2).map (An (By x.2.1))))(hm:Ph W (Zs ma mn mc) x.1.2.2)=>
  have O:=(opened (d x b).ok (d x b).i64).1
  wE w.heap.size cv gv (By x.2.1) (parts x.2.2) x.1.1 J ma mn mc x.1.2.2 g 0 cp s.cols T v W hF O.p10 O.each O.kinds O.bytes O.one O.eight hm (d x b).mask h8 h1 b6 (hs.below P) (hi.up P) has a9 (ao.below P) P.size)
 have ax:=Aa d;have ag:=Aa hV;have bz:=Aa hx;have bk:=Aa hce;have bi:=Aa (Ap G.out M);have br:=Aa am;obtain⟨iC,bc,bd,bf,bg⟩:=info_parts AEA;have U:=Zy bc bd bf bg;clear hs hV hi h he ao d hx hce has a9 M am z G a0 bc bd bf bg;go_wp2_with fail
 go_loopw [10,11,28] (λvr vl vi wr=>∃(k:Nat)(a:To)(n c:Nat),k<=xs.length/\vi=Zi (k:Int)/\vr=Zs a n c/\n<=60*k/\vl=Zi ((Bo s.cols T (xs.take k)).2:Int)/\Hid (Fp w.heap.size w.heap.size wr (Zs a n c) (Bo s.cols T (xs.take k)).1/\n=(Bo s.cols T (xs.take k)).1.length)/\Hid (Zb w wr)/\Hid (wr.heap[w.heap.size]? = some (Zk #[Zi s.Eb,Zs (some ⟨g,0,none⟩) s.cols.length cp,Zi s.next,Zs fa L.length fc] 42))) (λ_ _ vi _=>xs.length-Ev vi)
 case atStart=>exact⟨0,none,0,0,XN _,rfl,rfl,XN _,rfl,Aa ⟨P6 _ _ _,rfl⟩,bi,br⟩
 case round=>
  obtain⟨k,a,n',c,hk,rfl,rfl,ci,rfl,HF,HB,HN⟩:=hrel
  have ch:(Bo s.cols T (xs.take k)).2<=10*1000:=by
   have:=(L0 s.cols T (xs.take k) (λy hy=>ax.out y (Yi hy))).1;have hl:(xs.take k).length<=xs.length:=by rw[XL];omega
   omega
  rcases Yc k xs.length with b8|cg
  ·obtain⟨x,ap⟩:∃x,xs[k]? = some x:=⟨_,Y8 b8⟩
   obtain⟨y,Y⟩:∃y,L[k]? = some y:=⟨_,Y8 (by omega)⟩
   have ah:y.1=x.1:=by
    have h1:(xs.map (·.1))[k]? = some x.1:=by simp[ap]
    rw[bz.out,ag.out.files,XH,Y] at h1;simpa using h1
   have b:=XE ap;have ba:=XE Y;obtain⟨⟨⟨f,J,mask⟩,l0,rows⟩,ex⟩:∃q,q=x:=⟨_,rfl⟩;obtain⟨ye,⟨ma,mn,mc⟩⟩:=y;have a3:ye=(f,J,mask):=by rw[<-ex] at ah;exact ah
   subst a3 ex;have m:=Aa (ax.out _ b);have bq:=Aa (Ph.Fz (ag.out.Cl _ ba));have N:=Bc ag.out.row HB.out
   obtain⟨fb,b1,cf,e0,e1,e2⟩:∃fb,fa=some ⟨fb,0,none⟩/\fb<wr.heap.size/\wr.cell? ⟨fb,k*3,none⟩=some (Zt f)/\wr.cell? ⟨fb,k*3+1,none⟩=some (Zi J)/\wr.cell? ⟨fb,k*3+2,none⟩=some (Zs ma mn mc):=by
    rcases N.2 with⟨_,h0⟩|⟨fb,b9,cb,ev,_,hh,_,_,_⟩
    ·omega
    injection ev with b0 _ _;subst b0;have hc:=N.cells (g:=fb) rfl;simp only[E.addr_add] at hc
    have ak:∀(i:Nat)u,(Lv ((f,J,mask),ma,mn,mc))[i]? = some u->wr.cell? ⟨fb,k*3+i,none⟩=some u:=λi u hu=>by have:=hc (k*3+i) u (Hi (k:=3) (enc:=Lv) (λ_=>rfl) Y hu);simpa using this
    exact⟨fb,rfl,E.Ac hh,ak 0 _ rfl,ak 1 _ rfl,ak 2 _ rfl⟩
   subst b1;have b5:(k:Int)<(L.length:Int):=by omega
   have a8:xs.take (k+1)=xs.take k++[((f,J,mask),l0,rows)]:=S.Cs ap;have I:=Aa (j6 s.cols T ((f,J,mask),l0,rows) (xs.take k));rw[<-a8] at I;have af:=Aa (tX m.out s.cols T);clear a8 ah N Y ba;have ad:Hid (Zb wr (wr.alloc (Zk #[Zt f,Zi J,Zs ma mn mc] 65))):=Aa (Zal);have au:=Aa (heap_alloc_new wr (Zk #[Zt f,Zi J,Zs ma mn mc] 65));generalize b7:(Bo s.cols T (xs.take k)).2=lk at *;go_wp2_with fail;refine(bw.out _ b _ (Ap HB.out ad.out)).mono ?_;rintro e w2 ab;unfold iB at ab
   rcases ab with⟨q,_⟩|⟨_,t,ht,a6⟩
   ·rw[m.out.has] at q;cases q
   have et:=B.aS (m.out.Gw.symm.trans ht);have a2:t.data.toList=Cq (l0,Ay l0 rows):=by rw[<-et];simp[E.str]
   rw[a2,tN m.out.ok m.out.i64] at a6;obtain⟨cv,gv,rfl,l,al⟩:=a6;rw[(opened m.out.ok m.out.i64).2] at l;obtain⟨ca,cc,ec,_⟩:=l.1.slice;obtain⟨ga,gc,eg,_⟩:=l.2.slice;dsimp only at ec eg;subst ec eg;have p:=Ap ad.out al;have ac:=Aa (Ap HB.out p);have av:=Aa (And.intro (HF.out.1.up p) HF.out.2);have V:=Aa ((p.block _ (E.Ac HN.out)).trans HN.out);have ar:=Aa ((al.block _ (by simp)).trans au.out);have bo:=Aa l;clear l al p et a2 ht ad au e0 e1 e2;generalize b2:(By l0).length=ai at *;generalize b3:((parts rows).map (An (By l0))).length=aj at *;clear b2 b3;have R:Hid (Zb w2 (w2.alloc (Zk #[Zs ca ai cc,Zs ga aj gc] 98))):=Aa (Zal);have aa:=(XJ w2 (Zk #[Zs ca ai cc,Zs ga aj gc] 98) _ (E.Ac ar.out)).trans ar.out;have z0:=S.cell_of_heap aa 0;have z1:=S.cell_of_heap aa 1;have z2:=S.cell_of_heap aa 2;have bh:=(XJ w2 (Zk #[Zs ca ai cc,Zs ga aj gc] 98) _ (E.Ac V.out)).trans V.out;have u1:=S.cell_of_heap bh 1;simp at z0 z1 z2 u1;clear aa bh;go_wp2_with fail;refine(bv.out _ b _ _ J ma mn mc _ (Ap ac.out R.out) (bo.out.up R.out) (bq.out.below (Ap ac.out R.out))).mono ?_;rintro e w3⟨v3,rfl,a5,a4⟩;have r:=Ap R.out a4;have aq:=Aa (Ap ac.out r);have aw:=Aa (And.intro (av.out.1.up r) av.out.2);have bs:=Aa ((r.block _ (E.Ac V.out)).trans V.out);obtain⟨ys,k1,k2,k3⟩:=a5;obtain⟨⟨zs,e1,e2,e3⟩,hn⟩:=aw.out;rw[<-hn] at e1 e2;obtain⟨ya,yc,rfl,_⟩:=Au k2;have a1:Hid (N9 s.cols T ((f,J,mask),l0,rows)=Oe f mask s.cols T (By l0) 0 (parts rows)):=Aa rfl;rw[a1.out] at af I;generalize Oe f mask s.cols T (By l0) 0 (parts rows)=qq at *;obtain⟨qs,qn⟩:=qq;simp only at k1 k2 k3;have cj:qn<=10:=af.out.1;have ck:qs.length<=60:=af.out.2;have bl:=Aa e1;have o:=Aa e2;have bm:=Aa e3;have ay:=Aa k1;have bp:=Aa k2;have az:=Aa k3;have bu:=Aa hn;have a7:=aq.out.size;clear e1 e2 e3 k1 k2 k3 hn aw a4 r z0 z1 z2 u1 a1;go_wp2_with (at_builtin;refine E.Ck rfl _ _ 47 rfl w.heap.size 53 iC ABC 3 48 underlying47 U.out.1 U.out.2.1 U.out.2.2.1 U.out.2.2.2 rfl (by decide) _ _ _ rfl o.out _ _ _ _ rfl bp.out (ABB ay.out az.out) ?f1 ?f2 ?f3 ?_)
   case f1=>unfold maxLen;omega
   case f2=>omega
   case f3=>omega
   intro v4 w4 an X;obtain⟨a',c',rfl,_⟩:=Au an;have hn:=bu.out;subst hn;have bx:=Aa (Fp.app bl.out o.out bm.out ay.out az.out X an);have bj:=Aa (aq.out.grown X a7 (λj hj=>Fu o.out hj));have bt:=Aa (Hq bs.out o.out (by decide) X);clear an X;go_wp2;refine⟨⟨k+1,a',_,c',by omega,rfl,rfl,by omega,by rw[I.out];simp,Aa ⟨?_,?_⟩,bj,bt⟩,by simp only[Ev];omega⟩
   ·rw[I.out]
    exact bx.out
   rw[I.out];simp
  have b5:¬((k:Int)<(L.length:Int)):=by omega
  have b4:k=xs.length:=by omega
  subst b4;have ae:=HF.out;rw[Ye] at ae ⊢;have bn:=Aa ae;clear ae;go_wp2;go_ret3;exact⟨HB.out,.inr ⟨bk.out,_,rfl,bn.out.1⟩⟩
theorem AHX(a:To)(c:Nat)(b:Tv)(w:Tw):Zc 33 #[Zs a 0 c,b] w λe d=>e=Zr (Zi (-1))/\d=w:=by go_enter func33,ntmps33;go_wp2_with fail;refine wp_loop_rounds 1 ?_;rw[rounds_succ];go_wp2;go_ret;exact⟨rfl,rfl⟩
theorem AEa(a:To)(c:Nat)(nm:Tb)(w:Tw):Zc 15 #[Zs a 0 c,Zt nm] w λe g=>e=Zr (Zi (-1))/\Zb w g:=by
 have f:∀(d:Fn)(first b:Array Tv)(w:Tw),(Instr.makeFunc d first b).run prog w=.ok (.func d first b) w:=λ_ _ _ _=>rfl
 go_enter func15,ntmps15;go_wp2_with fail;refine(AHX a c _ _).mono ?_;rintro e h⟨rfl,rfl⟩;go_wp2;go_ret;exact⟨rfl,Zal⟩
theorem AC9(c:Int)(Bl:Tb)(k:Int):Mz [] c Bl k=5:=rfl
theorem ACN(d:To)(f:Nat)(b:Nat)(c:Int)(Bl:Tb)(k n:Int)(t:Tb)(i j:Tv)(w:Tw)(g:w.heap[b]? = some (Zk #[Zi c,Zt Bl,Zi k,Zi n,Zt t,i,j] 94)):
 Zc 55 #[Zs d 0 f,Zp (some ⟨b,0,none⟩)] w (EPost (Mz [] c Bl k) w):=by
 rw[AC9];have h:=Aa (AEa d f Bl w);have c1:w.cell? ⟨b,1,none⟩=some (Zt Bl):=S.cell_of_heap g 1;clear g;go_enter func55,ntmps55;go_wp2_with fail;refine h.out.mono ?_;rintro e l⟨rfl,a⟩;go_wp2;go_ret;exact⟨rfl,a⟩
theorem Vz(m:To)(o:Nat):∀(T:S.CT)(v:Tv)(w:Tw),S.Gy w T v ->
 Zc 31 #[Zs m 0 o,v] w (EPost (D4 [] T) w)
 | .nil,v,w,h=>by obtain rfl:v=Zp none:=h;have M:Hid (D4 [] .nil=0):=rfl;rw[M.out];go_enter func31,ntmps31;go_wp2;go_ret;exact⟨rfl,Y9 _ _⟩
 | .node a0 o0 ⟨c,Bl,k,n,t⟩ x y,v,w,h=>by
   obtain⟨b,z,D,rfl,q,_,J,L⟩:=h;have d:Hid (∀W,Zb w W->Zc 31 #[Zs m 0 o,z] W (EPost (D4 [] x) W)):=λW G=>Vz m o x z W (J.up G)
   have g:Hid (∀W,Zb w W->Zc 31 #[Zs m 0 o,D] W (EPost (D4 [] y) W)):=λW G=>Vz m o y D W (L.up G)
   have f:=Aa (ACN m o b c Bl k n t z D w q);have c0:w.cell? ⟨b,0,none⟩=some (Zi c):=S.cell_of_heap q 0;have X:w.cell? ⟨b,5,none⟩=some z:=S.cell_of_heap q 5;have I:w.cell? ⟨b,6,none⟩=some D:=S.cell_of_heap q 6;have u:b<w.heap.size:=E.Ac q;clear q J L;unfold EPost at d g f ⊢
   by_cases i:c=9\/c=10
   ·rw[<-p9 (l:=[]) i]
    clear f;generalize D4 [] x=s at *;generalize D4 [] y=R at *
    by_cases hx:s=0
    ·subst hx
     rw[N7] at d;rw[if_pos rfl]
     by_cases hy:R=0
     ·subst hy
      rw[N7] at g ⊢
      rcases i with rfl|rfl
      all_goals
       go_enter func31,ntmps31;go_wp2_with fail;refine(d.out _ (Y9 _ _)).mono ?_;rintro e r⟨rfl,a⟩;have P:=(a.cell (p:=⟨b,6,none⟩) u).trans I;go_wp2_with fail;refine(g.out _ a).mono ?_;rintro e U⟨rfl,j⟩;go_wp2;go_ret;exact⟨rfl,Ap a j⟩
     rw[Et hy] at g ⊢
     rcases i with rfl|rfl
     all_goals
      go_enter func31,ntmps31;go_wp2_with fail;refine(d.out _ (Y9 _ _)).mono ?_;rintro e r⟨rfl,a⟩;have P:=(a.cell (p:=⟨b,6,none⟩) u).trans I;go_wp2_with fail;refine(g.out _ a).mono ?_;rintro e U⟨rfl,j⟩;go_wp2;go_ret;exact⟨rfl,Ap a j⟩
    rw[Et hx] at d;rw[if_neg hx,Et hx]
    rcases i with rfl|rfl
    all_goals
     go_enter func31,ntmps31;go_wp2_with fail;refine(d.out _ (Y9 _ _)).mono ?_;rintro e r⟨rfl,a⟩;go_wp2;go_ret;exact⟨rfl,a⟩
   by_cases h11:c=11
   ·rw[<-p11 (l:=[]) h11]
    subst h11;clear f g i;generalize D4 [] x=s at *
    by_cases hx:s=0
    ·subst hx
     rw[N7] at d ⊢;go_enter func31,ntmps31;go_wp2_with fail;refine(d.out _ (Y9 _ _)).mono ?_;rintro e r⟨rfl,a⟩;go_wp2;go_ret;exact⟨rfl,a⟩
    rw[Et hx] at d ⊢;go_enter func31,ntmps31;go_wp2_with fail;refine(d.out _ (Y9 _ _)).mono ?_;rintro e r⟨rfl,a⟩;go_wp2;go_ret;exact⟨rfl,a⟩
   rw[<-p0 (l:=[]) i h11];have V:(c==9)=false:=by rw[beq_eq_false_iff_ne];omega
   have N:(c==10)=false:=by rw[beq_eq_false_iff_ne];omega
   have O:(c==11)=false:=by rw[beq_eq_false_iff_ne];omega
   clear d g i h11;generalize Mz [] c Bl k=s at *
   by_cases hx:s=0
   ·subst hx
    rw[N7] at f ⊢;go_enter func31,ntmps31;go_wp2_with fail;refine f.out.mono ?_;rintro e r⟨rfl,a⟩;go_wp2;go_ret;exact⟨rfl,a⟩
   rw[Et hx] at f ⊢;go_enter func31,ntmps31;go_wp2_with fail;refine f.out.mono ?_;rintro e r⟨rfl,a⟩;go_wp2;go_ret;exact⟨rfl,a⟩
theorem ABl(c:To)(d:Nat)(T:S.CT)(v:Tv)(w:Tw)(h:S.Gy w T v):
 Zc 12 #[Zs c 0 d,v] w (EPost (Ex [] T) w):=by
 have H1:=Aa (S.Uh T v w h);have H2:=Aa (Vz c d T v w h);clear h;unfold EPost at H2 ⊢;cases hw:S.C9 T 24 with
 | false=>have b:Hid (Ex [] T=1):=Aa (by unfold Ex;rw[if_neg (by rw[hw];simp)]);rw[b.out];rw[hw] at H1;clear hw b;go_enter func12,ntmps12;go_wp2_with fail;refine H1.out.mono ?_;rintro e f⟨rfl,rfl⟩;go_wp2;go_ret;exact⟨rfl,Y9 _ _⟩
 | true=>
   have b:Hid (Ex [] T=D4 [] T):=Aa (by unfold Ex;rw[if_pos hw]);rw[b.out];rw[hw] at H1;clear hw b;generalize D4 [] T=g at *
   by_cases hx:g=0
   ·subst hx
    rw[N7] at H2 ⊢;go_enter func12,ntmps12;go_wp2_with fail;refine H1.out.mono ?_;rintro e f⟨rfl,rfl⟩;go_wp2_with fail;refine H2.out.mono ?_;rintro e i⟨rfl,a⟩;go_wp2;go_ret;exact⟨rfl,a⟩
   rw[Et hx] at H2 ⊢;go_enter func12,ntmps12;go_wp2_with fail;refine H1.out.mono ?_;rintro e f⟨rfl,rfl⟩;go_wp2_with fail;refine H2.out.mono ?_;rintro e i⟨rfl,a⟩;go_wp2;go_ret;exact⟨rfl,a⟩
theorem all_none(bb:Nat)(Eb next:Int)(d i:To)(f j:Nat)(T:S.CT)(v:Tv)(w:Tw)(k:S.Gy w T v):
 Zc 11 #[Zp (some ⟨bb,0,none⟩),Zg #[Zi Eb,Zs d 0 f,Zi next,Zs i 0 j],v] w (qP [] T [] w):=by
 have c:Hid (Zb w (w.alloc (Zk #[Zi Eb,Zs d 0 f,Zi next,Zs i 0 j] 42))):=Aa (Zal);have h:=Aa (heap_alloc_new w (Zk #[Zi Eb,Zs d 0 f,Zi next,Zs i 0 j] 42));have a:=Aa (ABl d f T v _ (k.up c.out));unfold qP;unfold EPost at a
 by_cases hce:Ex [] T=0
 rotate_left
 ·rw[Et hce] at a ⊢
  have g:=Aa hce;clear k;generalize Ex [] T=o at *;go_enter func11,ntmps11;go_wp2_with fail;refine a.out.mono ?_;rintro e n⟨rfl,b⟩;go_wp2;go_ret3;exact⟨Ap c.out b,.inl ⟨g.out,rfl⟩⟩
 rw[hce,N7] at a;have g:=Aa hce;clear k hce;go_enter func11,ntmps11;go_wp2_with fail;refine a.out.mono ?_;rintro e n⟨rfl,b⟩;have l:=(b.block w.heap.size (by simp)).trans h.out;have m:=S.cell_of_heap l 3;simp at m;go_wp2_with fail;refine wp_loop_rounds 1 ?_;rw[rounds_succ];go_wp2;go_ret3;exact⟨Ap c.out b,.inr ⟨g.out,_,rfl,P6 _ _ _⟩⟩
def Fc(l:List Aj)(xs:List A6):List (List V):=(Bo l .nil xs).1.map (·.2.2)
theorem dB(l:List Aj):Ex l .nil=0:=rfl
structure Xh(D:DataW Unit)(s:Ah)(xs:List A6):Prop where
 files:xs.map (·.1)=s.files
 each:∀x∈xs,Gt D x
 Iz:xs.length<=1000
 eight:s.cols.length<=8
 bare:s.cols=[]->s.files=[]
theorem oS(bb n:Nat)(D:Td)(mv:Tv)(s:Ah)(sv:Tv)(xs:List A6)(T:S.CT)(v:Tv)(w:Tw)(h:Ground w bb n D mv)(u:B.Ob w)(e:S.Lp w)(t:Dl w s sv)(a:Xh D s xs)(k:S.Gy w T v):
 Zc 11 #[Zp (some ⟨bb,0,none⟩),sv,v] w (qP s.cols T xs w):=by
 obtain⟨l,c1,f,i,L,rfl,d⟩:=t;cases hc:s.cols with
 | nil=>
   have j:=a.bare hc;have r:L=[]:=by have:=d.files;rw[j] at this;simpa using this.symm
   have x:xs=[]:=by have:=a.files;rw[j] at this;simpa using this
   subst r x;exact all_none bb s.Eb s.next l f c1 i T v w k
 | cons c0 l0=>
   have q:1<=s.cols.length:=by rw[hc];simp
   rw[<-hc]
   rcases d.cols.2 with⟨_,y⟩|⟨g,m,o,p,_⟩
   ·omega
   injection p with b _ c;subst b c;exact AFL bb n D mv s g c1 f i L xs T v w h u e d a.files a.each a.Iz a.eight q k
theorem Sc.base{B n:Nat}{rows:List (List V)}(h:Sc B w v rows)(d:n<=B):Sc n w v rows:=by obtain⟨e,a,b,c⟩:=h;exact⟨e,a,E.Ai b d,c⟩
theorem Sc.snoc{B:Nat}{v v':Tv}{rows:List (List V)}{x:Tv}(g:X.length=rows.length)(i:w.ownsRow B 51 1 v rows.length X)(l:∀(j:Nat)x r,X[j]? = some x->rows[j]? = some r->w.ownsRow 0 56 3 x r.length (E.A1 r))(s:w.ownsRow 0 56 3 x r.length (E.A1 r))(o:w.grownBy W v.ownBlock)(p:W.ownsRow B 51 1 v' (rows.length+1) (X++[x])):Sc B W v' (rows++[r]):=by
 have c:∀{y:Tv}{n:Nat}{h:List Tv},w.ownsRow 0 56 3 y n h->W.ownsRow 0 56 3 y n h:=λa=>Az a o λk c e=>a8 i a (by decide) k e c
 refine⟨X++[x],by simp[g],?_,λj y q a b=>?_⟩
 ·simpa using p
 rcases Yc j X.length with f|d
 ·rw[XD f] at a
  rw[XD (by omega)] at b;exact c (l j y q a b)
 rw[XC d] at a;rw[XC (by omega)] at b;rw[g] at a;cases hj:j-rows.length with
 | zero=>rw[hj] at a b;simp at a b;subst a b;exact c s
 | succ m=>rw[hj] at a;simp at a
theorem ABH(bb n:Nat)(D:Td)(mv:Tv)(H:List (Dn×Ah))(Eb:Int)(d:Nat)(xs:List A6)(w:Tw)(h:Ground w bb n D mv)(he:B.Ob w)(ab:S.Lp w)(hl:U6 D H)(hp:La H)(O5:H.length<=40)(hk:d<=H.length)(hv:(Eb<0/\d=H.length)\/Eb=d)(hT:Xh D (Ae H d) xs):
 Zc 18 #[Zp (some ⟨bb,0,none⟩),Zi Eb] w λe w'=>∃v',e=Zr (Zu #[v',Zo true])/\Sc w.heap.size w' v' (Fc (Ae H d).cols xs)/\Zb w w':=by
 have O:=Aa (Ua bb n D mv H Eb d w h hl hp O5 hk hv);have o:=Aa (λ(sv:Tv)W(hW:Zb w W)(hS:Dl W (Ae H d) sv)=>oS bb n D mv (Ae H d) sv xs .nil (Zp none) W (h.up hW) (he.below hW) (ab.below hW) hS hT rfl);have P:=Aa (L0 (Ae H d).cols .nil xs hT.each);have a0:=hT.Iz;clear h he ab hl hp hT;unfold qP at o;simp only[dB] at o;unfold Fc;generalize (Bo (Ae H d).cols .nil xs)=AR at *;obtain⟨rs,nr⟩:=AR;generalize Ae H d=sn at *;go_enter func18,ntmps18;go_wp2_with fail;refine O.out.mono ?_;rintro e w1⟨a1,n1,c1,x2,a2,n2,c2,rfl,G,U⟩;unfold K4 at G ⊢;have T:=Aa G;have t:=Aa U;clear G U;have m:Hid (Zb w1 (w1.alloc (Zk #[Zi (d:Int),Zs a1 n1 c1,Zi x2,Zs a2 n2 c2] 42))):=Aa (Zal);go_wp2_with fail;refine(o.out _ _ (Ap t.out m.out) (T.out.up m.out)).mono ?_;rintro e w2⟨V,⟨q,_⟩|⟨_,v2,rfl,ar⟩⟩
 ·exact absurd rfl q
 obtain⟨zs,e1,e2,e3⟩:=ar;obtain⟨fa,fc,rfl,_⟩:=Au e2;have aj:=Aa e1;have ak:=Aa e2;have al:=Aa e3;have L:=Aa (Ap (Ap t.out m.out) V);have a5:rs.length<=60*1000:=by have:=P.out.2;omega
 obtain⟨iC,af,ag,ah,ai⟩:=info_parts eI;have p:=Zy af ag ah ai;clear e1 e2 e3 V T t m o O P af ag ah ai;go_wp2_with fail
 go_loopw [10,11] (λvo vi wr=>∃(k:Nat)(a:To)(c:Nat),k<=rs.length/\vi=Zi (k:Int)/\vo=Zs a k c/\Hid (Sc w2.heap.size wr (Zs a k c) ((rs.take k).map (·.2.2)))/\Hid (Zb w2 wr)) (λ_ vi _=>rs.length-Ev vi)
 case atStart=>exact⟨0,none,0,XN _,rfl,rfl,Aa (ABG _ _),Aa (Y9 _ _)⟩
 case round=>
  obtain⟨k,a,c,hk,rfl,rfl,HO,J⟩:=hrel
  rcases Yc k rs.length with ax|a4
  ·obtain⟨r,hr⟩:∃r,rs[k]? = some r:=⟨_,Y8 ax⟩
   obtain⟨z,hz⟩:∃z,zs[k]? = some z:=⟨_,Y8 (by have:=aj.out;omega)⟩;obtain⟨_,_,s⟩:=al.out k z r hz hr;have I:=E.Ai s (XN _);clear s;obtain⟨zp,zi,zv⟩:=z;obtain⟨xa,xc,ez,_⟩:=Au I;simp only at ez;subst ez;have l:=E.Ad ak.out J.out
   obtain⟨fb,au,a3,f2⟩:∃fb,fa=some ⟨fb,0,none⟩/\fb<wr.heap.size/\wr.cell? ⟨fb,k*3+2,none⟩=some (Zs xa r.2.2.length xc):=by
    rcases l.2 with⟨_,h0⟩|⟨fb,ay,az,ev,_,hh,_,_,_⟩
    ·omega
    injection ev with aq _ _;subst aq;have hc:=l.cells (g:=fb) rfl;simp only[E.addr_add] at hc;have:=hc (k*3+2) _ (Hi (k:=3) (enc:=Og) (λ_=>rfl) hz (i:=2) rfl);exact⟨fb,rfl,E.Ac hh,by simpa using this⟩
   subst au;have aw:(k:Int)<(rs.length:Int):=by omega
   have ae:rs.take (k+1)=rs.take k++[r]:=S.Cs hr;have ap:Hid ((rs.take (k+1)).map (·.2.2)=(rs.take k).map (·.2.2)++[r.2.2]):=Aa (by rw[ae];simp);have aa:((rs.take k).map (·.2.2)).length=k:=by rw[XU,XL];omega
   have HX:=Aa (E.Ad I J.out);obtain⟨vs,o1,o2,o3⟩:=HO.out;have am:=Aa o1;have y:=Aa o2;have an:=Aa o3;have N:=Aa aa;have b:Hid (Zb wr (wr.alloc (Zk #[Zs xa r.2.2.length xc] 51))):=Aa (Zal);have ad:=J.out.size;clear ae aa o1 o2 o3 I l
   go_wp2_with (first
    | (at_builtin;refine wpList_append_own _ rfl _ _ 35 rfl w2.heap.size 51 iC (.slice none 0 0) 1 24 underlying35 p.out.1 p.out.2.1 p.out.2.2.1 p.out.2.2.2 rfl (by decide) (.slice a k c) k vs rfl (by have q:=E.Ad y.out b.out;rw[N.out] at q;exact q) ⟨wr.heap.size,0,none⟩ 1 1 [.slice xa r.2.2.length xc] rfl rfl (λj u hj=>XO (heap_alloc_new _ _) j u hj) (by intro u hu;simp at hu;subst hu;rfl) (by unfold maxLen;omega) (by omega) (XM ad b.out.size) ?_
       intro v5 w5 f Y _;have R:=Aa f;have M:=Aa Y;clear f Y))
   obtain⟨a',c',rfl,_⟩:=Au R.out;have X:=Ap J.out b.out;refine⟨⟨k+1,a',c',by omega,by simp,rfl,Aa ?_,Aa ?_⟩,by simp only[Ev];omega⟩
   ·rw[ap.out]
    refine Sc.snoc am.out (E.Ad y.out b.out) (λj x q hx hq=>E.Ad (an.out j x q hx hq) b.out) (E.Ad HX.out b.out) M.out ?_;rw[N.out];exact R.out
   exact X.grown M.out X.size (λj hj=>Fu y.out hj)
  have aw:¬((k:Int)<(rs.length:Int)):=by omega
  have av:k=rs.length:=by omega
  subst av;have v:=HO.out;rw[Ye] at v;have ao:=Aa v;have ac:=L.out.size;clear v;go_wp2;go_ret2;exact⟨_,rfl,ao.out.base ac,Ap L.out J.out⟩
def Nz(v:V):Prop:=v.1=0\/v.1=1\/v.1=2
theorem AD4(D:Gr L p)(v:Kl L)(u:∀c∈l,Nz (bP c))(z:r∈p){s:Tb}(G:Rf l s):S.AJG (I5 L p l s) (Uk l (l.map (pick L r)) s):=by
 obtain⟨j,h,g⟩:∃j:Nat,j<l.length/\Ce l s=j:=by
  rcases Gz l s with⟨g,_⟩|⟨j,h,g,_⟩
  ·unfold Rf at G;omega
  exact⟨j,h,g⟩
 unfold I5 Uk;rw[g,if_neg (by omega),XF];have f:=Y8 h
 have e:((l.map (pick L r))[j]?.getD zV)=pick L r (l[j]?.getD zC):=by rw[XH,f];rfl
 rw[e];have i:(l[j]?.getD zC)∈l:=by rw[f];exact Yh h
 generalize (l[j]?.getD zC)=c at *
 have k:(∀x∈p.map (λr=>pick L r c),Nz x)/\∃o,∀x∈p.map (λr=>pick L r c),x.1=0\/x.1=o:=by
  by_cases hp:pos L c.1<L.length
  ·have b:∀x∈p.map (λr=>pick L r c),x.1=0\/x.1=kd (L[pos L c.1]?.getD zC):=λx a=>by
    obtain⟨q,n,rfl⟩:=List.mem_map.1 a;unfold pick;rw[if_pos hp];exact AEu ((D q n).2 _ hp).1
   have w:=v _ hp;refine⟨λx a=>?_,_,b⟩;have:=b x a;unfold Nz;omega
  have d:∀x∈p.map (λr=>pick L r c),x=bP c:=λx a=>by obtain⟨q,n,rfl⟩:=List.mem_map.1 a;unfold pick;rw[if_neg hp]
  refine⟨λx a=>by rw[d x a];exact u c i,(bP c).1,λx a=>.inr (by rw[d x a])⟩
 obtain⟨t,o,m⟩:=k;refine⟨p.map (λr=>pick L r c),S.AHR _ (λx a=>?_),λx a y hy hx0 hy0=>?_,List.mem_map.2 ⟨r,z,rfl⟩⟩
 ·have:=t x a;unfold Nz at this;omega
 have:=m x a;have:=m y hy;omega
theorem AB6(i:Gr L p)(d:Kl L)(b:∀c∈l,Nz (bP c))(e:r∈p)(g:S.okT T)(a:S.Kg (Rf l) T)(f:S.Bp (I5 L p l) false T=false):¬evR l (l.map (pick L r)) T=1:=λh=>by
 have:=(S.sound (Rf l) (I5 L p l) (Uk l (l.map (pick L r))) (λs j=>AD4 i d b e j) T g a).1 h;rw[f] at this;cases this
theorem AAs(l:List Aj)(r:List V):evR l r .nil=1:=rfl
theorem ABU(gs:Tb->S.St):S.Bp gs false .nil=true:=rfl
def Q9(l:List Aj)(T:S.CT)(f:Px):Bool:=decide (evR l f.2.2 T=1)
theorem lE(path:Tb)(mask:List Int)(l:List Aj)(T:S.CT):∀(rs:List (List V))(p:Int),Jw path mask l T p rs=(Jw path mask l .nil p rs).filter (Q9 l T)
 | [],_=>rfl
 | r :: rs,p=>by
   have a:=lE path mask l T rs (p+1);simp only[Jw,AAs,and_true]
   by_cases hm:(mask.any λy=>p==y)=false
   ·rw[if_pos hm]
    by_cases he:evR l r T=1
    ·rw[if_pos ⟨hm,he⟩,XQ (by simp[Q9,he]),a]
    rw[if_neg (λh=>he h.2),XR (by simp[Q9,he]),a]
   rw[if_neg hm,if_neg (λh=>hm h.1),a]
theorem AAv(path:Tb)(mask:List Int)(l:List Aj)(T:S.CT):∀(rs:List (List V))(p:Int),(∀r∈rs,¬evR l r T=1)->Jw path mask l T p rs=[]
 | [],_,_=>rfl
 | r :: rs,p,h=>by simp only[Jw];rw[if_neg (λq=>h r (Yf ..) q.2)];exact AAv path mask l T rs (p+1) λq a=>h q (Yg _ a)
theorem lJ(path:Tb)(mask:List Int)(l:List Aj)(T:S.CT)(a:List Aj)(i:Kl a)(g:∀c∈l,Nz (bP c))(j:S.okT T)(e:S.Kg (Rf l) T):∀(b:List (List (List V)))(f:Int),(∀p∈b,Gr a p)->(Oe path mask l T a f b).1=(Oe path mask l .nil a f b).1.filter (Q9 l T)/\(Oe path mask l T a f b).2<=(Oe path mask l .nil a f b).2
 | [],_,_=>⟨rfl,XA _⟩
 | p :: b,f,h=>by
   obtain⟨n,o⟩:=lJ path mask l T a i g j e b (f+p.length) λq d=>h q (Yg _ d)
   simp only[Oe,ABU,if_true];rw[XW,<-n,<-lE];cases hm:S.Bp (I5 a p l) false T with
   | true=>exact⟨by simp,by simp only[if_true];omega⟩
   | false=>
     have m:=AAv path mask l T (Cw a l p) f λr k=>by obtain⟨q,d,rfl⟩:=List.mem_map.1 k;exact AB6 (h p (Yf ..)) i g d j e hm
     rw[m];exact⟨by simp,by simp;omega⟩
theorem all_filter{D:Td}(l:List Aj)(T:S.CT)(b:∀c∈l,Nz (bP c))(d:S.okT T)(a:Ex l T=0):∀xs:List A6,(∀x∈xs,Gt D x)->(Bo l T xs).1=(Bo l .nil xs).1.filter (Q9 l T)/\(Bo l T xs).2<=(Bo l .nil xs).2
 | [],_=>⟨rfl,XA _⟩
 | x :: xs,h=>by
   obtain⟨e,g⟩:=all_filter l T b d a xs λy hy=>h y (Yg _ hy)
   have O:=(opened (h x (Yf ..)).ok (h x (Yf ..)).i64).1;obtain⟨f,i⟩:=lJ x.1.1 x.1.2.2 l T (By x.2.1) O.kinds b d (gP a).1 (parts x.2.2) 0 λp hp=>(O.each p hp).1
   simp only[Bo,N9,XW,<-e,<-f];exact⟨trivial,by omega⟩
theorem fA(path:Tb)(mask:List Int)(l:List Aj)(T:S.CT):∀(a b:List (List V))(p:Int),Jw path mask l T p (a++b)=Jw path mask l T p a++Jw path mask l T (p+a.length) b
 | [],b,p=>by simp[Jw]
 | r :: a,b,p=>by
   have c:=fA path mask l T a b (p+1);have e:p+1+(a.length:Int)=p+((r :: a).length:Int):=by simp only[XB];omega
   rw[e] at c;simp only[XK,Jw,c];split <;> simp
theorem dP(c l:List Aj)(a b:List (List V)):Cw c l (a++b)=Cw c l a++Cw c l b:=by simp[Cw]
theorem J2(b l:List Aj)(a:List (List V)):(Cw b l a).length=a.length:=by simp[Cw]
theorem vB(path:Tb)(mask:List Int)(l b:List Aj):∀(a:List (List (List V)))(f:Int),Oe path mask l .nil b f a=(Jw path mask l .nil f (Cw b l a.flatten),a.length)
 | [],_=>rfl
 | p :: a,f=>by have c:=vB path mask l b a (f+p.length);simp only[Oe,ABU,if_true,c,XY,dP,fA,J2,XB]
def E4(l:List Aj)(x:A6):List Px:=Jw x.1.1 x.1.2.2 l .nil 0 (Cw (By x.2.1) l x.2.2)
theorem zN(l:List Aj)(x:A6):(N9 l .nil x).1=E4 l x:=by unfold N9 E4;rw[vB,V2]
theorem H9(l:List Aj):∀xs:List A6,(Bo l .nil xs).1=xs.flatMap (E4 l)
 | []=>rfl
 | x :: xs=>by simp only[Bo,zN,H9 l xs,XZ]
theorem sW(l:List Aj)(xs:List A6):Fc l xs=(xs.flatMap (E4 l)).map (·.2.2):=by unfold Fc;rw[H9]
theorem AHe(path:Tb)(mask a m:List Int)(l:List Aj)(c:∀y,y∈a↔y∈mask\/y∈m):∀(rs:List (List V))(p:Int),Jw path a l .nil p rs=(Jw path mask l .nil p rs).filter λz=>!(m.any λy=>z.2.1==y)
 | [],_=>rfl
 | r :: rs,p=>by
   have g:=AHe path mask a m l c rs (p+1)
   have b:∀q:List Int,((q.any λy=>p==y)=false)↔¬p∈q:=λq=>by
    constructor
    ·intro h d
     have:=List.any_eq_false.mp h p d;simp at this
    intro h;rw[XP];intro y f e;simp at e;subst e;exact h f
   simp only[Jw,AAs,and_true,b,g]
   by_cases h1:p∈mask
   ·rw[if_neg (λh=>h ((c p).mpr (.inl h1))),if_neg (λh=>h h1)]
   rw[if_pos h1]
   by_cases h2:p∈m
   ·rw[if_neg (λh=>h ((c p).mpr (.inr h2))),XR (by
     have:¬((m.any λy=>p==y)=false):=λh=>(b m).mp h h2
     simpa using this)]
   rw[if_pos (λh=>by rcases (c p).mp h with h|h <;> contradiction),XQ (by have:=(b m).mpr h2;simpa using this)]
theorem Pv(path:Tb)(mask:List Int)(l:List Aj)(T:S.CT):∀(rs:List (List V))(p:Int),(∀z∈Jw path mask l T p rs,z.1=path/\p<=z.2.1/\z.2.1<p+rs.length/\¬z.2.1∈mask)/\(Jw path mask l T p rs).Pairwise λa b=>a.2.1<b.2.1
 | [],_=>⟨λz e=>(by cases e),List.Pairwise.nil⟩
 | r :: rs,p=>by
   obtain⟨g,i⟩:=Pv path mask l T rs (p+1)
   have f:∀z∈Jw path mask l T (p+1) rs,z.1=path/\p<=z.2.1/\z.2.1<p+((r :: rs).length:Int)/\¬z.2.1∈mask:=λz e=>by obtain⟨a,b,c,d⟩:=g z e;simp only[XB];exact⟨a,by omega,by omega,d⟩
   simp only[Jw];split
   ·next h=>
    refine⟨λz e=>?_,List.Pairwise.cons (λz e=>?_) i⟩
    ·rcases List.mem_cons.1 e with rfl|e
     ·refine⟨rfl,Int.le_refl _,by simp only[XB];omega,λj=>?_⟩
      have:=List.any_eq_false.mp h.1 p j;simp at this
     exact f z e
    have:=(g z e).2.1;show p<z.2.1;omega
   exact⟨f,i⟩
def Ct(l:List Aj)(T:S.CT)(x:A6):List Int:=((E4 l x).filter (Q9 l T)).map (·.2.1)
def pO(l:List Aj)(T:S.CT)(x:A6):Option A6 :=
 if Ct l T x=[] then some x
 else if (Ct l T x).length=(E4 l x).length then none
 else some (N6 x.1 (Ct l T x),x.2)
theorem mD{a b:List Vc}{e:Vc}(j:((a++e :: b).map (·.1)).Nodup):Bt (a++e :: b) e.1=a.length:=by
 rcases J8 (a++e :: b) e.1 with⟨_,h⟩|⟨k,g,h,f,l⟩
 ·have:=h a.length (by simp)
  rw[getElem!_pos _ _ (by simp)] at this;simp at this
 rw[h];rw[getElem!_pos _ k g] at f;have d:k<((a++e :: b).map (·.1)).length:=by simpa using g
 have c:a.length<((a++e :: b).map (·.1)).length:=by simp
 have i:=List.pairwise_iff_getElem.mp j
 rcases X2 k a.length with h|h|h
 ·exact absurd (by simp only[XS];rw[f];simp) (i k a.length d c h)
 ·omega
 exact absurd (by simp only[XS];rw[f];simp) (i a.length k c d h)
def Vm(l:List Aj)(T:S.CT)(x:A6):List A5 :=
 if Ct l T x=[] then []
 else if (Ct l T x).length=(E4 l x).length then [(2,x.1.1,0,[],[],0)]
 else [(3,x.1.1,0,Ct l T x,[],0)]
theorem O6(l:List Aj)(T:S.CT)(x:A6)(g:x.1.2.1=x.2.2.length):Ma (-1) x.1.2.1 (Ct l T x)/\aK (Ct l T x) x.1.2.2=false:=by
 obtain⟨a,d⟩:=Pv x.1.1 x.1.2.2 l .nil (Cw (By x.2.1) l x.2.2) 0;rw[J2] at a;refine⟨⟨?_,λy b=>?_⟩,?_⟩
 ·unfold Ct
  rw[List.pairwise_map];exact d.filter _
 ·obtain⟨z,c,rfl⟩:=List.mem_map.1 b
  have:=a z (List.mem_filter.1 c).1;omega
 unfold aK;rw[XP];intro y b e;obtain⟨z,c,rfl⟩:=List.mem_map.1 b;have:=(a z (List.mem_filter.1 c).1).2.2.2;rw[List.any_eq_true] at e;obtain⟨u,f,e⟩:=e;simp at e;subst e;exact this f
theorem ADz{rows:Int}(h:Ma (-1) rows m)(a:m≠[]):Dj m rows=true:=by
 unfold Dj;rw[(Mr rows m (-1)).mpr h];cases m with
 | nil=>exact absurd rfl a
 | cons=>simp
section
variable {nb : ByteArray → Bool} {cb : ByteArray → Bool} {fb : Int → Int → Int → ByteArray → Bool}
theorem Sp(l:List Aj)(T:S.CT):∀(xs:List A6)(done tail:List Vc)(s:Ah),s.files=done++xs.map (·.1)++tail->(s.files.map (·.1)).Nodup->(∀x∈xs,x.1.2.1=x.2.2.length) ->
 Il nb cb fb s (xs.flatMap (Vm l T)) ⟨s.Eb,s.cols,s.next,done++(xs.filterMap (pO l T)).map (·.1)++tail⟩
 | [],done,tail,s,hf,_,_=>by simp only[List.flatMap_nil,Il,List.filterMap_nil];rw[<-hf]
 | x :: xs,done,tail,s,hf,hn,hr=>by
   have a:s.files=done++x.1 :: (xs.map (·.1)++tail):=by rw[hf];simp
   have f:=hn;rw[a] at f;have i:Bt s.files x.1.1=done.length:=by rw[a];exact mD f
   have b:s.files[done.length]! = x.1:=by rw[a,getElem!_pos _ _ (by simp)];simp
   have m:=hr x (Yf ..);have c:∀y∈xs,y.1.2.1=y.2.2.length:=λy n=>hr y (Yg _ n)
   obtain⟨j,k⟩:=O6 l T x m;rw[XZ]
   by_cases c1:Ct l T x=[]
   ·have d:Vm l T x=[]:=by unfold Vm;rw[if_pos c1]
    have e:pO l T x=some x:=by unfold pO;rw[if_pos c1]
    have g:=Sp l T xs (done++[x.1]) tail s (by rw[hf];simp) hn c;rw[d,YO,e];simpa using g
   by_cases c2:(Ct l T x).length=(E4 l x).length
   ·have d:Vm l T x=[(2,x.1.1,0,[],[],0)]:=by unfold Vm;rw[if_neg c1,if_pos c2]
    have e:pO l T x=none:=by unfold pO;rw[if_neg c1,if_pos c2]
    have h:s.files.eraseIdx (Bt s.files x.1.1).toNat=done++xs.map (·.1)++tail:=by rw[i,XF,a,List.eraseIdx_append_of_length_le (XA _)];simp
    have g:=Sp l T xs done tail ⟨s.Eb,s.cols,s.next,done++xs.map (·.1)++tail⟩ rfl (by refine List.Sublist.nodup ?_ hn;rw[<-h];exact(YL _ _).map _) c
    rw[d,YO,e];refine⟨_,.inr (.inl ⟨rfl,by show 0<=Bt s.files x.1.1;omega,rfl⟩),?_⟩;unfold tI;simp only;rw[h];exact g
   have d:Vm l T x=[(3,x.1.1,0,Ct l T x,[],0)]:=by unfold Vm;rw[if_neg c1,if_neg c2]
   have e:pO l T x=some (N6 x.1 (Ct l T x),x.2):=by unfold pO;rw[if_neg c1,if_neg c2]
   have h:s.files.set (Bt s.files x.1.1).toNat (N6 s.files[(Bt s.files x.1.1).toNat]! (Ct l T x))=(done++[N6 x.1 (Ct l T x)])++xs.map (·.1)++tail:=by rw[i,XF,b,a,YB _ _ (XA _)];simp
   have g:=Sp l T xs (done++[N6 x.1 (Ct l T x)]) tail ⟨s.Eb,s.cols,s.next,(done++[N6 x.1 (Ct l T x)])++xs.map (·.1)++tail⟩ rfl (by rw[a] at hn;simpa[N6] using hn) c
   rw[d,YO,e];refine⟨_,.inr (.inr (.inl ⟨rfl,⟨by show 0<=Bt s.files x.1.1;omega,?_,?_⟩,rfl⟩)),?_⟩
   ·show Dj (Ct l T x) (s.files[(Bt s.files x.1.1).toNat]!).2.1=true
    rw[i,XF,b];exact ADz j c1
   ·show aK (Ct l T x) (s.files[(Bt s.files x.1.1).toNat]!).2.2=false
    rw[i,XF,b];exact k
   unfold gJ;simp only;rw[h];simpa using g
theorem qO:∀(es tail:List Vc)(s:Ah),s.files=es++tail->(s.files.map (·.1)).Nodup->Il nb cb fb s (es.map λe=>(2,e.1,0,[],[],0)) ⟨s.Eb,s.cols,s.next,tail⟩
 | [],tail,s,hf,_=>by simp only[List.map_nil,Il];simp at hf;rw[<-hf]
 | e :: es,tail,s,hf,hn=>by
   have d:Bt s.files e.1=0:=by have:=mD (a:=[]) (b:=es++tail) (e:=e) (by rw[hf] at hn;simpa using hn);rw[hf];simpa using this
   have c:s.files.eraseIdx (Bt s.files e.1).toNat=es++tail:=by rw[d,hf];simp
   have f:=qO es tail ⟨s.Eb,s.cols,s.next,es++tail⟩ rfl (by rw[hf] at hn;simpa using (List.nodup_cons.mp (by simpa using hn)).2);refine⟨_,.inr (.inl ⟨rfl,by show 0<=Bt s.files e.1;omega,rfl⟩),?_⟩;unfold tI;simp only;rw[c];exact f
end
def mst(c:Aj):Bool:=c.2.2.2.1
theorem jL:∀{l:List Aj}{r:List V},r.length=l.length->(Ia l r=0↔∀i,i<l.length->Lx (l[i]?.getD zC) (r[i]?.getD zV)=true/\(mst (l[i]?.getD zC)=true->(r[i]?.getD zV).1≠0))
 | [],[],_=>by simp[Ia]
 | [],_ :: _,h=>by simp at h
 | _ :: _,[],h=>by simp at h
 | c :: l,v :: r,h=>by
   have g:=jL (l:=l) (r:=r) (by simpa using h);unfold Ia;constructor
   ·intro a i b
    by_cases h1:Lx c v=false
    ·rw[if_pos h1] at a;exact absurd a (by decide)
    rw[if_neg h1] at a
    by_cases h2:(c.2.2.2.1 && v.1==0)=true
    ·rw[if_pos h2] at a;exact absurd a (by decide)
    rw[if_neg h2] at a;cases i with
    | zero=>
      refine⟨by simpa using h1,λj e=>h2 ?_⟩;simp at e;have d:c.2.2.2.1=true:=by simpa[mst] using j
      rw[d,e];rfl
    | succ i=>simpa using g.mp a i (by simpa using b)
   intro a;have f:=a 0 (by simp);simp at f
   rw[if_neg (by simp[f.1]),if_neg (λe=>by simp at e;exact f.2 e.1 e.2)]
   exact g.mpr λi b=>by simpa using a (i+1) (by simpa using b)
theorem O7:Hu l r=0↔r.length=l.length/\∀i,i<l.length->Lx (l[i]?.getD zC) (r[i]?.getD zV)=true/\(mst (l[i]?.getD zC)=true->(r[i]?.getD zV).1≠0):=by
 unfold Hu
 by_cases h:r.length=l.length
 ·rw[if_pos h,jL h];simp[h]
 rw[if_neg h];simp[h]
structure Lk(fl l:List Aj):Prop where
 same:∀c∈l,∀d∈fl,d.1=c.1->kd d=kd c/\mst d=mst c
 late:∀c∈l,(∀d∈fl,d.1≠c.1)->mst c=true->(bP c).1≠0
theorem ADh(l:List Aj):ids (By l)=ids l:=by simp[ids,By,qN]
theorem eV(a:List Aj)(r:List V)(c:Aj):pick (By a) r c=pick a r c:=by unfold pick pos;rw[ADh];simp[By]
theorem pos_at{id:Int}(h:pos l id<l.length):(l[pos l id]?.getD zC).1=id/\(l[pos l id]?.getD zC)∈l:=by
 rw[Y8 h];refine⟨?_,Yh h⟩;unfold pos at h ⊢;have b:(ids l).idxOf id<(ids l).length:=by simpa[ids] using h
 have a:(ids l)[(ids l).idxOf id]=id:=List.getElem_idxOf b;simp only[ids,XS] at a;exact a
theorem AIo{id:Int}(h:¬pos l id<l.length):∀d∈l,d.1≠id:=λd a e=>h (by
 unfold pos;have:id∈ids l:=List.mem_map.2 ⟨d,a,e⟩;have:=List.idxOf_lt_length_of_mem this;simpa[ids] using this)
theorem kA(g:Lk L l)(m:Hu L r=0)(k:∀c∈l,Lx c (bP c)=true):Hu l (l.map (pick (By L) r))=0:=by
 obtain⟨p,j⟩:=O7.mp m;rw[O7];refine⟨by simp,λi f=>?_⟩;have h:=Y8 f;have b:(l[i]?.getD zC)∈l:=by rw[h];exact Yh f
 have e:((l.map (pick (By L) r))[i]?.getD zV)=pick L r (l[i]?.getD zC):=by rw[XH,h];exact eV L r _
 rw[e];generalize (l[i]?.getD zC)=c at *;unfold pick
 by_cases hp:pos L c.1<L.length
 ·rw[if_pos hp]
  obtain⟨n,o⟩:=pos_at hp;obtain⟨s1,s2⟩:=g.same c b _ o n;obtain⟨a,d⟩:=j _ hp;unfold Lx at a ⊢;rw[s1] at a;rw[s2] at d;exact⟨a,d⟩
 rw[if_neg hp];exact⟨k c b,g.late c b (AIo hp)⟩
theorem Lk.self(g:l.Pairwise λa b=>a.1≠b.1):Lk l l:=by
 refine⟨λc f d n e=>?_,λc f h=>absurd rfl (h c f)⟩
 have:d=c:=by
  obtain⟨i,k,rfl⟩:=List.mem_iff_getElem.mp f;obtain⟨j,m,rfl⟩:=List.mem_iff_getElem.mp n;rw[Yv] at g
  rcases X2 i j with h|h|h
  ·exact absurd e.symm (g i j k m h)
  ·subst h;rfl
  exact absurd e (g j i m k h)
 rw[this];exact⟨rfl,rfl⟩
theorem Lk.sub{L l l':List Aj}(h:Lk L l)(b:∀c∈l',c∈l):Lk L l':=⟨λc a=>h.same c (b c a),λc a=>h.late c (b c a)⟩
theorem Lk.more{c:Aj}(h:Lk L l)(g:∀d∈L,d.1≠c.1)(f:mst c=true->(bP c).1≠0):Lk L (l++[c]):=by
 refine⟨λx a d b e=>?_,λx a hz=>?_⟩
 ·rcases List.mem_append.1 a with a|a
  ·exact h.same x a d b e
  simp at a;subst a;exact absurd e (g d b)
 rcases List.mem_append.1 a with a|a
 ·exact h.late x a hz
 simp at a;subst a;exact f
theorem Lk.named{L l l':List Aj}(h:Lk L l)(i:∀c∈l',∃d∈l,d.1=c.1/\d.2.2=c.2.2):Lk L l':=by
 refine⟨λc f x j e=>?_,λc f hz=>?_⟩
 ·obtain⟨d,g,a,b⟩:=i c f
  have:=h.same d g x j (by rw[e,a]);unfold kd mst at this ⊢;rw[b] at this;exact this
 obtain⟨d,g,a,b⟩:=i c f;have:=h.late d g (λy k=>by rw[a];exact hz y k);unfold bP mst at this ⊢;rw[b] at this;exact this
section
variable {nb : ByteArray → Bool} {cb : ByteArray → Bool} {fb : Int → Int → Int → ByteArray → Bool}
end
structure C7(D:DataW Unit)(s:Ah)(xs:List A6):Prop where
 Lz:Xh D s xs
 link:∀x∈xs,Lk x.2.1 s.cols
 below:∀x∈xs,∀d∈x.2.1,d.1<s.next
 rows:∀x∈xs,x.1.2.1=x.2.2.length
def R6(D:DataW Unit)(H:List (Dn×Ah)):Prop:=∀k,k<=H.length->∃xs,C7 D (Ae H k) xs
theorem Gt.put{D:Td}{x:A6}(h:Gt D x){s:Tb}(b:Maps.has D (B.lit s)=false)(v:Td):Gt (D.put (B.lit s) v) x:=by
 have a:B.lit (Eh x.1.1)≠B.lit s:=λe=>by have:=h.has;rw[e,b] at this;cases this
 exact⟨by rw[Maps.has_put_other a];exact h.has,by rw[Maps.atKey_put_other a];exact h.Gw,h.ok,h.i64,h.name,h.mask⟩
theorem Xh.put{D:Td}{s:Ah}{xs:List A6}(h:Xh D s xs){t:Tb}(a:Maps.has D (B.lit t)=false)(v:Td):Xh (D.put (B.lit t) v) s xs :=
 ⟨h.files,λx b=>(h.each x b).put a v,h.Iz,h.eight,h.bare⟩
theorem C7.put{D:Td}{s:Ah}{xs:List A6}(h:C7 D s xs){t:Tb}(a:Maps.has D (B.lit t)=false)(v:Td):C7 (D.put (B.lit t) v) s xs :=
 ⟨h.Lz.put a v,h.link,h.below,h.rows⟩
theorem R6.put{D:Td}{H:List (Dn×Ah)}(h:R6 D H){s:Tb}(b:Maps.has D (B.lit s)=false)(v:Td):R6 (D.put (B.lit s) v) H:=λk a=>by
 obtain⟨xs,c⟩:=h k a;exact⟨xs,c.put b v⟩
theorem tG(p:Tb)(i:Nat):Eh p≠Ek i:=λe=>by
 have h:=congrArg (λb:Tb=>b.data.toList[0]?) e;simp[Eh,Ek,AAe] at h
theorem ACQ(h:U6 D H)(p:Tb)(v:Td):U6 (D.put (B.lit (Eh p)) v) H:=by
 refine⟨h.1.put _ _,λi b=>?_⟩;have a:B.lit (Ek (i+1))≠B.lit (Eh p):=λe=>tG p (i+1) (B.Jr e).symm
 rw[Maps.has_put_other a,Maps.atKey_put_other a];exact h.2 i b
theorem xA{x:Dn×Ah}{k:Nat}(a:k<=H.length):Ae (H++[x]) k=Ae H k:=by unfold Ae;rw[Yx a]
theorem AAM{x:Dn×Ah}:Ae (H++[x]) (H.length+1)=x.2:=by
 have:Ae (H++[x]) (H++[x]).length=x.2:=by rw[bR,Re]
 simpa using this
theorem R6.snoc(h:R6 D H){c:Dn}{t:Ah}{b:List A6}(f:C7 D t b):R6 D (H++[(c,t)]):=λk d=>by
 rcases Yc H.length k with a|a
 ·have e:k=H.length+1:=by simp at d;omega
  subst e;rw[AAM];exact⟨b,f⟩
 rw[xA a];exact h k a
theorem R0(h:Ma (-1) n m)(a:n<=60):m.length<=60:=by have:=fO n ((Mr n m (-1)).mpr h);omega
theorem C7.go{xs:List A6}(h:C7 D s xs)(g:Good Bv Cm s)(T:S.CT)(Eb:Int):C7 D ⟨Eb,s.cols,s.next,(xs.filterMap (pO s.cols T)).map (·.1)⟩ (xs.filterMap (pO s.cols T)):=by
 have c:∀y∈xs.filterMap (pO s.cols T),∃x∈xs,(y=x\/y=(N6 x.1 (Ct s.cols T x),x.2)):=λy b=>by
  obtain⟨x,a,e⟩:=List.mem_filterMap.1 b;refine⟨x,a,?_⟩;unfold pO at e;split at e
  ·injection e with e;exact .inl e.symm
  split at e
  ·cases e
  injection e with e;exact .inr e.symm
 refine⟨⟨rfl,λy b=>?_,XM (List.length_filterMap_le _ _) h.Lz.Iz,h.Lz.eight,λe=>?_⟩,λy b=>?_,λy b=>?_,λy b=>?_⟩
 ·obtain⟨x,a,rfl|rfl⟩:=c y b
  ·exact h.Lz.each _ a
  have f:=h.Lz.each x a;refine⟨f.has,f.Gw,f.ok,f.i64,f.name,?_⟩;show (Go.Proofs.YtbhhpheailbebaaGreatDoor.Ir (x.1.2.2++Ct s.cols T x)).length<=1000;have d:x.1∈s.files:=by rw[<-h.Lz.files];exact List.mem_map.2 ⟨x,a,rfl⟩
  have i:=R0 (g.Cl _ d) (g.rows _ d);have j:=R0 (O6 s.cols T x (h.rows x a)).1 (g.rows _ d);rw[Go.Proofs.YtbhhpheailbebaaGreatDoor.Ml,XG];omega
 ·have:xs=[]:=by
   have:=h.Lz.files;rw[h.Lz.bare e] at this;simpa using this
  subst this;rfl
 ·obtain⟨x,a,rfl|rfl⟩:=c y b
  ·exact h.link _ a
  exact h.link x a
 ·obtain⟨x,a,rfl|rfl⟩:=c y b
  ·exact h.below _ a
  exact h.below x a
 obtain⟨x,a,rfl|rfl⟩:=c y b
 ·exact h.rows _ a
 exact h.rows x a
theorem C7.add{xs:List A6}(h:C7 D s xs){path:Tb}{rows:List (List V)}(k:Gt D ((path,(rows.length:Int),[]),s.cols,rows))(o:∀d∈s.cols,d.1<s.next)(p:xs.length<1000)(Eb:Int):C7 D ⟨Eb,s.cols,s.next,s.files++[(path,(rows.length:Int),[])]⟩ (xs++[((path,(rows.length:Int),[]),s.cols,rows)]):=by
 have g:=(B4.mp k.ok).1;have f:s.cols≠[]:=λe=>by have:=g.one;simp[e] at this
 refine⟨⟨by rw[List.map_append,h.Lz.files];rfl,λy a=>?_,by simp;omega,h.Lz.eight,λe=>absurd e f⟩,λy a=>?_,λy a=>?_,λy a=>?_⟩
 ·rcases List.mem_append.1 a with a|a
  ·exact h.Lz.each y a
  simp at a;subst a;exact k
 ·rcases List.mem_append.1 a with a|a
  ·exact h.link y a
  simp at a;subst a;refine Lk.self ?_;rw[Yv];intro i j b l c;have:=g.once i j c l;show (s.cols[i]).1≠(s.cols[j]).1;have m:(s.cols[i]?.getD zC)=s.cols[i]:=by rw[Y8 b];rfl
  have n:(s.cols[j]?.getD zC)=s.cols[j]:=by rw[Y8 l];rfl
  show s.cols[i].1≠s.cols[j].1
  change (s.cols[i]?.getD zC).1≠(s.cols[j]?.getD zC).1 at this
  rw[m,n] at this;exact this
 ·rcases List.mem_append.1 a with a|a
  ·exact h.below y a
  simp at a;subst a;exact o
 rcases List.mem_append.1 a with a|a
 ·exact h.rows y a
 simp at a;subst a;rfl
theorem C7.cols{xs:List A6}(h:C7 D s xs){next:Int}(a:l.length<=8)(c:l≠[])(b:∀x∈xs,Lk x.2.1 l)(f:s.next<=next)(Eb:Int):C7 D ⟨Eb,l,next,s.files⟩ xs :=
 ⟨⟨h.Lz.files,h.Lz.each,h.Lz.Iz,a,λe=>absurd e c⟩,b,λx hx d hd=>by have:=h.below x hx d hd;show d.1<next;omega,h.rows⟩
theorem C7.right{xs:List A6}(h:C7 D s xs)(g:∀c∈s.cols,Lx c (bP c)=true):∀r∈Fc s.cols xs,Hu s.cols r=0:=λr d=>by
 rw[sW] at d;obtain⟨z,a,rfl⟩:=List.mem_map.1 d;obtain⟨x,f,b⟩:=List.mem_flatMap.1 a
 have i:∀(rs:List (List V))(p:Int),∀z∈Jw x.1.1 x.1.2.2 s.cols .nil p rs,z.2.2∈rs:=λrs=>by
  induction rs with
  | nil=>intro p z a;cases a
  | cons r rs ih=>
    intro p z a;simp only[Jw] at a;split at a
    ·rcases List.mem_cons.1 a with rfl|a
     ·exact Yf ..
     exact Yg _ (ih _ z a)
    exact Yg _ (ih _ z a)
 obtain⟨q,j,e⟩:=List.mem_map.1 (i _ _ z b);rw[<-e];exact kA (h.link x f) ((B4.mp (h.Lz.each x f).ok).2.2.2 q j) g
theorem U4(path:Tb)(l:List Aj):∀(rs:List (List V))(p:Int)(mask:List Int),mask.Pairwise (·<·)->(∀y∈mask,p<=y/\y<p+rs.length)->(Jw path mask l .nil p rs).length+mask.length=rs.length
 | [],p,mask,_,h=>by
   cases mask with
   | nil=>rfl
   | cons y m=>have:=h y (Yf ..);simp at this;omega
 | r :: rs,p,mask,hp,h=>by
   have e:p+((r :: rs).length:Int)=p+1+rs.length:=by simp only[XB];omega
   rw[e] at h;cases mask with
   | nil=>have d:=U4 path l rs (p+1) [] List.Pairwise.nil (λy o=>(by cases o));simp only[Jw,List.any_nil,AAs,and_self,if_true,XB,WA] at d ⊢;omega
   | cons y m=>
     obtain⟨b,g⟩:=List.pairwise_cons.1 hp
     by_cases ey:y=p
     ·subst ey
      have c:∀(rs:List (List V))(q:Int),y<q->Jw path (y :: m) l .nil q rs=Jw path m l .nil q rs:=λrs=>by
       induction rs with
       | nil=>intro q _;rfl
       | cons r rs d=>
         intro q s;have i:(q==y)=false:=by simp;omega
         simp only[Jw,WC,i,Bool.false_or,d (q+1) (by omega)]
      have d:=U4 path l rs (y+1) m g (λz a=>by have j:=b z a;have k:=h z (Yg _ a);omega);simp only[Jw,WC,beq_self_eq_true,Bool.true_or,Bool.true_eq_false,false_and,if_false,XB];rw[c rs (y+1) (by omega)];omega
     have d:=U4 path l rs (p+1) (y :: m) hp (λz a=>by
      have k:=h z a
      rcases List.mem_cons.1 a with rfl|a
      ·omega
      have j:=b z a;have n:=h y (Yf ..);omega)
     have f:((y :: m).any λz=>p==z)=false:=by
      rw[XP];intro z a e;simp at e;subst e
      rcases List.mem_cons.1 a with e|a
      ·exact ey e.symm
      have j:=b _ a;have n:=h y (Yf ..);omega
     simp only[Jw,f,AAs,and_self,if_true,XB] at d ⊢;omega
theorem C7.count{xs:List A6}(h:C7 D s xs)(c:Good Bv Cm s){x:A6}(b:x∈xs):((E4 s.cols x).length:Int)=x.1.2.1-x.1.2.2.length:=by
 have a:x.1∈s.files:=by rw[<-h.Lz.files];exact List.mem_map.2 ⟨x,b,rfl⟩
 obtain⟨e,f⟩:=c.Cl _ a;have g:=h.rows x b;have:=U4 x.1.1 s.cols (Cw (By x.2.1) s.cols x.2.2) 0 x.1.2.2 e (λy d=>by have:=f y d;rw[J2];omega);rw[J2] at this;unfold E4;omega
theorem qQ(bb n:Nat)(D:Td)(mv:Tv)(H:List (Dn×Ah))(w:Tw)(h:Ground w bb n D mv)(f:U6 D H)(g:La H)(O5:H.length<=40):
 Zc 17 #[Zp (some ⟨bb,0,none⟩)] w λe i=>e=Zr (Zi (H.length:Int))/\Zb w i:=by
 have c:=Aa (Ua bb n D mv H (-1) H.length w h f g O5 (XA _) (.inl ⟨by decide,rfl⟩));clear h f g;go_enter func17,ntmps17;go_wp2_with fail;refine c.out.mono ?_;rintro e m⟨j,n1,c1,o,k,n2,l,rfl,d,b⟩;unfold K4;clear d;have a:=Aa b;clear b;go_wp2;go_ret;exact⟨rfl,a.out.alloc a.out.size _⟩
def wK(i:Nat):ByteArray:=⟨#[116,UInt8.ofNat (97+i % 26),UInt8.ofNat (97+i / 26 % 26)]⟩
theorem AAm{x:Nat}(h:x<256):((UInt8.ofNat x).toNat:Int)=(x:Int):=by rw[UInt8.toNat_ofNat'];omega
theorem AJt(i:Nat)(w:Tw):(convert 81 9 (Zs (some ⟨w.heap.size,0,none⟩) 2 2)).run prog (w.alloc (Zk #[.int .u8 (97+(i:Int) % 26),.int .u8 (97+(i:Int) / 26 % 26)] 5))=.ok (Zt ⟨#[UInt8.ofNat (97+i % 26),UInt8.ofNat (97+i / 26 % 26)]⟩) (w.alloc (Zk #[.int .u8 (97+(i:Int) % 26),.int .u8 (97+(i:Int) / 26 % 26)] 5)) :=
 run_convert_bytes_back _ 81 9 5 ⟨w.heap.size,0,none⟩ 2 [UInt8.ofNat (97+i % 26),UInt8.ofNat (97+i / 26 % 26)] underlying81 underlying5 underlying9 (λj c=>by
  have a:=AAm (x:=97+i % 26) (by omega);have b:=AAm (x:=97+i / 26 % 26) (by omega)
  match j,c with
  | 0,_=>simp[Addr.add,XV];push_cast at a;omega
  | 1,_=>simp[Addr.add,XV];push_cast at b;omega)
theorem ADi(i:Nat)(f:i<=600)(w:Tw):
 Zc 8 #[Zi (i:Int)] w λe d=>e=Zr (Zt (wK i))/\Zb w d:=by
 have c:=AJt i w;have a:Hid ((⟨#[116]⟩:Tb)++⟨#[UInt8.ofNat (97+i % 26),UInt8.ofNat (97+i / 26 % 26)]⟩=wK i):=Aa rfl;have b:(⟨#[UInt8.ofNat (97+i % 26),UInt8.ofNat (97+i / 26 % 26)]⟩:Tb).size=2:=rfl;generalize (⟨#[UInt8.ofNat (97+i % 26),UInt8.ofNat (97+i / 26 % 26)]⟩:Tb)=B at c a b;generalize wK i=C at a ⊢;go_enter func8,ntmps8;go_wp2;refine bodyPost_ret (v:=Zt (⟨#[116]⟩++B)) ?_ rfl ?_
 ·simp[results,results8,go_sem]
 exact⟨congrArg (λx=>Ending.returned (Zt x)) a.out,Zal⟩
theorem AHh(e:i<676)(f:j<676)(h:wK i=wK j):i=j:=by unfold wK at h;have d:=congrArg ByteArray.data h;have a:=congrArg Array.toList d;simp only[List.cons.injEq,and_true,true_and] at a;have b:=congrArg UInt8.toNat a.1;have c:=congrArg UInt8.toNat a.2;rw[UInt8.toNat_ofNat',UInt8.toNat_ofNat'] at b c;omega
def Bw(a:ByteArray)(k:Nat):ByteArray:=⟨(a.data.toList++95 :: Lib.itoa (k:Int)).toArray⟩
def Plain(a:ByteArray):Prop:=∀x∈a.data.toList,x≠95
theorem jV{α:Type}{c:α}:∀{a b x y:List α},(∀z∈a,z≠c)->(∀z∈b,z≠c)->a++c :: x=b++c :: y->a=b/\x=y
 | [],[],_,_,_,_,h=>by simpa using h
 | [],z :: b,_,_,_,hb,h=>by simp at h;exact absurd h.1.symm (hb z (Yf ..))
 | z :: a,[],_,_,ha,_,h=>by simp at h;exact absurd h.1 (ha z (Yf ..))
 | z :: a,u :: b,x,y,ha,hb,h=>by simp at h;obtain⟨d,e⟩:=h;obtain⟨f,g⟩:=jV (λw hw=>ha w (Yg _ hw)) (λw hw=>hb w (Yg _ hw)) e;exact⟨by rw[d,f],g⟩
theorem AHM{a b:List UInt8}(h:(⟨a.toArray⟩:Tb)=⟨b.toArray⟩):a=b:=by have:=congrArg (λx:Tb=>x.data.toList) h;simpa using this
theorem S5{t u:Tb}{k:Nat}(e:Plain t)(f:Plain u)(h:Bw t i=Bw u k):t=u/\(i<=1000000->k<=1000000->i=k):=by
 obtain⟨b,c⟩:=jV e f (AHM h);refine⟨?_,?_⟩
 ·have:t.data=u.data:=Array.toList_inj.mp b
  exact ByteArray.ext this
 intro g j;have a:=Vy (n:=(i:Int)) (by omega) (by omega);have d:=Vy (n:=(k:Int)) (by omega) (by omega);rw[c,d] at a;injection a with a;omega
theorem Uw{p q:Tb}(h:Eh p=Eh q):p=q:=by have a:=congrArg (λb:Tb=>b.data.toList) h;simp[Eh] at a;exact ByteArray.ext a
def Used(D:DataW Unit)(U:List ByteArray):Prop:=∀p,Maps.has D (B.lit (Eh p))=true->∃tx∈U,∃k,p=Bw tx k
theorem Used.nil:Used (.map []) []:=λp h=>by simp[Maps.has] at h
theorem Used.fresh(h:Used D U){s:Tb}(d:¬s∈U)(f:Plain s)(c:∀u∈U,Plain u)(k:Nat):Maps.has D (B.lit (Eh (Bw s k)))=false:=by
 cases e:Maps.has D (B.lit (Eh (Bw s k))) with
 | false=>rfl
 | true=>obtain⟨u,a,i,b⟩:=h _ e;obtain⟨rfl,_⟩:=S5 f (c u a) b;exact absurd a d
theorem Used.more{a:List Tb}(h:Used D U)(c:∀u∈U,u∈a):Used D a:=λp b=>by
 obtain⟨u,d,k,e⟩:=h p b;exact⟨u,c u d,k,e⟩
theorem Used.put{D:Td}{U:List Tb}(h:Used D U){s:Tb}(c:s∈U)(k:Nat)(v:Td):Used (D.put (B.lit (Eh (Bw s k))) v) U:=λp a=>by
 by_cases e:p=Bw s k
 ·exact⟨s,c,k,e⟩
 rw[Maps.has_put_other (λb=>e (Uw (B.Jr b)))] at a;exact h p a
theorem Used.log(h:Used D U)(i:Nat)(v:Td):Used (D.put (B.lit (Ek i)) v) U:=λp a=>by
 rw[Maps.has_put_other (λb=>tG p i (B.Jr b))] at a;exact h p a
theorem AFl(i:Nat):Plain (wK i):=λx a=>by
 simp[wK] at a
 rcases a with rfl|rfl|rfl
 ·decide
 ·intro e
  have:=congrArg UInt8.toNat e;rw[UInt8.toNat_add,UInt8.toNat_ofNat'] at this;simp at this;omega
 intro e;have:=congrArg UInt8.toNat e;rw[UInt8.toNat_add,UInt8.toNat_ofNat'] at this;simp at this;omega
def PA(w:World)(base i:Nat):Prop:=base<=i/\∃cs T,w.heap[i]? = some (.cells cs T (0,0))/\(T=116\/T=144)
structure Mv(base bb:Nat)(mv mv':Value)(w w':World):Prop where
 only:B.A0 (λi=>B.Own bb mv i\/PA w base i) w w'
 link:∀k,mv'=.map (some k)->mv=.map (some k)\/w.heap.size<=k
 stay:B.St mv mv'
theorem Mv.trans{base bb:Nat}{mv v u:Tv}{w W r:Tw}(h:Mv base bb mv v w W)(k:Mv base bb v u W r):Mv base bb mv u w r:=by
 refine⟨h.only.trans k.only λi f e=>?_,λj a=>?_,λj a=>(k.stay j ((h.stay j a).trans a)).trans (h.stay j a)⟩
 ·rcases e with(e|e)|⟨b,cs,T,c,d⟩
  ·exact .inl (.inl e)
  ·rcases h.link i e with e|e
   ·exact .inl (.inr e)
   omega
  by_cases hs:B.Own bb mv i\/PA w base i
  ·exact hs
  exact .inr ⟨b,cs,T,(h.only.block i f hs).symm.trans c,d⟩
 rcases k.link j a with e|e
 ·exact h.link j e
 exact .inr (XM h.only.size e)
theorem Mv.below{base bb:Nat}{mv:Tv}(h:Zb w W):Mv base bb mv mv w W:=⟨B.A0.Ba h,λ_ e=>.inl e,B.St.refl _⟩
theorem Mv.refl{base bb:Nat}{mv:Tv}{w:Tw}:Mv base bb mv mv w w:=Mv.below (Y9 _ _)
theorem Mv.put{base bb:Nat}{mv v:Tv}(h:B.A0 (B.Own bb mv) w W)(a:(∀k,v=.map (some k)->mv=.map (some k)\/w.heap.size<=k)/\B.St mv v):Mv base bb mv v w W:=⟨h.mono λ_ _ e=>.inl e,a.1,a.2⟩
theorem Mv.out{base bb:Nat}{mv v:Tv}(h:Mv base bb mv v w W)(a:w.heap.size<=base):B.A0 (B.Own bb mv) w W :=
 h.only.mono λi b e=>e.elim id λe=>by have:=e.1;omega
theorem Mv.ACV{base bb:Nat}{mv:Tv}(h:B.A0 (PA w base) w W):Mv base bb mv mv w W:=⟨h.mono λ_ _ e=>.inr e,λ_ e=>.inl e,B.St.refl _⟩
theorem Mv.zG{base bb n:Nat}{fs:List Int}{mv v u:Tv}(h:Mv base bb mv u w W)(g:B.Bu w bb n D fs mv v){cs:Array Tv}{T:TypeId}(a:w.heap[i]? = some (Zk cs T (0,0)))(o:T≠30)(p:T≠116)(q:T≠144):W.heap[i]? = some (Zk cs T (0,0)):=by
 refine(h.only.block i (Ac a) ?_).trans a;rintro((e|e)|⟨_,j,r,b,c⟩)
 ·subst e
  have d:w.heap[i]? = _:=g.1;rw[d] at a;injection a with a;injection a with _ a;exact o a.symm
 ·rcases g.2.1 with⟨l,_⟩|⟨m,k,es,clock,f,_⟩
  ·rw[l] at e;cases e
  rw[k] at e;cases e;rw[f] at a;cases a
 rw[a] at b;injection b with b;injection b with _ b;subst b
 rcases c with c|c
 ·exact p c
 exact q c
theorem Mv.row{base bb n:Nat}{fs:List Int}{mv u f:Tv}(h:Mv base bb mv f w W)(p:B.Bu w bb n D fs mv u){b z m:Nat}{T:TypeId}{xs:List Tv}(i:w.ownsRow b T z v m xs)(k:T≠30)(l:T≠116)(o:T≠144):W.ownsRow b T z v m xs:=by
 refine⟨i.1,?_⟩
 rcases i.2 with j|⟨g,c,a,r,d,q,e⟩
 ·exact .inl j
 exact .inr ⟨g,c,a,r,d,h.zG p q k l o,e⟩
theorem Mv.snap{base bb n:Nat}{fs:List Int}{mv u f:Tv}(h:Mv base bb mv f w W)(b:B.Bu w bb n D fs mv u)(i:Dl w s v):Dl W s v:=by obtain⟨c,c1,d,g,L,e,a⟩:=i;exact⟨c,c1,d,g,L,e,h.row b a.cols (by decide) (by decide) (by decide),a.files,h.row b a.row (by decide) (by decide) (by decide),λx j=>h.row b (a.Cl x j) (by decide) (by decide) (by decide)⟩
theorem Mv.AKi{base bb n:Nat}{fs:List Int}{mv v u:Tv}(h:Mv base bb mv u w W)(a:B.Bu w bb n D fs mv v){b:Nat}{q:Gx}(c:pC b w q):pC b W q :=
 ⟨h.row a c.1 (by decide) (by decide) (by decide),h.row a c.2 (by decide) (by decide) (by decide)⟩
theorem Mv.slO{base bb n:Nat}{fs:List Int}{mv u f:Tv}(h:Mv base bb mv f w W)(a:B.Bu w bb n D fs mv u){b:Nat}{rows:List (List V)}(g:Sc b w v rows):Sc b W v rows:=by obtain⟨l,c,d,e⟩:=g;exact⟨l,c,h.row a d (by decide) (by decide) (by decide),λj x r k i=>h.row a (e j x r k i) (by decide) (by decide) (by decide)⟩
theorem Kv{w0 w W:Tw}{k base bb n:Nat}{fs:List Int}{mv v:Tv}(h:Ey w0 w k bb n D fs mv v)(U:k<=base)(P:w0.heap.size<=base)(p:B.A0 (PA w base) w W):Ey w0 W k bb n D fs mv v:=by
 obtain⟨q,c,L⟩:=h.bu
 have s:¬PA w base bb:=by
  rintro⟨_,cs,T,b,o⟩;have r:w.heap[bb]? = _:=q;rw[r] at b;injection b with b;injection b with _ b;subst b
  rcases o with o|o <;> exact absurd o (by decide)
 refine⟨⟨q.keep (p.block bb q.lt s),c.keep λm e=>p.block m (c.lt e) ?_,?_⟩,p.below h.low h.low.size (λi hi=>XM P hi.1),h.hb,h.hm,h.er,h.nc,h.tb,h.hf⟩
 ·rintro⟨_,cs,T,b,_⟩
  rcases c with⟨J,_⟩|⟨V,G,es,clock,t,_⟩
  ·rw[J] at e;cases e
  rw[G] at e;cases e;rw[t] at b;cases b
 obtain⟨a,j,e,M,N⟩:=L;refine⟨a,j,e,M,λz=>?_⟩;obtain⟨g,off,u,d⟩:=N z;refine⟨g,off,u,λi x R=>?_⟩
 have O:g<k:=by
  cases hfs:fs with
  | nil=>exact absurd hfs z
  | cons y l=>refine h.hf g off l.length j ?_;rw[e,u,hfs];rfl
 have f:=d i x R;have I:=p.block g (Fv f) (λe=>by have:=e.1;omega);simp only[World.cell?,I] at f ⊢;exact f
structure Dv(base:Nat)(w:World)(pb:Nat)(s:Ah)(v:Int)(a1:Option Addr)(n1 c1:Nat)(x2:Int)(a2:Option Addr)(n2 c2:Nat)(tx:ByteArray)(rd:Bool)(aa:Option Addr)(ac:Nat)(L:List Gx)(rows:Int):Prop where
 box:w.heap[pb]? = some (.cells #[Zi v,.slice a1 n1 c1,Zi x2,.slice a2 n2 c2,.string tx,.bool rd,.slice aa L.length ac,Zi rows] 116 (0,0))
 snap:Dl w s (K4 v a1 n1 c1 x2 a2 n2 c2)
 row:w.ownsRow base 144 6 (.slice aa L.length ac) L.length (Ci L)
 own:∀q∈L,pC 0 w q
 Vv:∀q∈L,pM q.1
 low:base<=pb
theorem Dv.up{base:Nat}{w W:Tw}{n:Nat}{s:Ah}{v:Int}{b:To}{n1 c1:Nat}{x:Int}{c:To}{n2 k:Nat}{t:Tb}{f:Bool}{d:To}{i:Nat}{L:List Gx}{rows:Int}(h:Dv base w n s v b n1 c1 x c n2 k t f d i L rows)(a:Zb w W):Dv base W n s v b n1 c1 x c n2 k t f d i L rows :=
 ⟨(a.block _ (Ac h.box)).trans h.box,h.snap.up a,Bc h.row a,λq e=>⟨Bc (h.own q e).1 a,Bc (h.own q e).2 a⟩,h.Vv,h.low⟩
theorem Dv.put{base:Nat}{w W:Tw}{k:Nat}{s:Ah}{v:Int}{o:To}{n1 c1:Nat}{x:Int}{p:To}{n2 i:Nat}{t:Tb}{y:Bool}{r:To}{j:Nat}{L:List Gx}{rows:Int}{bb n:Nat}{D:Td}{fs:List Int}{mv u:Tv}(h:Dv base w k s v o n1 c1 x p n2 i t y r j L rows)(a:B.Bu w bb n D fs mv u)(f:B.A0 (B.Own bb mv) w W):Dv base W k s v o n1 c1 x p n2 i t y r j L rows:=by
 have m:Mv 0 bb mv mv w W:=Mv.put f ⟨λ_ e=>.inl e,B.St.refl _⟩;refine⟨Ut a f h.box (by decide),m.snap a h.snap,⟨h.row.1,?_⟩,λq I=>m.AKi a (h.own q I),h.Vv,h.low⟩
 rcases h.row.2 with z|⟨g,c,b,J,d,G,l⟩
 ·exact .inl z
 exact .inr ⟨g,c,b,J,d,Ut a f G (by decide),l⟩
theorem F2{b:Nat}{v u f a e c d g:Tv}{t:TypeId}(h:W.heap[b]? = some (Zk #[v,u,f,a,e,c,d,g] t (0,0))):
 W.cell? ⟨b,0,none⟩=some v/\W.cell? ⟨b,1,none⟩=some u/\W.cell? ⟨b,2,none⟩=some f/\W.cell? ⟨b,3,none⟩=some a/\W.cell? ⟨b,4,none⟩=some e/\W.cell? ⟨b,5,none⟩=some c/\W.cell? ⟨b,6,none⟩=some d/\W.cell? ⟨b,7,none⟩=some g/\∀i,W.frozen? ⟨b,i,none⟩=false:=by
 simp[World.cell?,World.frozen?,h]
theorem AK4{b:Nat}{u f a e c d i g:Tv}{t:TypeId}(h:W.heap[b]? = some (Zk #[u,f,a,e,c,d,i,g] t (0,0)))(v:Tv):(W.setCell ⟨b,6,none⟩ v).heap[b]? = some (Zk #[u,f,a,e,c,d,v,g] t (0,0)):=by have:=As W b 6 _ _ v h;simpa using this
theorem sN{base:Nat}{t T:TypeId}{z:Nat}{n:Nat}{xs:List Tv}{b i:Nat}{cs:Array Tv}(h:W.ownsRow base t z v n xs)(f:W.heap[b]? = some (Zk cs T (0,0)))(c:t≠T):(W.setCell ⟨b,i,none⟩ u).ownsRow base t z v n xs :=
 Az h (Aq W b i u) λk g e=>by injection e with e;subst e;obtain⟨d,a⟩:=Go.Proofs.YtbhhpheailbebaaGreatDoor.Ho h g;rw[f] at a;injection a with a;injection a with _ a;exact c a.symm
theorem N3(base O:Nat)(s:Ah)(v:Int)(a1:To)(n1 c1:Nat)(x2:Int)(a2:To)(n2 c2:Nat)(tx:Tb)(rd:Bool)(aa:To)(ac:Nat)(L:List Gx)(rows:Int)(w:Tw)(hP:Dv base w O s v a1 n1 c1 x2 a2 n2 c2 tx rd aa ac L rows)(al:base<=w.heap.size)(k:Int)(p:Tb)(r:Int)(M:List Int)(C:List Aj)(d:Int)(t:To)(D y:Nat)(f:To)(n l:Nat)(o:pC 0 w ((k,p,r,M,C,d),(t,D,y),(f,n,l)))(hf:pM (k,p,r,M,C,d))(hL:L.length<=1000):
 Zc 65 #[Zp (some ⟨O,0,none⟩),Zg #[Zi k,Zt p,Zi r,Zs t D y,Zs f n l,Zi d]] w λe w'=>e=Zr (Zu #[])/\(∃U V,Dv base w' O s v a1 n1 c1 x2 a2 n2 c2 tx rd U V (L++[((k,p,r,M,C,d),(t,D,y),(f,n,l))]) rows)/\B.A0 (PA w base) w w':=by
 obtain⟨t0,t1,t2,t3⟩:=C1 w (Zk #[Zi k,Zt p,Zi r,Zs t D y,Zs f n l,Zi d] 144) (Zk #[Zi k,Zt p,Zi r,Zs t D y,Zs f n l,Zi d] 144);have HB:=Aa t3;have HX:=Aa t2;have c:=Aa hP;have HP:=Aa (hP.up t3);have HQ:=Aa o;have HF:=Aa hf;obtain⟨iA,ad,X⟩:=Option.map_eq_some_iff.1 gO;simp only[Prod.mk.injEq] at X;have N:=Aa (And.intro ad X);have ao:O<w.heap.size:=Ac hP.box;obtain⟨x0,x1,y2,x3,x4,x5,x6,x7,xf⟩:=F2 hP.box;have ak:=Aa t0;clear hP o hf t0 t1 t2 t3 ad X;have ah:Hid (((w.alloc (Zk #[Zi k,Zt p,Zi r,Zs t D y,Zs f n l,Zi d] 144)).alloc (Zk #[Zi k,Zt p,Zi r,Zs t D y,Zs f n l,Zi d] 144)).drew.ownsRow base 144 6 (Zs aa L.length ac) L.length (Ci L)):=Aa HP.out.row;have ag:Hid (((w.alloc (Zk #[Zi k,Zt p,Zi r,Zs t D y,Zs f n l,Zi d] 144)).alloc (Zk #[Zi k,Zt p,Zi r,Zs t D y,Zs f n l,Zi d] 144)).drew.heap[w.heap.size+1]? = some (Zk #[Zi k,Zt p,Zi r,Zs t D y,Zs f n l,Zi d] 144)):=Aa HX.out;have I:=Aa (HP.out.up ((Y9 _ _).drew));have Y:Hid (Zb w ((w.alloc (Zk #[Zi k,Zt p,Zi r,Zs t D y,Zs f n l,Zi d] 144)).alloc (Zk #[Zi k,Zt p,Zi r,Zs t D y,Zs f n l,Zi d] 144)).drew):=Aa (HB.out.drew)
 have af:Hid (∀(g P:Nat)(w5:Tw),w5.ownsRow base 144 6 (Zs (some ⟨g,0,none⟩) (L.length+1) P) (L.length+1) (Ci L++[Zi k,Zt p,Zi r,Zs t D y,Zs f n l,Zi d])->((w.alloc (Zk #[Zi k,Zt p,Zi r,Zs t D y,Zs f n l,Zi d] 144)).alloc (Zk #[Zi k,Zt p,Zi r,Zs t D y,Zs f n l,Zi d] 144)).drew.grownBy w5 (Value.slice aa L.length ac).ownBlock->((∃U V,Dv base (w5.setCell ⟨O,6,none⟩ (Zs (some ⟨g,0,none⟩) (L.length+1) P)) O s v a1 n1 c1 x2 a2 n2 c2 tx rd U V (L++[((k,p,r,M,C,d),(t,D,y),(f,n,l))]) rows)/\B.A0 (PA w base) w (w5.setCell ⟨O,6,none⟩ (Zs (some ⟨g,0,none⟩) (L.length+1) P)))):=Aa (λg P w5 R G=>by
  have HY:=Hq I.out.box I.out.row (by decide) G
  have a:∀{b z m:Nat}{T:TypeId}{u:Tv}{xs:List Tv},w.ownsRow b T z u m xs->T≠144->T≠116->(w5.setCell ⟨O,6,none⟩ (Zs (some ⟨g,0,none⟩) (L.length+1) P)).ownsRow b T z u m xs:=λh h1 h2=>by have h5:=j8 (Bc h Y.out) I.out.row h1 G;exact sN h5 HY h2
  refine⟨⟨some ⟨g,0,none⟩,P,?_,?_,?_,?_,?_,c.out.low⟩,?_⟩
  ·rw[XG]
   exact AK4 HY _
  ·obtain⟨b1,d1,b2,d2,E,e,hV⟩:=c.out.snap
   exact⟨b1,d1,b2,d2,E,e,a hV.cols (by decide) (by decide),hV.files,a hV.row (by decide) (by decide),λx hx=>a (hV.Cl x hx) (by decide) (by decide)⟩
  ·have h5:=sN (i:=6) (u:=Zs (some ⟨g,0,none⟩) (L.length+1) P) R HY (by decide)
   rw[XG];simpa[Ci,nU,sv] using h5
  ·intro q o
   rcases List.mem_append.1 o with o|o
   ·exact⟨a (c.out.own q o).1 (by decide) (by decide),a (c.out.own q o).2 (by decide) (by decide)⟩
   simp at o;subst o;exact⟨a HQ.out.1 (by decide) (by decide),a HQ.out.2 (by decide) (by decide)⟩
  ·intro q o
   rcases List.mem_append.1 o with o|o
   ·exact c.out.Vv q o
   simp at o;subst o;exact HF.out
  refine((B.A0.Ba Y.out).grown G λm hm am=>?_).setCell (λ_=>⟨c.out.low,_,_,c.out.box,.inl rfl⟩) _;obtain⟨ai,hc⟩:=Go.Proofs.YtbhhpheailbebaaGreatDoor.Ho c.out.row hm;exact⟨Fu c.out.row hm,ai,_,hc,.inr rfl⟩)
 have aj:Hid (base<=w.heap.size+1+1):=Aa (by omega);have an:O≠w.heap.size:=by omega
 go_enter func65,ntmps65;go_wp2_with fail
 go_region_law
  (first
    | (refine step_append_lies _ (by rfl) (.tmp 9) (.tmp 11) 84 (by rfl) base 144 iA Mi 6 88 underlying84 N.out.1 N.out.2.1 N.out.2.2.1 N.out.2.2.2 rfl (by decide) (.slice aa L.length ac) L.length _ (by rfl) ah.out ⟨w.heap.size+1,0,none⟩ 1 1 [Zi k,.string p,Zi r,.slice t D y,.slice f n l,Zi d] (by rfl) rfl (λj u hj=>XO ag.out j u hj) (by intro u hu;simp only[WB,X',or_false] at hu;rcases hu with rfl|rfl|rfl|rfl|rfl|rfl <;> rfl) (by omega) (by unfold maxLen;omega) (by omega) (by simp;omega) _ rfl ?_
       intro a' P w5 J W ab ae;have R:=Aa J;have G:=Aa W;have HY:=Aa (Hq I.out.box I.out.row (by decide) W);obtain⟨z0,z1,z2,z3,z4,z5,z6,z7,zf⟩:=F2 HY.out;clear J W ab ae)
    | fail)
 all_goals exact⟨rfl,Zu #[],by simp[results,results65,go_sem],rfl,af.out _ _ _ R.out G.out⟩
theorem kN(bb n:Nat)(D:Td)(mv:Tv)(H:List (Dn×Ah))(a:Tb)(w:Tw)(h:Ground w bb n D mv)(v:U6 D H)(x:La H)(O5:H.length<=40)(o:Bx a=true)(I:a.size<=12):
 Zc 62 #[Zp (some ⟨bb,0,none⟩),Zt a] w λe G=>∃y g n1 c1 p i n2 j,e=Zr (Zu #[Zp (some ⟨y,0,none⟩),Zn])/\Dv w.heap.size G y (Ae H H.length) (H.length:Int) g n1 c1 p i n2 j a false none 0 [] 0/\Zb w G:=by
 have r:=Aa (Mn a w (by unfold maxLen;omega));rw[o] at r;have d:=Aa (λW(J:Zb w W)=>Ua bb n D mv H (-1) H.length W (h.up J) v x O5 (XA _) (.inl ⟨by decide,rfl⟩));have u:¬(12:Int)<(a.size:Int):=by omega
 clear h v x o;generalize Ae H H.length=O at *;go_enter func62,ntmps62;go_wp2_with fail;refine r.out.mono ?_;rintro e P⟨rfl,l⟩;have b:=Aa l;clear l r;go_wp2_with fail;refine(d.out _ b.out).mono ?_;rintro e N⟨g,n1,c1,p,i,n2,j,rfl,k,m⟩;have f:=Aa k;have c:=Aa (Ap b.out m);clear k m d;unfold K4 at f ⊢;obtain⟨M,t1,t2,z⟩:=C1 N (Zk #[Zi (H.length:Int),Zs g n1 c1,Zi p,Zs i n2 j] 42) (Zk #[Zi (H.length:Int),Zs g n1 c1,Zi p,Zs i n2 j,Zt a,Zo false,Zs none 0 0,Zi 0] 116);have s:=Aa (And.intro t2 z);have L:=c.out.size;clear M t1 t2 z;go_wp2_with fail;go_ret2;refine⟨_,g,n1,c1,p,i,n2,j,rfl,⟨s.out.1,f.out.up s.out.2,XX _ _ _ _,(λq t=>by cases t),(λq t=>by cases t),by omega⟩,Ap c.out s.out.2⟩
theorem fH(bb n:Nat)(D:Td)(mv:Tv)(H:List (Dn×Ah))(i:Tb)(w:Tw)(h:Ground w bb n D mv)(t:U6 D H)(u:La H)(O5:H.length<=40)(g:Bx i=true)(d:i.size<=12):
 Zc 66 #[Zp (some ⟨bb,0,none⟩),Zt i] w λe v=>Zb w v/\(((Ae H H.length).cols=[]/\e=Zr (Zu #[Zp none,Zf 90 (Zi 6)]))\/((Ae H H.length).cols≠[]/\∃k m n1 c1 s o n2 p,e=Zr (Zu #[Zp (some ⟨k,0,none⟩),Zn])/\Dv w.heap.size v k (Ae H H.length) (H.length:Int) m n1 c1 s o n2 p i false none 0 [] 0)):=by
 have c:=Aa (kN bb n D mv H i w h t u O5 g d);clear h t u g d;generalize Ae H H.length=a at *;go_enter func66,ntmps66;go_wp2_with fail;refine c.out.mono ?_;rintro e y⟨k,m,n1,c1,s,o,n2,p,rfl,j,f⟩
 have r:n1=a.cols.length:=by obtain⟨_,_,_,_,_,e,_⟩:=j.snap;unfold K4 at e;simp only[Value.agg.injEq,Array.mk.injEq,List.cons.injEq,Value.int.injEq,Value.slice.injEq] at e;exact e.2.1.2.1
 subst r;have x:=Aa j;have b:=Aa f;obtain⟨z,G,I,J,L,M,N,O,P⟩:=F2 j.box;clear j f c
 by_cases hc:a.cols.length=0
 ·have l:Hid (a.cols=[]):=Aa (List.length_eq_zero_iff.1 hc)
  have q:((a.cols.length:Nat):Int)=0:=by omega
  go_wp2_with fail;go_ret2;exact⟨b.out,.inl ⟨l.out,rfl⟩⟩
 have l:Hid (a.cols≠[]):=Aa (λe=>hc (by rw[e];rfl));have q:¬((a.cols.length:Nat):Int)=0:=by omega
 go_wp2_with fail;go_ret2;exact⟨b.out,.inr ⟨l.out,k,m,_,c1,s,o,n2,p,rfl,x.out⟩⟩
theorem AGy(w:Tw):(binOp .neq 32 Zn (Zf 90 (Zi 14))).run prog w=.ok (Zo true) w:=by kernel_rfl
theorem AEO(w:Tw):(binOp .neq 32 (Zf 90 (Zi 14)) (Zf 90 (Zi 14))).run prog w=.ok (Zo false) w:=by kernel_rfl
theorem Vo{w0 w:Tw}{j bb n:Nat}{fs:List Int}{mv v:Tv}(h:Ey w0 w j bb n D fs mv v)(I:n<100000)(d:Tb)(t:d.size<=1000)(s:Tb)(y:s.size<=maxLen)(r:Int×Td×List Int)(x:B.bM D fs d s=r):
 Zc 78 #[Zp (some ⟨bb,0,none⟩),Zt d,Zt s] w λe q=>e=Zr (B.L8 r.1)/\∃a f,Ey w0 q j bb (n+1) r.2.1 r.2.2 a f/\B.A0 (B.Own bb mv) w q/\(∀k,a=.map (some k)->mv=.map (some k)\/w.heap.size<=k)/\B.St mv a:=by
 refine(B.ABa bb n D fs mv v d s w h.bu (by unfold maxLen;omega) (by unfold maxLen;omega) y).mono ?_;rw[x];rintro e q⟨rfl,a,f,m,u,g,o,p⟩;refine⟨rfl,a,f,⟨m,u.below h.low h.low.size ?_,h.hb,λk t=>?_,h.er,h.nc,h.tb,λb off l c e=>?_⟩,u,g,p⟩
 ·rintro i (rfl|e)
  ·exact h.hb
  exact h.hm i e
 ·rcases g k t with e|e
  ·exact h.hm k e
  exact XM h.low.size e
 obtain⟨G,z,c0,e0⟩:=o b off l c e;exact h.hf b G z c0 e0
def ABM(w0 w:World)(g bb n:Nat)(D:DataW Unit)(fs:List Int)(mv:Value)(d s:ByteArray)(e:Ending)(f:World):Prop :=
 ∃a c b,Ey w0 f g bb (n+1) b fs.tail a c/\B.A0 (B.Own bb mv) w f/\((∀k,a=.map (some k)->mv=.map (some k)\/w.heap.size<=k)/\B.St mv a) /\
  ((fs.headD 0≠1/\e=.returned .nilIface/\b=D.put (B.lit d) (B.Gw s))\/(fs.headD 0=1/\e=.returned (.iface 90 (.int .i64 14))/\b=D))
theorem oD(w0:Tw)(M bb n:Nat)(D:Td)(fs:List Int)(mv T:Tv)(a s:Tb)(w:Tw)(h:Ey w0 w M bb n D fs mv T)(J:n<100000)(N:Maps.IsMap D)(u:B.Wz a=true)(f:Maps.has D (B.lit a)=false)(L:s.size<=maxLen):
 Zc 110 #[Zp (some ⟨bb,0,none⟩),Zt a,Zt s] w (ABM w0 w M bb n D fs mv a s):=by
 have O:a.size<=60:=by simp[B.Wz] at u;exact u.2
 have b:B.bM D fs a s=if fs.headD 0=1 then (14,D,fs.tail) else if fs.headD 0=2 then (14,D.put (B.lit a) (B.Gw s),fs.tail) else (0,D.put (B.lit a) (B.Gw s),fs.tail):=by unfold B.bM;rw[u,f];rfl
 have V:=AGy;have W:=AEO
 by_cases h1:fs.headD 0=1
 ·rw[if_pos h1] at b
  have c:=Aa (Vo h J a (by omega) s L _ b);rw[show B.L8 ((14:Int),D,fs.tail).1=Value.iface 90 (Zi 14) from rfl] at c;have x:=Aa h1;have I:=Aa f;clear h b f h1 u;go_enter func110,ntmps110;go_wp2_with fail;refine c.out.mono ?_;rintro e z⟨rfl,j,o,d,i,g⟩;have m:=Aa (B.aP bb (n+1) D j a z d.ground.c0 d.ground.th (by unfold maxLen;omega));unfold B.Um at m;rw[if_neg (by rw[I.out];decide)] at m;rw[show B.L8 7=Value.iface 90 (Zi 7) from rfl] at m;have k:=Aa (And.intro d (And.intro i g));clear d i g c;go_wp2_with fail;refine m.out.mono ?_;rintro e U⟨t,rfl,_,_,p⟩;have l:=Aa p;clear p m;go_wp2_with fail;go_ret;exact⟨j,o,D,k.out.1.up l.out,k.out.2.1.trans (B.A0.Ba (S:=λ_=>False) l.out) (λ_ _ h=>h.elim),k.out.2.2,.inr ⟨x.out,rfl,rfl⟩⟩
 rw[if_neg h1] at b
 by_cases h2:fs.headD 0=2
 ·rw[if_pos h2] at b
  have c:=Aa (Vo h J a (by omega) s L _ b);rw[show B.L8 ((14:Int),D.put (B.lit a) (B.Gw s),fs.tail).1=Value.iface 90 (.int .i64 14) from rfl] at c;have x:=Aa h1;have q:Hid (Maps.has (D.put (B.lit a) (B.Gw s)) (B.lit a)=true/\(D.put (B.lit a) (B.Gw s)).atKey (B.lit a) (B.Gw ByteArray.empty)=B.Gw s):=Aa ⟨Maps.has_put_same N L4 _,Maps.atKey_put_same N L4 _ _⟩;clear h b f h1 h2 u;have v:Hid (∃y,D.put (B.lit a) (B.Gw s)=y):=Aa ⟨_,rfl⟩;obtain⟨y,r⟩:=v.out;rw[r] at c q;have G:=Aa r;clear r v;go_enter func110,ntmps110;go_wp2_with fail;refine c.out.mono ?_;rintro e z⟨rfl,j,o,d,i,g⟩;have m:=Aa (B.aP bb (n+1) y j a z d.ground.c0 d.ground.th (by unfold maxLen;omega));unfold B.Um at m;rw[if_pos q.out.1] at m;rw[show B.L8 0=Value.nilIface from rfl] at m;have k:=Aa (And.intro d (And.intro i g));clear d i g c;go_wp2_with fail;refine m.out.mono ?_;rintro e U⟨t,rfl,P,_,p⟩;have R:t=s:=B.aS ((P q.out.1).symm.trans q.out.2);subst R;have l:=Aa p;clear p m P;go_wp2_with fail;go_ret;exact⟨j,o,y,k.out.1.up l.out,k.out.2.1.trans (B.A0.Ba (S:=λ_=>False) l.out) (λ_ _ h=>h.elim),k.out.2.2,.inl ⟨x.out,rfl,G.out.symm⟩⟩
 rw[if_neg h2] at b;have c:=Aa (Vo h J a (by omega) s L _ b);rw[show B.L8 ((0:Int),D.put (B.lit a) (B.Gw s),fs.tail).1=Value.nilIface from rfl] at c;have x:=Aa h1;clear h b f h1 h2 u;go_enter func110,ntmps110;go_wp2_with fail;refine c.out.mono ?_;rintro e z⟨rfl,j,o,d,i,g⟩;have k:=Aa (And.intro d (And.intro i g));clear d i g c;go_wp2_with fail;go_ret;exact⟨j,o,_,k.out.1,k.out.2.1,k.out.2.2,.inl ⟨x.out,rfl,rfl⟩⟩
