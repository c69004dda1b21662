import Derived.Test.YthafikkkjfielaaGreatDoorFZ6
set_option maxHeartbeats 40000000
set_option maxRecDepth 100000
open List renaming getElem?_eq_getElem->Y',getElem?_append_right->XD,mem_of_getElem?->XE,getElem?_append_left->XF,length_cons->XI,setIfInBounds_toArray->XM,getElem?_map->XN,cons_append->XO,length_take->XQ,set_cons_zero->XR,length_append->XT,flatMap_append->XV,set_cons_succ->XW,filter_cons_of_pos->XY,filter_cons_of_neg->XZ,getElem_map->X2,append_nil->X4,length_map->X6,mem_cons->Wb,filter_append->WB,flatten_cons->WC,flatMap_cons->WD,any_eq_false->WE,nil_append->WI
open Nat renaming le_refl->XA,le_add_right->XC,zero_le->XH,le_trans->XL
open Go.RowKit.Below renaming refl->XB,heap_alloc->XP
open Go.World renaming size_alloc->XG,news_of_block->XK,ownsRow_nil->XU,cell?_alloc_at->X'
open Int renaming toNat_natCast->XJ,cast_ofNat_Int->XS,natCast_zero->WG,add_zero->WJ
open Option renaming getD_some->XX
open Bool renaming false_eq_true->WA,or_eq_true->WH
namespace Go.Proofs.YthafikkkjfielaaGreatDoor
open Tryz RowKit Shelf Joins Lib
open Go.Sort (grow)
namespace F
variable{s:E.St}{n:Nat}
theorem ACm(kind:Int)(b:List UInt8)(w:Tw)(k:b.length<=1000000):
 Zc 215 #[.int .i64 kind,.string (E.str b)] w λe g=>∃a n c j,e=.returned (.tuple #[.slice a n c,j])/\E.Sl g (.slice a n c) ((E.Ll kind b).getD [])/\Zb w g:=by
 refine(E.xH kind (E.str b) w (by rw[E.Ds];exact k)).mono λe g h=>?_
 rw[E.Eo] at h;cases hd:E.Ll kind b with
 | none=>rw[hd] at h;obtain⟨rfl,d⟩:=h;exact⟨none,0,0,_,rfl,⟨none,0,rfl,by simp,λf=>absurd rfl f⟩,d⟩
 | some L=>rw[hd] at h;obtain⟨v,rfl,i,d⟩:=h;obtain⟨a,c,rfl,_⟩:=id i;exact⟨a,_,c,_,rfl,i,d⟩
def Cf(l:List Aj)(s:E.St)(k:Nat):List (List UInt8)×E.St:=Dk (l.take k) s
theorem Uc:∀(l:List Aj)(c:Aj)(s:E.St),Dk (l++[c]) s=((Dk l s).1++[(Hl (Dk l s).2).1],(Hl (Dk l s).2).2)
 | [],_,_=>rfl
 | _ :: l,c,s=>by simp only[XO,Dk,Uc l c]
theorem Pj:∀(l:List Aj)(s:E.St),(Dk l s).1.length=l.length
 | [],_=>rfl
 | _ :: l,s=>by simp[Dk,Pj l]
theorem AFu{l:List Aj}{bs:List (List UInt8)}{c:Aj}{b:List UInt8}(h:bs.length=l.length):Ga (l++[c]) (bs++[b])=Ga l bs++[ABV c b]:=by unfold Ga;rw[List.zipWith_append h.symm];rfl
theorem Ee{most:Int}(h:s.1.length<=n):(E.Am most s).2.1.length<=n:=XL (E.F4 most s) h
theorem sR(n:Nat)(s:E.St):(E.C8 n s).1.length<=s.1.length:=by unfold E.C8;split <;> simp <;> omega
theorem Xq(h:s.1.length<=n):(Hl s).1.length<=n/\(Hl s).2.1.length<=n/\(E.Am 9223372036854775807 s).2.1.length<=n:=by have a:=Ee (most:=9223372036854775807) h;exact⟨XL (sR _ _) a,XL (E.Ji _ _) a,a⟩
theorem iU(i:Nat)(s:E.St)(lv:Tv)(l:List Aj)(w:Tw)(hr:E.Oi 255 [] w i s)(hl:∀W,w.grownBy W (some i)->F7 7 Cc W lv l)(h8:l.length<=8)(hs:s.1.length<=1000000):
 Zc 211 #[.pointer (some ⟨i,0,none⟩),lv] w λe w'=>∃sv bv,e=.returned (.agg #[.int .i64 (Cd l s).1.1,sv,bv])/\w'.ownsRow w.1.size 261 8 sv l.length ((Cd l s).1.2.1.flatMap encS)/\w'.ownsRow w.1.size 9 1 bv l.length ((Cd l s).1.2.2.flatMap Mc)/\E.Oi 255 [] w' i (Cd l s).2/\w.grownBy w' (some i):=by
 have HL:=Aa hl;obtain⟨la,lc,rfl,_⟩:=(hl w (E.G2 _ _)).slice;obtain⟨iS,cg,cp,a3,a5⟩:=info_parts AGG;have ag:=Zy cg cp a3 a5;obtain⟨iT,ch,cq,a4,a6⟩:=info_parts Uz;have ah:=Zy ch cq a4 a6;have cd:∀args w,(callFunc 187 args).run prog w=.ok (.enter 187 args) w:=enters_of func187 (by kernel_rfl) rfl;have br:=Aa cd;have bh:Below w.1.size w (w.alloc (.cells #[.int .i64 0,.slice none 0 0,.slice none 0 0] 207)):=Zal;have T:=Aa (Yac w (.cells #[.int .i64 0,.slice none 0 0,.slice none 0 0] 207));have dg:=hr.lt;have ai:Hid (Cd l s=(((E.Am 6 s).1,Ga l (Dk l (E.Am 6 s).2).1,(Dk l (E.Am 6 s).2).1),(Dk l (E.Am 6 s).2).2)):=Aa rfl;have c8:(E.Am 6 s).2.1.length<=1000000:=Ee hs;have HU:=Aa (E.Jo 255 [] i 6 s _ (hr.up bh) hs (by omega) (by omega));clear cg cp a3 a5 ch cq a4 a6 cd hl;generalize (E.Am 6 s).1=n0 at *;generalize (E.Am 6 s).2=b at *;go_enter func211,ntmps211;go_wp2_with fail;apply HU.o.mono;rintro e a⟨rfl,cj,al⟩;have c0:=al.size;rw[XG] at c0;have ak:Below a.1.size a (a.alloc (.cells #[.int .i64 n0,.slice none 0 0,.slice none 0 0] 207)):=Zal;have cs:=Aa (Yac a (.cells #[.int .i64 n0,.slice none 0 0,.slice none 0 0] 207));have bb:=Aa ((ak.block w.1.size (by omega)).trans ((al.block w.1.size (by simp) (by simp;omega)).trans T.o));have b2:=Aa (cj.up ak);have bu:=Aa (E.Al (E.Cr bh (r:=some i)) (E.Al al (E.Cr ak)));clear hr cj al ak bh HU T;go_wp2
 go_loopw [16] (λvi wr=>∃k:Nat,k<=l.length/\vi=.int .i64 k/\(∃sv bv,Hid (wr.1[a.1.size]? = some (.cells #[.int .i64 n0,sv,bv] 207))/\Hid (wr.ownsRow (a.1.size+1) 261 8 sv k ((Ga (l.take k) (Cf l b k).1).flatMap encS))/\Hid (wr.ownsRow (a.1.size+1) 9 1 bv k ((Cf l b k).1.flatMap Mc)))/\Hid (wr.1[w.1.size]? = some (.cells #[.int .i64 0,.slice none 0 0,.slice none 0 0] 207))/\Hid (E.Oi 255 [] wr i (Cf l b k).2)/\(Cf l b k).2.1.length<=1000000/\Hid (w.grownBy wr (some i))/\a.1.size+1<=wr.1.size) (λvi _=>l.length-(intOf vi).toNat)
 case atStart=>exact⟨0,XH _,rfl,⟨_,_,cs,Aa (XU _ _ _ _),Aa (XU _ _ _ _)⟩,bb,b2,c8,bu,by simp⟩
 case round=>
  obtain⟨k,hk,rfl,⟨sv,bv,hg,ae,ab⟩,ac,ao,cn,O,dj⟩:=hrel;obtain⟨sa,sc,rfl,_⟩:=E.Ak ae.o;obtain⟨ba,bc,rfl,_⟩:=E.Ak ab.o
  by_cases hlt:k<l.length
  ·obtain⟨⟨c1,c2,c3,c4,c5,c6,c7⟩,hc⟩:∃c,l[k]? = some c:=⟨_,Y' hlt⟩
   obtain⟨lb,lo,dl,el,_,df,z⟩:=(HL.o wr O.o).cons (by omega);injection el with cw _ cx;subst cw cx;obtain⟨q0,q1,q2,q3,q4,q5,q6⟩:=F8 z hc;have cy:(k:Int)<(l.length:Int):=by omega
   have aj:Cf l b (k+1)=((Cf l b k).1++[(Hl (Cf l b k).2).1],(Hl (Cf l b k).2).2):=by unfold Cf;rw[E.Br hc,Uc]
   have cr:Hid ((Cf l b (k+1)).1=(Cf l b k).1++[(Hl (Cf l b k).2).1]):=Aa (by rw[aj]);have b8:Hid ((Cf l b (k+1)).2=(Hl (Cf l b k).2).2):=Aa (by rw[aj]);obtain⟨L,hL⟩:∃L,(E.Ll c3 (Hl (Cf l b k).2).1).getD []=L:=⟨_,rfl⟩;have b7:Hid (Ga (l.take (k+1)) (Cf l b (k+1)).1=Ga (l.take k) (Cf l b k).1++[S.Iv L]):=Aa (by rw[aj,E.Br hc,AFu (by unfold Cf;rw[Pj])];simp only[ABV];rw[<-hL];rfl);have ad:=Xq cn;have bg:Hid ((Hl (Cf l b k).2).1.length<=1000000/\(Cf l b (k+1)).2.1.length<=1000000/\(E.Am 9223372036854775807 (Cf l b k).2).2.1.length<=1000000):=Aa ⟨ad.1,by rw[b8.o];exact ad.2.1,ad.2.2⟩
   have da:L.length<=60:=by
    rw[<-hL];cases hd:E.Ll c3 (Hl (Cf l b k).2).1 with
    | none=>simp
    | some m=>obtain⟨_,_,hm⟩:=E.l3 hd;rw[XX,hm];exact(E.nO ad.1).2
   have bi:Below wr.1.size wr (wr.alloc (.cells #[.int .i64 c1,.string c2,.int .i64 c3,.bool c4,.int .i64 c5,.int .i64 c6,.string c7] 69)):=Zal;have bp:=Aa (Yac wr (.cells #[.int .i64 c1,.string c2,.int .i64 c3,.bool c4,.int .i64 c5,.int .i64 c6,.string c7] 69));have cc:=Aa (E.Jo 255 [] i 9223372036854775807 (Cf l b k).2 _ (ao.o.up bi) cn (by omega) (by omega));have bz:=Aa (E.Cr (r:=some i) bi);have dk:=O.o.size;clear z hc aj ad bi;go_wp2_with fail;apply cc.o.mono;rintro e P⟨rfl,ck,am⟩;have bl:=Aa (E.fG 255 [] i (E.Am 9223372036854775807 (Cf l b k).2).1 _ P ck bg.o.2.2);have bs:=Aa (E.Al bz.o am);have ap:=am.size;rw[XG] at ap;have ar:=Aa ((am.block wr.1.size (by simp) (by simp;omega)).trans bp.o);clear ck am q0 q1 q2 q3 q4 q5 q6 cc bp;go_wp2_with fail;apply bl.o.mono;rintro e w5⟨rfl,cl,d⟩;have a1:E.Oi 255 [] w5 i (Cf l b (k+1)).2:=by rw[b8.o];exact cl
   have di:=d.size
   have cK:w5.cell? ⟨wr.1.size,2,none⟩=some (.int .i64 c3):=by have h5:=(d.block wr.1.size (by omega) (by simp;omega)).trans ar.o;simp[World.cell?,h5]
   have J:=E.Al bs.o d;have b0:=Aa ((J.block a.1.size (by omega) (by simp;omega)).trans hg.o);have b6:=Aa ((J.block w.1.size (by omega) (by simp;omega)).trans ac.o);have cb:=Aa (E.Dc ae.o (by omega) J);have bo:=Aa (E.Dc ab.o (by omega) J);have av:=Aa (E.Al O.o J);have ax:=Aa a1;have bq:=Aa (ACm c3 (Hl (Cf l b k).2).1 w5 bg.o.1);rw[hL] at bq;clear hg ac ae ab O ao cl a1 d J ar bs bz bl hL;have f:(E.C8 (E.Am 9223372036854775807 (Cf l b k).2).1 (E.Am 9223372036854775807 (Cf l b k).2).2).1=(Hl (Cf l b k).2).1:=rfl;rw[f];clear f;go_wp2_with fail;apply bq.o.mono;rintro e w3⟨va,vn,vc,ev,rfl,a2,y⟩;have az:=Aa a2;have a7:=Aa ((y.block a.1.size (by omega)).trans b0.o);have U:=Aa ((y.block w.1.size (by omega)).trans b6.o);have o:=Aa (E.Ad cb.o y);have R:=Aa (E.Ad bo.o y);have au:=Aa (E.Al av.o (E.Cr y));have aw:=Aa (ax.o.up y);have dh:=y.size;clear b0 b6 cb bo av ax a2 y cK;obtain⟨⟨s1,s2,⟨k1,n1,t1⟩,⟨k2,n2,t2⟩⟩,bk⟩:∃s,S.Iv L=s:=⟨_,rfl⟩
   have b1:Hid (∀W,Below w3.1.size w3 W->Zc 187 #[.slice va vn vc] W λe w'=>e=.returned (.agg #[.int .i64 s1,.int .i64 s2,.int .i64 k1,.int .i64 n1,.string t1,.int .i64 k2,.int .i64 n2,.string t2])/\Below W.1.size W w'):=Aa (λW hW=>by have X:=S.yU (.slice va vn vc) L W (az.o.up hW) (by omega);rw[bk] at X;exact X)
   have cv:Hid (Ga (l.take (k+1)) (Cf l b (k+1)).1=Ga (l.take k) (Cf l b k).1++[(s1,s2,(k1,n1,t1),(k2,n2,t2))]):=Aa (by rw[b7.o,bk]);have cf:a.1.size<w3.1.size:=by omega
   have a9:=Aa (λ(W:Tw)(hW:Below w3.1.size w3 W)=>J5 ((hW.block (a.1.size) cf).trans a7.o));obtain⟨_,g1,g2,_,z1,z2⟩:=a9.o w3 (XB _ _);clear bk g2 z2;go_wp2_with fail
   go_region_law
    (first
      | (refine I6 (by rfl) 187 (.tmp 33) 71 (by rfl) (.slice va vn vc) (by rfl) br.o _ (b1.o _ (XB _ _).drew) ?_
         rintro e P⟨rfl,a0⟩;have aa:Below w3.1.size w3 P:=Ap (XB _ _).drew a0;refine⟨_,rfl,?_⟩;obtain⟨_,p1,_,_,o1,_⟩:=a9.o P aa;have c9:=Ag ((XB P.1.size P).alloc (XA _) (.cells #[.int .i64 s1,.int .i64 s2,.int .i64 k1,.int .i64 n1,.string t1,.int .i64 k2,.int .i64 n2,.string t2] 261)) p1;have ap:=aa.size;have cz:P.1.size≠a.1.size:=(λe=>by rw[e] at ap;omega))
      | (refine step_append_lies _ (by rfl) (.tmp 32) (.tmp 35) 204 (by rfl) (a.1.size+1) 261 iS (.agg #[.int .i64 0,.int .i64 0,.int .i64 0,.int .i64 0,.string ⟨#[]⟩,.int .i64 0,.int .i64 0,.string ⟨#[]⟩]) 8 80 underlying204 ag.o.1 ag.o.2.1 ag.o.2.2.1 ag.o.2.2.2 rfl (by decide) (.slice sa k sc) k _ (by rfl) ((E.Ad o.o aa).alloc _) ⟨P.1.size,0,none⟩ 1 1 [.int .i64 s1,.int .i64 s2,.int .i64 k1,.int .i64 n1,.string t1,.int .i64 k2,.int .i64 n2,.string t2] (by rfl) rfl (λj u hj=>XK (Yac _ _) j u hj) (r9 (s1,s2,(k1,n1,t1),(k2,n2,t2))) (by omega) (by unfold maxLen;omega) (by omega) (by simp;omega) _ rfl ?_
         intro g G w5 bj d ce ci;have D:Hid (some (a.1.size)≠(Value.slice sa k sc).ownBlock):=Aa (λe=>by have:=(o.o.lt _ e.symm).1;omega);have r1:=(d.cell_far ⟨a.1.size,1,none⟩ (by simp;omega) D.o).trans (Ag (Zal) p1);have r2:=(d.frozen_far ⟨a.1.size,1,none⟩ (by simp;omega) D.o).trans (((XB P.1.size P).alloc (XA _) (.cells #[.int .i64 s1,.int .i64 s2,.int .i64 k1,.int .i64 n1,.string t1,.int .i64 k2,.int .i64 n2,.string t2] 261)).frozen (p:=⟨a.1.size,1,none⟩) (by show a.1.size<_;omega) |>.trans o1))
      | fail)
   all_goals
    have h:Below w3.1.size w3 (P.alloc (.cells #[.int .i64 s1,.int .i64 s2,.int .i64 k1,.int .i64 n1,.string t1,.int .i64 k2,.int .i64 n2,.string t2] 261)):=Ap aa (Zal);have V:=Aa (E.Ad o.o h);have aq:=Aa (E.Ad R.o h);have af:a.1.size+1<(P.alloc (.cells #[.int .i64 s1,.int .i64 s2,.int .i64 k1,.int .i64 n1,.string t1,.int .i64 k2,.int .i64 n2,.string t2] 261)).1.size:=by simp;omega
    have I:=(d.block (a.1.size) (by omega) D.o).trans ((h.block (a.1.size) cf).trans a7.o);have Y:=(d.block w.1.size (by omega) (λe=>by have:=(o.o.lt _ e.symm).1;omega)).trans ((h.block w.1.size (by omega)).trans U.o);have M:=E.Ar w5 (a.1.size) 1 (.slice (some ⟨g,0,none⟩) (k+1) G);have a8:=Aa (heap_setCell_same w5 (a.1.size) 1 _ 207 (.slice (some ⟨g,0,none⟩) (k+1) G) I);have bd:=Aa ((M.block w.1.size (by have:=d.size;omega) (by simp;omega)).trans Y);have ay:=Aa (bj.kept M (.inr (λe=>by have:=(bj.lt _ e).1;omega)))
    have n:=Aa ((E.ALN aq.o V.o (by decide) d).kept M (by
     cases hob:(Value.slice ba k bc).ownBlock with
     | none=>exact .inl rfl
     | some q=>exact .inr (λe=>by injection e with e;have:=(R.o.lt q hob).1;omega)))
    have bw:=Aa (E.C0 (E.Hj (E.Al au.o (E.Cr h)) V.o (by omega) d) (g:=a.1.size) (j:=1) (by omega) (.slice (some ⟨g,0,none⟩) (k+1) G));have b3:Hid (E.Oi 255 [] (w5.setCell ⟨a.1.size,1,none⟩ (.slice (some ⟨g,0,none⟩) (k+1) G)) i (Cf l b (k+1)).2):=Aa ((M.block i (by have:=d.size;omega) (by simp;omega)).trans ((d.block i (by omega) (λe=>by have:=(o.o.lt _ e.symm).1;omega)).trans (aw.o.up h)));have dc:a.1.size+1<(w5.setCell ⟨a.1.size,1,none⟩ (.slice (some ⟨g,0,none⟩) (k+1) G)).1.size:=by have:=d.size;have:=M.size;omega
    clear I Y M V aq h af r1 r2 bj d ce ci p1 c9 o1 aa a0 ap cz D;generalize w5.setCell ⟨a.1.size,1,none⟩ (.slice (some ⟨g,0,none⟩) (k+1) G)=w6 at *;simp only[XM,XW,XR] at a8;obtain⟨_,_,de,_,_,dm⟩:=J5 a8.o;generalize cm:E.str (Hl (Cf l b k).2).1=sb at *;have cu:=Aa cm;clear cm b1 a9 a7 U o R au aw az g1 z1;have db:¬a.1.size=w6.1.size:=by omega
    go_wp2_with (at_builtin;refine wpList_append_own _ rfl _ _ 205 rfl (a.1.size+1) 9 iT (.string ⟨#[]⟩) 1 16 underlying205 ah.o.1 ah.o.2.1 ah.o.2.2.1 ah.o.2.2.2 rfl (by decide) _ _ _ rfl (n.o.alloc _) ⟨w6.1.size,0,none⟩ 1 1 [.string sb] rfl rfl (λj u hj=>XK (Yac _ _) j u hj) (by simp[Value.oneCell']) ?d3 ?d4 ?d5 ?_)
    case d3=>unfold maxLen;omega
    case d4=>omega
    case d5=>first|omega|(simp;omega)
    intro v7 w7 an t _;obtain⟨g7,x,rfl,_,_⟩:=an.form (by omega);have h:Below w6.1.size w6 (w6.alloc (.cells #[Zt sb] 9)):=Zal;have af:a.1.size+1<(w6.alloc (.cells #[Zt sb] 9)).1.size:=by simp;omega
    have D:Hid (some (a.1.size)≠(Value.slice ba k bc).ownBlock):=Aa (λe=>by have:=(n.o.lt _ e.symm).1;omega);have I:=(t.block (a.1.size) (by omega) D.o).trans ((h.block (a.1.size) (by omega)).trans a8.o);have Y:=(t.block w.1.size (by omega) (λe=>by have:=(n.o.lt _ e.symm).1;omega)).trans ((h.block w.1.size (by omega)).trans bd.o);obtain⟨_,_,p2,_,_,o2⟩:=J5 I;have N:=E.Ar w7 (a.1.size) 2 (.slice (some ⟨g7,0,none⟩) (k+1) x);have bt:=Aa (heap_setCell_same w7 (a.1.size) 2 _ 207 (.slice (some ⟨g7,0,none⟩) (k+1) x) I);simp only[XM,XW,XR] at bt;have bf:=Aa ((N.block w.1.size (by have:=t.size;omega) (by simp;omega)).trans Y);have bm:=Aa (an.kept N (.inr (λe=>by have:=(an.lt _ e).1;omega)));have b9:=Aa ((E.ALN (E.Ad ay.o h) (n.o.alloc (.cells #[Zt sb] 9)) (by decide) t).kept N (.inr (λe=>by have:=(ay.o.lt _ e).1;omega)));have bx:=Aa (E.C0 (E.Hj (E.Al bw.o (E.Cr h)) (n.o.alloc (.cells #[Zt sb] 9)) (by omega) t) (g:=a.1.size) (j:=2) (by omega) (.slice (some ⟨g7,0,none⟩) (k+1) x));have b4:=Aa ((N.block i (by have:=t.size;omega) (by simp;omega)).trans ((t.block i (by omega) (λe=>by have:=(n.o.lt _ e.symm).1;omega)).trans (b3.o.up h)));have co:a.1.size+1<=(w7.setCell ⟨a.1.size,2,none⟩ (.slice (some ⟨g7,0,none⟩) (k+1) x)).1.size:=by have:=t.size;have:=N.size;omega
    clear I Y N t an h af;go_wp2;refine⟨⟨k+1,by omega,by go_num,⟨_,_,bt,Aa ?_,Aa ?_⟩,bf,b4,bg.o.2.1,bx,co⟩,by simp[intOf];omega⟩
    ·rw[cv.o,XV];exact b9.o
    rw[cr.o,XV];have e:[(Hl (Cf l b k).2).1].flatMap Mc=[.string sb]:=by rw[<-cu.o];rfl
    rw[e];exact bm.o
  have ek:k=l.length:=by omega
  have cy:¬(k:Int)<(l.length:Int):=by omega
  obtain⟨g0,g1,g2,_,_,_⟩:=J5 hg.o;obtain⟨y0,y1,y2,z0,z1,z2⟩:=J5 ac.o;have f:Cf l b k=Dk l b:=by unfold Cf;rw[ek,Yg]
  have ca:Hid (wr.ownsRow (a.1.size+1) 261 8 (.slice sa k sc) l.length ((Cd l s).1.2.1.flatMap encS)):=Aa (by have X:=ae.o;rw[f,Yf (by omega)] at X;rw[ai.o,<-ek];exact X);have bn:Hid (wr.ownsRow (a.1.size+1) 9 1 (.slice ba k bc) l.length ((Cd l s).1.2.2.flatMap Mc)):=Aa (by have X:=ab.o;rw[f] at X;rw[ai.o,<-ek];exact X);have b5:Hid (E.Oi 255 [] wr i (Cd l s).2):=Aa (by have X:=ao.o;rw[f] at X;rw[ai.o];exact X);have ct:Hid ((Cd l s).1.1=n0):=Aa (by rw[ai.o]);have dd:=O.o.size;clear ek ae ab ao f;go_wp2;refine bodyPost_ret (v:=.agg #[.int .i64 n0,.slice sa k sc,.slice ba k bc]) (by simp[results,results211,go_sem,y0,y1,y2]) rfl ⟨_,_,by rw[ct.o],?_,?_,?_,?_⟩
  ·exact E.Ai (ABc ca.o (by omega) _ _ _) (by omega)
  ·exact E.Ai (ABc bn.o (by omega) _ _ _) (by omega)
  ·exact((E.Ar _ w.1.size 2 _).block i (by have:=(E.Ar wr w.1.size 0 (.int .i64 n0)).size;have:=(E.Ar (wr.setCell ⟨w.1.size,0,none⟩ (.int .i64 n0)) w.1.size 1 (.slice sa k sc)).size;omega) (by simp;omega)).trans (((E.Ar _ w.1.size 1 _).block i (by have:=(E.Ar wr w.1.size 0 (.int .i64 n0)).size;omega) (by simp;omega)).trans (((E.Ar _ w.1.size 0 _).block i (by omega) (by simp;omega)).trans b5.o))
  exact E.C0 (E.C0 (E.C0 O.o (XA _) _) (XA _) _) (XA _) _
theorem aQ{most:Nat}(s:E.St):(E.Am most s).1<=most:=by
 unfold E.Am;split
 ·exact XH _
 rename_i h;simp only[E.Ra,WH,decide_eq_true_eq,not_or] at h;omega
def AIR(s:E.St):Aj×E.St:=(qN (E.Am 1099511627776 s).1 (E.Am 2 (E.Am 1099511627776 s).2).1,(E.Am 2 (E.Am 1099511627776 s).2).2)
theorem Xn:∀(k:Nat)(s:E.St),Ca (k+1) s=((Ca k s).1++[(AIR (Ca k s).2).1],(AIR (Ca k s).2).2)
 | 0,_=>rfl
 | k+1,s=>by have h:=Xn k (E.Am 2 (E.Am 1099511627776 s).2).2;rw[Ca,h];rfl
theorem Rz:∀(k:Nat)(s:E.St),(Ca k s).1.length=k
 | 0,_=>rfl
 | k+1,s=>by rw[Ca];simp[Rz k]
theorem Ql(l:List Aj):∀(k:Nat)(s:E.St),Bb l (k+1) s=((Bb l k s).1++[(Cd l (Bb l k s).2).1],(Cd l (Bb l k s).2).2)
 | 0,_=>rfl
 | k+1,s=>by have h:=Ql l k (Cd l s).2;rw[Bb,h];rfl
theorem Kr(l:List Aj):∀(k:Nat)(s:E.St),(Bb l k s).1.length=k
 | 0,_=>rfl
 | k+1,s=>by rw[Bb];simp[Kr l k]
theorem Mb:∀(l:List Aj){s:E.St}{n:Nat},s.1.length<=n->(Dk l s).2.1.length<=n/\∀b∈(Dk l s).1,b.length<=n
 | [],_,_,h=>⟨h,by simp[Dk]⟩
 | _ :: l,s,n,h=>by
   obtain⟨c,d,_⟩:=Xq h;obtain⟨e,f⟩:=Mb l d;refine⟨e,λb a=>?_⟩;simp only[Dk,Wb] at a
   rcases a with rfl|a
   ·exact c
   exact f b a
theorem Qo(l:List Aj)(h:s.1.length<=n):(Cd l s).2.1.length<=n:=(Mb l (Ee h)).1
theorem uL(l:List Aj)(s:E.St):(Cd l s).1.2.1.length=l.length/\(Cd l s).1.2.2.length=l.length:=by have h:=Pj l (E.Am 6 s).2;exact⟨by simp[Cd,Ga,h],by simp[Cd,h]⟩
theorem Ii{w W:Tw}{B e z n b:Nat}{v:Tv}{xs:List Tv}(h:w.ownsRow B e z v n xs)(a:b<B)(c:w.grownBy W (some b)):W.ownsRow B e z v n xs:=E.Dc h a c
theorem y9(i:Nat)(s:List UInt8)(w:Tw)(hr:E.Oi 255 [] w i (s,false))(hs:s.length<=1000000):
 Zc 169 #[.pointer (some ⟨i,0,none⟩)] w λe w'=>∃cv gv,e=.returned (.agg #[cv,gv])/\Hm w' cv gv (G0 s).1/\E.Oi 255 [] w' i (G0 s).2/\w.grownBy w' (some i):=by
 obtain⟨cs,hX,hY,hB⟩:=Kt w (.cells #[.slice none 0 0,.slice none 0 0] 146) (.cells #[.slice none 0 0,.slice none 0 0] 146);have HU:=Aa (E.Jo 255 [] i 8 (s,false) _ (hr.up hB) hs (by omega) (by omega));have ds:=hr.lt;have dg:=aQ (most:=8) (s,false);have dm:(E.Am 8 (s,false)).2.1.length<=1000000:=Ee hs;have bd:Hid (G0 s=(((Ca (E.Am 8 (s,false)).1 (E.Am 8 (s,false)).2).1,(Rr (Ca (E.Am 8 (s,false)).1 (E.Am 8 (s,false)).2).1 (Ca (E.Am 8 (s,false)).1 (E.Am 8 (s,false)).2).2).1),(Rr (Ca (E.Am 8 (s,false)).1 (E.Am 8 (s,false)).2).1 (Ca (E.Am 8 (s,false)).1 (E.Am 8 (s,false)).2).2).2)):=Aa rfl;simp only[XS] at dg;generalize (E.Am 8 (s,false)).1=N at *;generalize (E.Am 8 (s,false)).2=J at *;obtain⟨iC,ci,cx,az,a1⟩:=info_parts Kh;have al:=Zy ci cx az a1;obtain⟨iG,cj,cy,a0,a2⟩:=info_parts AGV;have am:=Zy cj cy a0 a2;have c0:=Aa (enters_of func210 (by kernel_rfl) rfl);have HX:=Aa hX;have HY:=Aa hY;have HB:=Aa hB;have ao:=Aa cs;clear hX hY hB cs ci cx az a1 cj cy a0 a2 hr;go_enter func169,ntmps169;go_wp2_with fail;apply HU.o.mono;rintro e w1⟨rfl,co,ae⟩;have cr:=ae.size;rw[ao.o] at cr;have a6:=Aa ((ae.block w.1.size (by rw[ao.o];omega) (by simp;omega)).trans HX.o);have c1:=Aa ((ae.block (w.1.size+1) (by rw[ao.o];omega) (by simp;omega)).trans HY.o);have b4:=Aa co;have bz:=Aa (E.Al (E.Cr HB.o (r:=some i)) ae);clear co ae HU HX HY HB ao;go_wp2
 go_loopw [7] (λvi wr=>∃k:Nat,k<=N/\vi=.int .i64 k/\(∃cv,Hid (wr.1[w.1.size+1]? = some (.cells #[cv,.slice none 0 0] 146))/\Hid (wr.ownsRow (w.1.size+2) 69 7 cv k ((Ca k J).1.flatMap Cc)))/\Hid (wr.1[w.1.size]? = some (.cells #[.slice none 0 0,.slice none 0 0] 146))/\Hid (E.Oi 255 [] wr i (Ca k J).2)/\(Ca k J).2.1.length<=1000000/\Hid (w.grownBy wr (some i))/\w.1.size+2<=wr.1.size) (λvi _=>N-(intOf vi).toNat)
 case atStart=>exact⟨0,XH _,rfl,⟨_,c1,Aa (XU _ _ _ _)⟩,a6,b4,dm,bz,cr⟩
 case round=>
  obtain⟨k,hk,rfl,⟨cv,hf,n⟩,a,y,R,P,dp⟩:=hrel;obtain⟨U,V,rfl,_⟩:=E.Ak n.o
  by_cases hlt:k<N
  ·have dj:(k:Int)<(N:Int):=by omega
   have T:=Aa (Xn k J);have b9:=Aa (E.Jo 255 [] i 1099511627776 (Ca k J).2 wr y.o R (by omega) (by omega));have ay:(E.Am 1099511627776 (Ca k J).2).2.1.length<=1000000:=Ee R;have bg:Hid ((Ca (k+1) J).2.1.length<=1000000):=Aa (by rw[T.o];exact Ee ay);have bw:Hid ((Ca (k+1) J).1.flatMap Cc=(Ca k J).1.flatMap Cc++[.int .i64 (E.Am 1099511627776 (Ca k J).2).1,.string ⟨#[]⟩,.int .i64 (E.Am 2 (E.Am 1099511627776 (Ca k J).2).2).1,.bool false,.int .i64 0,.int .i64 0,.string ⟨#[]⟩]):=Aa (by rw[T.o,XV];rfl);have c8:Hid ((Ca (k+1) J).2=(E.Am 2 (E.Am 1099511627776 (Ca k J).2).2).2):=Aa (by rw[T.o];rfl);generalize (E.Am 1099511627776 (Ca k J).2).1=aj at *;generalize (E.Am 1099511627776 (Ca k J).2).2=sB at *;go_wp2_with fail;apply b9.o.mono;rintro e w4⟨rfl,cp,Y⟩;have dt:=Y.size;have c2:=Aa ((Y.block (w.1.size+1) (by omega) (by simp;omega)).trans hf.o);have a7:=Aa ((Y.block w.1.size (by omega) (by simp;omega)).trans a.o);have L:=Aa (Ii n.o (by omega) Y);have b0:=Aa (E.Al P.o Y);have O:Zb w4 w4.drew:=(XB _ _).drew;have c9:=Aa (E.Jo 255 [] i 2 sB w4.drew (cp.up O) ay (by omega) (by omega));have a3:=Aa (E.Cr (r:=some i) O)
   have ab:Hid (∀W,w4.grownBy W (some i)->W.cell? ⟨w.1.size+1,0,none⟩=some (.slice U k V)/\W.frozen? ⟨w.1.size+1,0,none⟩=false/\W.1[w.1.size+1]? = some (.cells #[.slice U k V,.slice none 0 0] 146)):=Aa (λW hW=>by have h:=(hW.block (w.1.size+1) (by omega) (by simp;omega)).trans c2.o;exact⟨(Hg h).1,Yaf W (w.1.size+1) 0 _ _ h,h⟩)
   obtain⟨g1,z1,_⟩:=ab.o w4 (E.G2 _ _);have b8:Hid (∀W,E.Oi 255 [] W i (E.Am 2 sB).2->E.Oi 255 [] W i (Ca (k+1) J).2):=Aa (λW h=>by rw[c8.o];exact h);generalize (E.Am 2 sB).1=ak at *;clear hf a n P y cp Y O b9;go_wp2_with fail
   go_region_law
    (first
      | (refine Gc (by rfl) 210 (.tmp 14) (.const (.int .i64 2)) 258 3 (by rfl) (.pointer (some ⟨i,0,none⟩)) (.int .i64 2) (by rfl) (by rfl) c0.o _ c9.o ?_
         rintro e w5⟨rfl,ag,aw⟩;have l:=E.Al a3.o aw;refine⟨_,rfl,?_⟩;obtain⟨p1,o1,cd⟩:=ab.o w5 l;have bq:=Ag ((XB w5.1.size w5).alloc (XA _) (.cells #[Zi aj,.string ⟨#[]⟩,Zi ak,.bool false,.int .i64 0,.int .i64 0,.string ⟨#[]⟩] 69)) p1;have bl:=l.size;have dk:w5.1.size≠w.1.size+1:=(λe=>by rw[e] at bl;omega))
      | (refine step_append_lies _ (by rfl) (.tmp 12) (.tmp 17) 32 (by rfl) (w.1.size+2) 69 iC L6 7 72 underlying32 al.o.1 al.o.2.1 al.o.2.2.1 al.o.2.2.2 rfl (by decide) (.slice U k V) k _ (by rfl) ((Ii L.o (by omega) l).alloc _) ⟨w5.1.size,0,none⟩ 1 1 [.int .i64 aj,.string ⟨#[]⟩,.int .i64 ak,.bool false,.int .i64 0,.int .i64 0,.string ⟨#[]⟩] (by rfl) rfl (λj u hj=>XK (Yac _ _) j u hj) (by simp[Value.oneCell']) (by omega) (by unfold maxLen;omega) (by omega) (by simp;omega) _ rfl ?_
         intro g d w6 bk t cg cl;have D:Hid (some (w.1.size+1)≠(Value.slice U k V).ownBlock):=Aa (λe=>by have:=(L.o.lt _ e.symm).1;omega);have r1:=(t.cell_far ⟨w.1.size+1,0,none⟩ (by simp;omega) D.o).trans (Ag (Zal) p1);have r2:=(t.frozen_far ⟨w.1.size+1,0,none⟩ (by simp;omega) D.o).trans (((XB w5.1.size w5).alloc (XA _) (.cells #[Zi aj,.string ⟨#[]⟩,Zi ak,.bool false,.int .i64 0,.int .i64 0,.string ⟨#[]⟩] 69)).frozen (p:=⟨w.1.size+1,0,none⟩) (by show w.1.size+1<_;omega) |>.trans o1))
      | fail)
   all_goals
    have f:Zb w5 (w5.alloc (.cells #[Zi aj,.string ⟨#[]⟩,Zi ak,.bool false,.int .i64 0,.int .i64 0,.string ⟨#[]⟩] 69)):=Zal;have ar:=Aa (E.Ad (Ii L.o (by omega) l) f);have ah:w.1.size+2<(w5.alloc (.cells #[Zi aj,.string ⟨#[]⟩,Zi ak,.bool false,.int .i64 0,.int .i64 0,.string ⟨#[]⟩] 69)).1.size:=by simp;omega
    have X:=(t.block (w.1.size+1) (by omega) D.o).trans ((f.block (w.1.size+1) (by omega)).trans cd);have ad:=(t.block w.1.size (by omega) (λe=>by have:=(L.o.lt _ e.symm).1;omega)).trans ((f.block w.1.size (by omega)).trans ((l.block w.1.size (by omega) (by simp;omega)).trans a7.o));have af:=E.Ar w6 (w.1.size+1) 0 (.slice (some ⟨g,0,none⟩) (k+1) d);have bx:=Aa (heap_setCell_same w6 (w.1.size+1) 0 _ 146 (.slice (some ⟨g,0,none⟩) (k+1) d) X);have a9:=Aa ((af.block w.1.size (by have:=t.size;omega) (by simp)).trans ad);have bt:Hid ((w6.setCell ⟨w.1.size+1,0,none⟩ (.slice (some ⟨g,0,none⟩) (k+1) d)).ownsRow (w.1.size+2) 69 7 (.slice (some ⟨g,0,none⟩) (k+1) d) (k+1) ((Ca (k+1) J).1.flatMap Cc)):=Aa (by rw[bw.o];exact bk.kept af (.inr (λe=>by have:=(bk.lt _ e).1;omega)));have b2:=Aa (E.C0 (E.Hj (E.Al b0.o (E.Al l (E.Cr f))) ar.o (by omega) t) (g:=w.1.size+1) (j:=0) (by omega) (.slice (some ⟨g,0,none⟩) (k+1) d));have b6:=Aa (b8.o _ ((af.block i (by have:=t.size;omega) (by simp;omega)).trans ((t.block i (by omega) (λe=>by have:=(L.o.lt _ e.symm).1;omega)).trans (ag.up f))));have cw:w.1.size+2<=(w6.setCell ⟨w.1.size+1,0,none⟩ (.slice (some ⟨g,0,none⟩) (k+1) d)).1.size:=by have:=t.size;have:=af.size;omega
    clear X ad af ar f ah r1 r2 bk t cg cl p1 bq o1 l aw bl dk D ag cd;simp only[XM,XR] at bx;go_wp2;exact⟨⟨k+1,by omega,by go_num,⟨_,bx,bt⟩,a9,b6,bg.o,b2,cw⟩,by simp[intOf];omega⟩
  have ek:k=N:=by omega
  have dj:¬(k:Int)<(N:Int):=by omega
  rw[<-ek] at bd;clear ek;obtain⟨qz,G⟩:∃c,(Ca k J).1=c:=⟨_,rfl⟩;obtain⟨sC,bm⟩:∃c,(Ca k J).2=c:=⟨_,rfl⟩;have dh:qz.length=k:=by rw[<-G,Rz]
  rw[G,bm] at bd;rw[bm] at R y;rw[G] at n;clear G bm;subst dh;have cb:=Aa (E.Jo 255 [] i 60 sC wr y.o R (by omega) (by omega));have hM:=aQ (most:=60) sC;have dn:(E.Am 60 sC).2.1.length<=1000000:=Ee R;simp only[XS] at hM;have c6:Hid (Rr qz sC=Bb qz (E.Am 60 sC).1 (E.Am 60 sC).2):=Aa rfl;generalize (E.Am 60 sC).1=M at *;generalize (E.Am 60 sC).2=o at *;go_wp2_with fail;apply cb.o.mono;rintro e w5⟨rfl,ag,l⟩;have bl:=l.size;have c3:=Aa ((l.block (w.1.size+1) (by omega) (by simp;omega)).trans hf.o);have a8:=Aa ((l.block w.1.size (by omega) (by simp;omega)).trans a.o);have bs:=Aa (Ii n.o (by omega) l);have b1:=Aa (E.Al P.o l);have b5:=Aa ag;clear hf a n P y ag l cb;have cz:=Aa (enters_of func211 (by kernel_rfl) rfl);have cu:w.1.size+2<=w5.1.size:=by omega
  go_wp2
  go_loopw [23] (λvi wr=>∃j:Nat,j<=M/\vi=.int .i64 j/\(∃gv,Hid (wr.1[w.1.size+1]? = some (.cells #[.slice U qz.length V,gv] 146))/\Hid (Wn (w.1.size+2) wr gv (Bb qz j o).1))/\Hid (wr.ownsRow (w.1.size+2) 69 7 (.slice U qz.length V) qz.length (qz.flatMap Cc))/\Hid (wr.1[w.1.size]? = some (.cells #[.slice none 0 0,.slice none 0 0] 146))/\Hid (E.Oi 255 [] wr i (Bb qz j o).2)/\(Bb qz j o).2.1.length<=1000000/\Hid (w.grownBy wr (some i))/\w.1.size+2<=wr.1.size) (λvi _=>M-(intOf vi).toNat)
  case atStart=>exact⟨0,XH _,rfl,⟨_,c3,Aa (uW _ _)⟩,bs,a8,b5,dn,b1,cu⟩
  case round=>
   obtain⟨j,hj,rfl,⟨gv,hf,bj⟩,n,a,y,R,P,dp⟩:=hrel;have aa:=Kr qz j o;obtain⟨xs,aq,ai,bp⟩:=bj.o;rw[aa] at aq ai;obtain⟨xa,xc,rfl,_⟩:=E.Ak ai
   by_cases hlt:j<M
   ·have ck:(j:Int)<(M:Int):=by omega
    have T:=Aa (Ql qz j o);have ac:=Aa ai;have da:=Aa bp;have db:=Aa aq;have bg:Hid ((Bb qz (j+1) o).2.1.length<=1000000):=Aa (by rw[T.o];exact Qo qz R);have O:Zb wr wr.drew:=(XB _ _).drew;have c5:=Aa (iU i (Bb qz j o).2 (.slice U qz.length V) qz wr.drew (y.o.up O) (λW hW=>F7.Fz (k:=7) (enc:=Cc) (λ_=>rfl) (Ii (E.Ad n.o O) (b:=i) (by omega) hW) rfl) (by omega) R);have a3:=Aa (E.Cr (r:=some i) O)
    have ab:Hid (∀W,wr.grownBy W (some i)->W.cell? ⟨w.1.size+1,0,none⟩=some (.slice U qz.length V)/\W.cell? ⟨w.1.size+1,1,none⟩=some (.slice xa j xc)/\W.frozen? ⟨w.1.size+1,1,none⟩=false/\W.1[w.1.size+1]? = some (.cells #[.slice U qz.length V,.slice xa j xc] 146)):=Aa (λW hW=>by have h:=(hW.block (w.1.size+1) (by omega) (by simp;omega)).trans hf.o;exact⟨(Hg h).1,(Hg h).2,Yaf W (w.1.size+1) 1 _ _ h,h⟩)
    obtain⟨g0,g1,z1,_⟩:=ab.o wr (E.G2 _ _);have b7:=Aa y.o;have dr:=Aa hf.o;have bu:=Aa n.o;have c7:=Aa a.o;have c4:=Aa P.o;clear hf bj n a y P O aq ai bp aa;go_wp2_with fail
    go_region_law
     (first
       | (refine Gc (by rfl) 211 (.tmp 27) (.tmp 29) 258 32 (by rfl) (.pointer (some ⟨i,0,none⟩)) (.slice U qz.length V) (by rfl) (by rfl) cz.o _ c5.o ?_
          rintro e w8⟨sv,bv,rfl,bn,bh,cq,ax⟩;have I:=E.Al a3.o ax;obtain⟨sa,sc,df,_⟩:=E.Ak bn;obtain⟨ba,bc,dc,_⟩:=E.Ak bh;subst df dc;refine⟨_,rfl,?_⟩;obtain⟨_,p1,o1,ce⟩:=ab.o w8 I;have bq:=Ag ((XB w8.1.size w8).alloc (XA _) (.cells #[.int .i64 (Cd qz (Bb qz j o).2).1.1,Zs sa qz.length sc,Zs ba qz.length bc] 207)) p1;have ct:=I.size;have dl:w8.1.size≠w.1.size+1:=(λe=>by rw[e] at ct;omega))
       | (refine step_append_lies _ (by rfl) (.tmp 26) (.tmp 31) 144 (by rfl) (w.1.size+2) 207 iG (.agg #[.int .i64 0,.slice none 0 0,.slice none 0 0]) 3 56 underlying144 am.o.1 am.o.2.1 am.o.2.2.1 am.o.2.2.2 rfl (by decide) (.slice xa j xc) j _ (by rfl) ((Ii ac.o (by omega) I).alloc _) ⟨w8.1.size,0,none⟩ 1 1 [.int .i64 (Cd qz (Bb qz j o).2).1.1,Zs sa qz.length sc,Zs ba qz.length bc] (by rfl) rfl (λj u hj=>XK (Yac _ _) j u hj) (by simp[Value.oneCell']) (by omega) (by unfold maxLen;omega) (by omega) (by simp;omega) _ rfl ?_
          intro g d w9 cn m ch cm;have D:Hid (some (w.1.size+1)≠(Value.slice xa j xc).ownBlock):=Aa (λe=>by have:=(ac.o.lt _ e.symm).1;omega);have r1:=(m.cell_far ⟨w.1.size+1,1,none⟩ (by simp;omega) D.o).trans (Ag (Zal) p1);have r2:=(m.frozen_far ⟨w.1.size+1,1,none⟩ (by simp;omega) D.o).trans (((XB w8.1.size w8).alloc (XA _) (.cells #[.int .i64 (Cd qz (Bb qz j o).2).1.1,Zs sa qz.length sc,Zs ba qz.length bc] 207)).frozen (p:=⟨w.1.size+1,1,none⟩) (by show w.1.size+1<_;omega) |>.trans o1))
       | fail)
    all_goals
     have f:Zb w8 (w8.alloc (.cells #[.int .i64 (Cd qz (Bb qz j o).2).1.1,Zs sa qz.length sc,Zs ba qz.length bc] 207)):=Zal;have ap:=Aa (E.Ad (Ii ac.o (by omega) I) f);have ah:w.1.size+2<(w8.alloc (.cells #[.int .i64 (Cd qz (Bb qz j o).2).1.1,Zs sa qz.length sc,Zs ba qz.length bc] 207)).1.size:=by simp;omega
     have X:=(m.block (w.1.size+1) (by omega) D.o).trans ((f.block (w.1.size+1) (by omega)).trans ce);have ad:=(m.block w.1.size (by omega) (λe=>by have:=(ac.o.lt _ e.symm).1;omega)).trans ((f.block w.1.size (by omega)).trans ((I.block w.1.size (by omega) (by simp;omega)).trans c7.o));have z:=E.Ar w9 (w.1.size+1) 1 (.slice (some ⟨g,0,none⟩) (j+1) d);have au:=Aa (heap_setCell_same w9 (w.1.size+1) 1 _ 146 (.slice (some ⟨g,0,none⟩) (j+1) d) X);have an:=Aa ((z.block w.1.size (by have:=m.size;omega) (by simp)).trans ad)
     have br:=Aa ((E.ALN (E.Ad (Ii bu.o (by omega) I) f) ap.o (by decide) m).kept z (by
      cases hob:(Value.slice U qz.length V).ownBlock with
      | none=>exact .inl rfl
      | some q=>exact .inr (λe=>by injection e with e;have:=(bu.o.lt q hob).1;omega)))
     have bf:Hid (Wn (w.1.size+2) (w9.setCell ⟨w.1.size+1,1,none⟩ (.slice (some ⟨g,0,none⟩) (j+1) d)) (.slice (some ⟨g,0,none⟩) (j+1) d) (Bb qz (j+1) o).1):=Aa (by
      rw[T.o];have aa:=Kr qz j o;obtain⟨dd,de⟩:=uL qz (Bb qz j o).2;have hx:U7 (w8.alloc (.cells #[.int .i64 (Cd qz (Bb qz j o).2).1.1,Zs sa qz.length sc,Zs ba qz.length bc] 207)) ((Cd qz (Bb qz j o).2).1.1,.slice sa qz.length sc,.slice ba qz.length bc) (Cd qz (Bb qz j o).2).1:=⟨rfl,by rw[dd];exact(E.Ai bn (XH _)).alloc _,by rw[de];exact(E.Ai bh (XH _)).alloc _⟩
      have cf:=Wn.app (v':=.slice (some ⟨g,0,none⟩) (j+1) d) (gs:=(Bb qz j o).1) (by rw[aa];exact db.o) (by rw[aa];exact ap.o) (λj' x g' dq di=>((da.o j' x g' dq di).other I (λr cur fr e=>by injection e with e;subst e;have h':wr.1[i]? = some _:=b7.o;rw[h'];constructor <;> (intro h;injection h with h;injection h with _ h _;revert h;decide))).up f) hx (by rw[aa];exact cn) m
      exact cf.kept z (λr e=>by injection e with e;subst e;exact⟨_,X,.inr ⟨_,rfl⟩⟩))
     have a4:=Aa (E.C0 (E.Hj (E.Al c4.o (E.Al I (E.Cr f))) ap.o (by omega) m) (g:=w.1.size+1) (j:=1) (by omega) (.slice (some ⟨g,0,none⟩) (j+1) d))
     have a5:Hid (E.Oi 255 [] (w9.setCell ⟨w.1.size+1,1,none⟩ (.slice (some ⟨g,0,none⟩) (j+1) d)) i (Bb qz (j+1) o).2):=Aa (by rw[T.o];exact(z.block i (by have:=m.size;omega) (by simp;omega)).trans ((m.block i (by omega) (λe=>by have:=(ac.o.lt _ e.symm).1;omega)).trans (cq.up f)))
     have bo:w.1.size+2<=(w9.setCell ⟨w.1.size+1,1,none⟩ (.slice (some ⟨g,0,none⟩) (j+1) d)).1.size:=by have:=m.size;have:=z.size;omega
     clear X ad z ap f ah r1 r2 cn m ch cm p1 bq o1 I ax ct dl D cq ce bn bh;simp only[XM,XW,XR] at au;go_wp2;exact⟨⟨j+1,by omega,by go_num,⟨_,au,bf⟩,br,an,a5,bg.o,a4,bo⟩,by simp[intOf];omega⟩
   have ej:j=M:=by omega
   have ck:¬(j:Int)<(M:Int):=by omega
   have av:Hid (G0 s=((qz,(Bb qz j o).1),(Bb qz j o).2)):=Aa (by rw[bd.o,c6.o,ej]);obtain⟨f0,f1⟩:=Hg hf.o;obtain⟨y0,y1⟩:=Hg a.o;have z0:=Yaf wr w.1.size 0 _ _ a.o;have z1:=Yaf wr w.1.size 1 _ _ a.o;have bb:=Aa a.o;have b3:=Aa bj.o;clear ej aq ai bp;go_wp2;have bi:wr.grownBy ((wr.setCell ⟨w.1.size,0,none⟩ (.slice U qz.length V)).setCell ⟨w.1.size,1,none⟩ (.slice xa j xc)) (some w.1.size):=E.Al (E.Ar wr w.1.size 0 _) (E.Ar _ w.1.size 1 _);refine bodyPost_ret (v:=.agg #[.slice U qz.length V,.slice xa j xc]) (by simp[results,results169,go_sem,y0,y1]) rfl ⟨_,_,rfl,?_,?_,?_⟩
   ·rw[av.o]
    exact⟨F7.Fz (k:=7) (enc:=Cc) (λ_=>rfl) (E.Dc n.o (by omega) bi) rfl,(b3.o.kept bi (λr e=>by injection e with e;subst e;exact⟨_,bb.o,.inr ⟨_,rfl⟩⟩)).slg⟩
   ·rw[av.o]
    exact(bi.block i (by omega) (by simp;omega)).trans y.o
   exact E.C0 (E.C0 P.o (XA _) _) (XA _) _
def Kx(r:Option s9)(w:World)(e:Ending)(a:World):Prop:=match r with
 | none=>e=.returned (.tuple #[.agg #[.slice none 0 0,.slice none 0 0],.iface 91 (Zi 3)])/\Zb w a
 | some f=>∃b c,e=.returned (.tuple #[.agg #[b,c],.nilIface])/\Hm a b c f/\Zb w a
theorem Pn(l:List Aj):∀(k:Nat){s:E.St}{n:Nat},s.1.length<=n->(Bb l k s).2.1.length<=n/\∀g∈(Bb l k s).1,∀b∈g.2.2,b.length<=n
 | 0,_,_,h=>⟨h,by simp[Bb]⟩
 | k+1,s,n,h=>by
   obtain⟨c,d⟩:=Pn l k (Qo l h);refine⟨c,λg a=>?_⟩;simp only[Bb,Wb] at a
   rcases a with rfl|a
   ·exact(Mb l (Ee h)).2
   exact d g a
theorem Ui:∀(k:Nat){s:E.St}{n:Nat},s.1.length<=n->(Ca k s).2.1.length<=n
 | 0,_,_,h=>h
 | k+1,s,n,h=>by rw[Ca];exact Ui k (Ee (Ee h))
theorem AAV(s:List UInt8):(G0 s).1.1.length<=8/\(G0 s).1.2.length<=60/\∀g∈(G0 s).1.2,∀b∈g.2.2,b.length<=s.length:=by
 have c:=aQ (most:=8) (s,false);simp only[XS] at c;refine⟨?_,?_,?_⟩
 ·show (Ca _ _).1.length<=8
  rw[Rz];exact c
 ·have a:=aQ (most:=60) (Ox s).2
  simp only[XS] at a;show (Bb _ _ _).1.length<=60;rw[Kr];exact a
 exact(Pn _ _ (Ee (Ui _ (Ee (s:=(s,false)) (XA _))))).2
theorem F7.far{α:Type}{k:Nat}{enc:α->List Tv}(o:∀x,∃u t,enc x=u :: t/\u≠Zs none 0 0){w W:Tw}{v:Tv}{l:List α}{n:Nat}{T:TypeId}(h:F7 k enc w v l)(G:w.1[n]? = some (Zk #[Zs none 0 0,Zs none 0 0] T))(s:w.grownBy W (some n)):F7 k enc W v l:=by
 obtain⟨a,c,e,I,J⟩:=h;refine⟨a,c,e,I,λy=>?_⟩;obtain⟨b,off,z,g,d⟩:=J y
 have m:b≠n:=by
  rintro rfl;obtain⟨x,t,rfl⟩:=List.exists_cons_of_ne_nil y;obtain⟨u,r,D,p⟩:=o x;have f:=d 0 x rfl 0 u (by rw[D];rfl);simp only[World.cell?,G] at f
  have:u=Zs none 0 0:=by
   generalize off+0*k+0=q at f
   rcases q with _|_|q
   ·simpa using f.symm
   ·simpa using f.symm
   simp at f
  exact p this
 exact⟨b,off,z,Ya g s.size,λj x L i u p=>(s.cell_far (Zd b (off+j*k+i)) g (by simp;exact m)).trans (d j x L i u p)⟩
theorem Hm.far{w W:Tw}{v u:Tv}{f:s9}{n:Nat}{T:TypeId}(h:Hm w v u f)(a:w.1[n]? = some (Zk #[Zs none 0 0,Zs none 0 0] T))(b:w.grownBy W (some n)):Hm W v u f:=by obtain⟨c,xs,d,e,i⟩:=h;refine⟨c.far (λx=>⟨_,_,rfl,by simp⟩) a b,xs,d.far (λx=>⟨_,_,rfl,by simp⟩) a b,e,λj x g hx hg'=>?_⟩;obtain⟨k,l,m⟩:=i j x g hx hg';exact⟨k,l.far (λx=>⟨_,_,rfl,by simp⟩) a b,m.far (λx=>⟨_,_,rfl,by simp⟩) a b⟩
theorem Vf(s:List UInt8)(w:Tw)(hs:s.length<=1000000)(hw:Lw w)(hg:Ob w):
 Zc 108 #[Zt (E.str s)] w (Kx (Kj s) w):=by
 obtain⟨V,x,ag⟩:=AAV s;have O:=Aa (λg hg b hb=>XL (ag g hg b hb) hs);have al:=Aa hw;have aj:=Aa hg;clear ag hw hg;have ae:Below w.1.size w (w.alloc (Zk #[Zs none 0 0,Zs none 0 0] 146)):=Zal;have T:=Aa (Yac w (Zk #[Zs none 0 0,Zs none 0 0] 146));have z:Hid (Kj s=if (G0 s).2.2=true then none else if Jn (G0 s).1=some s then some (G0 s).1 else none):=Aa rfl;obtain⟨⟨qz,gs⟩,W⟩:∃f,(G0 s).1=f:=⟨_,rfl⟩;obtain⟨st,ah⟩:∃f,(G0 s).2=f:=⟨_,rfl⟩;have R:=Aa (λrb w hr=>y9 rb s w hr hs);rw[W,ah] at R z;rw[W] at O V x;dsimp only at O V x;clear W ah;have ai:=Aa ae;clear ae;go_enter func108,ntmps108;go_wp2_with fail;refine(E.qM (E.str s) _).mono ?_;rintro e Y⟨rfl,D⟩;have an:=D.size;rw[XG] at an;have U:Below Y.1.size Y (Y.alloc (Zk #[Zt (E.str s),Zo false] 255)):=Zal;have ac:=Aa (R.o Y.1.size (Y.alloc (Zk #[Zt (E.str s),Zo false] 255)) (Yac Y _));have aa:=Aa (Ap (Ap ai.o D) U);have r:=Aa (((Ap D U).block w.1.size (by simp)).trans T.o);clear D U;go_wp2_with fail;apply ac.o.mono;rintro e o⟨cv,gv,rfl,hF,X,n⟩;obtain⟨G,I,rfl,_⟩:=hF.1.slice;obtain⟨J,L,rfl,_⟩:=hF.2.slice;dsimp only at hF X ⊢;have ao:=n.size;rw[XG] at ao;have af:Below w.1.size w o:=aa.o.grown n (by simp;omega) (λk e=>by injection e with e;omega);have t:=Aa ((n.block w.1.size (by simp;omega) (by simp;omega)).trans r.o);have m:Below o.1.size o (o.alloc (Zk #[Zs G qz.length I,Zs J gs.length L] 146)):=Zal;have y:=Aa (Yac o (Zk #[Zs G qz.length I,Zs J gs.length L] 146));have c:=Aa ((m.block w.1.size (by omega)).trans t.o);have j:=Aa (Ap af m);have ad:=Aa (E.cX 255 [] Y.1.size st _ (X.up m));have u:=Aa (lH _ _ qz gs _ (hF.up m) V O.o x (al.o.below j.o) (aj.o.below j.o));have ak:=Aa (hF.up m);obtain⟨sr,sq⟩:=st;obtain⟨f0,f1⟩:=Hg y.o;obtain⟨y0,y1⟩:=Hg c.o;have z0:=Yaf _ w.1.size 0 _ _ c.o;have z1:=Yaf _ w.1.size 1 _ _ c.o;have M:w.1.size<(o.alloc (Zk #[Zs G qz.length I,Zs J gs.length L] 146)).1.size:=by simp;omega
 have N:o.1.size<(o.alloc (Zk #[Zs G qz.length I,Zs J gs.length L] 146)).1.size:=by simp
 have l:=Aa (And.intro M N);clear hF X n af m t r ac aa M N;cases sq with
 | true=>have P:Hid (Kj s=none):=Aa (by rw[z.o];rfl);have i:=Aa j.o;go_wp2_with fail;generalize o.alloc (Zk #[Zs G qz.length I,Zs J gs.length L] 146)=W3 at *;apply ad.o.mono;rintro e w3⟨rfl,rfl⟩;go_wp2;refine bodyPost_ret (v:=Zu #[Zg #[Zs none 0 0,Zs none 0 0],Zf 91 (Zi 3)]) (by simp[results,results108,go_sem,y0,y1]) rfl ?_;rw[P.o];exact⟨rfl,(i.o.setCell (p:=Zd w.1.size 0) (XA _) _).setCell (p:=Zd w.1.size 1) (XA _) _⟩
 | false=>
   have q:Hid (Kj s=if Jn (qz,gs)=some s then some (qz,gs) else none):=Aa (by rw[z.o];rfl);clear z R;go_wp2_with fail;generalize o.alloc (Zk #[Zs G qz.length I,Zs J gs.length L] 146)=W3 at *;apply ad.o.mono;rintro e w3⟨rfl,rfl⟩;cases hwr:Jn (qz,gs) with
   | none=>rw[hwr] at u q;have P:Hid (Kj s=none):=Aa (by rw[q.o];simp);clear hwr;go_wp2_with fail;apply u.o.mono;rintro e w4⟨rfl,d⟩;have a:=(d.block w.1.size l.o.1).trans c.o;have h:=(d.block o.1.size l.o.2).trans y.o;obtain⟨y0,y1⟩:=Hg a;obtain⟨f0,f1⟩:=Hg h;have z0:=Yaf _ w.1.size 0 _ _ a;have z1:=Yaf _ w.1.size 1 _ _ a;have i:=Aa (Ap j.o d);go_wp2;refine bodyPost_ret (v:=Zu #[Zg #[Zs none 0 0,Zs none 0 0],Zf 91 (Zi 3)]) (by simp[results,results108,go_sem,y0,y1]) rfl ?_;rw[P.o];exact⟨rfl,(i.o.setCell (p:=Zd w.1.size 0) (XA _) _).setCell (p:=Zd w.1.size 1) (XA _) _⟩
   | some b=>
     rw[hwr] at u q;clear hwr
     by_cases hbs:b=s
     ·subst hbs
      have P:Hid (Kj b=some (qz,gs)):=Aa (by rw[q.o];simp);go_wp2_with fail;apply u.o.mono;rintro e w4⟨rfl,d⟩;have a:=(d.block w.1.size l.o.1).trans c.o;have h:=(d.block o.1.size l.o.2).trans y.o;obtain⟨y0,y1⟩:=Hg a;obtain⟨f0,f1⟩:=Hg h;have z0:=Yaf _ w.1.size 0 _ _ a;have z1:=Yaf _ w.1.size 1 _ _ a;have i:=Aa (Ap j.o d);have ab:=Aa (ak.o.up d);have aq:=d.size;go_wp2;have n:w4.grownBy ((w4.setCell (Zd w.1.size 0) (Zs G qz.length I)).setCell (Zd w.1.size 1) (Zs J gs.length L)) (some w.1.size):=E.Al (E.Ar w4 w.1.size 0 _) (E.Ar _ w.1.size 1 _);have am:=ab.o.far a n;refine bodyPost_ret (v:=Zu #[Zg #[Zs G qz.length I,Zs J gs.length L],Zn]) (by simp[results,results108,go_sem,y0,y1]) rfl ?_;rw[P.o];exact⟨_,_,rfl,am,(i.o.setCell (p:=Zd w.1.size 0) (XA _) _).setCell (p:=Zd w.1.size 1) (XA _) _⟩
     have P:Hid (Kj s=none):=Aa (by rw[q.o];simp[hbs])
     have ap:((E.str b).toList==(E.str s).toList)=false:=by rw[beq_eq_false_iff_ne];intro e;rw[ByteArray.toList_eq,ByteArray.toList_eq] at e;exact hbs (by simpa[E.str] using e)
     clear hbs;go_wp2_with fail;apply u.o.mono;rintro e w4⟨rfl,d⟩;have a:=(d.block w.1.size l.o.1).trans c.o;have h:=(d.block o.1.size l.o.2).trans y.o;obtain⟨y0,y1⟩:=Hg a;obtain⟨f0,f1⟩:=Hg h;have z0:=Yaf _ w.1.size 0 _ _ a;have z1:=Yaf _ w.1.size 1 _ _ a;have i:=Aa (Ap j.o d);go_wp2;refine bodyPost_ret (v:=Zu #[Zg #[Zs none 0 0,Zs none 0 0],Zf 91 (Zi 3)]) (by simp[results,results108,go_sem,y0,y1]) rfl ?_;rw[P.o];exact⟨rfl,(i.o.setCell (p:=Zd w.1.size 0) (XA _) _).setCell (p:=Zd w.1.size 1) (XA _) _⟩
end F
namespace S
def O9(c:Int)(a b:V):Bool:=Vq c a.1 a.2.1 a.2.2 b.1 b.2.1 b.2.2==1
def E0(c:Int)(s:St)(v:V):Bool :=
 if c=7 then decide (0<s.2.1) else if c=8 then decide (s.2.1<s.1) else if c=1 then O9 4 s.2.2.1 v && O9 6 s.2.2.2 v else if c=2 then O9 2 s.2.2.1 v || O9 2 s.2.2.2 v else if c=3\/c=4 then O9 c s.2.2.1 v else if c=5\/c=6 then O9 c s.2.2.2 v else false
theorem Qh(c a n1 b n2:Int)(t1 t2:Tb)(w:Tw):
 Zc 297 #[Zi c,Zg #[Zi a,Zi n1,Zt t1],Zg #[Zi b,Zi n2,Zt t2]] w λe d=>e=Zr (Zo (O9 c (a,n1,t1) (b,n2,t2)))/\Zb w d:=AH7 c a n1 b n2 t1 t2 w
theorem Se{a b:Bool}(h:a=b):Ending.returned (Zo a)=Zr (Zo b):=by rw[h]
theorem Kz{w W:Tw}{X Y:Obj}(a:Below ((w.alloc X).alloc Y).heap.size ((w.alloc X).alloc Y) W):Zb w W:=Below.Ap (Gj w X Y) a
theorem Qq(c c1 o b n1:Int)(t1:Tb)(d f:Int)(g:Tb)(k n:Int)(t:Tb)(w:Tw):
 Zc 252 #[Zi c,Zg #[Zi c1,Zi o,Zi b,Zi n1,Zt t1,Zi d,Zi f,Zt g],Zg #[Zi k,Zi n,Zt t]] w
  λe D=>e=Zr (Zo (E0 c (c1,o,(b,n1,t1),(d,f,g)) (k,n,t)))/\Zb w D:=by
 have i:Hid (E0 c (c1,o,(b,n1,t1),(d,f,g)) (k,n,t)=if c=7 then decide (0<o) else if c=8 then decide (o<c1) else if c=1 then O9 4 (b,n1,t1) (k,n,t) && O9 6 (d,f,g) (k,n,t) else if c=2 then O9 2 (b,n1,t1) (k,n,t) || O9 2 (d,f,g) (k,n,t) else if c=3\/c=4 then O9 c (b,n1,t1) (k,n,t) else if c=5\/c=6 then O9 c (d,f,g) (k,n,t) else false):=rfl;generalize E0 c (c1,o,(b,n1,t1),(d,f,g)) (k,n,t)=r at *
 by_cases h7:c=7
 ·subst h7
  have h:Hid (decide (0<o)=r):=Aa (by rw[i.o,Yae rfl]);clear i;go_enter func252,ntmps252;go_wp2;go_ret;exact⟨Se h.o,Gj _ _ _⟩
 by_cases h8:c=8
 ·subst h8
  have h:Hid (decide (o<c1)=r):=Aa (by rw[i.o,Yad (by omega),Yae rfl]);clear i h7;go_enter func252,ntmps252;go_wp2;go_ret;exact⟨Se h.o,Gj _ _ _⟩
 by_cases h1:c=1
 ·subst h1
  have h:Hid ((O9 4 (b,n1,t1) (k,n,t) && O9 6 (d,f,g) (k,n,t))=r):=Aa (by rw[i.o,Yad (by omega),Yad (by omega),Yae rfl]);clear i h7 h8;have l:=Aa (Qh 4 b n1 k n t1 t);have s:=Aa (Qh 6 d f k n g t);generalize O9 4 (b,n1,t1) (k,n,t)=x at *;generalize O9 6 (d,f,g) (k,n,t)=y at *;cases x
  ·go_enter func252,ntmps252
   go_wp2_with fail;refine(l.o _).mono ?_;rintro e q⟨rfl,a⟩;go_wp2;go_ret;exact⟨Se h.o,Kz a⟩
  go_enter func252,ntmps252;go_wp2_with fail;refine(l.o _).mono ?_;rintro e q⟨rfl,a⟩;obtain⟨u,v⟩:=Qv a;have z:w.1.size<w.1.size+1+1:=by omega
  go_wp2_with fail;refine(s.o _).mono ?_;rintro e G⟨rfl,p⟩;go_wp2;go_ret;exact⟨Se h.o,Below.Ap (Kz a) p⟩
 by_cases h2:c=2
 ·subst h2
  have h:Hid ((O9 2 (b,n1,t1) (k,n,t) || O9 2 (d,f,g) (k,n,t))=r):=Aa (by rw[i.o,Yad (by omega),Yad (by omega),Yad (by omega),Yae rfl]);clear i h7 h8 h1;have l:=Aa (Qh 2 b n1 k n t1 t);have s:=Aa (Qh 2 d f k n g t);generalize O9 2 (b,n1,t1) (k,n,t)=x at *;generalize O9 2 (d,f,g) (k,n,t)=y at *;cases x
  ·go_enter func252,ntmps252
   go_wp2_with fail;refine(l.o _).mono ?_;rintro e q⟨rfl,a⟩;obtain⟨u,v⟩:=Qv a;have z:w.1.size<w.1.size+1+1:=by omega
   go_wp2_with fail;refine(s.o _).mono ?_;rintro e G⟨rfl,p⟩;go_wp2;go_ret;exact⟨Se h.o,Below.Ap (Kz a) p⟩
  go_enter func252,ntmps252;go_wp2_with fail;refine(l.o _).mono ?_;rintro e q⟨rfl,a⟩;go_wp2;go_ret;exact⟨Se h.o,Kz a⟩
 by_cases j:c=3\/c=4
 ·have h:Hid (O9 c (b,n1,t1) (k,n,t)=r):=Aa (by rw[i.o,Yad h7,Yad h8,Yad h1,Yad h2,Yae j])
  clear i h7 h8 h1 h2;have l:=Aa (Qh c b n1 k n t1 t);generalize O9 c (b,n1,t1) (k,n,t)=x at *
  rcases j with rfl|rfl
  all_goals
   go_enter func252,ntmps252;go_wp2_with fail;refine(l.o _).mono ?_;rintro e q⟨rfl,a⟩;go_wp2;go_ret;exact⟨Se h.o,Kz a⟩
 by_cases m:c=5\/c=6
 ·have h:Hid (O9 c (d,f,g) (k,n,t)=r):=Aa (by rw[i.o,Yad h7,Yad h8,Yad h1,Yad h2,Yad j,Yae m])
  clear i h7 h8 h1 h2 j;have l:=Aa (Qh c d f k n g t);generalize O9 c (d,f,g) (k,n,t)=x at *
  rcases m with rfl|rfl
  all_goals
   go_enter func252,ntmps252;go_wp2_with fail;refine(l.o _).mono ?_;rintro e q⟨rfl,a⟩;go_wp2;go_ret;exact⟨Se h.o,Kz a⟩
 have h:Hid (false=r):=Aa (by rw[i.o,Yad h7,Yad h8,Yad h1,Yad h2,Yad j,Yad m]);clear i;have O:(c==7)=false:=by simpa using h7
 have P:(c==8)=false:=by simpa using h8
 have I:(c==1)=false:=by simpa using h1
 have J:(c==2)=false:=by simpa using h2
 have b3:(c==3)=false:=by simp;omega
 have L:(c==4)=false:=by simp;omega
 have M:(c==5)=false:=by simp;omega
 have N:(c==6)=false:=by simp;omega
 clear h7 h8 h1 h2 j m;go_enter func252,ntmps252;go_wp2;go_ret;exact⟨Se h.o,Gj _ _ _⟩
def AE2:List Int:=[0,2,1,6,5,4,3,8,7]
def Lp(w:World):Prop:=Lib.TabIs prog w "millpond/stats.opposites" .i64 AE2
theorem iO:prog.globalNamed "millpond/stats.opposites"=some 4:=by kernel_rfl
theorem Lp.below{w W:Tw}(h:Lp w)(a:Zb w W):Lp W:=Lib.tabBelow_of_tabIs h W a
def Pw(c:Int):Int:=if c=1 then 2 else if c=2 then 1 else if c=3 then 6 else if c=4 then 5 else if c=5 then 4 else if c=6 then 3 else if c=7 then 8 else if c=8 then 7 else 0
theorem o9(c:Int)(w:Tw)(a:Lp w):
 Zc 296 #[Zi c] w λe f=>e=Zr (Zi (Pw c))/\f=w:=by
 by_cases h0:c<0
 ·have d:Hid (0=Pw c):=Aa (by unfold Pw;simp only[show ¬c=1 by omega,show ¬c=2 by omega,show ¬c=3 by omega,show ¬c=4 by omega,show ¬c=5 by omega,show ¬c=6 by omega,show ¬c=7 by omega,show ¬c=8 by omega,if_false])
  clear a;go_enter func296,ntmps296;go_wp2;go_ret;exact⟨Bd d.o,rfl⟩
 by_cases h9:9<=c
 ·have d:Hid (0=Pw c):=Aa (by unfold Pw;simp only[show ¬c=1 by omega,show ¬c=2 by omega,show ¬c=3 by omega,show ¬c=4 by omega,show ¬c=5 by omega,show ¬c=6 by omega,show ¬c=7 by omega,show ¬c=8 by omega,if_false])
  clear a;go_enter func296,ntmps296;go_wp2;go_ret;exact⟨Bd d.o,rfl⟩
 rcases (show c=0\/c=1\/c=2\/c=3\/c=4\/c=5\/c=6\/c=7\/c=8 by omega) with rfl|rfl|rfl|rfl|rfl|rfl|rfl|rfl|rfl
 ·have b:w.cell? (Zd 4 0)=some (Zi 0):=a.cell iO 0 (by decide)
  clear a h0 h9;go_enter func296,ntmps296;go_wp2;go_ret;exact⟨Bd (by decide),rfl⟩
 ·have b:w.cell? (Zd 4 1)=some (Zi 2):=a.cell iO 1 (by decide)
  clear a h0 h9;go_enter func296,ntmps296;go_wp2;go_ret;exact⟨Bd (by decide),rfl⟩
 ·have b:w.cell? (Zd 4 2)=some (Zi 1):=a.cell iO 2 (by decide)
  clear a h0 h9;go_enter func296,ntmps296;go_wp2;go_ret;exact⟨Bd (by decide),rfl⟩
 ·have b:w.cell? (Zd 4 3)=some (Zi 6):=a.cell iO 3 (by decide)
  clear a h0 h9;go_enter func296,ntmps296;go_wp2;go_ret;exact⟨Bd (by decide),rfl⟩
 ·have b:w.cell? (Zd 4 4)=some (Zi 5):=a.cell iO 4 (by decide)
  clear a h0 h9;go_enter func296,ntmps296;go_wp2;go_ret;exact⟨Bd (by decide),rfl⟩
 ·have b:w.cell? (Zd 4 5)=some (Zi 4):=a.cell iO 5 (by decide)
  clear a h0 h9;go_enter func296,ntmps296;go_wp2;go_ret;exact⟨Bd (by decide),rfl⟩
 ·have b:w.cell? (Zd 4 6)=some (Zi 3):=a.cell iO 6 (by decide)
  clear a h0 h9;go_enter func296,ntmps296;go_wp2;go_ret;exact⟨Bd (by decide),rfl⟩
 ·have b:w.cell? (Zd 4 7)=some (Zi 8):=a.cell iO 7 (by decide)
  clear a h0 h9;go_enter func296,ntmps296;go_wp2;go_ret;exact⟨Bd (by decide),rfl⟩
 have b:w.cell? (Zd 4 8)=some (Zi 7):=a.cell iO 8 (by decide);clear a h0 h9;go_enter func296,ntmps296;go_wp2;go_ret;exact⟨Bd (by decide),rfl⟩
variable{c k n:Int}{i j:Nat}{P:Tb->Prop}
theorem Ab{p:Prop}(h:p):Hid p:=h
theorem Below.up{a b c:Tw}(h:Zb a b)(k:Zb b c):Zb a c:=h.trans (k.mono h.size)
def Wk(n:Int):Int:=if n = -1 then -1 else 1-n
def Su(a b:Int):Int:=if a=0\/b=0 then 0 else min a b
def orJ(a b:Int):Int:=if a=1\/b=1 then 1 else min a b
theorem nj1(h:(n == -1)=true):-1=Wk n:=by simp at h;simp[Wk,h]
theorem nj2(h:(n == -1)=false):1-n=Wk n:=by simp at h;simp[Wk,h]
theorem AHu(n:Int)(b : -1<=n)(c:n<=1)(w:Tw):
 Zc 259 #[Zi n] w λe a=>e=Zr (Zi (Wk n))/\a=w:=by
 go_enter func259,ntmps259;go_wp2
 all_goals go_ret
 ·exact⟨Bd (nj1 ‹_›),rfl⟩
 exact⟨Bd (nj2 ‹_›),rfl⟩
theorem AHo(a b:Int)(w:Tw):
 Zc 260 #[Zi a,Zi b] w λe h=>e=Zr (Zi (Su a b))/\h=w:=by
 have c:Hid (Su a b=if a=0\/b=0 then 0 else min a b):=rfl
 by_cases h1:a=0
 ·have d:Hid (0=Su a b):=Ab (by rw[c.o,Yae (.inl h1)])
  have g:(a==0)=true:=by simpa using h1
  clear h1 c;go_enter func260,ntmps260;go_wp2;go_ret;exact⟨Bd d.o,rfl⟩
 by_cases h2:b=0
 ·have d:Hid (0=Su a b):=Ab (by rw[c.o,Yae (.inr h2)])
  have g:(a==0)=false:=by simpa using h1
  have f:(b==0)=true:=by simpa using h2
  clear h1 h2 c;go_enter func260,ntmps260;go_wp2;go_ret;exact⟨Bd d.o,rfl⟩
 have d:Hid (min a b=Su a b):=Ab (by rw[c.o,Yad (by omega)]);have g:(a==0)=false:=by simpa using h1
 have f:(b==0)=false:=by simpa using h2
 clear h1 h2 c;go_enter func260,ntmps260;go_wp2;go_ret;exact⟨Bd d.o,rfl⟩
theorem AHi(a b:Int)(w:Tw):
 Zc 261 #[Zi a,Zi b] w λe h=>e=Zr (Zi (orJ a b))/\h=w:=by
 have c:Hid (orJ a b=if a=1\/b=1 then 1 else min a b):=rfl
 by_cases h1:a=1
 ·have d:Hid (1=orJ a b):=Ab (by rw[c.o,Yae (.inl h1)])
  have g:(a==1)=true:=by simpa using h1
  clear h1 c;go_enter func261,ntmps261;go_wp2;go_ret;exact⟨Bd d.o,rfl⟩
 by_cases h2:b=1
 ·have d:Hid (1=orJ a b):=Ab (by rw[c.o,Yae (.inr h2)])
  have g:(a==1)=false:=by simpa using h1
  have f:(b==1)=true:=by simpa using h2
  clear h1 h2 c;go_enter func261,ntmps261;go_wp2;go_ret;exact⟨Bd d.o,rfl⟩
 have d:Hid (min a b=orJ a b):=Ab (by rw[c.o,Yad (by omega)]);have g:(a==1)=false:=by simpa using h1
 have f:(b==1)=false:=by simpa using h2
 clear h1 h2 c;go_enter func261,ntmps261;go_wp2;go_ret;exact⟨Bd d.o,rfl⟩
structure Nd where
 c:Int
 Bl:ByteArray
 k:Int
 n:Int
 t:ByteArray
abbrev CT:=Deep.BT Nd
variable{l r:CT}
def Gy(w:World):CT->Value->Prop
 | .nil,v=>v=.pointer none
 | .node _ _ ⟨c,Bl,k,n,t⟩ l r,v=>∃b a d,v=.pointer (some ⟨b,0,none⟩)/\w.1[b]? = some (.cells #[Zi c,.string Bl,Zi k,Zi n,.string t,a,d] 120)/\(1<=c/\c<=11)/\Gy w l a/\Gy w r d
theorem Gy.up{w W:Tw}(c:Zb w W):∀{T:CT}{v:Tv},Gy w T v->Gy W T v
 | .nil,_,h=>h
 | .node _ _ ⟨_,_,_,_,_⟩ _ _,_,⟨b,pl,pr,e,hh,hcd,hl,hr⟩=>⟨b,pl,pr,e,by
    rw[c.block b (by
     rcases Yc b w.1.size with a|a
     ·exact a
     rw[Array.getElem?_eq_none a] at hh;cases hh)]
    exact hh,hcd,Gy.up c hl,Gy.up c hr⟩
theorem cell_of_heap{w:Tw}{b:Nat}{cs:Array Tv}{t:TypeId}(h:w.1[b]? = some (Zk cs t))(i:Nat):w.cell? (Zd b i)=cs[i]? := by
 simp[World.cell?,h]
def C9:CT->Int->Bool
 | .nil,_=>true
 | .node _ _ _ l r,o=>decide (0<=o) && (C9 l (o-1) && C9 r (o-1))
theorem Rc:∀(T:CT)(v:Tv)(o:Int)(w:Tw),Gy w T v -> -1<=o->o<=1000 ->
 Zc 166 #[v,Zi o] w λe s=>e=Zr (Zo (C9 T o))/\s=w
 | .nil,v,o,w,h,h1,h2=>by obtain rfl:v=Zp none:=h;have d:Hid (true=C9 .nil o):=rfl;go_enter func166,ntmps166;go_wp2;go_ret;exact⟨Af d.o,rfl⟩
 | .node a0 o0 ⟨c,Bl,k,n,t⟩ l r,v,o,w,h,h1,h2=>by
   obtain⟨b,p,q,rfl,m,_,g,i⟩:=h;have y:w.cell? (Zd b 5)=some p:=cell_of_heap m 5;have z:w.cell? (Zd b 6)=some q:=cell_of_heap m 6;clear m
   by_cases ho:0<=o
   ·have a:=Rc l p (o-1) w g (by omega) (by omega)
    have f:=Rc r q (o-1) w i (by omega) (by omega);cases el:C9 l (o-1)
    ·rw[el] at a
     have d:Hid (false=C9 (.node a0 o0 ⟨c,Bl,k,n,t⟩ l r) o):=Ab (by simp[C9,el]);have j:=Ab a;clear a f el g i;go_enter func166,ntmps166;go_wp2_with (go_at_call 166;apply j.o.mono;rintro e u⟨rfl,rfl⟩);go_ret;exact⟨Af d.o,rfl⟩
    rw[el] at a;have d:Hid (C9 r (o-1)=C9 (.node a0 o0 ⟨c,Bl,k,n,t⟩ l r) o):=Ab (by simp[C9,el,ho]);have j:=Ab a;have IR:=Ab f;clear a f el g i;generalize C9 r (o-1)=x at *;go_enter func166,ntmps166;go_wp2_with fail;apply j.o.mono;rintro e u⟨rfl,rfl⟩;go_wp2_with fail;apply IR.o.mono;rintro e D⟨rfl,rfl⟩;go_wp2;go_ret;exact⟨Af d.o,rfl⟩
   have d:Hid (false=C9 (.node a0 o0 ⟨c,Bl,k,n,t⟩ l r) o):=Ab (by simp[C9,ho]);clear g i;go_enter func166,ntmps166;go_wp2;go_ret;exact⟨Af d.o,rfl⟩
theorem AEX(p:Addr)(w:Tw):
 CallsD prog 300 #[Zp (some p)] .returning w λe c d=>e=Zr (Zu #[])/\c=.returning/\d=w:=by
 refine callsD_of_wpS func300 rfl λa cs b=>?_
 apply wpS_seq;apply wpS_region;simp[wpOpsS,go_sem,recoverD,b,ntmps300,Exit.thenS];refine wpS_cond (t:=false) (by simp[Act.eval,Array.replicate]) ?_;simp only[WA,if_false];refine wpS_of_wp (wp_skip ?_);cases a
 simp_all [bodyPostS,results,results300]
def Io(a b:ByteArray->Int)(gt:ByteArray->ByteArray):CT->Int
 | .nil=>1
 | .node _ _ ⟨c,Bl,k,n,t⟩ l r=>if c=7 then gG (a Bl==0) else if c=8 then gG (a Bl != 0) else if c=11 then Wk (Io a b gt l) else if c=9 then Su (Io a b gt l) (Io a b gt r) else if c=10 then orJ (Io a b gt l) (Io a b gt r) else Vq c (a Bl) (b Bl) (gt Bl) k n t
theorem Vk(b:Bool):-1<=gG b/\gG b<=1:=by cases b <;> simp[gG]
theorem ACo(c a n1:Int)(t1:Tb)(b n2:Int)(t2:Tb):-1<=Vq c a n1 t1 b n2 t2/\Vq c a n1 t1 b n2 t2<=1:=by
 unfold Vq;split
 ·omega
 exact Vk _
theorem Kw(a b:Tb->Int)(gt:Tb->Tb):∀T:CT,-1<=Io a b gt T/\Io a b gt T<=1
 | .nil=>by simp[Io]
 | .node a0 o0 ⟨c,Bl,k,n,t⟩ l r=>by
   have d:=Kw a b gt l;have e:=Kw a b gt r;unfold Io;split
   ·exact Vk _
   split
   ·exact Vk _
   split
   ·unfold Wk;split <;> omega
   split
   ·unfold Su;split <;> omega
   split
   ·unfold orJ;split <;> omega
   exact ACo _ _ _ _ _ _ _
theorem e7{a b:Tb->Int}{gt:Tb->Tb}{Bl:Tb}{t:Tb}(h:c=7):gG (a Bl==0)=Io a b gt (.node i j ⟨c,Bl,k,n,t⟩ l r):=by rw[Io,Yae h]
theorem e8{a b:Tb->Int}{gt:Tb->Tb}{Bl:Tb}{t:Tb}(h:c=8):gG (a Bl != 0)=Io a b gt (.node i j ⟨c,Bl,k,n,t⟩ l r):=by rw[Io,Yad (by omega),Yae h]
theorem e11{a b:Tb->Int}{gt:Tb->Tb}{Bl:Tb}{t:Tb}(h:c=11):Wk (Io a b gt l)=Io a b gt (.node i j ⟨c,Bl,k,n,t⟩ l r):=by rw[Io,Yad (by omega),Yad (by omega),Yae h]
theorem e9{a b:Tb->Int}{gt:Tb->Tb}{Bl:Tb}{t:Tb}(h:c=9):Su (Io a b gt l) (Io a b gt r)=Io a b gt (.node i j ⟨c,Bl,k,n,t⟩ l r):=by rw[Io,Yad (by omega),Yad (by omega),Yad (by omega),Yae h]
theorem e10{a b:Tb->Int}{gt:Tb->Tb}{Bl:Tb}{t:Tb}(h:c=10):orJ (Io a b gt l) (Io a b gt r)=Io a b gt (.node i j ⟨c,Bl,k,n,t⟩ l r):=by rw[Io,Yad (by omega),Yad (by omega),Yad (by omega),Yad (by omega),Yae h]
theorem e0{a b:Tb->Int}{gt:Tb->Tb}{Bl:Tb}{t:Tb}(h:¬c=7/\¬c=8/\¬c=11/\¬c=9/\¬c=10):Vq c (a Bl) (b Bl) (gt Bl) k n t=Io a b gt (.node i j ⟨c,Bl,k,n,t⟩ l r):=by rw[Io,Yad (by omega),Yad (by omega),Yad (by omega),Yad (by omega),Yad (by omega)]
theorem fld(k n:Int)(t:Tb)(W:Tw):(Instr.field 67 (Zg #[Zi k,Zi n,Zt t]) 0).run prog W=.ok (Zi k) W:=by kernel_rfl
theorem Uh(T:CT)(v:Tv)(w:Tw)(h:Gy w T v):
 Zc 106 #[v] w λe a=>e=Zr (Zo (C9 T 24))/\a=w:=by
 have H1:=Ab (Rc T v 24 w h (by omega) (by omega));clear h;generalize C9 T 24=b at *;go_enter func106,ntmps106;go_wp2_with fail;apply H1.o.mono;rintro e c⟨rfl,rfl⟩;go_wp2;go_ret;exact⟨rfl,rfl⟩
def dR(P:ByteArray->Prop)(a:Value)(b c:ByteArray->Int)(gt:ByteArray->ByteArray)(w:World):Prop :=
 ∀(W:World)(s:ByteArray),P s->Zb w W->Zc 258 #[a,.string s] W λe d=>e=.returned (.agg #[Zi (b s),Zi (c s),.string (gt s)])/\Zb W d
theorem dR.up{P:Tb->Prop}{v:Tv}{b c:Tb->Int}{gt:Tb->Tb}{w W:Tw}(h:dR P v b c gt w)(e:Zb w W):dR P v b c gt W :=
 λd s f a=>h d s f (Below.up e a)
def Kg(P:ByteArray->Prop):CT->Prop
 | .nil=>True
 | .node _ _ ⟨c,Bl,_,_,_⟩ l r=>if c=11 then Kg P l else if c=9\/c=10 then Kg P l/\Kg P r else P Bl
theorem Kg.Bl{P:Tb->Prop}{i j:Nat}{c:Int}{Bl:Tb}{k n:Int}{t:Tb}{l r:CT}(h:Kg P (.node i j ⟨c,Bl,k,n,t⟩ l r))(a:¬(c=9\/c=10\/c=11)):P Bl:=by simp only[Kg] at h;rwa[Yad (by omega),Yad (by omega)] at h
theorem Kg.left{Bl:Tb}{t:Tb}(h:Kg P (.node i j ⟨c,Bl,k,n,t⟩ l r))(a:c=9\/c=10\/c=11):Kg P l:=by
 simp only[Kg] at h
 by_cases h11:c=11
 ·rwa[Yae h11] at h
 rw[Yad h11,Yae (by omega)] at h;exact h.1
theorem Kg.right{Bl:Tb}{t:Tb}(h:Kg P (.node i j ⟨c,Bl,k,n,t⟩ l r))(a:c=9\/c=10):Kg P r:=by simp only[Kg] at h;rw[Yad (by omega),Yae a] at h;exact h.2
theorem R9(P:ByteArray->Prop)(i:Value)(a f:ByteArray->Int)(gt:ByteArray->ByteArray):∀(T:CT)(v:Value)(w:World),Gy w T v->Kg P T->dR P i a f gt w ->
 Zc 216 #[v,i] w λe Y=>e=.returned (.int .i64 (Io a f gt T))/\Zb w Y
 | .nil,v,w,h,_,_=>by obtain rfl:v=.pointer none:=h;have m:Hid (1=Io a f gt .nil):=rfl;go_enter func216,ntmps216;go_wp2;go_ret;exact⟨Bd m.o,XB _ _⟩
 | .node s x ⟨c,Bl,k,n,t⟩ l r,v,w,h,ha,hg=>by
   obtain⟨b,U,V,rfl,O,_,hl,hr⟩:=h;have c0:w.cell? ⟨b,0,none⟩=some (.int .i64 c):=cell_of_heap O 0;have c1:w.cell? ⟨b,1,none⟩=some (.string Bl):=cell_of_heap O 1;have c2:w.cell? ⟨b,2,none⟩=some (.int .i64 k):=cell_of_heap O 2;have c3:w.cell? ⟨b,3,none⟩=some (.int .i64 n):=cell_of_heap O 3;have c4:w.cell? ⟨b,4,none⟩=some (.string t):=cell_of_heap O 4;have c5:w.cell? ⟨b,5,none⟩=some U:=cell_of_heap O 5;have c6:w.cell? ⟨b,6,none⟩=some V:=cell_of_heap O 6;clear O;have q:Hid (¬(c=9\/c=10\/c=11)->∀W,Zb w W->Zc 258 #[i,.string Bl] W λe Y=>e=.returned (.agg #[.int .i64 (a Bl),.int .i64 (f Bl),.string (gt Bl)])/\Zb W Y):=λhc W hb=>hg W Bl (ha.Bl hc) hb
   have o:Hid ((c=9\/c=10\/c=11)->∀W,Zb w W->Zc 216 #[U,i] W λe Y=>e=.returned (.int .i64 (Io a f gt l))/\Zb W Y):=λhc W hb=>R9 P i a f gt l U W (hl.up hb) (ha.left hc) (hg.up hb)
   have IR:Hid ((c=9\/c=10)->∀W,Zb w W->Zc 216 #[V,i] W λe Y=>e=.returned (.int .i64 (Io a f gt r))/\Zb W Y):=λhc W hb=>R9 P i a f gt r V W (hr.up hb) (ha.right hc) (hg.up hb)
   have X:=Kw a f gt l;have rr:=Kw a f gt r;clear hl hr hg ha
   by_cases h7:c=7
   ·have m:Hid (gG (a Bl==0)=Io a f gt (.node s x ⟨c,Bl,k,n,t⟩ l r)):=e7 h7
    replace q:=Ab (q.o (by omega));subst h7;clear o IR;generalize Io a f gt (.node s x ⟨7,Bl,k,n,t⟩ l r)=ee at *;generalize a Bl=L,f Bl=M,gt Bl=N at *;clear X rr;have aa:=fld L M N;go_enter func216,ntmps216;go_wp2_with fail;refine(q.o _ (XB _ _)).mono ?_;rintro e w1⟨rfl,G⟩;go_wp2_with (go_at_call 257;refine(Jc _ _).mono ?_;rintro e w2⟨rfl,rfl⟩);go_ret;exact⟨Bd m.o,G⟩
   by_cases h8:c=8
   ·have m:Hid (gG (a Bl != 0)=Io a f gt (.node s x ⟨c,Bl,k,n,t⟩ l r)):=e8 h8
    replace q:=Ab (q.o (by omega));subst h8;clear o IR h7;generalize Io a f gt (.node s x ⟨8,Bl,k,n,t⟩ l r)=ee at *;generalize a Bl=L,f Bl=M,gt Bl=N at *;clear X rr;have aa:=fld L M N;go_enter func216,ntmps216;go_wp2_with fail;refine(q.o _ (XB _ _)).mono ?_;rintro e w1⟨rfl,G⟩;go_wp2_with (go_at_call 257;refine(Jc _ _).mono ?_;rintro e w2⟨rfl,rfl⟩);go_ret;exact⟨Bd m.o,G⟩
   by_cases h11:c=11
   ·have m:Hid (Wk (Io a f gt l)=Io a f gt (.node s x ⟨c,Bl,k,n,t⟩ l r)):=e11 h11
    replace o:=Ab (o.o (by omega));subst h11;clear q IR h7 h8 rr;generalize Io a f gt (.node s x ⟨11,Bl,k,n,t⟩ l r)=ee at *;generalize Io a f gt l=u at *;go_enter func216,ntmps216;go_wp2_with fail;refine(o.o _ (XB _ _)).mono ?_;rintro e w1⟨rfl,G⟩;go_wp2_with (go_at_call 259;refine(AHu _ X.1 X.2 _).mono ?_;rintro e w2⟨rfl,rfl⟩);go_ret;exact⟨Bd m.o,G⟩
   by_cases h9:c=9
   ·have m:Hid (Su (Io a f gt l) (Io a f gt r)=Io a f gt (.node s x ⟨c,Bl,k,n,t⟩ l r)):=e9 h9
    replace o:=Ab (o.o (by omega));replace IR:=Ab (IR.o (by omega));subst h9;clear q h7 h8 h11 X rr;generalize Io a f gt (.node s x ⟨9,Bl,k,n,t⟩ l r)=ee at *;generalize Io a f gt l=u,Io a f gt r=D at *;go_enter func216,ntmps216;go_wp2_with fail;replace c0:=cell_regrown c0;replace c5:=cell_regrown c5;replace c6:=cell_regrown c6;clear c1 c2 c3 c4;have y:Hid (∀d os,Zc 216 #[U,i] (grow (redrawn w d) os) λe g=>e=.returned (.int .i64 u)/\∃p:Regrown,g=grow (redrawn w p.d) p.os):=λd os=>Calls.regrown_of (o.o _ (below_regrown w d os))
    have z:Hid (∀d os,Zc 216 #[V,i] (grow (redrawn w d) os) λe g=>e=.returned (.int .i64 D)/\∃p:Regrown,g=grow (redrawn w p.d) p.os):=λd os=>Calls.regrown_of (IR.o _ (below_regrown w d os))
    have R:Hid (∀d os,Zc 260 #[.int .i64 u,.int .i64 D] (grow (redrawn w d) os) λe g=>e=.returned (.int .i64 (Su u D))/\∃p:Regrown,g=grow (redrawn w p.d) p.os):=λd os=>(AHo u D _).mono λ_ _⟨he,hw⟩=>⟨he,⟨⟨d,os⟩,hw⟩⟩
    refine wp_region_quiet_below (by kernel_rfl) (by kernel_rfl) ?_
    repeat (go_big_quiet_step (first
     | (go_at_call_of 216 (#[U,i]:Array Value);exact y.o _ _)
     | (go_at_call_of 216 (#[V,i]:Array Value);exact z.o _ _)
     | (go_at_call_of 260 (#[.int .i64 u,.int .i64 D]:Array Value);exact R.o _ _)))
    refine wpQuiet_nil ?_;intro _ I;obtain⟨⟨dq,J⟩,j⟩:=I;subst j;go_wp2;go_ret;exact⟨Bd m.o,below_regrown w dq J⟩
   by_cases h10:c=10
   ·have m:Hid (orJ (Io a f gt l) (Io a f gt r)=Io a f gt (.node s x ⟨c,Bl,k,n,t⟩ l r)):=e10 h10
    replace o:=Ab (o.o (by omega));replace IR:=Ab (IR.o (by omega));subst h10;clear q h7 h8 h11 h9 X rr;generalize Io a f gt (.node s x ⟨10,Bl,k,n,t⟩ l r)=ee at *;generalize Io a f gt l=u,Io a f gt r=D at *;go_enter func216,ntmps216;go_wp2_with fail;replace c0:=cell_regrown c0;replace c5:=cell_regrown c5;replace c6:=cell_regrown c6;clear c1 c2 c3 c4;have y:Hid (∀d os,Zc 216 #[U,i] (grow (redrawn w d) os) λe g=>e=.returned (.int .i64 u)/\∃p:Regrown,g=grow (redrawn w p.d) p.os):=λd os=>Calls.regrown_of (o.o _ (below_regrown w d os))
    have z:Hid (∀d os,Zc 216 #[V,i] (grow (redrawn w d) os) λe g=>e=.returned (.int .i64 D)/\∃p:Regrown,g=grow (redrawn w p.d) p.os):=λd os=>Calls.regrown_of (IR.o _ (below_regrown w d os))
    have R:Hid (∀d os,Zc 261 #[.int .i64 u,.int .i64 D] (grow (redrawn w d) os) λe g=>e=.returned (.int .i64 (orJ u D))/\∃p:Regrown,g=grow (redrawn w p.d) p.os):=λd os=>(AHi u D _).mono λ_ _⟨he,hw⟩=>⟨he,⟨⟨d,os⟩,hw⟩⟩
    refine wp_region_quiet_below (by kernel_rfl) (by kernel_rfl) ?_
    repeat (go_big_quiet_step (first
     | (go_at_call_of 216 (#[U,i]:Array Value);exact y.o _ _)
     | (go_at_call_of 216 (#[V,i]:Array Value);exact z.o _ _)
     | (go_at_call_of 261 (#[.int .i64 u,.int .i64 D]:Array Value);exact R.o _ _)))
    refine wpQuiet_nil ?_;intro _ I;obtain⟨⟨dq,J⟩,j⟩:=I;subst j;go_wp2;go_ret;exact⟨Bd m.o,below_regrown w dq J⟩
   have m:Hid (Vq c (a Bl) (f Bl) (gt Bl) k n t=Io a f gt (.node s x ⟨c,Bl,k,n,t⟩ l r)):=e0 ⟨h7,h8,h11,h9,h10⟩;replace q:=Ab (q.o (by omega));have b7:(c==7)=false:=by simpa using h7
   have b8:(c==8)=false:=by simpa using h8
   have ac:(c==11)=false:=by simpa using h11
   have b9:(c==9)=false:=by simpa using h9
   have ab:(c==10)=false:=by simpa using h10
   clear o IR h7 h8 h11 h9 h10 X rr;generalize Io a f gt (.node s x ⟨c,Bl,k,n,t⟩ l r)=ee at *;generalize a Bl=L,f Bl=M,gt Bl=N at *;go_enter func216,ntmps216;go_wp2_with fail;replace c0:=cell_regrown c0;replace c1:=cell_regrown c1;replace c2:=cell_regrown c2;replace c3:=cell_regrown c3;replace c4:=cell_regrown c4;clear c5 c6;have y:Hid (∀d os,Zc 258 #[i,.string Bl] (grow (redrawn w d) os) λe g=>e=.returned (.agg #[.int .i64 L,.int .i64 M,.string N])/\∃p:Regrown,g=grow (redrawn w p.d) p.os):=λd os=>Calls.regrown_of (q.o _ (below_regrown w d os))
   have z:Hid (∀d os,Zc 262 #[.int .i64 c,.agg #[.int .i64 L,.int .i64 M,.string N],.agg #[.int .i64 k,.int .i64 n,.string t]] (grow (redrawn w d) os) λe g=>e=.returned (.int .i64 (Vq c L M N k n t))/\∃p:Regrown,g=grow (redrawn w p.d) p.os):=λd os=>Calls.regrown_of (AEl c L M k n N t _)
   refine wp_region_quiet_below (by kernel_rfl) (by kernel_rfl) ?_
   repeat (go_big_quiet_step (first
    | (go_at_call_of 258 (#[i,.string Bl]:Array Value);exact y.o _ _)
    | (go_at_call_of 262 (#[.int .i64 c,.agg #[.int .i64 L,.int .i64 M,.string N],.agg #[.int .i64 k,.int .i64 n,.string t]]:Array Value);exact z.o _ _)))
   refine wpQuiet_nil ?_;intro _ I;obtain⟨⟨dq,J⟩,j⟩:=I;subst j;go_wp2;go_ret;exact⟨Bd m.o,below_regrown w dq J⟩
theorem AAk(P:Tb->Prop)(c:Tv)(a b:Tb->Int)(gt:Tb->Tb)(T:CT)(v:Tv)(w:Tw)(h:Gy w T v)(g:Kg P T)(j:dR P c a b gt w)(i:C9 T 24=true):
 Zc 176 #[v,c] w λe f=>e=Zr (Zi (Io a b gt T))/\Zb w f:=by
 have H1:Hid (Zc 106 #[v] w λe f=>e=Zr (Zo true)/\f=w):=by have:=Uh T v w h;rw[i] at this;exact this
 have H2:=Ab (R9 P c a b gt T v w h g j);generalize Io a b gt T=k at *;clear h j i g;go_enter func176,ntmps176;go_wp2_with fail;apply H1.o.mono;rintro e l⟨rfl,rfl⟩;go_wp2_with fail;apply H2.o.mono;rintro e m⟨rfl,d⟩;go_wp2;go_ret;exact⟨rfl,d⟩
theorem ABs(p:Addr)(w:Tw):
 CallsD prog 298 #[Zp (some p)] .returning w λe c d=>e=Zr (Zu #[])/\c=.returning/\d=w:=by
 refine callsD_of_wpS func298 rfl λa cs b=>?_
 apply wpS_seq;apply wpS_region;simp[wpOpsS,go_sem,recoverD,b,ntmps298,Exit.thenS];refine wpS_cond (t:=false) (by simp[Act.eval,Array.replicate]) ?_;simp only[WA,if_false];refine wpS_of_wp (wp_skip ?_);cases a
 simp_all [bodyPostS,results,results298]
theorem r8(pa l o:Tv)(gs:Tb->St)(s:Tb)(w:Tw)(j:∀(W:Tw)(s:Tb),Zb w W->Zc 172 #[Zt s,pa,l,o] W λe h=>e=Zr (Zg (E6 (gs s)))/\Zb W h):
 Zc 253 #[.func (.func 172) #[] #[pa,l,o],Zt s] w λe h=>e=Zr (Zg (E6 (gs s)))/\Zb w h:=by
 have d:=Ab (λW G=>j W s G);clear j;have I:∀(i:Fn)(first b:Array Tv)(w:Tw),(Instr.makeFunc i first b).run prog w=.ok (.func i first b) w:=λ_ _ _ _=>rfl
 generalize gs s=st at *;obtain⟨sc,sm,⟨sk,sn,M⟩,⟨J,L,p⟩⟩:=st;unfold E6 at d ⊢;simp only at d ⊢
 go_enter_defers func253,ntmps253
 go_wp2_with fail;refine(d.o _ (Zal)).mono ?_;rintro e q⟨rfl,a⟩;have g:Nq q w.1.size F6:=Nq.up (Yac _ _) a;obtain⟨c0,c1,u,v,x,y,z,D⟩:=Nq.cells (c:=0) (m:=0) (k:=0) (n:=0) (t:=⟨#[]⟩) (k':=0) (n':=0) (t':=⟨#[]⟩) g;obtain⟨O,P,R,T,U,V,X,Y⟩:=g.free;have r:=Aa (((XB _ w).alloc (XA _) _).trans (a.mono (by simp)));clear a g;go_wp2;refine leaves_cons (f:=298) (args:=#[Zp (some (Zd w.1.size 0))]) (by simp) (by simp[go_sem]) ?_;refine(ABs (Zd w.1.size 0) _).mono ?_;rintro e u' N⟨rfl,rfl,rfl⟩;simp[Leaves,settle,results,results253,go_sem,c0,c1,u,v,x,y,z,D];exact b8c r.o (XA _) _ _ _ _ _ _ _ _
end S
namespace F
def Rf(l:List Aj)(s:ByteArray):Prop:=0<=Ce l s
theorem V5(k p:Nat)(cv gv:Tv)(qz:List Aj)(gs:List Fk)(g:Fk)(st:S.St)(c1:Int)(I:Tb)(J:Int)(L:Bool)(M N:Int)(O:Tb)(w:Tw)(y:Hm w cv gv (qz,gs))(hk:gs[k]? = some g)(h1:1<=qz.length)(h8:qz.length<=8)(ab:Gb qz g=true)(hp:cM qz c1=p)(aa:g.2.1[p]? = some st):
 Zc 173 #[Zg #[cv,gv],Zi k,Zg #[Zi c1,Zt I,Zi J,Zo L,Zi M,Zi N,Zt O]] w λe w'=>e=Zr (Zg (S.E6 st))/\Zb w w':=by
 have s:=Aa (λW(hW:Zb w W)=>nL k cv gv qz gs g W (y.up hW).1 (y.up hW).2 hk);have t:=Aa (λW(hW:Zb w W)=>U9 cv gv qz c1 I J L M N O W (y.up hW).1 h1 h8);obtain⟨ga,gc,rfl,_⟩:=y.2.slice;obtain⟨ca,cc,rfl,_⟩:=y.1.slice;dsimp only at s t ⊢;rw[ab] at s;rw[hp] at t;clear y ab;obtain⟨s1,s2,⟨k1,n1,t1⟩,⟨k2,n2,t2⟩⟩:=st;obtain⟨u,P,l,R,U⟩:=Jl w (Zk #[Zs ca qz.length cc,Zs ga gs.length gc] 146) (Zk #[Zi c1,Zt I,Zi J,Zo L,Zi M,Zi N,Zt O] 69) (Zk #[Zi 0,Zi 0,Zi 0,Zi 0,Zt ⟨#[]⟩,Zi 0,Zi 0,Zt ⟨#[]⟩] 261);have HA:=Aa P;have HB:=Aa l;have G:=Aa R;have z:=Aa U;have af:=Aa u;have f:=Aa aa;clear P l R U u aa;go_enter func173,ntmps173;go_wp2_with fail;generalize ((w.alloc (Zk #[Zs ca qz.length cc,Zs ga gs.length gc] 146)).alloc (Zk #[Zi c1,Zt I,Zi J,Zo L,Zi M,Zi N,Zt O] 69)).alloc (Zk #[Zi 0,Zi 0,Zi 0,Zi 0,Zt ⟨#[]⟩,Zi 0,Zi 0,Zt ⟨#[]⟩] 261)=W3 at *;refine(s.o W3 z.o).mono ?_;rintro e h⟨sv,bv,rfl,x,Y,V⟩;obtain⟨n,o,rfl,_⟩:=x.slice;obtain⟨i,j,rfl,_⟩:=Y.slice;have u:=af.o;have X:Zb h (h.alloc (Zk #[Zi g.1,Zs n g.2.1.length o,Zs i g.2.2.length j] 207)):=Zal;have d:=Ap V X;have P:=(d.block w.1.size (by omega)).trans HA.o;have l:=(d.block (w.1.size+1) (by omega)).trans HB.o;have ad:=Aa ((d.block (w.1.size+2) (by omega)).trans G.o);obtain⟨f0,f1⟩:=Hg P;have x0:(h.alloc (Zk #[Zi g.1,Zs n g.2.1.length o,Zs i g.2.2.length j] 207)).cell? (Zd (w.1.size+1) 0)=some (Zi c1):=A4 l rfl;have x1:(h.alloc (Zk #[Zi g.1,Zs n g.2.1.length o,Zs i g.2.2.length j] 207)).cell? (Zd (w.1.size+1) 1)=some (Zt I):=A4 l rfl;have x2:(h.alloc (Zk #[Zi g.1,Zs n g.2.1.length o,Zs i g.2.2.length j] 207)).cell? (Zd (w.1.size+1) 2)=some (Zi J):=A4 l rfl;have x3:(h.alloc (Zk #[Zi g.1,Zs n g.2.1.length o,Zs i g.2.2.length j] 207)).cell? (Zd (w.1.size+1) 3)=some (Zo L):=A4 l rfl;have x4:(h.alloc (Zk #[Zi g.1,Zs n g.2.1.length o,Zs i g.2.2.length j] 207)).cell? (Zd (w.1.size+1) 4)=some (Zi M):=A4 l rfl;have x5:(h.alloc (Zk #[Zi g.1,Zs n g.2.1.length o,Zs i g.2.2.length j] 207)).cell? (Zd (w.1.size+1) 5)=some (Zi N):=A4 l rfl;have x6:(h.alloc (Zk #[Zi g.1,Zs n g.2.1.length o,Zs i g.2.2.length j] 207)).cell? (Zd (w.1.size+1) 6)=some (Zt O):=A4 l rfl;have ae:=Aa (Yac h (Zk #[Zi g.1,Zs n g.2.1.length o,Zs i g.2.2.length j] 207));have ag:=Aa (x.up d);have D:=Aa (Ap z.o d);have am:=d.size;have ak:h.1.size<(h.alloc (Zk #[Zi g.1,Zs n g.2.1.length o,Zs i g.2.2.length j] 207)).1.size:=by simp
 clear x Y V X d P l HA HB G;go_wp2_with fail;generalize h.alloc (Zk #[Zi g.1,Zs n g.2.1.length o,Zs i g.2.2.length j] 207)=W5 at *;refine(t.o W5 D.o).mono ?_;rintro e c⟨rfl,m⟩;have aj:=Ax f.o;obtain⟨q,r,an,es,_,_,a⟩:=(ag.o.up m).cons (by omega);injection es with ah _ ai;subst ah ai;have y0:c.cell? (Zd q (r+p*8))=some (Zi s1):=a p _ f.o 0 _ rfl;have y1:c.cell? (Zd q (r+p*8+1))=some (Zi s2):=a p _ f.o 1 _ rfl;have y2:c.cell? (Zd q (r+p*8+2))=some (Zi k1):=a p _ f.o 2 _ rfl;have y3:c.cell? (Zd q (r+p*8+3))=some (Zi n1):=a p _ f.o 3 _ rfl;have y4:c.cell? (Zd q (r+p*8+4))=some (Zt t1):=a p _ f.o 4 _ rfl;have y5:c.cell? (Zd q (r+p*8+5))=some (Zi k2):=a p _ f.o 5 _ rfl;have y6:c.cell? (Zd q (r+p*8+6))=some (Zi n2):=a p _ f.o 6 _ rfl;have y7:c.cell? (Zd q (r+p*8+7))=some (Zt t2):=a p _ f.o 7 _ rfl;have b:=(m.block (w.1.size+2) (by omega)).trans ad.o;have T:=(m.block h.1.size ak).trans ae.o;obtain⟨_,g1,_⟩:=J5 T;have al:(p:Int)<(g.2.1.length:Int):=by omega
 have r0:c.cell? (Zd (w.1.size+2) 0)=some (Zi 0):=A4 b rfl;have r1:c.cell? (Zd (w.1.size+2) 1)=some (Zi 0):=A4 b rfl;have r2:c.cell? (Zd (w.1.size+2) 2)=some (Zi 0):=A4 b rfl;have r3:c.cell? (Zd (w.1.size+2) 3)=some (Zi 0):=A4 b rfl;have r4:c.cell? (Zd (w.1.size+2) 4)=some (Zt ⟨#[]⟩):=A4 b rfl;have r5:c.cell? (Zd (w.1.size+2) 5)=some (Zi 0):=A4 b rfl;have r6:c.cell? (Zd (w.1.size+2) 6)=some (Zi 0):=A4 b rfl;have r7:c.cell? (Zd (w.1.size+2) 7)=some (Zt ⟨#[]⟩):=A4 b rfl;have z0:=Yaf c (w.1.size+2) 0 _ _ b;have z1:=Yaf c (w.1.size+2) 1 _ _ b;have z2:=Yaf c (w.1.size+2) 2 _ _ b;have z3:=Yaf c (w.1.size+2) 3 _ _ b;have z4:=Yaf c (w.1.size+2) 4 _ _ b;have z5:=Yaf c (w.1.size+2) 5 _ _ b;have z6:=Yaf c (w.1.size+2) 6 _ _ b;have z7:=Yaf c (w.1.size+2) 7 _ _ b;have ac:=Aa (Ap D.o m);clear a b T m x0 x1 x2 x3 x4 x5 x6 f0 f1 aj;go_wp2;refine bodyPost_ret (v:=Zg #[Zi s1,Zi s2,Zi k1,Zi n1,Zt t1,Zi k2,Zi n2,Zt t2]) (by simp[results,results173,go_sem,r0,r1,r2,r3,r4,r5,r6,r7]) rfl ⟨rfl,?_⟩;exact(((((((ac.o.setCell (p:=Zd (w.1.size+2) 0) (XC _ _) _).setCell (p:=Zd (w.1.size+2) 1) (XC _ _) _).setCell (p:=Zd (w.1.size+2) 2) (XC _ _) _).setCell (p:=Zd (w.1.size+2) 3) (XC _ _) _).setCell (p:=Zd (w.1.size+2) 4) (XC _ _) _).setCell (p:=Zd (w.1.size+2) 5) (XC _ _) _).setCell (p:=Zd (w.1.size+2) 6) (XC _ _) _).setCell (p:=Zd (w.1.size+2) 7) (XC _ _) _
end F
namespace S
variable{i j:Nat}{c k n:Int}{l r:CT}
def gU(a:Value)(gs:ByteArray->St)(w:World):Prop :=
 ∀(W:World)(s:ByteArray),Zb w W->Zc 253 #[a,.string s] W λe b=>e=.returned (.agg (E6 (gs s)))/\Zb W b
theorem gU.up{v:Tv}{gs:Tb->St}{w W:Tw}(h:gU v gs w)(c:Zb w W):gU v gs W :=
 λb s a=>h b s (Below.up c a)
def Bp(gs:ByteArray->St):Bool->CT->Bool
 | b,.nil=>!b
 | b,.node _ _ ⟨c,Bl,k,n,t⟩ l r=>if c=9 then (if b then Bp gs b l || Bp gs b r else Bp gs b l && Bp gs b r) else if c=10 then (if b then Bp gs b l && Bp gs b r else Bp gs b l || Bp gs b r) else if c=11 then Bp gs (!b) l else E0 (if b then Pw c else c) (gs Bl) (k,n,t)
theorem m9f{gs:Tb->St}{Bl:Tb}{t:Tb}(h:c=9):(Bp gs false l && Bp gs false r)=Bp gs false (.node i j ⟨c,Bl,k,n,t⟩ l r):=by rw[Bp,Yae h];rfl
theorem m9t{gs:Tb->St}{Bl:Tb}{t:Tb}(h:c=9):(Bp gs true l || Bp gs true r)=Bp gs true (.node i j ⟨c,Bl,k,n,t⟩ l r):=by rw[Bp,Yae h];rfl
theorem AJv{gs:Tb->St}{Bl:Tb}{t:Tb}(h:c=10):(Bp gs false l || Bp gs false r)=Bp gs false (.node i j ⟨c,Bl,k,n,t⟩ l r):=by rw[Bp,Yad (by omega),Yae h];rfl
theorem AJu{gs:Tb->St}{Bl:Tb}{t:Tb}(h:c=10):(Bp gs true l && Bp gs true r)=Bp gs true (.node i j ⟨c,Bl,k,n,t⟩ l r):=by rw[Bp,Yad (by omega),Yae h];rfl
theorem AKD{gs:Tb->St}{Bl:Tb}{t:Tb}(h:c=11):Bp gs true l=Bp gs false (.node i j ⟨c,Bl,k,n,t⟩ l r):=by rw[Bp,Yad (by omega),Yad (by omega),Yae h];rfl
theorem AJz{gs:Tb->St}{Bl:Tb}{t:Tb}(h:c=11):Bp gs false l=Bp gs true (.node i j ⟨c,Bl,k,n,t⟩ l r):=by rw[Bp,Yad (by omega),Yad (by omega),Yae h];rfl
theorem m0f{gs:Tb->St}{Bl:Tb}{t:Tb}(h:¬c=9/\¬c=10/\¬c=11):E0 c (gs Bl) (k,n,t)=Bp gs false (.node i j ⟨c,Bl,k,n,t⟩ l r):=by rw[Bp,Yad h.1,Yad h.2.1,Yad h.2.2];rfl
theorem m0t{gs:Tb->St}{Bl:Tb}{t:Tb}(h:¬c=9/\¬c=10/\¬c=11):E0 (Pw c) (gs Bl) (k,n,t)=Bp gs true (.node i j ⟨c,Bl,k,n,t⟩ l r):=by rw[Bp,Yad h.1,Yad h.2.1,Yad h.2.2];rfl
theorem AAU(s:Value)(gs:ByteArray->St)(m o:Nat)(c:Int)(Bl:ByteArray)(k n:Int)(t:ByteArray)(l r:CT)(b:Nat)(U P:Value)(w:World)(u:w.1[b]? = some (.cells #[.int .i64 c,.string Bl,.int .i64 k,.int .i64 n,.string t,U,P] 120))(hg:gU s gs w)(ho:Lp w)(hl:∀W,Zb w W->Zc 212 #[U,s] W λe q=>e=.returned (.bool (Bp gs false l))/\Zb W q)(hr:∀W,Zb w W->Zc 212 #[P,s] W λe q=>e=.returned (.bool (Bp gs false r))/\Zb W q)(hn:∀W,Zb w W->Zc 251 #[U,s] W λe q=>e=.returned (.bool (Bp gs true l))/\Zb W q):
 Zc 212 #[.pointer (some ⟨b,0,none⟩),s] w λe q=>e=.returned (.bool (Bp gs false (.node m o ⟨c,Bl,k,n,t⟩ l r)))/\Zb w q:=by
 have c0:w.cell? ⟨b,0,none⟩=some (.int .i64 c):=cell_of_heap u 0;have c1:w.cell? ⟨b,1,none⟩=some (.string Bl):=cell_of_heap u 1;have c2:w.cell? ⟨b,2,none⟩=some (.int .i64 k):=cell_of_heap u 2;have c3:w.cell? ⟨b,3,none⟩=some (.int .i64 n):=cell_of_heap u 3;have c4:w.cell? ⟨b,4,none⟩=some (.string t):=cell_of_heap u 4;have c5:w.cell? ⟨b,5,none⟩=some U:=cell_of_heap u 5;have M:w.cell? ⟨b,6,none⟩=some P:=cell_of_heap u 6;have N:b<w.1.size:=block_lt_of_cell c0;have z:Hid (∀W,Zb w W->Zc 253 #[s,.string Bl] W λe q=>e=.returned (.agg (E6 (gs Bl)))/\Zb W q):=λW hb=>hg W Bl hb
 have Y:=Ab ho;have y:=Ab hl;have IR:=Ab hr;have R:=Ab hn;clear u hg ho hl hr hn
 by_cases h9:c=9
 ·have j:Hid ((Bp gs false l && Bp gs false r)=Bp gs false (.node m o ⟨c,Bl,k,n,t⟩ l r)):=m9f h9
  subst h9;clear z Y R;generalize Bp gs false (.node m o ⟨9,Bl,k,n,t⟩ l r)=ee at *;generalize Bp gs false l=T at *;generalize Bp gs false r=er at *;cases hel:T
  ·subst hel
   go_enter func212,ntmps212;go_wp2_with fail;refine(y.o _ (XB _ _)).mono ?_;rintro e L⟨rfl,a⟩;go_wp2;go_ret;exact⟨Af j.o,a⟩
  subst hel;go_enter func212,ntmps212;go_wp2_with fail;refine(y.o _ (XB _ _)).mono ?_;rintro e L⟨rfl,a⟩;replace M:L.cell? ⟨b,6,none⟩=some P:=(a.cell (p:=⟨b,6,none⟩) N).trans M;go_wp2_with fail;refine(IR.o _ a).mono ?_;rintro e w2⟨rfl,v⟩;go_wp2;go_ret;exact⟨Af j.o,Below.up a v⟩
 by_cases h10:c=10
 ·have j:Hid ((Bp gs false l || Bp gs false r)=Bp gs false (.node m o ⟨c,Bl,k,n,t⟩ l r)):=AJv h10
  subst h10;clear z Y R;generalize Bp gs false (.node m o ⟨10,Bl,k,n,t⟩ l r)=ee at *;generalize Bp gs false l=T at *;generalize Bp gs false r=er at *;cases hel:T
  ·subst hel
   go_enter func212,ntmps212;go_wp2_with fail;refine(y.o _ (XB _ _)).mono ?_;rintro e L⟨rfl,a⟩;replace M:L.cell? ⟨b,6,none⟩=some P:=(a.cell (p:=⟨b,6,none⟩) N).trans M;go_wp2_with fail;refine(IR.o _ a).mono ?_;rintro e w2⟨rfl,v⟩;go_wp2;go_ret;exact⟨Af j.o,Below.up a v⟩
  subst hel;go_enter func212,ntmps212;go_wp2_with fail;refine(y.o _ (XB _ _)).mono ?_;rintro e L⟨rfl,a⟩;go_wp2;go_ret;exact⟨Af j.o,a⟩
 by_cases h11:c=11
 ·have j:Hid (Bp gs true l=Bp gs false (.node m o ⟨c,Bl,k,n,t⟩ l r)):=AKD h11
  subst h11;clear z Y y IR;generalize Bp gs false (.node m o ⟨11,Bl,k,n,t⟩ l r)=ee at *;generalize Bp gs true l=T at *;go_enter func212,ntmps212;go_wp2_with fail;refine(R.o _ (XB _ _)).mono ?_;rintro e L⟨rfl,a⟩;go_wp2;go_ret;exact⟨Af j.o,a⟩
 have j:Hid (E0 c (gs Bl) (k,n,t)=Bp gs false (.node m o ⟨c,Bl,k,n,t⟩ l r)):=m0f ⟨h9,h10,h11⟩;have b9:(c==9)=false:=by simpa using h9
 have ac:(c==10)=false:=by simpa using h10
 have ad:(c==11)=false:=by simpa using h11
 clear y IR R h9 h10 h11;generalize Bp gs false (.node m o ⟨c,Bl,k,n,t⟩ l r)=ee at *;generalize gs Bl=st at *;obtain⟨D,I,⟨G,J,i⟩,⟨g,h,f⟩⟩:=st;unfold E6 at z;simp only at z;have V:Hid (∀d os,Zc 253 #[s,.string Bl] (grow (redrawn w d) os) λe x=>e=.returned (.agg #[.int .i64 D,.int .i64 I,.int .i64 G,.int .i64 J,.string i,.int .i64 g,.int .i64 h,.string f])/\∃p:Regrown,x=grow (redrawn w p.d) p.os):=λd os=>Calls.regrown_of (z.o _ (below_regrown w d os))
 have X:Hid (∀d os,Zc 252 #[.int .i64 c,.agg #[.int .i64 D,.int .i64 I,.int .i64 G,.int .i64 J,.string i,.int .i64 g,.int .i64 h,.string f],.agg #[.int .i64 k,.int .i64 n,.string t]] (grow (redrawn w d) os) λe x=>e=.returned (.bool (E0 c (D,I,(G,J,i),(g,h,f)) (k,n,t)))/\∃p:Regrown,x=grow (redrawn w p.d) p.os):=λd os=>Calls.regrown_of (Qq c D I G J i g h f k n t _)
 generalize E0 c (D,I,(G,J,i),(g,h,f)) (k,n,t)=mc at *;go_enter func212,ntmps212;go_wp2_with fail;replace c0:=cell_regrown c0;replace c1:=cell_regrown c1;replace c2:=cell_regrown c2;replace c3:=cell_regrown c3;replace c4:=cell_regrown c4;clear c5 M;refine wp_region_quiet_below (by kernel_rfl) (by kernel_rfl) ?_
 repeat (go_big_quiet_step (first
  | (go_at_call_of 253 (#[s,.string Bl]:Array Value);exact V.o _ _)
  | (go_at_call_of 252 (#[.int .i64 c,.agg #[.int .i64 D,.int .i64 I,.int .i64 G,.int .i64 J,.string i,.int .i64 g,.int .i64 h,.string f],.agg #[.int .i64 k,.int .i64 n,.string t]]:Array Value);exact X.o _ _)))
 refine wpQuiet_nil ?_;intro _ aa;obtain⟨⟨dq,ab⟩,O⟩:=aa;subst O;go_wp2;go_ret;exact⟨Af j.o,below_regrown w dq ab⟩
theorem ADJ(b:Tv)(gs:Tb->St)(w:Tw):
 Zc 212 #[Zp none,b] w λe c=>e=Zr (Zo (Bp gs false .nil))/\Zb w c:=by
 have a:Hid (true=Bp gs false .nil):=rfl;go_enter func212,ntmps212;go_wp2;go_ret;exact⟨Af a.o,XB _ _⟩
theorem zJ(u:Value)(gs:ByteArray->St)(o q:Nat)(c:Int)(Bl:ByteArray)(k n:Int)(t:ByteArray)(l r:CT)(b:Nat)(V P:Value)(w:World)(v:w.1[b]? = some (.cells #[.int .i64 c,.string Bl,.int .i64 k,.int .i64 n,.string t,V,P] 120))(hg:gU u gs w)(ho:Lp w)(hl:∀W,Zb w W->Zc 251 #[V,u] W λe s=>e=.returned (.bool (Bp gs true l))/\Zb W s)(hr:∀W,Zb w W->Zc 251 #[P,u] W λe s=>e=.returned (.bool (Bp gs true r))/\Zb W s)(hn:∀W,Zb w W->Zc 212 #[V,u] W λe s=>e=.returned (.bool (Bp gs false l))/\Zb W s):
 Zc 251 #[.pointer (some ⟨b,0,none⟩),u] w λe s=>e=.returned (.bool (Bp gs true (.node o q ⟨c,Bl,k,n,t⟩ l r)))/\Zb w s:=by
 have c0:w.cell? ⟨b,0,none⟩=some (.int .i64 c):=cell_of_heap v 0;have c1:w.cell? ⟨b,1,none⟩=some (.string Bl):=cell_of_heap v 1;have c2:w.cell? ⟨b,2,none⟩=some (.int .i64 k):=cell_of_heap v 2;have c3:w.cell? ⟨b,3,none⟩=some (.int .i64 n):=cell_of_heap v 3;have c4:w.cell? ⟨b,4,none⟩=some (.string t):=cell_of_heap v 4;have c5:w.cell? ⟨b,5,none⟩=some V:=cell_of_heap v 5;have M:w.cell? ⟨b,6,none⟩=some P:=cell_of_heap v 6;have N:b<w.1.size:=block_lt_of_cell c0;have z:Hid (∀W,Zb w W->Zc 253 #[u,.string Bl] W λe s=>e=.returned (.agg (E6 (gs Bl)))/\Zb W s):=λW hb=>hg W Bl hb
 have R:=Ab ho;have y:=Ab hl;have IR:=Ab hr;have T:=Ab hn;clear v hg ho hl hr hn
 by_cases h9:c=9
 ·have m:Hid ((Bp gs true l || Bp gs true r)=Bp gs true (.node o q ⟨c,Bl,k,n,t⟩ l r)):=m9t h9
  subst h9;clear z R T;generalize Bp gs true (.node o q ⟨9,Bl,k,n,t⟩ l r)=ee at *;generalize Bp gs true l=U at *;generalize Bp gs true r=er at *;cases hel:U
  ·subst hel
   go_enter func251,ntmps251;go_wp2_with fail;refine(y.o _ (XB _ _)).mono ?_;rintro e L⟨rfl,a⟩;replace M:L.cell? ⟨b,6,none⟩=some P:=(a.cell (p:=⟨b,6,none⟩) N).trans M;go_wp2_with fail;refine(IR.o _ a).mono ?_;rintro e w2⟨rfl,x⟩;go_wp2;go_ret;exact⟨Af m.o,Below.up a x⟩
  subst hel;go_enter func251,ntmps251;go_wp2_with fail;refine(y.o _ (XB _ _)).mono ?_;rintro e L⟨rfl,a⟩;go_wp2;go_ret;exact⟨Af m.o,a⟩
 by_cases h10:c=10
 ·have m:Hid ((Bp gs true l && Bp gs true r)=Bp gs true (.node o q ⟨c,Bl,k,n,t⟩ l r)):=AJu h10
  subst h10;clear z R T;generalize Bp gs true (.node o q ⟨10,Bl,k,n,t⟩ l r)=ee at *;generalize Bp gs true l=U at *;generalize Bp gs true r=er at *;cases hel:U
  ·subst hel
   go_enter func251,ntmps251;go_wp2_with fail;refine(y.o _ (XB _ _)).mono ?_;rintro e L⟨rfl,a⟩;go_wp2;go_ret;exact⟨Af m.o,a⟩
  subst hel;go_enter func251,ntmps251;go_wp2_with fail;refine(y.o _ (XB _ _)).mono ?_;rintro e L⟨rfl,a⟩;replace M:L.cell? ⟨b,6,none⟩=some P:=(a.cell (p:=⟨b,6,none⟩) N).trans M;go_wp2_with fail;refine(IR.o _ a).mono ?_;rintro e w2⟨rfl,x⟩;go_wp2;go_ret;exact⟨Af m.o,Below.up a x⟩
 by_cases h11:c=11
 ·have m:Hid (Bp gs false l=Bp gs true (.node o q ⟨c,Bl,k,n,t⟩ l r)):=AJz h11
  subst h11;clear z R y IR;generalize Bp gs true (.node o q ⟨11,Bl,k,n,t⟩ l r)=ee at *;generalize Bp gs false l=U at *;go_enter func251,ntmps251;go_wp2_with fail;refine(T.o _ (XB _ _)).mono ?_;rintro e L⟨rfl,a⟩;go_wp2;go_ret;exact⟨Af m.o,a⟩
 have m:Hid (E0 (Pw c) (gs Bl) (k,n,t)=Bp gs true (.node o q ⟨c,Bl,k,n,t⟩ l r)):=m0t ⟨h9,h10,h11⟩;have b9:(c==9)=false:=by simpa using h9
 have ad:(c==10)=false:=by simpa using h10
 have ae:(c==11)=false:=by simpa using h11
 clear y IR T h9 h10 h11;generalize Bp gs true (.node o q ⟨c,Bl,k,n,t⟩ l r)=ee at *;generalize gs Bl=st at *;obtain⟨D,I,⟨G,J,i⟩,⟨g,h,f⟩⟩:=st;unfold E6 at z;simp only at z;have X:Hid (∀d os,Zc 296 #[.int .i64 c] (grow (redrawn w d) os) λe j=>e=.returned (.int .i64 (Pw c))/\∃p:Regrown,j=grow (redrawn w p.d) p.os):=λd os=>(o9 c _ (R.o.below (below_regrown w d os))).mono λ_ _⟨he,hw⟩=>⟨he,⟨⟨d,os⟩,hw⟩⟩
 have Y:Hid (∀d os,Zc 253 #[u,.string Bl] (grow (redrawn w d) os) λe j=>e=.returned (.agg #[.int .i64 D,.int .i64 I,.int .i64 G,.int .i64 J,.string i,.int .i64 g,.int .i64 h,.string f])/\∃p:Regrown,j=grow (redrawn w p.d) p.os):=λd os=>Calls.regrown_of (z.o _ (below_regrown w d os))
 have aa:Hid (∀d os,Zc 252 #[.int .i64 (Pw c),.agg #[.int .i64 D,.int .i64 I,.int .i64 G,.int .i64 J,.string i,.int .i64 g,.int .i64 h,.string f],.agg #[.int .i64 k,.int .i64 n,.string t]] (grow (redrawn w d) os) λe j=>e=.returned (.bool (E0 (Pw c) (D,I,(G,J,i),(g,h,f)) (k,n,t)))/\∃p:Regrown,j=grow (redrawn w p.d) p.os):=λd os=>Calls.regrown_of (Qq (Pw c) D I G J i g h f k n t _)
 generalize Pw c=oc at *;generalize E0 oc (D,I,(G,J,i),(g,h,f)) (k,n,t)=mc at *;go_enter func251,ntmps251;go_wp2_with fail;replace c0:=cell_regrown c0;replace c1:=cell_regrown c1;replace c2:=cell_regrown c2;replace c3:=cell_regrown c3;replace c4:=cell_regrown c4;clear c5 M;refine wp_region_quiet_below (by kernel_rfl) (by kernel_rfl) ?_
 repeat (go_big_quiet_step (first
  | (go_at_call_of 296 (#[.int .i64 c]:Array Value);exact X.o _ _)
  | (go_at_call_of 253 (#[u,.string Bl]:Array Value);exact Y.o _ _)
  | (go_at_call_of 252 (#[.int .i64 oc,.agg #[.int .i64 D,.int .i64 I,.int .i64 G,.int .i64 J,.string i,.int .i64 g,.int .i64 h,.string f],.agg #[.int .i64 k,.int .i64 n,.string t]]:Array Value);exact aa.o _ _)))
 refine wpQuiet_nil ?_;intro _ ab;obtain⟨⟨dq,ac⟩,O⟩:=ab;subst O;go_wp2;go_ret;exact⟨Af m.o,below_regrown w dq ac⟩
theorem ADf(b:Tv)(gs:Tb->St)(w:Tw):
 Zc 251 #[Zp none,b] w λe c=>e=Zr (Zo (Bp gs true .nil))/\Zb w c:=by
 have a:Hid (false=Bp gs true .nil):=rfl;go_enter func251,ntmps251;go_wp2;go_ret;exact⟨Af a.o,XB _ _⟩
theorem gR(d:Tv)(gs:Tb->St):∀(T:CT)(v:Tv)(w:Tw),Gy w T v->gU d gs w->Lp w ->
 (Zc 212 #[v,d] w λe j=>e=Zr (Zo (Bp gs false T))/\Zb w j)/\(Zc 251 #[v,d] w λe j=>e=Zr (Zo (Bp gs true T))/\Zb w j)
 | .nil,v,w,h,_,_=>by obtain rfl:v=Zp none:=h;exact⟨ADJ d gs w,ADf d gs w⟩
 | .node a0 o0 ⟨c,Bl,k,n,t⟩ l r,v,w,h,hg,ho=>by
   obtain⟨b,g,i,rfl,m,_,o,p⟩:=h;have f:=λW a=>gR d gs l g W (o.up a) (hg.up a) (ho.below a)
   have IR:=λW a=>gR d gs r i W (p.up a) (hg.up a) (ho.below a)
   exact⟨AAU d gs a0 o0 c Bl k n t l r b g i w m hg ho (λW a=>(f W a).1) (λW a=>(IR W a).1) (λW a=>(f W a).2),
    zJ d gs a0 o0 c Bl k n t l r b g i w m hg ho (λW a=>(f W a).2) (λW a=>(IR W a).2) (λW a=>(f W a).1)⟩
theorem AG4(a:Tv)(gs:Tb->St)(T:CT)(v:Tv)(w:Tw)(h:Gy w T v)(f:gU a gs w)(g:Lp w)(d:C9 T 24=true):
 Zc 171 #[v,a] w λe c=>e=Zr (Zo (Bp gs false T))/\Zb w c:=by
 have H1:Hid (Zc 106 #[v] w λe c=>e=Zr (Zo true)/\c=w):=by have:=Uh T v w h;rw[d] at this;exact this
 have H2:=Ab (gR a gs T v w h f g).1;generalize Bp gs false T=i at *;clear h f g d;go_enter func171,ntmps171;go_wp2_with fail;apply H1.o.mono;rintro e j⟨rfl,rfl⟩;go_wp2_with fail;apply H2.o.mono;rintro e k⟨rfl,b⟩;go_wp2;go_ret;exact⟨rfl,b⟩
variable{c n:Int}{v x:V}
def okT:CT->Prop
 | .nil=>True
 | .node _ _ ⟨c,_,_,_,_⟩ l r=>(1<=c/\c<=11)/\okT l/\okT r
theorem Gy.ok{w:Tw}:∀{T:CT}{v:Tv},Gy w T v->okT T
 | .nil,_,_=>trivial
 | .node _ _ ⟨_,_,_,_,_⟩ _ _,_,⟨_,_,_,_,_,hcd,hl,hr⟩=>⟨hcd,Gy.ok hl,Gy.ok hr⟩
def AJG(s:St)(x:V):Prop:=∃l,Pk l s/\AIN l/\x∈l
def Kn(c:Int)(x v:V):Int:=if c=7 then gG (x.1==0) else if c=8 then gG (x.1 != 0) else Vq c x.1 x.2.1 x.2.2 v.1 v.2.1 v.2.2
theorem AHV(h:Vq c x.1 x.2.1 x.2.2 v.1 v.2.1 v.2.2=1):¬x.1=0/\x.1=v.1/\B6 c (Eu x v)=true:=by
 unfold Vq at h;split at h
 ·omega
 rename_i hk;refine⟨λe=>hk (.inl e),Classical.byContradiction λe=>hk (.inr e),?_⟩;cases hs:B6 c (Eu x v) with
 | true=>rfl
 | false=>unfold Eu at hs;rw[hs] at h;simp[gG] at h
theorem vV(h:Vq c x.1 x.2.1 x.2.2 v.1 v.2.1 v.2.2=0):¬x.1=0/\x.1=v.1/\B6 c (Eu x v)=false:=by
 unfold Vq at h;split at h
 ·omega
 rename_i hk;refine⟨λe=>hk (.inl e),Classical.byContradiction λe=>hk (.inr e),?_⟩;cases hs:B6 c (Eu x v) with
 | false=>rfl
 | true=>unfold Eu at hs;rw[hs] at h;simp[gG] at h
theorem AFD(b:¬x.1=0)(d:x.1=v.1)(a:B6 c (Eu x v)=true):Vq c x.1 x.2.1 x.2.2 v.1 v.2.1 v.2.2=1:=by unfold Vq;rw[Yad (by rintro(e|e);exact b e;exact e d)];unfold Eu at a;rw[a];rfl
theorem O2(a:¬x.1=0)(b:x.1=v.1)(d:B6 c (Eu x v)=true):O9 c x v=true:=by unfold O9;rw[AFD a b d];rfl
theorem mN(o:Int):B6 1 o=true↔o=0:=by simp[B6]
theorem Sm(o:Int):B6 2 o=true↔¬o=0:=by simp[B6]
theorem aO(o:Int):B6 3 o=true↔o<0:=by simp[B6]
theorem Uo(o:Int):B6 4 o=true↔o<=0:=by simp[B6]
theorem aR(o:Int):B6 5 o=true↔0<o:=by simp[B6]
theorem S4(o:Int):B6 6 o=true↔0<=o:=by simp[B6]
theorem wJ{c o:Int}(b:1<=c)(a:c<=6)(h:B6 c o=false):B6 (Pw c) o=true:=by
 rcases (show c=1\/c=2\/c=3\/c=4\/c=5\/c=6 by omega) with rfl|rfl|rfl|rfl|rfl|rfl
 ·rw[show Pw 1=2 from rfl,Sm];intro e;rw[(mN o).2 e] at h;cases h
 ·rw[show Pw 2=1 from rfl,mN];exact Classical.byContradiction λe=>by rw[(Sm o).2 e] at h;cases h
 ·rw[show Pw 3=6 from rfl,S4];exact Classical.byContradiction λe=>by rw[(aO o).2 (by omega)] at h;cases h
 ·rw[show Pw 4=5 from rfl,aR];exact Classical.byContradiction λe=>by rw[(Uo o).2 (by omega)] at h;cases h
 ·rw[show Pw 5=4 from rfl,Uo];exact Classical.byContradiction λe=>by rw[(aR o).2 (by omega)] at h;cases h
 rw[show Pw 6=3 from rfl,aO];exact Classical.byContradiction λe=>by rw[(S4 o).2 (by omega)] at h;cases h
theorem AB9(b:1<=c)(a:c<=8):1<=Pw c/\Pw c<=8:=by rcases (show c=1\/c=2\/c=3\/c=4\/c=5\/c=6\/c=7\/c=8 by omega) with rfl|rfl|rfl|rfl|rfl|rfl|rfl|rfl <;> decide
theorem AHy(b:1<=c)(a:c<=6):¬Pw c=7/\¬Pw c=8:=by rcases (show c=1\/c=2\/c=3\/c=4\/c=5\/c=6 by omega) with rfl|rfl|rfl|rfl|rfl|rfl <;> decide
theorem AFf(d:1<=c)(k:c<=8)(h:Kn c x v=0):Kn (Pw c) x v=1:=by
 by_cases h7:c=7
 ·subst h7
  have a:(x.1==0)=false:=by
   cases e:(x.1==0) with
   | false=>rfl
   | true=>simp[Kn,e,gG] at h
  rw[show Pw 7=8 from rfl];have b:¬x.1=0:=by simpa using a
  simp[Kn,gG,b]
 by_cases h8:c=8
 ·subst h8
  have a:x.1=0:=Classical.byContradiction λe=>by simp[Kn,gG,e] at h
  rw[show Pw 8=7 from rfl];simp[Kn,gG,a]
 have l:Vq c x.1 x.2.1 x.2.2 v.1 v.2.1 v.2.2=0:=by simpa[Kn,h7,h8] using h
 obtain⟨g,i,j⟩:=vV l;have f:=AHy d (by omega);unfold Kn;rw[Yad f.1,Yad f.2];exact AFD g i (wJ d (by omega) j)
theorem rH{s:St}(T:1<=c)(I:c<=8)(J:AJG s x)(h:Kn c x v=1):E0 c s v=true:=by
 obtain⟨l,p,D,q⟩:=J
 by_cases h7:c=7
 ·subst h7
  have d:x.1=0:=Classical.byContradiction λe=>by simp[Kn,gG,e] at h
  have:=p.null q d;simp[E0,this]
 by_cases h8:c=8
 ·subst h8
  have d:¬x.1=0:=λe=>by simp[Kn,gG,e] at h
  have:=(p.some D q d).1;simp[E0,this]
 have L:Vq c x.1 x.2.1 x.2.2 v.1 v.2.1 v.2.2=1:=by simpa[Kn,h7,h8] using h
 obtain⟨o,r,b⟩:=AHV L;obtain⟨_,t,u,g,i⟩:=p.some D q o;have j:¬s.2.2.1.1=0:=by rw[t];exact o
 have k:s.2.2.1.1=v.1:=t.trans r;have m:¬s.2.2.2.1=0:=by rw[u];exact o
 have n:s.2.2.2.1=v.1:=u.trans r;have M:=He s.2.2.1 v;have N:=He s.2.2.2 v;have O:=He x v;have P:=He x s.2.2.2;have R:=He s.2.2.1 x
 rcases (show c=1\/c=2\/c=3\/c=4\/c=5\/c=6 by omega) with rfl|rfl|rfl|rfl|rfl|rfl
 ·rw[mN] at b
  have e:=Ig.1 b;subst e;have a:O9 4 s.2.2.1 x=true:=O2 j k ((Uo _).2 g);have G:O9 6 s.2.2.2 x=true:=O2 m n ((S4 _).2 (by omega));simp[E0,a,G]
 ·rw[Sm] at b
  have:¬Eu s.2.2.1 v=0\/¬Eu s.2.2.2 v=0:=Classical.byContradiction λe=>by
   have w:Eu s.2.2.1 v=0:=Classical.byContradiction λf=>e (.inl f)
   have z:Eu s.2.2.2 v=0:=Classical.byContradiction λf=>e (.inr f)
   rw[Ig] at w z;rw[w] at g;rw[z] at i;exact b (Ig.2 (ADy i g))
  rcases this with e|e
  ·have a:O9 2 s.2.2.1 v=true:=O2 j k ((Sm _).2 e)
   simp[E0,a]
  have a:O9 2 s.2.2.2 v=true:=O2 m n ((Sm _).2 e);simp[E0,a]
 ·rw[aO] at b
  have:Eu s.2.2.1 v<0:=Classical.byContradiction λe=>by have:Eu v x<=0:=Ha (y:=s.2.2.1) (by omega) g;omega
  have a:O9 3 s.2.2.1 v=true:=O2 j k ((aO _).2 this);simp[E0,a]
 ·rw[Uo] at b
  have a:O9 4 s.2.2.1 v=true:=O2 j k ((Uo _).2 (Ha g b));simp[E0,a]
 ·rw[aR] at b
  have:0<Eu s.2.2.2 v:=Classical.byContradiction λe=>by have:Eu x v<=0:=Ha i (by omega);omega
  have a:O9 5 s.2.2.2 v=true:=O2 m n ((aR _).2 this);simp[E0,a]
 rw[S4] at b;have:Eu v s.2.2.2<=0:=Ha (y:=x) (by omega) i;have a:O9 6 s.2.2.2 v=true:=O2 m n ((S4 _).2 (by omega));simp[E0,a]
theorem AFm(h:Wk n=1):n=0:=by unfold Wk at h;split at h <;> omega
theorem tP(h:Wk n=0):n=1:=by unfold Wk at h;split at h <;> omega
theorem AGM{a b:Int}(c : -1<=a/\a<=1)(d : -1<=b/\b<=1)(h:Su a b=1):a=1/\b=1:=by unfold Su at h;split at h <;> omega
theorem tL{a b:Int}(h:Su a b=0):a=0\/b=0:=by unfold Su at h;split at h <;> omega
theorem AHO{a b:Int}(c : -1<=a/\a<=1)(d : -1<=b/\b<=1)(h:orJ a b=1):a=1\/b=1:=by unfold orJ at h;split at h <;> omega
theorem AAQ{a b:Int}(c : -1<=a/\a<=1)(d : -1<=b/\b<=1)(h:orJ a b=0):a=0/\b=0:=by
 unfold orJ at h;split at h
 ·omega
 constructor <;> omega
theorem sound(P:Tb->Prop)(gs:Tb->St)(a:Tb->V)(g:∀Bl,P Bl->AJG (gs Bl) (a Bl)):∀T:CT,okT T->Kg P T ->
 (Io (λs=>(a s).1) (λs=>(a s).2.1) (λs=>(a s).2.2) T=1->Bp gs false T=true)/\(Io (λs=>(a s).1) (λs=>(a s).2.1) (λs=>(a s).2.2) T=0->Bp gs true T=true)
 | .nil,_,_=>⟨λ_=>rfl,λh=>by simp[Io] at h⟩
 | .node a0 o0 ⟨c,Bl,k,n,t⟩ l r,h,ha=>by
   obtain⟨w,u,v⟩:=h;have b:=λj=>sound P gs a g l u (ha.left j)
   have f:=λj=>sound P gs a g r v (ha.right j)
   have m:=Kw (λs=>(a s).1) (λs=>(a s).2.1) (λs=>(a s).2.2) l;have o:=Kw (λs=>(a s).1) (λs=>(a s).2.1) (λs=>(a s).2.2) r
   by_cases h9:c=9
   ·replace b:=b (by omega)
    replace f:=f (by omega);rw[<-m9f h9,<-m9t h9,<-e9 h9];constructor
    ·intro e
     obtain⟨d,i⟩:=AGM m o e;rw[b.1 d,f.1 i];rfl
    intro e
    rcases tL e with d|d
    ·rw[b.2 d];rfl
    rw[f.2 d];simp
   by_cases h10:c=10
   ·replace b:=b (by omega)
    replace f:=f (by omega);rw[<-AJv h10,<-AJu h10,<-e10 h10];constructor
    ·intro e
     rcases AHO m o e with d|d
     ·rw[b.1 d];rfl
     rw[f.1 d];simp
    intro e;obtain⟨d,i⟩:=AAQ m o e;rw[b.2 d,f.2 i];rfl
   by_cases h11:c=11
   ·replace b:=b (by omega)
    rw[<-AKD h11,<-AJz h11,<-e11 h11];exact⟨λe=>b.2 (AFm e),λe=>b.1 (tP e)⟩
   have q:Io (λs=>(a s).1) (λs=>(a s).2.1) (λs=>(a s).2.2) (.node a0 o0 ⟨c,Bl,k,n,t⟩ l r)=Kn c (a Bl) (k,n,t):=by
    by_cases h7:c=7
    ·rw[<-e7 h7];simp[Kn,h7]
    by_cases h8:c=8
    ·rw[<-e8 h8];simp[Kn,h8]
    rw[<-e0 ⟨h7,h8,h11,h9,h10⟩];simp[Kn,h7,h8]
   rw[q,<-m0f ⟨h9,h10,h11⟩,<-m0t ⟨h9,h10,h11⟩];refine⟨λe=>rH (by omega) (by omega) (g Bl (ha.Bl (by omega))) e,λe=>?_⟩;have p:=AB9 (c:=c) (by omega) (by omega);exact rH p.1 p.2 (g Bl (ha.Bl (by omega))) (AFf (by omega) (by omega) e)
end S
namespace F
theorem dF(l:List Aj)(p:List (List V))(a:1<=p.length)(b:p.length<=6):Gb l (An l p)=true:=by simp[Gb,An,a,b]
theorem ACi(l:List Aj)(p:List (List V)){j:Nat}(a:j<l.length):(An l p).2.1[j]? = some (S.Iv (ALc p j)):=by simp[An,a]
theorem Nh{c:Array Oper}{o:Oper}{a:Act}{W:Tw}{K:Act->Tw->Prop}{Q:Exit->Act->Tw->Prop}{E:Prop}(b:o.guard=none)(f:Nat)(x y z:Operand)(t s r:TypeId)(j:o.op=.call { callee:=.value (.func f),args:=#[x,y,z],argTypes:=#[t,s,r] })(u v q:Tv)(k:a.eval x=u)(l:a.eval y=v)(m:a.eval z=q)(g:∀args w,(callFunc f args).run prog w=.ok (.enter f args) w)(R:Ending->Tw->Prop)(i:Zc f #[u,v,q] W R)(h:∀e d,R e d->∃v,e=Zr v/\K (a.put o.dst v) d):
 if Region.wanted o (yielded c a.tmps)=true then Oper.wp prog o a W K Q else E :=
 Ih b f #[x,y,z] #[t,s,r] j #[u,v,q] (by simp[k,l,m]) g R i h
theorem AF1(w:Tw)(X Y Z:Obj):(((w.alloc X).alloc Y).alloc Z).heap[w.1.size]? = some X/\(((w.alloc X).alloc Y).alloc Z).heap[w.1.size+1]? = some Y/\(((w.alloc X).alloc Y).alloc Z).heap[w.1.size+2]? = some Z:=by
 have b:Below (w.alloc X).heap.size (w.alloc X) (((w.alloc X).alloc Y).alloc Z):=S.Gj (w.alloc X) Y Z;have a:Below ((w.alloc X).alloc Y).heap.size ((w.alloc X).alloc Y) (((w.alloc X).alloc Y).alloc Z):=Zal;refine⟨(b.block _ (by simp)).trans (Yac w X),?_,?_⟩
 ·have:=Yac (w.alloc X) Y
  rw[XG] at this;exact(a.block _ (by simp)).trans this
 have:=Yac ((w.alloc X).alloc Y) Z;rwa[XG,XG] at this
def Uk(l:List Aj)(r:List V)(s:ByteArray):V:=r[(Ce l s).toNat]?.getD zV
theorem AEu{c:Aj}{v:V}(h:Lx c v=true):v.1=0\/v.1=kd c:=by unfold Lx Cm at h;simp only[Bool.and_eq_true,WH,beq_iff_eq] at h;omega
end F
theorem AHr{w:Tw}(h:Lw w):Lw w:=h
theorem AJI{w:Tw}(h:B.Ob w):Ob w:=h
def Eh(p:ByteArray):ByteArray:=⟨#[100,97,116,97,47]⟩++p
theorem lS(p:Tb):(Eh p).size=5+p.size:=by simp[Eh,ByteArray.size_append];rfl
theorem tC(p:Tb)(w:Tw)(c:p.size<=1000):Zc 81 #[Zt p] w λe b=>e=Zr (Zt (Eh p))/\b=w:=by have a:Hid ((⟨#[100,97,116,97,47]⟩:Tb)++p=Eh p):=rfl;go_enter func81,ntmps81;go_wp2;go_ret;exact⟨by rw[a.o];rfl,rfl⟩
def iB(D:DataW Unit)(p:ByteArray)(w:World)(e:Ending)(a:World):Prop :=
 (Maps.has D (B.lit (Eh p))=false/\e=.returned (.tuple #[.agg #[.slice none 0 0,.slice none 0 0],.iface 91 (.int .i64 7)])/\Zb w a) \/
 (Maps.has D (B.lit (Eh p))=true/\∃t:ByteArray,D.atKey (B.lit (Eh p)) (B.Gw ByteArray.empty)=B.Gw t/\F.Kx (F.Kj t.1.toList) w e a)
theorem AD9(bb n:Nat)(D:Td)(mv:Tv)(p:Tb)(w:Tw)(h:Ground w bb n D mv)(O:B.Ob w)(P:p.size<=1000)(R:∀t:Tb,Maps.has D (B.lit (Eh p))=true->D.atKey (B.lit (Eh p)) (B.Gw ByteArray.empty)=B.Gw t->t.size<=1000000):
 Zc 62 #[Zp (some (Zd bb 0)),Zt p] w (iB D p w):=by
 have W:=Aa (λV=>tC p V P);have M:=Aa (λV(r:Zb w V)=>B.aP bb n D mv (Eh p) V (h.up r).c0 (h.up r).th (by rw[lS];unfold maxLen;omega));have q:Hid (Zb w (w.alloc (Zk #[Zs none 0 0,Zs none 0 0] 146))):=Aa (Zal);have J:=Aa (Yac w (Zk #[Zs none 0 0,Zs none 0 0] 146))
 have X:Hid (∀(t:Tb)V,Zb w V->t.size<=1000000->Zc 108 #[Zt t] V (F.Kx (F.Kj t.1.toList) V)):=Aa λt V r ht=>by
  have:=F.Vf t.1.toList V (by rw[<-Lib.size_eq];exact ht) (AHr (h.nc.below r)) (AJI (O.below r));have e:E.str t.1.toList=t:=by simp[E.str]
  rw[e] at this;exact this
 have Y:=Aa R;clear h O P R;unfold iB;unfold B.Um at M;go_enter func62,ntmps62;go_wp2_with fail;refine(W.o _).mono ?_;rintro e w1⟨rfl,rfl⟩;go_wp2_with fail;refine(M.o _ q.o).mono ?_;rintro e T⟨t,rfl,o,u,g⟩;have j:=Below.Ap q.o g;have c:=Aa ((g.block w.1.size (by simp)).trans J.o);have z:=cell_of_heap c.o 0;have n1:=cell_of_heap c.o 1;simp at z n1;have N:∀i,T.frozen? (Zd w.1.size i)=false:=λi=>by simp[World.frozen?,c.o]
 clear g;cases hh:Maps.has D (B.lit (Eh p)) with
 | false=>rw[Yad (by simp)];have e7:B.L8 7=Zf 91 (Zi 7):=rfl;rw[e7];have d:=Aa j;clear j o u;go_wp2;exact bodyPost_ret (v:=Zu #[Zg #[Zs none 0 0,Zs none 0 0],Zf 91 (Zi 7)]) (by simp[results,results62,go_sem,z,n1]) rfl (.inl ⟨hh,rfl,(d.o.setCell (XA _) _).setCell (XA _) _⟩)
 | true=>
   rw[Yae rfl];have e0:B.L8 0=Zn:=rfl;rw[e0];have G:=Aa (o hh);have HZ:=Aa (Y.o t hh G.o);have d:=Aa j;clear j o u;go_wp2_with fail;refine(X.o t T d.o HZ.o).mono ?_;intro e U l;have s:=Ac c.o;cases hr:F.Kj t.1.toList with
   | none=>
     rw[hr] at l;obtain⟨rfl,b⟩:=l;have a:=(b.block w.1.size s).trans c.o;have x:=cell_of_heap a 0;have y:=cell_of_heap a 1;simp at x y;have g0:∀i,U.frozen? (Zd w.1.size i)=false:=λi=>by simp[World.frozen?,a]
     have m:=Aa (Below.Ap d.o b);clear b a z n1 N;go_wp2;refine bodyPost_ret (v:=Zu #[Zg #[Zs none 0 0,Zs none 0 0],Zf 91 (Zi 3)]) (by simp[results,results62,go_sem,x,y]) rfl (.inr ⟨hh,t,G.o,?_⟩);rw[hr];exact⟨rfl,(m.o.setCell (XA _) _).setCell (XA _) _⟩
   | some f=>
     rw[hr] at l;obtain⟨cv,gv,rfl,k,b⟩:=l;obtain⟨ca,cc,ec,_⟩:=k.1.slice;obtain⟨ga,gc,eg,_⟩:=k.2.slice;subst ec eg;have a:=(b.block w.1.size s).trans c.o;have x:=cell_of_heap a 0;have y:=cell_of_heap a 1;simp at x y;have g0:∀i,U.frozen? (Zd w.1.size i)=false:=λi=>by simp[World.frozen?,a]
     have m:=Aa (Below.Ap d.o b);have I:=Aa k;have L:=Aa a;clear b a z n1 N k;go_wp2;refine bodyPost_ret (v:=Zu #[Zg #[Zs ca f.1.length cc,Zs ga f.2.length gc],Zn]) (by simp[results,results62,go_sem,x,y]) rfl (.inr ⟨hh,t,G.o,?_⟩);rw[hr];exact⟨_,_,rfl,I.o.far L.o ((Aq _ _ 0 _).trans (Aq _ _ 1 _)),(m.o.setCell (XA _) _).setCell (XA _) _⟩
namespace F
variable{u v:Tv}{W w:Tw}{c k n:Int}{X:List Tv}{p:List (List V)}{i j:Nat}{T x y:S.CT}{r:List V}{L l:List Aj}{D:Td}{s:Ah}{m:List Int}{H:List (Dn×Ah)}{U:List Tb}
theorem AFz(k:Nat)(cv gv:Tv)(qz:List Aj)(gs:List Fk)(g:Fk)(c1:Int)(y:Tb)(z:Int)(D:Bool)(m n:Int)(o:Tb)(w:Tw)(O:Hm w cv gv (qz,gs))(hk:gs[k]? = some g)(h1:1<=qz.length)(h8:qz.length<=8)(t:Gb qz g=true)(hp:cM qz c1 = -1):
 Zc 173 #[Zg #[cv,gv],Zi k,Zg #[Zi c1,Zt y,Zi z,Zo D,Zi m,Zi n,Zt o]] w λe P=>e=Zr (Zg (S.E6 (S.Iv (List.replicate g.1 (m,n,o)))))/\Zb w P:=by
 have I:=Aa (λW(hW:Zb w W)=>nL k cv gv qz gs g W (O.up hW).1 (O.up hW).2 hk);have J:=Aa (λW(hW:Zb w W)=>U9 cv gv qz c1 y z D m n o W (O.up hW).1 h1 h8);have s:1<=g.1/\g.1<=6:=by simp only[Gb,decide_eq_true_eq] at t;exact⟨t.2.2.1,t.2.2.2⟩
 have am:Hid (∀W(i f:To)(sn j bn h:Nat),Zc 214 #[Zg #[Zi g.1,Zs i sn j,Zs f bn h],Zg #[Zi c1,Zt y,Zi z,Zo D,Zi m,Zi n,Zt o]] W λe P=>∃v',e=Zr v'/\P.ownsRow W.1.size 67 3 v' g.1 (rep (m,n,o) g.1)/\Zb W P):=Aa λW i f sn j bn h=>Sf g.1 _ _ i f sn j bn h c1 y z D m n o W s.1 s.2 rfl rfl
 have u:Hid (∀v W B,W.ownsRow B 67 3 v g.1 (rep (m,n,o) g.1)->Zc 187 #[v] W λe P=>e=Zr (Zg (S.E6 (S.Iv (List.replicate g.1 (m,n,o)))))/\Zb W P):=Aa λv W B ho=>S.yU v _ W (E.Cy (by rw[List.length_replicate];exact ho)) (by simp;omega)
 obtain⟨ga,gc,rfl,_⟩:=O.2.slice;obtain⟨ca,cc,rfl,_⟩:=O.1.slice;dsimp only at I J ⊢;rw[t] at I;rw[hp] at J;clear O t s;obtain⟨⟨s1,s2,⟨k1,n1,t1⟩,⟨k2,n2,t2⟩⟩,af⟩:∃st,S.Iv (List.replicate g.1 (m,n,o))=st:=⟨_,rfl⟩;rw[af] at u ⊢;unfold S.E6 at u ⊢;simp only at u ⊢;clear af;obtain⟨N,V,q,X,aa⟩:=Jl w (Zk #[Zs ca qz.length cc,Zs ga gs.length gc] 146) (Zk #[Zi c1,Zt y,Zi z,Zo D,Zi m,Zi n,Zt o] 69) (Zk #[Zi 0,Zi 0,Zi 0,Zi 0,Zt ⟨#[]⟩,Zi 0,Zi 0,Zt ⟨#[]⟩] 261);have HA:=Aa V;have HB:=Aa q;have U:=Aa X;have R:=Aa aa;have ao:=Aa N;clear V q X aa N;go_enter func173,ntmps173;go_wp2_with fail;generalize ((w.alloc (Zk #[Zs ca qz.length cc,Zs ga gs.length gc] 146)).alloc (Zk #[Zi c1,Zt y,Zi z,Zo D,Zi m,Zi n,Zt o] 69)).alloc (Zk #[Zi 0,Zi 0,Zi 0,Zi 0,Zt ⟨#[]⟩,Zi 0,Zi 0,Zt ⟨#[]⟩] 261)=W3 at *;refine(I.o W3 R.o).mono ?_;rintro e l⟨sv,bv,rfl,ag,ad,ab⟩;obtain⟨i,j,rfl,_⟩:=ag.slice;obtain⟨f,h,rfl,_⟩:=ad.slice;have N:=ao.o;have ac:Zb l (l.alloc (Zk #[Zi g.1,Zs i g.2.1.length j,Zs f g.2.2.length h] 207)):=Zal;have b:=Ap ab ac;have V:=(b.block w.1.size (by omega)).trans HA.o;have q:=(b.block (w.1.size+1) (by omega)).trans HB.o;have aj:=Aa q;have ak:=Aa ((b.block (w.1.size+2) (by omega)).trans U.o);obtain⟨f0,f1⟩:=Hg V;have x0:(l.alloc (Zk #[Zi g.1,Zs i g.2.1.length j,Zs f g.2.2.length h] 207)).cell? (Zd (w.1.size+1) 0)=some (Zi c1):=A4 q rfl;have x1:(l.alloc (Zk #[Zi g.1,Zs i g.2.1.length j,Zs f g.2.2.length h] 207)).cell? (Zd (w.1.size+1) 1)=some (Zt y):=A4 q rfl;have x2:(l.alloc (Zk #[Zi g.1,Zs i g.2.1.length j,Zs f g.2.2.length h] 207)).cell? (Zd (w.1.size+1) 2)=some (Zi z):=A4 q rfl;have x3:(l.alloc (Zk #[Zi g.1,Zs i g.2.1.length j,Zs f g.2.2.length h] 207)).cell? (Zd (w.1.size+1) 3)=some (Zo D):=A4 q rfl;have x4:(l.alloc (Zk #[Zi g.1,Zs i g.2.1.length j,Zs f g.2.2.length h] 207)).cell? (Zd (w.1.size+1) 4)=some (Zi m):=A4 q rfl;have x5:(l.alloc (Zk #[Zi g.1,Zs i g.2.1.length j,Zs f g.2.2.length h] 207)).cell? (Zd (w.1.size+1) 5)=some (Zi n):=A4 q rfl;have x6:(l.alloc (Zk #[Zi g.1,Zs i g.2.1.length j,Zs f g.2.2.length h] 207)).cell? (Zd (w.1.size+1) 6)=some (Zt o):=A4 q rfl;have an:=Aa (Yac l (Zk #[Zi g.1,Zs i g.2.1.length j,Zs f g.2.2.length h] 207));have T:=Aa (Ap R.o b);have ar:=b.size;have ap:l.1.size<(l.alloc (Zk #[Zi g.1,Zs i g.2.1.length j,Zs f g.2.2.length h] 207)).1.size:=by simp
 clear ag ad ab ac b V q HA HB U;go_wp2_with fail;generalize l.alloc (Zk #[Zi g.1,Zs i g.2.1.length j,Zs f g.2.2.length h] 207)=W5 at *;refine(J.o W5 T.o).mono ?_;rintro e G⟨rfl,r⟩;have L:=(r.block (w.1.size+2) (by omega)).trans ak.o;have Y:=(r.block l.1.size ap).trans an.o;have c:=(r.block (w.1.size+1) (by omega)).trans aj.o;have al:=Aa L;have aq:w.1.size+2<G.1.size:=E.Ac L;obtain⟨g0,g1,g2,_⟩:=J5 Y;have y0:G.cell? (Zd (w.1.size+1) 0)=some (Zi c1):=A4 c rfl;have y1:G.cell? (Zd (w.1.size+1) 1)=some (Zt y):=A4 c rfl;have y2:G.cell? (Zd (w.1.size+1) 2)=some (Zi z):=A4 c rfl;have y3:G.cell? (Zd (w.1.size+1) 3)=some (Zo D):=A4 c rfl;have y4:G.cell? (Zd (w.1.size+1) 4)=some (Zi m):=A4 c rfl;have y5:G.cell? (Zd (w.1.size+1) 5)=some (Zi n):=A4 c rfl;have y6:G.cell? (Zd (w.1.size+1) 6)=some (Zt o):=A4 c rfl;have ah:=Aa (Ap T.o r);clear r x0 x1 x2 x3 x4 x5 x6 f0 f1 L Y c;go_wp2_with fail;refine(am.o _ _ _ _ _ _ _).mono ?_;rintro e w7⟨v7,rfl,ae,x⟩;go_wp2_with fail;refine(u.o v7 w7 _ ae).mono ?_;rintro e d⟨rfl,M⟩;have a:=(M.block (w.1.size+2) (by have:=x.size;omega)).trans ((x.block (w.1.size+2) aq).trans al.o);have r0:d.cell? (Zd (w.1.size+2) 0)=some (Zi 0):=A4 a rfl;have r1:d.cell? (Zd (w.1.size+2) 1)=some (Zi 0):=A4 a rfl;have r2:d.cell? (Zd (w.1.size+2) 2)=some (Zi 0):=A4 a rfl;have r3:d.cell? (Zd (w.1.size+2) 3)=some (Zi 0):=A4 a rfl;have r4:d.cell? (Zd (w.1.size+2) 4)=some (Zt ⟨#[]⟩):=A4 a rfl;have r5:d.cell? (Zd (w.1.size+2) 5)=some (Zi 0):=A4 a rfl;have r6:d.cell? (Zd (w.1.size+2) 6)=some (Zi 0):=A4 a rfl;have r7:d.cell? (Zd (w.1.size+2) 7)=some (Zt ⟨#[]⟩):=A4 a rfl;have z0:=Yaf d (w.1.size+2) 0 _ _ a;have z1:=Yaf d (w.1.size+2) 1 _ _ a;have z2:=Yaf d (w.1.size+2) 2 _ _ a;have z3:=Yaf d (w.1.size+2) 3 _ _ a;have z4:=Yaf d (w.1.size+2) 4 _ _ a;have z5:=Yaf d (w.1.size+2) 5 _ _ a;have z6:=Yaf d (w.1.size+2) 6 _ _ a;have z7:=Yaf d (w.1.size+2) 7 _ _ a;have ai:=Aa (Ap (Ap ah.o x) M);clear x M a ae y0 y1 y2 y3 y4 y5 y6 g0 g1 g2;go_wp2;refine bodyPost_ret (v:=Zg #[Zi s1,Zi s2,Zi k1,Zi n1,Zt t1,Zi k2,Zi n2,Zt t2]) (by simp[results,results173,go_sem,r0,r1,r2,r3,r4,r5,r6,r7]) rfl ⟨rfl,?_⟩;exact(((((((ai.o.setCell (p:=Zd (w.1.size+2) 0) (XC _ _) _).setCell (p:=Zd (w.1.size+2) 1) (XC _ _) _).setCell (p:=Zd (w.1.size+2) 2) (XC _ _) _).setCell (p:=Zd (w.1.size+2) 3) (XC _ _) _).setCell (p:=Zd (w.1.size+2) 4) (XC _ _) _).setCell (p:=Zd (w.1.size+2) 5) (XC _ _) _).setCell (p:=Zd (w.1.size+2) 6) (XC _ _) _).setCell (p:=Zd (w.1.size+2) 7) (XC _ _) _
def I5(b:List Aj)(p:List (List V))(a:List Aj)(s:ByteArray):S.St:=if Ce a s<0 then S.F6 else S.Iv (p.map λr=>pick b r (a[(Ce a s).toNat]?.getD zC))
theorem AB3(k:Nat)(l m:Tv)(a:List Aj)(gs:List Fk)(p:List (List V))(c1:Int)(f:Tb)(g:Int)(h:Bool)(b c:Int)(d:Tb)(w:Tw)(q:Hm w l m (a,gs))(s:gs[k]? = some (An a p))(n:1<=a.length)(o:a.length<=8)(i:1<=p.length)(j:p.length<=6):
 Zc 173 #[Zg #[l,m],Zi k,Zg #[Zi c1,Zt f,Zi g,Zo h,Zi b,Zi c,Zt d]] w λe t=>e=Zr (Zg (S.E6 (S.Iv (p.map λr=>pick a r (c1,f,g,h,b,c,d)))))/\Zb w t:=by
 by_cases hp:pos a c1<a.length
 ·have e:(p.map λr=>pick a r (c1,f,g,h,b,c,d))=ALc p (pos a c1):=by
   unfold ALc pick;simp only[Yae hp]
  rw[e];exact V5 k (pos a c1) l m a gs (An a p) _ c1 f g h b c d w q s n o (dF a p i j) (by unfold cM;rw[Yae hp]) (ACi a p hp)
 have e:(p.map λr=>pick a r (c1,f,g,h,b,c,d))=List.replicate (An a p).1 (b,c,d):=by unfold pick;simp only[Yad hp];rw[List.map_const'];rfl
 rw[e];exact AFz k l m a gs (An a p) c1 f g h b c d w q s n o (dF a p i j) (ABF hp)
theorem AFd(f l:List Aj)(gs:List Fk)(p:List (List V))(k:Nat)(cv gv:Tv)(g o cp L y M:Nat)(s:Tb)(w:Tw)(T:Hm w cv gv (f,gs))(hk:gs[k]? = some (An f p))(aj:1<=f.length)(ak:f.length<=8)(h8:l.length<=8)(al:1<=p.length)(am:p.length<=6)(hs:I1 w g o l)(Y:w.cell? (Zd L 0)=some (Zs (some (Zd g o)) l.length cp))(U:w.cell? (Zd y 0)=some cv)(X:w.cell? (Zd y 1)=some gv)(aa:w.cell? (Zd M 0)=some (Zi k))(ab:L<w.1.size)(J:y<w.1.size)(ad:M<w.1.size):
 Zc 172 #[Zt s,Zp (some (Zd L 0)),Zp (some (Zd y 0)),Zp (some (Zd M 0))] w λe w'=>e=Zr (Zg (S.E6 (I5 f p l s)))/\Zb w w':=by
 have P:=Aa (λW(b:Zb w W)=>E8 g o cp l s W (hs.below b) h8);have h:Zb w (w.alloc (Zk (S.E6 S.F6) 261)):=Zal;obtain⟨ca,cc,ec,_⟩:=T.1.slice;obtain⟨ga,gc,eg,_⟩:=T.2.slice;dsimp only at ec eg;subst ec eg
 rcases Gz l s with⟨N,_⟩|⟨j,hj,N,_⟩
 ·have R:Hid (I5 f p l s=S.F6):=Aa (by unfold I5;rw[Yae (by omega)])
  rw[R.o];simp only[N] at P;clear R N T hk hs;go_enter func172,ntmps172;go_wp2_with fail;refine(P.o _ h).mono ?_;rintro e i⟨rfl,a⟩;have G:S.Nq i w.1.size S.F6:=S.Nq.up (Yac _ _) a;obtain⟨c0,c1,c2,c3,c4,c5,c6,c7⟩:=S.Nq.cells (c:=0) (m:=0) (k:=0) (n:=0) (t:=⟨#[]⟩) (k':=0) (n':=0) (t':=⟨#[]⟩) G;obtain⟨f0,f1,f2,f3,f4,f5,f6,f7⟩:=G.free;have B1:=Aa (Ap h a);clear a G h;go_wp2;exact bodyPost_ret (v:=Zg #[Zi 0,Zi 0,Zi 0,Zi 0,Zt ⟨#[]⟩,Zi 0,Zi 0,Zt ⟨#[]⟩]) (by simp[results,results172,go_sem,c0,c1,c2,c3,c4,c5,c6,c7]) rfl ⟨rfl,S.b8c B1.o (XA _) _ _ _ _ _ _ _ _⟩
 have R:Hid (I5 f p l s=S.Iv (p.map λr=>pick f r (l[j]?.getD zC))):=Aa (by unfold I5;rw[Yad (by omega),N];rfl);rw[R.o];simp only[N] at P;have ex:∃x,l[j]! = x:=⟨_,rfl⟩;obtain⟨⟨y1,y2,y3,y4,y5,y6,y7⟩,hx⟩:=ex
 have hx? : (l[j]?.getD zC)=(y1,y2,y3,y4,y5,y6,y7):=by rw[Y' hj,XX,<-hx,getElem!_pos l j hj]
 have q:=Aa (λW(b:Zb w W)=>AB3 k (Zs ca f.length cc) (Zs ga gs.length gc) f gs p y1 y2 y3 y4 y5 y6 y7 W (T.up b) hk aj ak al am);rw[<-hx?] at q;have HS:=Aa hs;have aq:(j:Int)<(l.length:Int):=by omega
 have ao:¬(j:Int)<0:=by omega
 have ap:(0:Int)<=(j:Int):=by omega
 obtain⟨⟨s1,s2,⟨k1,n1,t1⟩,⟨k2,n2,t2⟩⟩,af⟩:∃st,S.Iv (p.map λr=>pick f r (l[j]?.getD zC))=st:=⟨_,rfl⟩;rw[af] at q ⊢;unfold S.E6 at q ⊢;simp only at q ⊢;clear af;clear R N T hk hs hx?;go_enter func172,ntmps172;go_wp2_with fail;refine(P.o _ h).mono ?_;rintro e i⟨rfl,u⟩;have G:S.Nq i w.1.size S.F6:=S.Nq.up (Yac _ _) u;have a:=Ap h u;have an:w.1.size<i.1.size:=E.Ac G;clear u h;obtain⟨e0,e1,e2,e3,e4,e5,e6⟩:=(HS.o.below a).cells hj hx;have d0:=(a.cell (p:=Zd L 0) ab).trans Y;have d1:=(a.cell (p:=Zd y 0) J).trans U;have d2:=(a.cell (p:=Zd y 1) J).trans X;have d3:=(a.cell (p:=Zd M 0) ad).trans aa;clear Y U X aa hx P;have d:g<i.1.size:=(HS.o.below a).1;have ac:L<i.1.size:=Ya ab a.size;have D:y<i.1.size:=Ya J a.size;have ae:M<i.1.size:=Ya ad a.size
 have HK:Hid (∀W,Zb i W->W.cell? (Zd L 0)=some (Zs (some (Zd g o)) l.length cp)/\W.cell? (Zd y 0)=some (Zs ca f.length cc)/\W.cell? (Zd y 1)=some (Zs ga gs.length gc)/\W.cell? (Zd M 0)=some (Zi k)/\W.cell? (Zd g (o+j*7))=some (Zi y1)/\W.cell? (Zd g (o+j*7+1))=some (Zt y2)/\W.cell? (Zd g (o+j*7+2))=some (Zi y3)/\W.cell? (Zd g (o+j*7+3))=some (Zo y4)/\W.cell? (Zd g (o+j*7+4))=some (Zi y5)/\W.cell? (Zd g (o+j*7+5))=some (Zi y6)/\W.cell? (Zd g (o+j*7+6))=some (Zt y7)):=Aa (λW b=>⟨(b.cell (p:=Zd L 0) ac).trans d0,(b.cell (p:=Zd y 0) D).trans d1,(b.cell (p:=Zd y 1) D).trans d2,(b.cell (p:=Zd M 0) ae).trans d3,(b.cell (p:=Zd g (o+j*7)) d).trans e0,(b.cell (p:=Zd g (o+j*7+1)) d).trans e1,(b.cell (p:=Zd g (o+j*7+2)) d).trans e2,(b.cell (p:=Zd g (o+j*7+3)) d).trans e3,(b.cell (p:=Zd g (o+j*7+4)) d).trans e4,(b.cell (p:=Zd g (o+j*7+5)) d).trans e5,(b.cell (p:=Zd g (o+j*7+6)) d).trans e6⟩)
 have ai:=Aa (λ(W:Tw)(b:Zb i W)=>S.Nq.up G b);have O:=Aa a;have ah:=Aa (enters_of func173 (by kernel_rfl) rfl);clear G a;go_wp2_with fail;clear HK
 go_region_law
  (first
    | (refine Nh (by rfl) 173 (.tmp 13) (.tmp 14) (.tmp 18) 146 3 69 (by rfl) (Zg #[Zs ca f.length cc,Zs ga gs.length gc]) (Zi k) (Zg #[Zi y1,Zt y2,Zi y3,Zo y4,Zi y5,Zi y6,Zt y7]) (by rfl) (by rfl) (by rfl) ah.o _ (q.o i.drew O.o.drew) ?_
       rintro e w2⟨rfl,z⟩;have I:Zb i w2:=Ap (XB _ _).drew z;have K2:=ai.o w2 I;obtain⟨c0,c1,c2,c3,c4,c5,c6,c7⟩:=S.Nq.cells (c:=0) (m:=0) (k:=0) (n:=0) (t:=⟨#[]⟩) (k':=0) (n':=0) (t':=⟨#[]⟩) K2;obtain⟨f0,f1,f2,f3,f4,f5,f6,f7⟩:=K2.free;clear K2;refine⟨_,rfl,?_⟩)
    | fail)
 all_goals
  have ag:=Aa (Ap O.o I);clear I z;go_wp2;exact bodyPost_ret (v:=Zg #[Zi s1,Zi s2,Zi k1,Zi n1,Zt t1,Zi k2,Zi n2,Zt t2]) (by simp[results,results172,go_sem,c0,c1,c2,c3,c4,c5,c6,c7]) rfl ⟨rfl,S.b8c ag.o (XA _) _ _ _ _ _ _ _ _⟩
theorem pE(a l:List Aj)(gs:List Fk)(p:List (List V))(k:Nat)(d f:Tv)(g o j:Nat)(T:S.CT)(v:Tv)(w:Tw)(m:Hm w d f (a,gs))(L:gs[k]? = some (An a p))(q:1<=a.length)(r:a.length<=8)(h8:l.length<=8)(t:1<=p.length)(u:p.length<=6)(N:I1 w g o l)(O:S.Gy w T v)(M:S.Lp w)(J:S.C9 T 24=true):
 Zc 109 #[Zg #[d,f],Zi k,Zs (some (Zd g o)) l.length j,v] w λe y=>e=Zr (Zo (S.Bp (I5 a p l) false T))/\Zb w y:=by
 have i:Zb w (((w.alloc (Zk #[d,f] 146)).alloc (Zk #[Zi k] 3)).alloc (Zk #[Zs (some (Zd g o)) l.length j] 32)):=b3 w _ _ _
 have X:Hid (∀W,Zb w W->W.1[w.1.size]? = some (Zk #[d,f] 146)->W.1[w.1.size+1]? = some (Zk #[Zi k] 3)->W.1[w.1.size+2]? = some (Zk #[Zs (some (Zd g o)) l.length j] 32) ->
  Zc 171 #[v,.func (.func 172) #[] #[Zp (some (Zd (w.1.size+2) 0)),Zp (some (Zd w.1.size 0)),Zp (some (Zd (w.1.size+1) 0))]] W λe y=>e=Zr (Zo (S.Bp (I5 a p l) false T))/\Zb W y):=Aa (λW hW q0 q1 q2=>
  S.AG4 _ (I5 a p l) T v W (O.up hW) (λY s h=>S.r8 _ _ _ (I5 a p l) s Y (λW2 s2 hW2=>by have I:=Ap (Ap hW h) hW2;have b:=Ap h hW2;have x:=(b.block _ (E.Ac q0)).trans q0;have P:=(b.block _ (E.Ac q1)).trans q1;have U:=(b.block _ (E.Ac q2)).trans q2;exact AFd a l gs p k d f g o j _ _ _ s2 W2 (m.up I) L q r h8 t u (N.below I) (S.cell_of_heap U 0) (S.cell_of_heap x 0) (S.cell_of_heap x 1) (S.cell_of_heap P 0) (E.Ac U) (E.Ac x) (E.Ac P))) (M.below hW) J)
 have aa:∀(G:Fn)(first c:Array Tv)(w:Tw),(Instr.makeFunc G first c).run prog w=.ok (.func G first c) w:=λ_ _ _ _=>rfl
 obtain⟨ca,cc,z,_⟩:=m.1.slice;obtain⟨ga,gc,D,_⟩:=m.2.slice;dsimp only at z D;subst z D;generalize S.Bp (I5 a p l) false T=R at *;clear m L N O M J;go_enter func109,ntmps109;go_wp2_with fail;refine(X.o _ i (AF1 w _ _ _).1 (AF1 w _ _ _).2.1 (AF1 w _ _ _).2.2).mono ?_;rintro e w1⟨rfl,n⟩;go_wp2;go_ret;exact⟨rfl,Ap i n⟩
theorem ADM(l:List Aj)(r:List V)(g o G D z a b q:Nat)(s:Tb)(w:Tw)(h8:l.length<=8)(hs:I1 w g o l)(N:r.length=l.length)(h:Rf l s)(t:w.cell? (Zd z 0)=some (Zs (some (Zd g o)) l.length G))(i:w.cell? (Zd D 0)=some (Zs (some (Zd a b)) l.length q))(hc:∀j x,r[j]? = some x->w.cell? (Zd a (b+j*3))=some (Zi x.1)/\w.cell? (Zd a (b+j*3+1))=some (Zi x.2.1)/\w.cell? (Zd a (b+j*3+2))=some (Zt x.2.2))(q1:z<w.1.size)(q4:D<w.1.size)(O:a<w.1.size):
 Zc 217 #[Zt s,Zp (some (Zd D 0)),Zp (some (Zd z 0))] w λe w'=>e=Zr (Zg #[Zi (Uk l r s).1,Zi (Uk l r s).2.1,Zt (Uk l r s).2.2])/\Zb w w':=by
 obtain⟨j,hj,n⟩:∃j:Nat,j<l.length/\Ce l s=j:=by
  rcases Gz l s with⟨n,_⟩|⟨j,hj,n,_⟩
  ·unfold Rf at h;omega
  exact⟨j,hj,n⟩
 have X:=Aa (λW(c:Zb w W)=>E8 g o G l s W (hs.below c) h8);simp only[n] at X;obtain⟨⟨P,R,T⟩,y⟩:∃v,Uk l r s=v:=⟨_,rfl⟩
 have u:r[j]? = some (P,R,T):=by unfold Uk at y;rw[n,XJ,Y' (by omega)] at y;rw[Y' (by omega)];simpa using y
 rw[y];obtain⟨x0,x1,x2⟩:=hc j _ u;have ab:(j:Int)<(l.length:Int):=by omega
 have aa:(0:Int)<=(j:Int):=by omega
 have L:=Aa (enters_of func84 (by kernel_rfl) rfl);clear y u hc hs h n N;go_enter func217,ntmps217;go_wp2_with fail;have m:Zb w (w.alloc (Zk #[Zi 0,Zi 0,Zt ⟨#[]⟩] 67)):=Zal;have M:=Yac w (Zk #[Zi 0,Zi 0,Zt ⟨#[]⟩] 67)
 have Y:Hid (∀W,Zb w W->W.cell? (Zd z 0)=some (Zs (some (Zd g o)) l.length G)/\W.cell? (Zd D 0)=some (Zs (some (Zd a b)) l.length q)/\W.cell? (Zd a (b+j*3))=some (Zi P)/\W.cell? (Zd a (b+j*3+1))=some (Zi R)/\W.cell? (Zd a (b+j*3+2))=some (Zt T)):=Aa (λW c=>⟨(c.cell (p:=Zd z 0) q1).trans t,(c.cell (p:=Zd D 0) q4).trans i,(c.cell (p:=Zd a (b+j*3)) O).trans x0,(c.cell (p:=Zd a (b+j*3+1)) O).trans x1,(c.cell (p:=Zd a (b+j*3+2)) O).trans x2⟩)
 generalize w.alloc (Zk #[Zi 0,Zi 0,Zt ⟨#[]⟩] 67)=I at *;obtain⟨p0,p3,p4,p5,p6⟩:=Y.o I m;have HZ:=Aa (λ(W:Tw)(c:Zb I W)=>(c.block _ (E.Ac M)).trans M);have k:=Aa m;clear t i x0 x1 x2 m M
 go_region_law
  (first
    | (refine Gc (by rfl) 84 (.tmp 6) (.tmp 7) 32 9 (by rfl) (Zs (some (Zd g o)) l.length G) (Zt s) (by rfl) (by rfl) L.o _ (X.o I.drew k.o.drew) ?_
       rintro e U⟨rfl,f⟩;have d:Zb I U:=Ap (XB _ _).drew f;obtain⟨r0,r3,r4,r5,r6⟩:=Y.o U (Ap k.o d);obtain⟨z0,z1,z2,t0,t1,t2⟩:=J5 (HZ.o U d);refine⟨_,rfl,?_⟩)
    | fail)
 all_goals
  have J:=Aa (Ap k.o d);clear d f;go_wp2;exact bodyPost_ret (v:=Zg #[Zi P,Zi R,Zt T]) (by simp[results,results217,go_sem,z0,z1,z2]) rfl ⟨rfl,((J.o.setCell (p:=Zd w.1.size 0) (XA _) _).setCell (p:=Zd w.1.size 1) (XA _) _).setCell (p:=Zd w.1.size 2) (XA _) _⟩
theorem ACq(pa i:Tv)(g h:Tb->Int)(gt:Tb->Tb)(P:Tb->Prop)(s:Tb)(w:Tw)(r:P s)(l:∀(W:Tw)(s:Tb),P s->Zb w W->Zc 217 #[Zt s,pa,i] W λe d=>e=Zr (Zg #[Zi (g s),Zi (h s),Zt (gt s)])/\Zb W d):
 Zc 258 #[.func (.func 217) #[] #[pa,i],Zt s] w λe d=>e=Zr (Zg #[Zi (g s),Zi (h s),Zt (gt s)])/\Zb w d:=by
 have o:=Aa (λ(W:Tw)(hb:Zb w W)=>l W s r hb)
 clear l;have u:∀(j:Fn)(first c:Array Tv)(w:Tw),(Instr.makeFunc j first c).run prog w=.ok (.func j first c) w:=λ_ _ _ _=>rfl
 generalize g s=k,h s=n,gt s=t at *
 go_enter_defers func258,ntmps258
 go_wp2_with fail;refine(o.o _ (Zal)).mono ?_;rintro e b⟨rfl,a⟩;have c0:b.cell? (Zd w.1.size 0)=some (Zi 0):=(a.cell (p:=Zd w.1.size 0) (by simp)).trans (by go_simp);have c1:b.cell? (Zd w.1.size 1)=some (Zi 0):=(a.cell (p:=Zd w.1.size 1) (by simp)).trans (by go_simp);have q:b.cell? (Zd w.1.size 2)=some (Zt ⟨#[]⟩):=(a.cell (p:=Zd w.1.size 2) (by simp)).trans (by go_simp);have x:b.frozen? (Zd w.1.size 0)=false:=(a.frozen (p:=Zd w.1.size 0) (by simp)).trans (by go_simp);have y:b.frozen? (Zd w.1.size 1)=false:=(a.frozen (p:=Zd w.1.size 1) (by simp)).trans (by go_simp);have z:b.frozen? (Zd w.1.size 2)=false:=(a.frozen (p:=Zd w.1.size 2) (by simp)).trans (by go_simp);have m:=Aa (((XB _ w).alloc (XA _) _).trans (a.mono (by simp)));clear a;go_wp2;refine leaves_cons (f:=300) (args:=#[Zp (some (Zd w.1.size 0))]) (by simp) (by simp[go_sem]) ?_;refine(S.AEX (Zd w.1.size 0) _).mono ?_;rintro e D v⟨rfl,rfl,rfl⟩;simp[Leaves,settle,results,results258,go_sem,c0,c1,q];exact((m.o.setCell (XA _) _).setCell (XA _) _).setCell (XA _) _
structure kI(W:World)(a b:Nat)(lv vv:Value):Prop where
 va:W.1[a]? = some (.cells #[vv] 71)
 lb:W.1[b]? = some (.cells #[lv] 32)
theorem kI.up{W V:Tw}{a b:Nat}(h:kI W a b v u)(c:Zb W V):kI V a b v u :=
 ⟨(c.block a (E.Ac h.va)).trans h.va,(c.block b (E.Ac h.lb)).trans h.lb⟩
def AA0(a b:Nat):Value:=.func (.func 217) #[] #[.pointer (some ⟨a,0,none⟩),.pointer (some ⟨b,0,none⟩)]
theorem AGC(d h:To)(g f j i:Nat)(w:Tw):Zc 177 #[Zs d g f,Zs h j i] w λe m=>∃a b,e=Zr (AA0 a b)/\kI m a b (Zs d g f) (Zs h j i)/\Below w.1.size w m:=by
 have n:∀(k:Fn)(first c:Array Tv)(w:Tw),(Instr.makeFunc k first c).run prog w=.ok (.func k first c) w:=λ_ _ _ _=>rfl
 go_enter func177,ntmps177;go_wp2;go_ret;have l:=Yac (w.alloc (Zk #[Zs d g f] 32)) (Zk #[Zs h j i] 71);rw[XG] at l;exact⟨w.1.size+1,w.1.size,rfl,⟨l,(XP _ _ _ (by simp)).trans (Yac w _)⟩,S.Gj w _ _⟩
def evR(l:List Aj)(r:List V)(T:S.CT):Int:=S.Io (λs=>(Uk l r s).1) (λs=>(Uk l r s).2.1) (λs=>(Uk l r s).2.2) T
theorem AB4(l:List Aj)(r:List V)(g o m a b:Nat)(n:Tv)(T:S.CT)(v:Tv)(w:Tw)(q:l.length<=8)(I:I1 w g o l)(f:r.length=l.length)(O:1<=l.length)(J:E.Sl w n r)(t:kI w a b (Zs (some (Zd g o)) l.length m) n)(G:S.Gy w T v)(x:S.Kg (Rf l) T)(D:S.C9 T 24=true):
 Zc 176 #[v,AA0 a b] w λe M=>e=Zr (Zi (evR l r T))/\Zb w M:=by
 refine S.AAk (Rf l) (AA0 a b) _ _ _ T v w G x (λW s u y=>?_) D;refine ACq (Zp (some (Zd a 0))) (Zp (some (Zd b 0))) (λs=>(Uk l r s).1) (λs=>(Uk l r s).2.1) (λs=>(Uk l r s).2.2) (Rf l) s W u (λW2 s2 hP2 hb2=>?_);have h:=Ap y hb2;have d:=t.up h;obtain⟨N,c,rfl,_,z⟩:=J.up h;obtain⟨p,L,rfl,k,i⟩:=z (by intro e;rw[e] at f;simp at f;omega);have j:=d.va;rw[f] at j;exact ADM l r g o m a b p L c s2 W2 q (I.below h) f hP2 (S.cell_of_heap d.lb 0) (S.cell_of_heap j 0) i (E.Ac d.lb) (E.Ac d.va) k
abbrev Px:=ByteArray×Int×List V
def Og(x:ByteArray×Int×Value):List Value:=[.string x.1,Zi x.2.1,x.2.2]
def Fp(I B:Nat)(w:World)(v:Value)(rs:List Px):Prop:=∃xs:List (ByteArray×Int×Value),xs.length=rs.length/\w.ownsRow B 99 3 v rs.length (xs.flatMap Og)/\∀(j:Nat)x r,xs[j]? = some x->rs[j]? = some r->x.1=r.1/\x.2.1=r.2.1/\w.ownsRow I 67 3 x.2.2 r.2.2.length (E.AKn r.2.2)
theorem Fp.up{I B:Nat}{rs:List Px}(h:Fp I B w v rs)(d:Zb w W):Fp I B W v rs:=by obtain⟨xs,e,f,a⟩:=h;exact⟨xs,e,E.Ad f d,λj x r c b=>⟨(a j x r c b).1,(a j x r c b).2.1,E.Ad (a j x r c b).2.2 d⟩⟩
theorem P6(I B:Nat)(w:Tw):Fp I B w (Zs none 0 0) []:=⟨[],rfl,XU _ _ _ _,λj x r a=>by simp at a⟩
def Jw(qk:ByteArray)(qv:List Int)(l:List Aj)(T:S.CT):Int->List (List V)->List Px
 | _,[]=>[]
 | p,r :: rs=>if (qv.any λy=>p==y)=false/\evR l r T=1 then (qk,p,r) :: Jw qk qv l T (p+1) rs else Jw qk qv l T (p+1) rs
theorem rC(qk:Tb)(qv:List Int)(l:List Aj)(T:S.CT):∀(rs:List (List V))(p:Int)(r:List V),Jw qk qv l T p (rs++[r])=Jw qk qv l T p rs++(if (qv.any λy=>(p+rs.length)==y)=false/\evR l r T=1 then [(qk,p+rs.length,r)] else [])
 | [],p,r=>by simp only[WI,Jw,List.length_nil,WG,WJ]
 | q :: rs,p,r=>by
   have a:=rC qk qv l T rs (p+1) r;have e:p+1+(rs.length:Int)=p+((q :: rs).length:Int):=by simp only[XI];omega
   rw[e] at a;simp only[XO,Jw];split
   ·rw[a];rfl
   exact a
def ABC:Value:=.agg #[.string ⟨#[]⟩,Zi 0,.slice none 0 0]
theorem AEA:(prog.info? 99).map (λi=>(i.zero,i.size,i.bytes))=some (some ABC,3,48):=by kernel_rfl
def Ev:Value->Nat
 | .int _ n=>n.toNat
 | _=>0
theorem yF.at{I:Nat}{w:Tw}{v:Tv}{qj:List (List V)}(h:yF I w v qj){k:Nat}{r:List V}(i:qj[k]? = some r):∃d c x,v=Zs (some (Zd d 0)) qj.length c/\d<w.1.size/\qj.length<=c/\w.cell? (Zd d k)=some x/\w.ownsRow I 67 3 x r.length (E.AKn r):=by
 obtain⟨p,s,e,m⟩:=h;have o:=Ax i;obtain⟨x,j⟩:∃x,p[k]? = some x:=⟨_,Y' (by omega)⟩
 rcases e.2 with⟨_,q⟩|⟨g,b,l,rfl,t,n,a,_,_⟩
 ·omega
 have f:=e.cells (g:=g) rfl;simp only[E.addr_add] at f;have:=f k x j;exact⟨g,b,x,rfl,E.Ac n,a,by simpa using this,m k x r j i⟩
theorem a8{n i j m n1 n2:Nat}{c d:TypeId}{Y:List Tv}(e:w.ownsRow n c j v n1 X)(f:w.ownsRow i d m u n2 Y)(g:c≠d):∀k,v.ownBlock=some k->u.ownBlock≠some k:=λk h b=>by
 obtain⟨c1,l⟩:=Ho e h;obtain⟨o,a⟩:=Ho f b;rw[l] at a;injection a with a;injection a with _ a;exact g a
theorem Fp.snoc{I B:Nat}{v v':Tv}{rs:List Px}{p:Tb}{i:Int}{x:Tv}{xs:List (Tb×Int×Tv)}(o:xs.length=rs.length)(t:w.ownsRow B 99 3 v rs.length (xs.flatMap Og))(u:∀(j:Nat)x r,xs[j]? = some x->rs[j]? = some r->x.1=r.1/\x.2.1=r.2.1/\w.ownsRow I 67 3 x.2.2 r.2.2.length (E.AKn r.2.2))(G:w.ownsRow I 67 3 x r.length (E.AKn r))(z:w.grownBy W v.ownBlock)(D:W.ownsRow B 99 3 v' (rs.length+1) (xs.flatMap Og++Og (p,i,x))):Fp I B W v' (rs++[(p,i,r)]):=by
 have g:∀{y:Tv}{n:Nat}{s:List Tv},w.ownsRow I 67 3 y n s->W.ownsRow I 67 3 y n s:=λd=>Az d z λk g e=>a8 t d (by decide) k e g
 refine⟨xs++[(p,i,x)],by simp[o],?_,λj y q d f=>?_⟩
 ·simpa using D
 rcases Yc j xs.length with l|h
 ·rw[XF l] at d
  rw[XF (by omega)] at f;obtain⟨a,b,c⟩:=u j y q d f;exact⟨a,b,g c⟩
 rw[XD h] at d;rw[XD (by omega)] at f;rw[o] at d;cases hj:j-rs.length with
 | zero=>rw[hj] at d f;simp at d f;subst d f;exact⟨rfl,rfl,g G⟩
 | succ m=>rw[hj] at d;simp at d
theorem rI(I:Nat)(gr:Tv)(qj:List (List V))(first:Nat)(qk:Tb)(er:Int)(ma:To)(mn mc:Nat)(qv:List Int)(g o cp:Nat)(l:List Aj)(T:S.CT)(v:Tv)(w:Tw)(hR:yF I w gr qj)(bb:qj.length<=6)(ah:∀r∈qj,r.length=l.length)(hf:first<=1000)(hm:Ph w (Zs ma mn mc) qv)(a9:qv.length<=1000)(h8:l.length<=8)(h1:1<=l.length)(hs:I1 w g o l)(hi:S.Gy w T v)(ha:S.Kg (Rf l) T)(hd:S.C9 T 24=true):
 Zc 111 #[gr,Zi (first:Int),Zg #[Zt qk,Zi er,Zs ma mn mc],Zs (some (Zd g o)) l.length cp,v] w λe w'=>∃v',e=Zr v'/\Fp I w.1.size w' v' (Jw qk qv l T first qj)/\Zb w w':=by
 obtain⟨ga,gc,rfl,a7⟩:=hR.o.slr.slice;go_enter func111,ntmps111;go_wp2_with fail;have HR:=Aa hR;have av:=Aa ah;have HM:=Aa hm;have HS:=Aa hs;have HI:=Aa hi;have HA:=Aa ha;have HD:=Aa hd;have ar:=Aa (Yac w (Zk #[Zt qk,Zi er,Zs ma mn mc] 143));have an:Hid (Zb w (w.alloc (Zk #[Zt qk,Zi er,Zs ma mn mc] 143))):=Aa (Zal);obtain⟨iC,aj,ak,al,am⟩:=info_parts AEA;have s:=Zy aj ak al am;clear hR ah hm hs hi ha hd aj ak al am
 go_loopw [11,17] (λvr vi wr=>∃(k:Nat)(a:To)(n c:Nat),k<=qj.length/\vi=Zi (k:Int)/\vr=Zs a n c/\n<=k/\Hid (Fp I w.1.size wr (Zs a n c) (Jw qk qv l T first (qj.take k))/\n=(Jw qk qv l T first (qj.take k)).length)/\Hid (Zb w wr)/\Hid (wr.1[w.1.size]? = some (Zk #[Zt qk,Zi er,Zs ma mn mc] 143))) (λ_ vi _=>qj.length-Ev vi)
 case atStart=>exact⟨0,none,0,0,XH _,rfl,rfl,XA _,Aa ⟨P6 _ _ _,rfl⟩,an,ar⟩
 case round=>
  obtain⟨k,a,n,c,hk,rfl,rfl,ba,HF,HB,Y⟩:=hrel
  rcases Yc k qj.length with a1|a8
  ·obtain⟨r,X⟩:∃r,qj[k]? = some r:=⟨_,Y' a1⟩
   obtain⟨gb,a5,x,eg,a6,a3,hx,U⟩:=(HR.o.up HB.o).at X;injection eg with ax _ ay;subst ax ay;obtain⟨xa,xc,rfl,_⟩:=(E.Cy U);have a0:(k:Int)<(qj.length:Int):=by omega
   have n0:=S.cell_of_heap Y.o 0;have n1:=S.cell_of_heap Y.o 1;have n2:=S.cell_of_heap Y.o 2;simp at n0 n1 n2;have HX:=Aa U;clear U;have ai:qj.take (k+1)=qj.take k++[r]:=S.Cs X;have ag:(qj.take k).length=k:=by rw[XQ];omega
   have t:=Aa (rC qk qv l T (qj.take k) first r);rw[ag,<-ai] at t;clear ai ag;have ao:=Aa (Nc (Zs ma mn mc) qv ((first:Int)+(k:Int)) wr (HM.o.below HB.o) (by unfold maxLen;omega));go_wp2_with fail;apply ao.o.mono;rintro e w1⟨rfl,rfl⟩;cases hb:qv.any (λy=>((first:Int)+(k:Int))==y) with
   | true=>have HQ:Hid (Jw qk qv l T first (qj.take (k+1))=Jw qk qv l T first (qj.take k)):=Aa (by rw[t.o,Yad (by rw[hb];simp),X4]);clear hb;go_wp2;refine⟨⟨k+1,a,n,c,by omega,rfl,rfl,by omega,?_,HB,Y⟩,by simp only[Ev];omega⟩;rw[HQ.o];exact HF
   | false=>
     have aa:=Aa (λ(A B:Nat)W(hW:Zb w W)(hS:kI W A B (Zs (some (Zd g o)) l.length cp) (Zs xa r.length xc))(hv:E.Sl W (Zs xa r.length xc) r)=>AB4 l r g o cp A B (Zs xa r.length xc) T v W h8 (HS.o.below hW) (av.o r (XE X)) h1 hv hS (HI.o.up hW) HA.o HD.o);go_wp2_with fail;refine(AGC _ _ _ _ _ _ _).mono ?_;rintro e w2⟨A,B,rfl,ad,f⟩;have z:=Aa (Ap HB.o f);have P:=Aa (E.Ad HX.o f);have L:=Aa (And.intro (HF.o.1.up f) HF.o.2);have O:=Aa ((f.block _ (E.Ac Y.o)).trans Y.o);have ac:=Aa ad;clear f ad;unfold AA0 at aa ⊢;go_wp2_with fail;refine(aa.o A B w2 z.o ac.o (E.Cy P.o)).mono ?_;rintro e w3⟨rfl,i⟩;have D:=Aa (Ap z.o i);have aw:=Aa (E.Ad P.o i);have M:=Aa (And.intro (L.o.1.up i) L.o.2);have d:=Aa ((i.block _ (E.Ac O.o)).trans O.o);clear i z P L O ac n0 n1 n2;have n0:=S.cell_of_heap d.o 0;have n1:=S.cell_of_heap d.o 1;have n2:=S.cell_of_heap d.o 2;simp at n0 n1 n2
     by_cases hev:evR l r T=1
     ·have HQ:Hid (Jw qk qv l T first (qj.take (k+1))=Jw qk qv l T first (qj.take k)++[(qk,(first:Int)+(k:Int),r)]):=Aa (by rw[t.o,Yae ⟨hb,hev⟩])
      rw[hev];clear hb hev;obtain⟨⟨xs,e1,e2,e3⟩,hn⟩:=M.o;rw[<-hn] at e1 e2;have ap:=Aa e1;have p:=Aa e2;have G:=Aa e3;have au:=Aa hn;have b:Hid (Zb w3 (w3.alloc (Zk #[Zt qk,Zi ((first:Int)+(k:Int)),Zs xa r.length xc] 99))):=Aa (Zal);clear e1 e2 e3 hn M
      go_wp2_with (first
       | (at_builtin;refine wpList_append_own _ rfl _ _ 95 rfl w.1.size 99 iC ABC 3 48 underlying95 s.o.1 s.o.2.1 s.o.2.2.1 s.o.2.2.2 rfl (by decide) (.slice a n c) n (xs.flatMap Og) rfl (E.Ad p.o b.o) (Zd w3.1.size 0) 1 1 (Og (qk,(first:Int)+(k:Int),.slice xa r.length xc)) rfl rfl (λj u hj=>XK (Yac _ _) j u hj) (by intro u hu;simp[Og] at hu;rcases hu with rfl|rfl|rfl <;> rfl) (by unfold maxLen;omega) (by omega) (XL D.o.size b.o.size) ?_
          intro v1 w5 m af _;have ab:=Aa m;have N:=Aa af;clear m af))
      obtain⟨a',c',rfl,_⟩:=Au ab.o;have ae:=Ap D.o b.o;have R:=(b.o.block _ (E.Ac d.o)).trans d.o;have hn:=au.o;subst hn;refine⟨⟨k+1,a',_,c',by omega,by simp,rfl,by omega,Aa ⟨?_,?_⟩,Aa (ae.grown N.o ae.size (λj hj=>Fu p.o hj)),Aa ?_⟩,by simp only[Ev];omega⟩
      ·rw[HQ.o]
       exact Fp.snoc ap.o (E.Ad p.o b.o) (λj x r hx X=>⟨(G.o j x r hx X).1,(G.o j x r hx X).2.1,E.Ad (G.o j x r hx X).2.2 b.o⟩) (E.Ad aw.o b.o) N.o ab.o
      ·rw[HQ.o]
       simp
      refine(N.o.block _ (E.Ac R) (λe=>?_)).trans R;obtain⟨a4,q⟩:=Ho (E.Ad p.o b.o) e.symm;rw[R] at q;injection q with q;injection q with _ q;exact absurd q (by decide)
     have HQ:Hid (Jw qk qv l T first (qj.take (k+1))=Jw qk qv l T first (qj.take k)):=Aa (by rw[t.o,Yad (λh=>hev h.2),X4]);have a2:(evR l r T==1)=false:=by simpa using hev
     generalize evR l r T=ev at *;go_wp2;refine⟨⟨k+1,a,n,c,by omega,rfl,rfl,by omega,?_,D,d⟩,by simp only[Ev];omega⟩;rw[HQ.o];exact M
  have a0:¬((k:Int)<(qj.length:Int)):=by omega
  have az:k=qj.length:=by omega
  subst az;have J:=HF.o;rw[Yg] at J;have aq:=Aa J;clear J;go_wp2;go_ret;exact⟨_,rfl,aq.o.1,HB.o⟩
def Cw(a l:List Aj)(p:List (List V)):List (List V):=p.map λr=>l.map (pick a r)
def Oe(qk:ByteArray)(qv:List Int)(l:List Aj)(T:S.CT)(a:List Aj):Int->List (List (List V))->List Px×Nat
 | _,[]=>([],0)
 | f,p :: ps=>if S.Bp (I5 a p l) false T=true then (Jw qk qv l T f (Cw a l p)++(Oe qk qv l T a (f+p.length) ps).1,(Oe qk qv l T a (f+p.length) ps).2+1) else Oe qk qv l T a (f+p.length) ps
def En:List (List (List V))->Nat
 | []=>0
 | p :: ps=>p.length+En ps
theorem sQ(a:List (List (List V)))(p:List (List V)):En (a++[p])=En a+p.length:=by
 induction a with
 | nil=>simp[En]
 | cons q a ih=>simp only[XO,En,ih];omega
theorem tQ(qk:Tb)(qv:List Int)(l:List Aj)(T:S.CT)(b:List Aj)(p:List (List V)):∀(a:List (List (List V)))(f:Int),Oe qk qv l T b f (a++[p])=if S.Bp (I5 b p l) false T=true then ((Oe qk qv l T b f a).1++Jw qk qv l T (f+En a) (Cw b l p),(Oe qk qv l T b f a).2+1) else Oe qk qv l T b f a
 | [],f=>by simp only[WI,Oe,En,WG,WJ,X4,Nat.zero_add]
 | q :: a,f=>by
   have c:=tQ qk qv l T b p a (f+q.length);have e:f+(q.length:Int)+(En a:Int)=f+(En (q :: a):Int):=by simp only[En];omega
   rw[e] at c;simp only[XO,Oe,c];split <;> split <;> simp
theorem AGe(qk:Tb)(qv:List Int)(l:List Aj)(T:S.CT)(rs:List (List V)):∀p:Int,(Jw qk qv l T p rs).length<=rs.length:=by
 induction rs with
 | nil=>intro p;simp[Jw]
 | cons r rs ih=>intro p;simp only[Jw];split <;> simp <;> have:=ih (p+1) <;> omega
theorem xP(qk:Tb)(qv:List Int)(l:List Aj)(T:S.CT)(b:List Aj):∀(a:List (List (List V)))(f:Int),(Oe qk qv l T b f a).2<=a.length/\(Oe qk qv l T b f a).1.length<=En a
 | [],f=>by simp[Oe,En]
 | q :: a,f=>by
   have e:=xP qk qv l T b a (f+q.length);have c:=AGe qk qv l T (Cw b l q) f;have d:(Cw b l q).length=q.length:=by simp[Cw]
   simp only[Oe,En,XI];split
   ·simp only[XT];omega
   omega
theorem Mk{base z n b:Nat}{e t:TypeId}{xs:List Tv}{cs:Array Tv}(h:w.ownsRow base e z v n xs)(d:w.1[b]? = some (Zk cs t))(i:t≠e)(f:w.grownBy W (some b)):W.ownsRow base e z v n xs :=
 Az h f λk g a=>by obtain⟨c,q⟩:=Ho h g;injection a with a;subst a;rw[d] at q;injection q with q;injection q with _ q;exact i q
theorem Hq{base z n b:Nat}{e t:TypeId}{xs:List Tv}{cs:Array Tv}(a:w.1[b]? = some (Zk cs t))(g:w.ownsRow base e z v n xs)(h:t≠e)(f:w.grownBy W v.ownBlock):W.1[b]? = some (Zk cs t):=by refine(f.block _ (E.Ac a) (λd=>?_)).trans a;obtain⟨c,q⟩:=Ho g d.symm;rw[a] at q;injection q with q;injection q with _ q;exact h q
theorem Fp.app{I B:Nat}{v v':Tv}{rs h:List Px}{xs i:List (Tb×Int×Tv)}(o:xs.length=rs.length)(p:w.ownsRow B 99 3 v rs.length (xs.flatMap Og))(s:∀(j:Nat)x r,xs[j]? = some x->rs[j]? = some r->x.1=r.1/\x.2.1=r.2.1/\w.ownsRow I 67 3 x.2.2 r.2.2.length (E.AKn r.2.2))(z:i.length=h.length)(D:∀(j:Nat)x r,i[j]? = some x->h[j]? = some r->x.1=r.1/\x.2.1=r.2.1/\w.ownsRow I 67 3 x.2.2 r.2.2.length (E.AKn r.2.2))(t:w.grownBy W v.ownBlock)(u:W.ownsRow B 99 3 v' (rs.length+h.length) (xs.flatMap Og++i.flatMap Og)):Fp I B W v' (rs++h):=by
 have f:∀{y:Tv}{n:Nat}{zs:List Tv},w.ownsRow I 67 3 y n zs->W.ownsRow I 67 3 y n zs:=λd=>Az d t λk f e=>a8 p d (by decide) k e f
 refine⟨xs++i,by simp[o,z],?_,λj y q d g=>?_⟩
 ·simpa using u
 rcases Yc j xs.length with m|l
 ·rw[XF m] at d
  rw[XF (by omega)] at g;obtain⟨a,b,c⟩:=s j y q d g;exact⟨a,b,f c⟩
 rw[XD l] at d;rw[XD (by omega)] at g;rw[o] at d;obtain⟨a,b,c⟩:=D _ y q d g;exact⟨a,b,f c⟩
theorem ABB{I:Nat}{xs:List (Tb×Int×Tv)}{rs:List Px}(i:xs.length=rs.length)(f:∀(j:Nat)x r,xs[j]? = some x->rs[j]? = some r->x.1=r.1/\x.2.1=r.2.1/\w.ownsRow I 67 3 x.2.2 r.2.2.length (E.AKn r.2.2)):∀u∈xs.flatMap Og,u.oneCell'=true:=by
 intro u b;obtain⟨x,h,b⟩:=List.mem_flatMap.1 b;obtain⟨j,d⟩:=List.getElem?_of_mem h;obtain⟨r,g⟩:∃r,rs[j]? = some r:=⟨_,Y' (by have:=Ax d;omega)⟩;obtain⟨a,c,e,_⟩:=Au (f j x r d g).2.2;simp only[Og,Wb,List.not_mem_nil,or_false] at b
 rcases b with rfl|rfl|rfl
 ·rfl
 ·rfl
 rw[e];rfl
theorem wE(I:Nat)(cv gv:Tv)(d:List Aj)(f:List (List (List V)))(qk:Tb)(er:Int)(Y:To)(mn mc:Nat)(qv:List Int)(g o cp:Nat)(l:List Aj)(T:S.CT)(v:Tv)(w:Tw)(hF:Hm w cv gv (d,f.map (An d)))(ce:f.length<=10)(t:∀p∈f,ALo d p/\1<=p.length/\p.length<=6)(hK:Kl d)(a8:∀p∈f,∀b∈(An d p).2.2,b.length<=1000000)(a2:1<=d.length)(a3:d.length<=8)(hm:Ph w (Zs Y mn mc) qv)(b9:qv.length<=1000)(h8:l.length<=8)(h1:1<=l.length)(b6:l.length<=cp)(hs:I1 w g o l)(hi:S.Gy w T v)(ha:S.Kg (Rf l) T)(hd:S.C9 T 24=true)(a6:S.Lp w)(hI:I<=w.1.size):
 Zc 63 #[Zg #[cv,gv],Zg #[Zt qk,Zi er,Zs Y mn mc],Zs (some (Zd g o)) l.length cp,v] w λe w'=>∃v',e=Zr (Zu #[v',Zi ((Oe qk qv l T d 0 f).2:Int)])/\Fp I w.1.size w' v' (Oe qk qv l T d 0 f).1/\Below w.1.size w w':=by
 obtain⟨O,P,ec,_⟩:=hF.1.slice;obtain⟨R,U,eg,a4⟩:=hF.2.slice;dsimp only at ec eg a4;subst ec eg;have ax:=Aa (λ(k:Nat)(p:List (List V))(hk:f[k]? = some p)W(x:Below w.1.size w W)=>pE d l (f.map (An d)) p k (Zs O d.length P) (Zs R (f.map (An d)).length U) g o cp T v W (hF.up x) (by rw[XN,hk];rfl) a2 a3 h8 (t p (XE hk)).2.1 (t p (XE hk)).2.2 (hs.below x) (hi.up x) (a6.below x) hd)
 have az:Hid (∀(k:Nat)(p:List (List V))W,f[k]? = some p->Below w.1.size w W->Zc 110 #[Zg #[Zs O d.length P,Zs R (f.map (An d)).length U],Zi k,Zs (some (Zd g o)) l.length cp] W (l4 (some (Cw d l p)) W)):=Aa λk p W hk x=>by have hm:=XE hk;have:=AFP k (Zs O d.length P) (Zs R (f.map (An d)).length U) (Zs (some (Zd g o)) l.length cp) d (f.map (An d)) (An d p) l W (hF.up x) (by rw[XN,hk];rfl) (AI5 (hs.below x) b6) h8 a2 a3 (a8 p hm);rw[cG (Xl d) (t p hm).1 hK (t p hm).2.1 (t p hm).2.2 l] at this;exact this
 have bu:=Aa (λ(p:List (List V))(f0:Nat)(gr:Tv)W(x:Below w.1.size w W)(hR:yF I W gr (Cw d l p))(al:p.length<=6)(b3:f0<=1000)=>rI I gr (Cw d l p) f0 qk er Y mn mc qv g o cp l T v W hR (by simpa[Cw] using al) (λr hr=>by obtain⟨q,_,rfl⟩:=List.mem_map.1 hr;simp) b3 (hm.below x) b9 h8 h1 (hs.below x) (hi.up x) ha hd);have ar:=Aa (λW(x:Below w.1.size w W)=>(hF.up x).2);obtain⟨iC,bd,bf,bg,bh⟩:=info_parts AEA;have N:=Zy bd bf bg bh;have bw:=Aa t
 have a5:∀qs:List (List (List V)),(∀p∈qs,p.length<=6)->En qs<=6*qs.length:=by
  intro qs
  induction qs with
  | nil=>intro _;simp[En]
  | cons q qs ih=>intro h;have:=ih (λp X=>h p (Yd _ X));have:=h q (Ye ..);simp only[En,XI];omega
 have aw:Hid (∀k,En (f.take k)<=60):=Aa λk=>by
  have:=a5 (f.take k) (λp X=>(t p (Ym X)).2.2);have hl:(f.take k).length<=f.length:=by rw[XQ];omega
  omega
 have br:Hid (∀k,(Oe qk qv l T d 0 (f.take k)).2<=10):=Aa λk=>by
  have:=(xP qk qv l T d (f.take k) 0).1;have hl:(f.take k).length<=f.length:=by rw[XQ];omega
  omega
 clear a5;clear hF t a8 hm hs hi ha hd a6 hK bd bf bg bh;simp only[X6] at ax az ar a4 ⊢
 have bi:∀W0:Tw,((W0.alloc (Zk #[Zs O d.length P,Zs R f.length U] 146)).alloc (Zk #[Zt qk,Zi er,Zs Y mn mc] 143)).1[W0.1.size]? = some (Zk #[Zs O d.length P,Zs R f.length U] 146)/\((W0.alloc (Zk #[Zs O d.length P,Zs R f.length U] 146)).alloc (Zk #[Zt qk,Zi er,Zs Y mn mc] 143)).1[W0.1.size+1]? = some (Zk #[Zt qk,Zi er,Zs Y mn mc] 143):=λW0=>by have hn:=Yac (W0.alloc (Zk #[Zs O d.length P,Zs R f.length U] 146)) (Zk #[Zt qk,Zi er,Zs Y mn mc] 143);rw[XG] at hn;exact⟨(XP _ _ _ (by simp)).trans (Yac W0 _),hn⟩
 have bx:=Aa (bi w);have bj:=Aa (S.Gj w (Zk #[Zs O d.length P,Zs R f.length U] 146) (Zk #[Zt qk,Zi er,Zs Y mn mc] 143));clear bi;go_enter func63,ntmps63;go_wp2_with fail
 go_loopw [10,11,12,20] (λvr vl vf vi wr=>∃(k:Nat)(a:To)(n c:Nat),k<=f.length/\vi=Zi (k:Int)/\vr=Zs a n c/\n<=6*k/\vl=Zi ((Oe qk qv l T d 0 (f.take k)).2:Int)/\vf=Zi (En (f.take k):Int)/\Hid (Fp I w.1.size wr (Zs a n c) (Oe qk qv l T d 0 (f.take k)).1/\n=(Oe qk qv l T d 0 (f.take k)).1.length)/\Hid (Below w.1.size w wr)/\Hid (wr.1[w.1.size]? = some (Zk #[Zs O d.length P,Zs R f.length U] 146)/\wr.1[w.1.size+1]? = some (Zk #[Zt qk,Zi er,Zs Y mn mc] 143))) (λ_ _ _ vi _=>f.length-Ev vi)
 case atStart=>exact⟨0,none,0,0,XH _,rfl,rfl,XH _,rfl,rfl,Aa ⟨P6 _ _ _,rfl⟩,bj,bx⟩
 case round=>
  obtain⟨k,a,n,c,hk,rfl,rfl,ck,rfl,rfl,HF,HB,HN⟩:=hrel
  rcases Yc k f.length with b8|ci
  ·obtain⟨p,X⟩:∃p,f[k]? = some p:=⟨_,Y' b8⟩
   obtain⟨_,cl,al⟩:=bw.o p (XE X);obtain⟨gb,go,cg,nn,sv,bv,eg,ch,en,g0,g1,g2,a7,a1⟩:=(ar.o wr HB.o).at (k:=k) (g:=An d p) (by rw[XN,X];rfl);obtain⟨sa,sc,rfl,_⟩:=a7.slice;obtain⟨ba,bc,rfl,_⟩:=a1.slice;clear a7 a1;simp only[X6] at eg;injection eg with b0 _ b1;subst b0 b1;have b2:nn=(p.length:Int):=en;subst b2;have b5:(k:Int)<(f.length:Int):=by omega
   have bb:f.take (k+1)=f.take k++[p]:=S.Cs X;have ah:=Aa (tQ qk qv l T d p (f.take k) 0);have ag:=Aa (sQ (f.take k) p);rw[<-bb] at ah ag;clear bb en;have n0:=S.cell_of_heap HN.o.1 0;have n1:=S.cell_of_heap HN.o.1 1;simp at n0 n1;have cd:En (f.take k)<=60:=aw.o k;have b7:(Oe qk qv l T d 0 (f.take k)).2<=10:=br.o k;have cj:(En (f.take k):Int)+(p.length:Int)<=1000:=by omega
   have cf:=Aa b7;generalize hS:(An d p).2.1.length=sn at *;generalize hT:(An d p).2.2.length=bn at *;clear hS hT;have af:Hid (Below wr.1.size wr (wr.alloc (Zk #[Zi (p.length:Int),Zs sa sn sc,Zs ba bn bc] 207))):=Aa (Zal);have aq:=Aa (Yac wr (Zk #[Zi (p.length:Int),Zs sa sn sc,Zs ba bn bc] 207));have am:=(XP wr (Zk #[Zi (p.length:Int),Zs sa sn sc,Zs ba bn bc] 207) _ (E.Ac HN.o.1)).trans HN.o.1;have m0:=S.cell_of_heap am 0;have m1:=S.cell_of_heap am 1;simp at m0 m1;clear am;generalize aj:(Oe qk qv l T d 0 (f.take k)).2=lk at *;generalize hlen:En (f.take k)=ln at *;go_wp2_with fail;refine(ax.o k p X _ (Ap HB.o af.o)).mono ?_;rintro e w1⟨rfl,ai⟩;have s:=Ap af.o ai;have G:=Aa (Ap HB.o s);have L:=Aa (And.intro (HF.o.1.up s) HF.o.2);have i:=Aa (And.intro ((s.block _ (E.Ac HN.o.1)).trans HN.o.1) ((s.block _ (E.Ac HN.o.2)).trans HN.o.2));have M:=Aa ((ai.block wr.1.size (by simp)).trans aq.o);clear ai s m0 m1 n0 n1 g0 g1 g2 af aq;cases hmay:S.Bp (I5 d p l) false T with
   | false=>have HQ:Hid (Oe qk qv l T d 0 (f.take (k+1))=Oe qk qv l T d 0 (f.take k)):=Aa (by rw[ah.o,Yad (by rw[hmay];simp)]);have x0:=S.cell_of_heap M.o 0;simp at x0;clear hmay;go_wp2;refine⟨⟨k+1,a,n,c,by omega,rfl,rfl,by omega,by rw[HQ.o,aj],by rw[ag.o];simp,?_,G,i⟩,by simp only[Ev];omega⟩;rw[HQ.o];exact L
   | true=>
     have HQ:Hid (Oe qk qv l T d 0 (f.take (k+1))=((Oe qk qv l T d 0 (f.take k)).1++Jw qk qv l T (ln:Int) (Cw d l p),lk+1)):=Aa (by rw[ah.o,Yae hmay,Int.zero_add]);clear hmay;have y0:=S.cell_of_heap i.o.1 0;have y1:=S.cell_of_heap i.o.1 1;simp at y0 y1;go_wp2_with fail;refine(az.o k p w1 X G.o).mono ?_;rintro e w2⟨v2,rfl,J,y⟩;have ab:=Aa (Ap G.o y);have ad:=Aa (And.intro (L.o.1.up y) L.o.2);have m:=Aa (And.intro ((y.block _ (E.Ac i.o.1)).trans i.o.1) ((y.block _ (E.Ac i.o.2)).trans i.o.2));have ae:=Aa ((y.block _ (E.Ac M.o)).trans M.o);have a0:=Aa (J.low (I':=I) (XL hI G.o.size));obtain⟨va,vc,rfl,_⟩:=J.o.slr.slice;have z0:=S.cell_of_heap m.o.2 0;have z1:=S.cell_of_heap m.o.2 1;have z2:=S.cell_of_heap m.o.2 2;simp at z0 z1 z2;clear J y y0 y1 G L i M;go_wp2_with fail;refine(bu.o p ln _ w2 ab.o a0.o al (by omega)).mono ?_;rintro e w3⟨v3,rfl,aa,z⟩;have an:=Aa (Ap ab.o z);have ay:=Aa (And.intro ((z.block _ (E.Ac m.o.1)).trans m.o.1) ((z.block _ (E.Ac m.o.2)).trans m.o.2));have bp:=Aa ((z.block _ (E.Ac ae.o)).trans ae.o);have ao:=Aa (And.intro (ad.o.1.up z) ad.o.2);have ap:=Aa aa;clear z aa z0 z1 z2 ab ad m ae a0;obtain⟨⟨xs,e1,e2,e3⟩,hn⟩:=ao.o;obtain⟨ys,k1,k2,k3⟩:=ap.o;rw[<-hn] at e1 e2;obtain⟨ya,yc,rfl,_⟩:=Au k2
     have cm:(Jw qk qv l T (ln:Int) (Cw d l p)).length<=6:=by
      have h2:=AGe qk qv l T (Cw d l p) (ln:Int);have h3:(Cw d l p).length=p.length:=by simp[Cw]
      omega
     have bl:=Aa e1;have u:=Aa e2;have bm:=Aa e3;have au:=Aa k1;have bq:=Aa k2;have av:=Aa k3;have bt:=Aa hn;generalize cb:Jw qk qv l T (ln:Int) (Cw d l p)=qs at *;have a9:=an.o.size;clear e1 e2 e3 k1 k2 k3 hn ao ap cb;go_wp2_with (at_builtin;refine E.Ck rfl _ _ 95 rfl w.1.size 99 iC ABC 3 48 underlying95 N.o.1 N.o.2.1 N.o.2.2.1 N.o.2.2.2 rfl (by decide) _ _ _ rfl u.o _ _ _ _ rfl bq.o (ABB au.o av.o) ?f1 ?f2 ?f3 ?_)
     case f1=>unfold maxLen;omega
     case f2=>omega
     case f3=>omega
     intro v4 w4 ak D;obtain⟨a',c',rfl,_⟩:=Au ak;have hn:=bt.o;subst hn;have bz:=Aa (Fp.app bl.o u.o bm.o au.o av.o D ak);have bk:=Aa (an.o.grown D a9 (λj hj=>Fu u.o hj));have bs:=Aa (And.intro (Hq ay.o.1 u.o (by decide) D) (Hq ay.o.2 u.o (by decide) D));have x0:=S.cell_of_heap (Hq bp.o u.o (by decide) D) 0;simp at x0;clear ak D;go_wp2;refine⟨⟨k+1,a',_,c',by omega,rfl,rfl,by omega,by rw[HQ.o];simp,by rw[ag.o];simp,Aa ⟨?_,?_⟩,bk,bs⟩,by simp only[Ev];omega⟩
     ·rw[HQ.o]
      exact bz.o
     rw[HQ.o];simp
  have b5:¬((k:Int)<(f.length:Int)):=by omega
  have b4:k=f.length:=by omega
  subst b4;have ac:=HF.o;rw[Yg] at ac ⊢;have bo:=Aa ac;clear ac;go_wp2;go_ret2;exact⟨_,rfl,bo.o.1,HB.o⟩
def AEy(x:Int):Value:=if x=0 then .nilIface else .iface 91 (Zi x)
def wB(l:List Aj)(s:ByteArray):Int:=kd (l[(Ce l s).toNat]?.getD zC)
def Mz(l:List Aj)(c:Int)(Bl:ByteArray)(k:Int):Int:=if Ce l Bl<0 then 5 else if c=7\/c=8\/k=0\/k=wB l Bl then 0 else 1
def D4(l:List Aj):S.CT->Int
 | .nil=>0
 | .node _ _ ⟨c,Bl,k,_,_⟩ x y=>if c=9\/c=10 then (if D4 l x=0 then D4 l y else D4 l x) else if c=11 then D4 l x else Mz l c Bl k
def Ex(l:List Aj)(T:S.CT):Int:=if S.C9 T 24=true then D4 l T else 1
def EPost(x:Int)(w:World)(e:Ending)(a:World):Prop:=e=.returned (AEy x)/\Zb w a
theorem N7:AEy 0=Zn:=rfl
theorem Et{x:Int}(h:x≠0):AEy x=Zf 91 (Zi x):=Yad h
theorem bC(l:List Aj):∀T:S.CT,D4 l T=0->S.Kg (Rf l) T
 | .nil,_=>trivial
 | .node _ _ ⟨c,Bl,k,_,_⟩ x y,h=>by
   simp only[D4] at h;simp only[S.Kg]
   by_cases h9:c=9\/c=10
   ·rw[Yae h9] at h
    rw[Yad (by omega),Yae h9];split at h
    ·exact⟨bC l x ‹_›,bC l y h⟩
    exact absurd h ‹_›
   rw[Yad h9] at h
   by_cases h11:c=11
   ·rw[Yae h11] at h ⊢
    exact bC l x h
   rw[Yad h11] at h ⊢;rw[Yad h9];unfold Mz at h;unfold Rf;split at h
   ·cases h
   omega
theorem gP(h:Ex l T=0):S.Kg (Rf l) T/\S.C9 T 24=true:=by
 unfold Ex at h;split at h
 ·exact⟨bC l T h,‹_›⟩
 cases h
theorem ACe(g o U:Nat)(l:List Aj)(b:Nat)(c:Int)(Bl:Tb)(k n:Int)(t:Tb)(pl pr:Tv)(w:Tw)(h:I1 w g o l)(X:l.length<=8)(I:w.1[b]? = some (Zk #[Zi c,Zt Bl,Zi k,Zi n,Zt t,pl,pr] 120)):
 Zc 167 #[Zs (some (Zd g o)) l.length U,Zp (some (Zd b 0))] w (EPost (Mz l c Bl k) w):=by
 have r:=Aa (E8 g o U l Bl w h X);have c0:w.cell? (Zd b 0)=some (Zi c):=S.cell_of_heap I 0;have c1:w.cell? (Zd b 1)=some (Zt Bl):=S.cell_of_heap I 1;have i:w.cell? (Zd b 2)=some (Zi k):=S.cell_of_heap I 2;have d:b<w.1.size:=E.Ac I;have s:=Aa h;clear I h
 rcases Gz l Bl with⟨u,_⟩|⟨j,R,u,_⟩
 ·have f:Hid (Mz l c Bl k=5):=Aa (by unfold Mz;rw[Yae (by omega)])
  rw[f.o];rw[u] at r;clear u;go_enter func167,ntmps167;go_wp2_with fail;apply r.o.mono;rintro e L⟨rfl,a⟩;go_wp2;go_ret;exact⟨rfl,a⟩
 have W:∃x,l[j]! = x:=⟨_,rfl⟩;obtain⟨⟨y1,y2,P,y4,y5,y6,y7⟩,T⟩:=W
 have J:wB l Bl=P:=by unfold wB;rw[u,XJ,Y' R,XX,<-getElem!_pos l j R,T];rfl
 have f:Hid (Mz l c Bl k=if c=7\/c=8\/k=0\/k=P then 0 else 1):=Aa (by unfold Mz;rw[Yad (by omega),J]);rw[u] at r;obtain⟨e0,v,m,y,z,D,G⟩:=s.o.cells R T;have ab:(j:Int)<(l.length:Int):=by omega
 have Y:¬(j:Int)<0:=by omega
 have aa:(0:Int)<=(j:Int):=by omega
 clear u T J;generalize Mz l c Bl k=q at *
 by_cases h7:c=7
 ·subst h7
  obtain rfl:q=0:=f.o.trans (Yae (.inl rfl));clear f;go_enter func167,ntmps167;go_wp2_with fail;apply r.o.mono;rintro e L⟨rfl,a⟩;have M:=(a.cell (p:=Zd b 0) d).trans c0;have N:=(a.cell (p:=Zd b 2) d).trans i;have O:=(a.cell (p:=Zd g (o+j*7+2)) s.o.1).trans m;clear c0 c1 i e0 v m y z D G;go_wp2;go_ret;exact⟨rfl,a⟩
 have b7:(c==7)=false:=by simpa using h7
 by_cases h8':c=8
 ·subst h8'
  obtain rfl:q=0:=f.o.trans (Yae (.inr (.inl rfl)));clear f;go_enter func167,ntmps167;go_wp2_with fail;apply r.o.mono;rintro e L⟨rfl,a⟩;have M:=(a.cell (p:=Zd b 0) d).trans c0;have N:=(a.cell (p:=Zd b 2) d).trans i;have O:=(a.cell (p:=Zd g (o+j*7+2)) s.o.1).trans m;clear c0 c1 i e0 v m y z D G;go_wp2;go_ret;exact⟨rfl,a⟩
 have b8:(c==8)=false:=by simpa using h8'
 by_cases hk:k=0
 ·subst hk
  obtain rfl:q=0:=f.o.trans (Yae (.inr (.inr (.inl rfl))));clear f;go_enter func167,ntmps167;go_wp2_with fail;apply r.o.mono;rintro e L⟨rfl,a⟩;have M:=(a.cell (p:=Zd b 0) d).trans c0;have N:=(a.cell (p:=Zd b 2) d).trans i;have O:=(a.cell (p:=Zd g (o+j*7+2)) s.o.1).trans m;clear c0 c1 i e0 v m y z D G;go_wp2;go_ret;exact⟨rfl,a⟩
 have bk:(k==0)=false:=by simpa using hk
 by_cases hy:k=P
 ·subst hy
  obtain rfl:q=0:=f.o.trans (Yae (.inr (.inr (.inr rfl))));clear f;go_enter func167,ntmps167;go_wp2_with fail;apply r.o.mono;rintro e L⟨rfl,a⟩;have M:=(a.cell (p:=Zd b 0) d).trans c0;have N:=(a.cell (p:=Zd b 2) d).trans i;have O:=(a.cell (p:=Zd g (o+j*7+2)) s.o.1).trans m;clear c0 c1 i e0 v m y z D G;go_wp2_with fail
  go_region
  go_wp2;go_ret;exact⟨rfl,a.drew⟩
 have V:(k==P)=false:=by simpa using hy
 obtain rfl:q=1:=f.o.trans (Yad (by omega));clear f;go_enter func167,ntmps167;go_wp2_with fail;apply r.o.mono;rintro e L⟨rfl,a⟩;have M:=(a.cell (p:=Zd b 0) d).trans c0;have N:=(a.cell (p:=Zd b 2) d).trans i;have O:=(a.cell (p:=Zd g (o+j*7+2)) s.o.1).trans m;clear c0 c1 i e0 v m y z D G;go_wp2_with fail
 go_region
 go_wp2;go_ret;exact⟨rfl,a.drew⟩
theorem p9{Bl:Tb}{t:Tb}(h:c=9\/c=10):(if D4 l x=0 then D4 l y else D4 l x)=D4 l (.node i j ⟨c,Bl,k,n,t⟩ x y):=by rw[D4,Yae h]
theorem p11{Bl:Tb}{t:Tb}(h:c=11):D4 l x=D4 l (.node i j ⟨c,Bl,k,n,t⟩ x y):=by rw[D4,Yad (by omega),Yae h]
theorem p0{Bl:Tb}{t:Tb}(h:¬(c=9\/c=10))(a:¬c=11):Mz l c Bl k=D4 l (.node i j ⟨c,Bl,k,n,t⟩ x y):=by rw[D4,Yad h,Yad a]
theorem Ws(g o q:Nat)(l:List Aj)(J:l.length<=8):∀(T:S.CT)(v:Tv)(w:Tw),S.Gy w T v->I1 w g o l ->
 Zc 107 #[Zs (some (Zd g o)) l.length q,v] w (EPost (D4 l T) w)
 | .nil,v,w,h,_=>by obtain rfl:v=Zp none:=h;have O:Hid (D4 l .nil=0):=rfl;rw[O.o];go_enter func107,ntmps107;go_wp2;go_ret;exact⟨rfl,XB _ _⟩
 | .node a0 o0 ⟨c,Bl,k,n,t⟩ x y,v,w,h,hs=>by
   obtain⟨b,G,I,rfl,r,_,M,N⟩:=h;have d:=Aa (λ(W:Tw)(z:Zb w W)=>Ws g o q l J x G W (M.up z) (hs.below z))
   have i:=Aa (λ(W:Tw)(z:Zb w W)=>Ws g o q l J y I W (N.up z) (hs.below z))
   have f:=Aa (ACe g o q l b c Bl k n t G I w hs J r);have c0:w.cell? (Zd b 0)=some (Zi c):=S.cell_of_heap r 0;have c5:w.cell? (Zd b 5)=some G:=S.cell_of_heap r 5;have L:w.cell? (Zd b 6)=some I:=S.cell_of_heap r 6;have D:b<w.1.size:=E.Ac r;clear r M N hs;unfold EPost at d i f ⊢
   by_cases j:c=9\/c=10
   ·rw[<-p9 j]
    clear f;generalize D4 l x=u at *;generalize D4 l y=V at *
    by_cases hx:u=0
    ·subst hx
     rw[N7] at d;rw[Yae rfl]
     by_cases hy:V=0
     ·subst hy
      rw[N7] at i ⊢
      rcases j with rfl|rfl
      all_goals
       go_enter func107,ntmps107;go_wp2_with fail;refine(d.o _ (XB _ _)).mono ?_;rintro e s⟨rfl,a⟩;have U:=(a.cell (p:=Zd b 6) D).trans L;go_wp2_with fail;refine(i.o _ a).mono ?_;rintro e X⟨rfl,m⟩;go_wp2;go_ret;exact⟨rfl,Ap a m⟩
     rw[Et hy] at i ⊢
     rcases j with rfl|rfl
     all_goals
      go_enter func107,ntmps107;go_wp2_with fail;refine(d.o _ (XB _ _)).mono ?_;rintro e s⟨rfl,a⟩;have U:=(a.cell (p:=Zd b 6) D).trans L;go_wp2_with fail;refine(i.o _ a).mono ?_;rintro e X⟨rfl,m⟩;go_wp2;go_ret;exact⟨rfl,Ap a m⟩
    rw[Et hx] at d;rw[Yad hx,Et hx]
    rcases j with rfl|rfl
    all_goals
     go_enter func107,ntmps107;go_wp2_with fail;refine(d.o _ (XB _ _)).mono ?_;rintro e s⟨rfl,a⟩;go_wp2;go_ret;exact⟨rfl,a⟩
   by_cases h11:c=11
   ·rw[<-p11 h11]
    subst h11;clear f i j;generalize D4 l x=u at *
    by_cases hx:u=0
    ·subst hx
     rw[N7] at d ⊢;go_enter func107,ntmps107;go_wp2_with fail;refine(d.o _ (XB _ _)).mono ?_;rintro e s⟨rfl,a⟩;go_wp2;go_ret;exact⟨rfl,a⟩
    rw[Et hx] at d ⊢;go_enter func107,ntmps107;go_wp2_with fail;refine(d.o _ (XB _ _)).mono ?_;rintro e s⟨rfl,a⟩;go_wp2;go_ret;exact⟨rfl,a⟩
   rw[<-p0 j h11];have Y:(c==9)=false:=by rw[beq_eq_false_iff_ne];omega
   have P:(c==10)=false:=by rw[beq_eq_false_iff_ne];omega
   have R:(c==11)=false:=by rw[beq_eq_false_iff_ne];omega
   clear d i j h11;generalize Mz l c Bl k=u at *
   by_cases hx:u=0
   ·subst hx
    rw[N7] at f ⊢;go_enter func107,ntmps107;go_wp2_with fail;apply f.o.mono;rintro e s⟨rfl,a⟩;go_wp2;go_ret;exact⟨rfl,a⟩
   rw[Et hx] at f ⊢;go_enter func107,ntmps107;go_wp2_with fail;apply f.o.mono;rintro e s⟨rfl,a⟩;go_wp2;go_ret;exact⟨rfl,a⟩
theorem ADv(g o c:Nat)(l:List Aj)(j:l.length<=8)(T:S.CT)(v:Tv)(w:Tw)(h:S.Gy w T v)(d:I1 w g o l):
 Zc 61 #[Zs (some (Zd g o)) l.length c,v] w (EPost (Ex l T) w):=by
 have H1:=Aa (S.Uh T v w h);have H2:=Aa (Ws g o c l j T v w h d);clear h d;unfold EPost at H2 ⊢;cases hw:S.C9 T 24 with
 | false=>have b:Hid (Ex l T=1):=Aa (by unfold Ex;rw[Yad (by rw[hw];simp)]);rw[b.o];rw[hw] at H1;clear hw b;go_enter func61,ntmps61;go_wp2_with fail;apply H1.o.mono;rintro e f⟨rfl,rfl⟩;go_wp2;go_ret;exact⟨rfl,XB _ _⟩
 | true=>
   have b:Hid (Ex l T=D4 l T):=Aa (by unfold Ex;rw[Yae hw]);rw[b.o];rw[hw] at H1;clear hw b;generalize D4 l T=i at *
   by_cases hx:i=0
   ·subst hx
    rw[N7] at H2 ⊢;go_enter func61,ntmps61;go_wp2_with fail;apply H1.o.mono;rintro e f⟨rfl,rfl⟩;go_wp2_with fail;apply H2.o.mono;rintro e k⟨rfl,a⟩;go_wp2;go_ret;exact⟨rfl,a⟩
   rw[Et hx] at H2 ⊢;go_enter func61,ntmps61;go_wp2_with fail;apply H1.o.mono;rintro e f⟨rfl,rfl⟩;go_wp2_with fail;apply H2.o.mono;rintro e k⟨rfl,a⟩;go_wp2;go_ret;exact⟨rfl,a⟩
abbrev A6:=Vc×List Aj×List (List V)
structure Gt(D:DataW Unit)(x:A6):Prop where
 has:Maps.has D (B.lit (Eh x.1.1))=true
 Gw:D.atKey (B.lit (Eh x.1.1)) (B.Gw ByteArray.empty)=B.Gw (E.str (Cq (x.2.1,Ay x.2.1 x.2.2)))
 ok:De x.2.1 x.2.2=true
 i64:K9 x.2.2
 name:x.1.1.size<=1000
 qv:x.1.2.2.length<=1000
def N9(l:List Aj)(T:S.CT)(x:A6):List Px×Nat:=Oe x.1.1 x.1.2.2 l T (By x.2.1) 0 (parts x.2.2)
def Bo(l:List Aj)(T:S.CT):List A6->List Px×Nat
 | []=>([],0)
 | x :: xs=>((N9 l T x).1++(Bo l T xs).1,(N9 l T x).2+(Bo l T xs).2)
theorem j6(l:List Aj)(T:S.CT)(x:A6):∀xs:List A6,Bo l T (xs++[x])=((Bo l T xs).1++(N9 l T x).1,(Bo l T xs).2+(N9 l T x).2)
 | []=>by simp[Bo]
 | y :: ys=>by have a:=j6 l T x ys;simp only[XO,Bo,a,List.append_assoc];congr 1;omega
theorem oU{qj p:List (List V)}(h:ALo l qj)(g:∀r∈p,r∈qj):ALo (By l) p:=λr f=>by
 obtain⟨c,d⟩:=h r (g r f);rw[Je];refine⟨c,λi e=>?_⟩;obtain⟨a,b⟩:=d i e;exact⟨by rw[ABo ((It l).kdq i)];exact a,b⟩
theorem vH(h:Kl l):Kl (By l):=λi a=>by
 rw[Je] at a;rw[(It l).kdq i];exact h i a
theorem wH(g:ALo l p)(f:Kl l)(h:p.length<=6):∀b∈(An l p).2.2,b.length<=1000000:=λb d=>by
 simp only[An,List.mem_map,List.mem_range] at d;obtain⟨i,e,rfl⟩:=d;obtain⟨a,c⟩:=Ot g e (f i e);have:=AAr a c (by rw[Gn];omega);omega
structure AJL(fl:List Aj)(ps:List (List (List V))):Prop where
 p10:ps.length<=10
 each:∀p∈ps,ALo fl p/\1<=p.length/\p.length<=6
 kinds:Kl fl
 bytes:∀p∈ps,∀b∈(An fl p).2.2,b.length<=1000000
 one:1<=fl.length
 eight:fl.length<=8
theorem opened{qj:List (List V)}(h:De l qj=true)(i:K9 qj):AJL (By l) (parts qj)/\Ay l qj=(parts qj).map (An (By l)):=by
 obtain⟨j,n,g,e⟩:=B4.1 h;have k:=Mu e i;have m:=vH j.kinds
 have d:∀p∈parts qj,ALo (By l) p/\1<=p.length/\p.length<=6:=λp f=>by obtain⟨a,b,c⟩:=Ij f;exact⟨oU k c,a,b⟩
 refine⟨⟨by rw[Vg];exact AAB g,d,m,λp f=>wH (d p f).1 m (d p f).2.2,by rw[Je];exact j.one,by rw[Je];exact j.eight⟩,?_⟩;unfold Ay;exact Yn λp _=>(Ul (It l) p).symm
theorem X0:∀a:List (List (List V)),En a=a.flatten.length
 | []=>rfl
 | p :: a=>by simp only[En,WC,XT,X0 a]
theorem tX{x:A6}(h:Gt D x)(l:List Aj)(T:S.CT):(N9 l T x).2<=10/\(N9 l T x).1.length<=60:=by obtain⟨a,b⟩:=xP x.1.1 x.1.2.2 l T (By x.2.1) (parts x.2.2) 0;obtain⟨_,_,c,_⟩:=B4.1 h.ok;have d:=(opened h.ok h.i64).1.p10;rw[X0,V2] at b;unfold N9;omega
theorem L0{D:Td}(l:List Aj)(T:S.CT):∀xs:List A6,(∀x∈xs,Gt D x)->(Bo l T xs).2<=10*xs.length/\(Bo l T xs).1.length<=60*xs.length
 | [],_=>by simp[Bo]
 | x :: xs,h=>by
   have b:=tX (h x (Ye ..)) l T;have c:=L0 l T xs λy a=>h y (Yd _ a)
   simp only[Bo,XT,XI];omega
def qP(l:List Aj)(T:S.CT)(xs:List A6)(w:World)(e:Ending)(a:World):Prop :=
 Zb w a/\((Ex l T≠0/\e=.returned (.tuple #[.slice none 0 0,Zi 0,AEy (Ex l T)]))\/(Ex l T=0/\∃v',e=.returned (.tuple #[v',Zi ((Bo l T xs).2:Int),.nilIface])/\Fp w.1.size w.1.size a v' (Bo l T xs).1))
theorem AFL(bb n:Nat)(D:Td)(mv:Tv)(s:Ah)(g cp:Nat)(fa:To)(fc:Nat)(L:List Ef)(xs:List A6)(T:S.CT)(v:Tv)(w:Tw)(h:Ground w bb n D mv)(he:B.Ob w)(ao:S.Lp w)(hV:X8 w s (Zs (some (Zd g 0)) s.qz.length cp) (Zs fa L.length fc) L)(hx:xs.map (·.1)=s.qx)(d:∀x∈xs,Gt D x)(cd:xs.length<=1000)(h8:s.qz.length<=8)(h1:1<=s.qz.length)(hi:S.Gy w T v):
 Zc 29 #[Zp (some (Zd bb 0)),Zg #[Zi s.Eb,Zs (some (Zd g 0)) s.qz.length cp,Zi s.next,Zs fa L.length fc],v] w (qP s.qz T xs w):=by
 have hs:I1 w g 0 s.qz:=I1.Fz hV.qz rfl
 have b6:s.qz.length<=cp:=by obtain⟨a,c,e,hc⟩:=Au hV.qz;injection e with _ _ e;omega
 have z:=Aa (λW(P:Zb w W)=>ADv g 0 cp s.qz h8 T v W (hi.up P) (hs.below P));have G:Hid (Zb w (w.alloc (Zk #[Zi s.Eb,Zs (some (Zd g 0)) s.qz.length cp,Zi s.next,Zs fa L.length fc] 56))):=Aa (Zal);have a0:=Aa (Yac w (Zk #[Zi s.Eb,Zs (some (Zd g 0)) s.qz.length cp,Zi s.next,Zs fa L.length fc] 56));unfold qP;unfold EPost at z
 by_cases hce:Ex s.qz T=0
 rotate_left
 ·rw[Et hce] at z ⊢
  have HC:=Aa hce;clear hs hV hi h he ao d hx;generalize Ex s.qz T=ce at *;go_enter func29,ntmps29;go_wp2_with fail;refine(z.o _ G.o).mono ?_;rintro e w1⟨rfl,M⟩;go_wp2;go_ret3;exact⟨Ap G.o M,.inl ⟨HC.o,rfl⟩⟩
 rw[hce,N7] at z;obtain⟨has,a9⟩:=gP hce;go_enter func29,ntmps29;go_wp2_with fail;refine(z.o _ G.o).mono ?_;rintro e w1⟨rfl,M⟩;have am:=(M.block w.1.size (by simp)).trans a0.o;have n3:=S.cell_of_heap am 3;simp at n3
 have hlen:L.length=xs.length:=by have:=congrArg List.length (hx.trans hV.qx);simpa using this.symm
 have bw:=Aa (λ(x:A6)(b:x∈xs)W(P:Zb w W)=>AD9 bb n D mv x.1.1 W (h.up P) (he.below P) (d x b).name (λt _ ht=>by have e:=B.aS ((d x b).Gw.symm.trans ht);rw[<-e,E.Ds];have:=Vn (d x b).ok (d x b).i64;omega))
 have bv:=Aa (λ(x:A6)(b:x∈xs)(cv gv:Tv)(J:Int)(ma:To)(mn mc:Nat)W(P:Zb w W)(hF:Hm W cv gv (By x.2.1,(parts x.2.2).map (An (By x.2.1))))(hm:Ph W (Zs ma mn mc) x.1.2.2)=>
  have O:=(opened (d x b).ok (d x b).i64).1
  wE w.1.size cv gv (By x.2.1) (parts x.2.2) x.1.1 J ma mn mc x.1.2.2 g 0 cp s.qz T v W hF O.p10 O.each O.kinds O.bytes O.one O.eight hm (d x b).qv h8 h1 b6 (hs.below P) (hi.up P) has a9 (ao.below P) P.size)
 have ax:=Aa d;have ag:=Aa hV;have bz:=Aa hx;have bk:=Aa hce;have bi:=Aa (Ap G.o M);have br:=Aa am;obtain⟨iC,bc,bd,bf,bg⟩:=info_parts AEA;have U:=Zy bc bd bf bg;clear hs hV hi h he ao d hx hce has a9 M am z G a0 bc bd bf bg;go_wp2_with fail
 go_loopw [10,11,28] (λvr vl vi wr=>∃(k:Nat)(a:To)(n c:Nat),k<=xs.length/\vi=Zi (k:Int)/\vr=Zs a n c/\n<=60*k/\vl=Zi ((Bo s.qz T (xs.take k)).2:Int)/\Hid (Fp w.1.size w.1.size wr (Zs a n c) (Bo s.qz T (xs.take k)).1/\n=(Bo s.qz T (xs.take k)).1.length)/\Hid (Zb w wr)/\Hid (wr.1[w.1.size]? = some (Zk #[Zi s.Eb,Zs (some (Zd g 0)) s.qz.length cp,Zi s.next,Zs fa L.length fc] 56))) (λ_ _ vi _=>xs.length-Ev vi)
 case atStart=>exact⟨0,none,0,0,XH _,rfl,rfl,XH _,rfl,Aa ⟨P6 _ _ _,rfl⟩,bi,br⟩
 case round=>
  obtain⟨k,a,n',c,hk,rfl,rfl,ci,rfl,HF,HB,HN⟩:=hrel
  have ch:(Bo s.qz T (xs.take k)).2<=10*1000:=by
   have:=(L0 s.qz T (xs.take k) (λy hy=>ax.o y (Ym hy))).1;have hl:(xs.take k).length<=xs.length:=by rw[XQ];omega
   omega
  rcases Yc k xs.length with b8|cg
  ·obtain⟨x,ap⟩:∃x,xs[k]? = some x:=⟨_,Y' b8⟩
   obtain⟨y,Y⟩:∃y,L[k]? = some y:=⟨_,Y' (by omega)⟩
   have ah:y.1=x.1:=by
    have h1:(xs.map (·.1))[k]? = some x.1:=by simp[ap]
    rw[bz.o,ag.o.qx,XN,Y] at h1;simpa using h1
   have b:=XE ap;have ba:=XE Y;obtain⟨⟨⟨f,J,qv⟩,l0,qj⟩,ex⟩:∃q,q=x:=⟨_,rfl⟩;obtain⟨ye,⟨ma,mn,mc⟩⟩:=y;have a3:ye=(f,J,qv):=by rw[<-ex] at ah;exact ah
   subst a3 ex;have m:=Aa (ax.o _ b);have bq:=Aa (Ph.Fz (ag.o.Cl _ ba));have N:=Bc ag.o.row HB.o
   obtain⟨fb,b1,cf,e0,e1,e2⟩:∃fb,fa=some (Zd fb 0)/\fb<wr.1.size/\wr.cell? (Zd fb (k*3))=some (Zt f)/\wr.cell? (Zd fb (k*3+1))=some (Zi J)/\wr.cell? (Zd fb (k*3+2))=some (Zs ma mn mc):=by
    rcases N.2 with⟨_,h0⟩|⟨fb,b9,cb,ev,_,hh,_,_,_⟩
    ·omega
    injection ev with b0 _ _;subst b0;have hc:=N.cells (g:=fb) rfl;simp only[E.addr_add] at hc
    have ak:∀(i:Nat)u,(Lv ((f,J,qv),ma,mn,mc))[i]? = some u->wr.cell? (Zd fb (k*3+i))=some u:=λi u hu=>by have:=hc (k*3+i) u (Hi (k:=3) (enc:=Lv) (λ_=>rfl) Y hu);simpa using this
    exact⟨fb,rfl,E.Ac hh,ak 0 _ rfl,ak 1 _ rfl,ak 2 _ rfl⟩
   subst b1;have b5:(k:Int)<(L.length:Int):=by omega
   have a8:xs.take (k+1)=xs.take k++[((f,J,qv),l0,qj)]:=S.Cs ap;have I:=Aa (j6 s.qz T ((f,J,qv),l0,qj) (xs.take k));rw[<-a8] at I;have af:=Aa (tX m.o s.qz T);clear a8 ah N Y ba;have ad:Hid (Zb wr (wr.alloc (Zk #[Zt f,Zi J,Zs ma mn mc] 143))):=Aa (Zal);have au:=Aa (Yac wr (Zk #[Zt f,Zi J,Zs ma mn mc] 143));generalize b7:(Bo s.qz T (xs.take k)).2=lk at *;go_wp2_with fail;refine(bw.o _ b _ (Ap HB.o ad.o)).mono ?_;rintro e w2 ab;unfold iB at ab
   rcases ab with⟨q,_⟩|⟨_,t,ht,a6⟩
   ·rw[m.o.has] at q;cases q
   have et:=B.aS (m.o.Gw.symm.trans ht);have a2:t.1.toList=Cq (l0,Ay l0 qj):=by rw[<-et];simp[E.str]
   rw[a2,tN m.o.ok m.o.i64] at a6;obtain⟨cv,gv,rfl,l,al⟩:=a6;rw[(opened m.o.ok m.o.i64).2] at l;obtain⟨ca,cc,ec,_⟩:=l.1.slice;obtain⟨ga,gc,eg,_⟩:=l.2.slice;dsimp only at ec eg;subst ec eg;have p:=Ap ad.o al;have ac:=Aa (Ap HB.o p);have av:=Aa (And.intro (HF.o.1.up p) HF.o.2);have V:=Aa ((p.block _ (E.Ac HN.o)).trans HN.o);have ar:=Aa ((al.block _ (by simp)).trans au.o);have bo:=Aa l;clear l al p et a2 ht ad au e0 e1 e2;generalize b2:(By l0).length=ai at *;generalize b3:((parts qj).map (An (By l0))).length=aj at *;clear b2 b3;have R:Hid (Zb w2 (w2.alloc (Zk #[Zs ca ai cc,Zs ga aj gc] 146))):=Aa (Zal);have aa:=(XP w2 (Zk #[Zs ca ai cc,Zs ga aj gc] 146) _ (E.Ac ar.o)).trans ar.o;have z0:=S.cell_of_heap aa 0;have z1:=S.cell_of_heap aa 1;have z2:=S.cell_of_heap aa 2;have bh:=(XP w2 (Zk #[Zs ca ai cc,Zs ga aj gc] 146) _ (E.Ac V.o)).trans V.o;have u1:=S.cell_of_heap bh 1;simp at z0 z1 z2 u1;clear aa bh;go_wp2_with fail;refine(bv.o _ b _ _ J ma mn mc _ (Ap ac.o R.o) (bo.o.up R.o) (bq.o.below (Ap ac.o R.o))).mono ?_;rintro e w3⟨v3,rfl,a5,a4⟩;have r:=Ap R.o a4;have aq:=Aa (Ap ac.o r);have aw:=Aa (And.intro (av.o.1.up r) av.o.2);have bs:=Aa ((r.block _ (E.Ac V.o)).trans V.o);obtain⟨ys,k1,k2,k3⟩:=a5;obtain⟨⟨zs,e1,e2,e3⟩,hn⟩:=aw.o;rw[<-hn] at e1 e2;obtain⟨ya,yc,rfl,_⟩:=Au k2;have a1:Hid (N9 s.qz T ((f,J,qv),l0,qj)=Oe f qv s.qz T (By l0) 0 (parts qj)):=Aa rfl;rw[a1.o] at af I;generalize Oe f qv s.qz T (By l0) 0 (parts qj)=qq at *;obtain⟨qs,qn⟩:=qq;simp only at k1 k2 k3;have cj:qn<=10:=af.o.1;have ck:qs.length<=60:=af.o.2;have bl:=Aa e1;have o:=Aa e2;have bm:=Aa e3;have ay:=Aa k1;have bp:=Aa k2;have az:=Aa k3;have bu:=Aa hn;have a7:=aq.o.size;clear e1 e2 e3 k1 k2 k3 hn aw a4 r z0 z1 z2 u1 a1;go_wp2_with (at_builtin;refine E.Ck rfl _ _ 95 rfl w.1.size 99 iC ABC 3 48 underlying95 U.o.1 U.o.2.1 U.o.2.2.1 U.o.2.2.2 rfl (by decide) _ _ _ rfl o.o _ _ _ _ rfl bp.o (ABB ay.o az.o) ?f1 ?f2 ?f3 ?_)
   case f1=>unfold maxLen;omega
   case f2=>omega
   case f3=>omega
   intro v4 w4 an X;obtain⟨a',c',rfl,_⟩:=Au an;have hn:=bu.o;subst hn;have bx:=Aa (Fp.app bl.o o.o bm.o ay.o az.o X an);have bj:=Aa (aq.o.grown X a7 (λj hj=>Fu o.o hj));have bt:=Aa (Hq bs.o o.o (by decide) X);clear an X;go_wp2;refine⟨⟨k+1,a',_,c',by omega,rfl,rfl,by omega,by rw[I.o];simp,Aa ⟨?_,?_⟩,bj,bt⟩,by simp only[Ev];omega⟩
   ·rw[I.o]
    exact bx.o
   rw[I.o];simp
  have b5:¬((k:Int)<(L.length:Int)):=by omega
  have b4:k=xs.length:=by omega
  subst b4;have ae:=HF.o;rw[Yg] at ae ⊢;have bn:=Aa ae;clear ae;go_wp2;go_ret3;exact⟨HB.o,.inr ⟨bk.o,_,rfl,bn.o.1⟩⟩
theorem AHX(a:To)(c:Nat)(b:Tv)(w:Tw):Zc 142 #[Zs a 0 c,b] w λe d=>e=Zr (Zi (-1))/\d=w:=by go_enter func142,ntmps142;go_wp2_with fail;refine wp_loop_rounds 1 ?_;rw[rounds_succ];go_wp2;go_ret;exact⟨rfl,rfl⟩
theorem AEa(a:To)(c:Nat)(nm:Tb)(w:Tw):Zc 84 #[Zs a 0 c,Zt nm] w λe g=>e=Zr (Zi (-1))/\Zb w g:=by
 have f:∀(d:Fn)(first b:Array Tv)(w:Tw),(Instr.makeFunc d first b).run prog w=.ok (.func d first b) w:=λ_ _ _ _=>rfl
 go_enter func84,ntmps84;go_wp2_with fail;refine(AHX a c _ _).mono ?_;rintro e h⟨rfl,rfl⟩;go_wp2;go_ret;exact⟨rfl,Zal⟩
theorem AC9(c:Int)(Bl:Tb)(k:Int):Mz [] c Bl k=5:=rfl
theorem ACN(d:To)(f:Nat)(b:Nat)(c:Int)(Bl:Tb)(k n:Int)(t:Tb)(i j:Tv)(w:Tw)(g:w.1[b]? = some (Zk #[Zi c,Zt Bl,Zi k,Zi n,Zt t,i,j] 120)):
 Zc 167 #[Zs d 0 f,Zp (some (Zd b 0))] w (EPost (Mz [] c Bl k) w):=by
 rw[AC9];have h:=Aa (AEa d f Bl w);have c1:w.cell? (Zd b 1)=some (Zt Bl):=S.cell_of_heap g 1;clear g;go_enter func167,ntmps167;go_wp2_with fail;apply h.o.mono;rintro e l⟨rfl,a⟩;go_wp2;go_ret;exact⟨rfl,a⟩
theorem Vz(m:To)(o:Nat):∀(T:S.CT)(v:Tv)(w:Tw),S.Gy w T v ->
 Zc 107 #[Zs m 0 o,v] w (EPost (D4 [] T) w)
 | .nil,v,w,h=>by obtain rfl:v=Zp none:=h;have M:Hid (D4 [] .nil=0):=rfl;rw[M.o];go_enter func107,ntmps107;go_wp2;go_ret;exact⟨rfl,XB _ _⟩
 | .node a0 o0 ⟨c,Bl,k,n,t⟩ x y,v,w,h=>by
   obtain⟨b,z,D,rfl,q,_,J,L⟩:=h;have d:=Aa (λ(W:Tw)(G:Zb w W)=>Vz m o x z W (J.up G))
   have g:=Aa (λ(W:Tw)(G:Zb w W)=>Vz m o y D W (L.up G))
   have f:=Aa (ACN m o b c Bl k n t z D w q);have c0:w.cell? (Zd b 0)=some (Zi c):=S.cell_of_heap q 0;have X:w.cell? (Zd b 5)=some z:=S.cell_of_heap q 5;have I:w.cell? (Zd b 6)=some D:=S.cell_of_heap q 6;have u:b<w.1.size:=E.Ac q;clear q J L;unfold EPost at d g f ⊢
   by_cases i:c=9\/c=10
   ·rw[<-p9 (l:=[]) i]
    clear f;generalize D4 [] x=s at *;generalize D4 [] y=R at *
    by_cases hx:s=0
    ·subst hx
     rw[N7] at d;rw[Yae rfl]
     by_cases hy:R=0
     ·subst hy
      rw[N7] at g ⊢
      rcases i with rfl|rfl
      all_goals
       go_enter func107,ntmps107;go_wp2_with fail;refine(d.o _ (XB _ _)).mono ?_;rintro e r⟨rfl,a⟩;have P:=(a.cell (p:=Zd b 6) u).trans I;go_wp2_with fail;refine(g.o _ a).mono ?_;rintro e U⟨rfl,j⟩;go_wp2;go_ret;exact⟨rfl,Ap a j⟩
     rw[Et hy] at g ⊢
     rcases i with rfl|rfl
     all_goals
      go_enter func107,ntmps107;go_wp2_with fail;refine(d.o _ (XB _ _)).mono ?_;rintro e r⟨rfl,a⟩;have P:=(a.cell (p:=Zd b 6) u).trans I;go_wp2_with fail;refine(g.o _ a).mono ?_;rintro e U⟨rfl,j⟩;go_wp2;go_ret;exact⟨rfl,Ap a j⟩
    rw[Et hx] at d;rw[Yad hx,Et hx]
    rcases i with rfl|rfl
    all_goals
     go_enter func107,ntmps107;go_wp2_with fail;refine(d.o _ (XB _ _)).mono ?_;rintro e r⟨rfl,a⟩;go_wp2;go_ret;exact⟨rfl,a⟩
   by_cases h11:c=11
   ·rw[<-p11 (l:=[]) h11]
    subst h11;clear f g i;generalize D4 [] x=s at *
    by_cases hx:s=0
    ·subst hx
     rw[N7] at d ⊢;go_enter func107,ntmps107;go_wp2_with fail;refine(d.o _ (XB _ _)).mono ?_;rintro e r⟨rfl,a⟩;go_wp2;go_ret;exact⟨rfl,a⟩
    rw[Et hx] at d ⊢;go_enter func107,ntmps107;go_wp2_with fail;refine(d.o _ (XB _ _)).mono ?_;rintro e r⟨rfl,a⟩;go_wp2;go_ret;exact⟨rfl,a⟩
   rw[<-p0 (l:=[]) i h11];have V:(c==9)=false:=by rw[beq_eq_false_iff_ne];omega
   have N:(c==10)=false:=by rw[beq_eq_false_iff_ne];omega
   have O:(c==11)=false:=by rw[beq_eq_false_iff_ne];omega
   clear d g i h11;generalize Mz [] c Bl k=s at *
   by_cases hx:s=0
   ·subst hx
    rw[N7] at f ⊢;go_enter func107,ntmps107;go_wp2_with fail;apply f.o.mono;rintro e r⟨rfl,a⟩;go_wp2;go_ret;exact⟨rfl,a⟩
   rw[Et hx] at f ⊢;go_enter func107,ntmps107;go_wp2_with fail;apply f.o.mono;rintro e r⟨rfl,a⟩;go_wp2;go_ret;exact⟨rfl,a⟩
theorem ABl(c:To)(d:Nat)(T:S.CT)(v:Tv)(w:Tw)(h:S.Gy w T v):
 Zc 61 #[Zs c 0 d,v] w (EPost (Ex [] T) w):=by
 have H1:=Aa (S.Uh T v w h);have H2:=Aa (Vz c d T v w h);clear h;unfold EPost at H2 ⊢;cases hw:S.C9 T 24 with
 | false=>have b:Hid (Ex [] T=1):=Aa (by unfold Ex;rw[Yad (by rw[hw];simp)]);rw[b.o];rw[hw] at H1;clear hw b;go_enter func61,ntmps61;go_wp2_with fail;apply H1.o.mono;rintro e f⟨rfl,rfl⟩;go_wp2;go_ret;exact⟨rfl,XB _ _⟩
 | true=>
   have b:Hid (Ex [] T=D4 [] T):=Aa (by unfold Ex;rw[Yae hw]);rw[b.o];rw[hw] at H1;clear hw b;generalize D4 [] T=g at *
   by_cases hx:g=0
   ·subst hx
    rw[N7] at H2 ⊢;go_enter func61,ntmps61;go_wp2_with fail;apply H1.o.mono;rintro e f⟨rfl,rfl⟩;go_wp2_with fail;apply H2.o.mono;rintro e i⟨rfl,a⟩;go_wp2;go_ret;exact⟨rfl,a⟩
   rw[Et hx] at H2 ⊢;go_enter func61,ntmps61;go_wp2_with fail;apply H1.o.mono;rintro e f⟨rfl,rfl⟩;go_wp2_with fail;apply H2.o.mono;rintro e i⟨rfl,a⟩;go_wp2;go_ret;exact⟨rfl,a⟩
theorem all_none(bb:Nat)(Eb next:Int)(d i:To)(f j:Nat)(T:S.CT)(v:Tv)(w:Tw)(k:S.Gy w T v):
 Zc 29 #[Zp (some (Zd bb 0)),Zg #[Zi Eb,Zs d 0 f,Zi next,Zs i 0 j],v] w (qP [] T [] w):=by
 have c:Hid (Zb w (w.alloc (Zk #[Zi Eb,Zs d 0 f,Zi next,Zs i 0 j] 56))):=Aa (Zal);have h:=Aa (Yac w (Zk #[Zi Eb,Zs d 0 f,Zi next,Zs i 0 j] 56));have a:=Aa (ABl d f T v _ (k.up c.o));unfold qP;unfold EPost at a
 by_cases hce:Ex [] T=0
 rotate_left
 ·rw[Et hce] at a ⊢
  have g:=Aa hce;clear k;generalize Ex [] T=o at *;go_enter func29,ntmps29;go_wp2_with fail;apply a.o.mono;rintro e n⟨rfl,b⟩;go_wp2;go_ret3;exact⟨Ap c.o b,.inl ⟨g.o,rfl⟩⟩
 rw[hce,N7] at a;have g:=Aa hce;clear k hce;go_enter func29,ntmps29;go_wp2_with fail;apply a.o.mono;rintro e n⟨rfl,b⟩;have l:=(b.block w.1.size (by simp)).trans h.o;have m:=S.cell_of_heap l 3;simp at m;go_wp2_with fail;refine wp_loop_rounds 1 ?_;rw[rounds_succ];go_wp2;go_ret3;exact⟨Ap c.o b,.inr ⟨g.o,_,rfl,P6 _ _ _⟩⟩
def Fc(l:List Aj)(xs:List A6):List (List V):=(Bo l .nil xs).1.map (·.2.2)
theorem dB(l:List Aj):Ex l .nil=0:=rfl
structure Xh(D:DataW Unit)(s:Ah)(xs:List A6):Prop where
 qx:xs.map (·.1)=s.qx
 each:∀x∈xs,Gt D x
 Iz:xs.length<=1000
 eight:s.qz.length<=8
 bare:s.qz=[]->s.qx=[]
theorem oS(bb n:Nat)(D:Td)(mv:Tv)(s:Ah)(sv:Tv)(xs:List A6)(T:S.CT)(v:Tv)(w:Tw)(h:Ground w bb n D mv)(u:B.Ob w)(e:S.Lp w)(t:Dl w s sv)(a:Xh D s xs)(k:S.Gy w T v):
 Zc 29 #[Zp (some (Zd bb 0)),sv,v] w (qP s.qz T xs w):=by
 obtain⟨l,c1,f,i,L,rfl,d⟩:=t;cases hc:s.qz with
 | nil=>
   have j:=a.bare hc;have r:L=[]:=by have:=d.qx;rw[j] at this;simpa using this.symm
   have x:xs=[]:=by have:=a.qx;rw[j] at this;simpa using this
   subst r x;exact all_none bb s.Eb s.next l f c1 i T v w k
 | cons c0 l0=>
   have q:1<=s.qz.length:=by rw[hc];simp
   rw[<-hc]
   rcases d.qz.2 with⟨_,y⟩|⟨g,m,o,p,_⟩
   ·omega
   injection p with b _ c;subst b c;exact AFL bb n D mv s g c1 f i L xs T v w h u e d a.qx a.each a.Iz a.eight q k
theorem Sc.base{B n:Nat}{qj:List (List V)}(h:Sc B w v qj)(d:n<=B):Sc n w v qj:=by obtain⟨e,a,b,c⟩:=h;exact⟨e,a,E.Ai b d,c⟩
theorem Sc.snoc{B:Nat}{v v':Tv}{qj:List (List V)}{x:Tv}(g:X.length=qj.length)(i:w.ownsRow B 71 1 v qj.length X)(l:∀(j:Nat)x r,X[j]? = some x->qj[j]? = some r->w.ownsRow 0 67 3 x r.length (E.AKn r))(s:w.ownsRow 0 67 3 x r.length (E.AKn r))(o:w.grownBy W v.ownBlock)(p:W.ownsRow B 71 1 v' (qj.length+1) (X++[x])):Sc B W v' (qj++[r]):=by
 have c:∀{y:Tv}{n:Nat}{h:List Tv},w.ownsRow 0 67 3 y n h->W.ownsRow 0 67 3 y n h:=λa=>Az a o λk c e=>a8 i a (by decide) k e c
 refine⟨X++[x],by simp[g],?_,λj y q a b=>?_⟩
 ·simpa using p
 rcases Yc j X.length with f|d
 ·rw[XF f] at a
  rw[XF (by omega)] at b;exact c (l j y q a b)
 rw[XD d] at a;rw[XD (by omega)] at b;rw[g] at a;cases hj:j-qj.length with
 | zero=>rw[hj] at a b;simp at a b;subst a b;exact c s
 | succ m=>rw[hj] at a;simp at a
theorem ABH(bb n:Nat)(D:Td)(mv:Tv)(H:List (Dn×Ah))(Eb:Int)(d:Nat)(xs:List A6)(w:Tw)(h:Ground w bb n D mv)(he:B.Ob w)(ab:S.Lp w)(hl:U6 D H)(hp:La H)(O5:H.length<=40)(hk:d<=H.length)(hv:(Eb<0/\d=H.length)\/Eb=d)(hT:Xh D (Ae H d) xs):
 Zc 12 #[Zp (some (Zd bb 0)),Zi Eb] w λe w'=>∃v',e=Zr (Zu #[v',Zo true])/\Sc w.1.size w' v' (Fc (Ae H d).qz xs)/\Zb w w':=by
 have O:=Aa (Ua bb n D mv H Eb d w h hl hp O5 hk hv);have o:=Aa (λ(sv:Tv)W(hW:Zb w W)(hS:Dl W (Ae H d) sv)=>oS bb n D mv (Ae H d) sv xs .nil (Zp none) W (h.up hW) (he.below hW) (ab.below hW) hS hT rfl);have P:=Aa (L0 (Ae H d).qz .nil xs hT.each);have a0:=hT.Iz;clear h he ab hl hp hT;unfold qP at o;simp only[dB] at o;unfold Fc;generalize (Bo (Ae H d).qz .nil xs)=AR at *;obtain⟨rs,nr⟩:=AR;generalize Ae H d=sn at *;go_enter func12,ntmps12;go_wp2_with fail;apply O.o.mono;rintro e w1⟨a1,n1,c1,x2,a2,n2,c2,rfl,G,U⟩;unfold K4 at G ⊢;have T:=Aa G;have t:=Aa U;clear G U;have m:Hid (Zb w1 (w1.alloc (Zk #[Zi (d:Int),Zs a1 n1 c1,Zi x2,Zs a2 n2 c2] 56))):=Aa (Zal);go_wp2_with fail;refine(o.o _ _ (Ap t.o m.o) (T.o.up m.o)).mono ?_;rintro e w2⟨V,⟨q,_⟩|⟨_,v2,rfl,ar⟩⟩
 ·exact absurd rfl q
 obtain⟨zs,e1,e2,e3⟩:=ar;obtain⟨fa,fc,rfl,_⟩:=Au e2;have aj:=Aa e1;have ak:=Aa e2;have al:=Aa e3;have L:=Aa (Ap (Ap t.o m.o) V);have a5:rs.length<=60*1000:=by have:=P.o.2;omega
 obtain⟨iC,af,ag,ah,ai⟩:=info_parts eI;have p:=Zy af ag ah ai;clear e1 e2 e3 V T t m o O P af ag ah ai;go_wp2_with fail
 go_loopw [10,11] (λvo vi wr=>∃(k:Nat)(a:To)(c:Nat),k<=rs.length/\vi=Zi (k:Int)/\vo=Zs a k c/\Hid (Sc w2.1.size wr (Zs a k c) ((rs.take k).map (·.2.2)))/\Hid (Zb w2 wr)) (λ_ vi _=>rs.length-Ev vi)
 case atStart=>exact⟨0,none,0,XH _,rfl,rfl,Aa (ABG _ _),Aa (XB _ _)⟩
 case round=>
  obtain⟨k,a,c,hk,rfl,rfl,HO,J⟩:=hrel
  rcases Yc k rs.length with ax|a4
  ·obtain⟨r,hr⟩:∃r,rs[k]? = some r:=⟨_,Y' ax⟩
   obtain⟨z,hz⟩:∃z,zs[k]? = some z:=⟨_,Y' (by have:=aj.o;omega)⟩;obtain⟨_,_,s⟩:=al.o k z r hz hr;have I:=E.Ai s (XH _);clear s;obtain⟨zp,zi,zv⟩:=z;obtain⟨xa,xc,ez,_⟩:=Au I;simp only at ez;subst ez;have l:=E.Ad ak.o J.o
   obtain⟨fb,au,a3,f2⟩:∃fb,fa=some (Zd fb 0)/\fb<wr.1.size/\wr.cell? (Zd fb (k*3+2))=some (Zs xa r.2.2.length xc):=by
    rcases l.2 with⟨_,h0⟩|⟨fb,ay,az,ev,_,hh,_,_,_⟩
    ·omega
    injection ev with aq _ _;subst aq;have hc:=l.cells (g:=fb) rfl;simp only[E.addr_add] at hc;have:=hc (k*3+2) _ (Hi (k:=3) (enc:=Og) (λ_=>rfl) hz (i:=2) rfl);exact⟨fb,rfl,E.Ac hh,by simpa using this⟩
   subst au;have aw:(k:Int)<(rs.length:Int):=by omega
   have ae:rs.take (k+1)=rs.take k++[r]:=S.Cs hr;have ap:Hid ((rs.take (k+1)).map (·.2.2)=(rs.take k).map (·.2.2)++[r.2.2]):=Aa (by rw[ae];simp);have aa:((rs.take k).map (·.2.2)).length=k:=by rw[X6,XQ];omega
   have HX:=Aa (E.Ad I J.o);obtain⟨vs,o1,o2,o3⟩:=HO.o;have am:=Aa o1;have y:=Aa o2;have an:=Aa o3;have N:=Aa aa;have b:Hid (Zb wr (wr.alloc (Zk #[Zs xa r.2.2.length xc] 71))):=Aa (Zal);have ad:=J.o.size;clear ae aa o1 o2 o3 I l
   go_wp2_with (first
    | (at_builtin;refine wpList_append_own _ rfl _ _ 33 rfl w2.1.size 71 iC (.slice none 0 0) 1 24 underlying33 p.o.1 p.o.2.1 p.o.2.2.1 p.o.2.2.2 rfl (by decide) (.slice a k c) k vs rfl (by have q:=E.Ad y.o b.o;rw[N.o] at q;exact q) (Zd wr.1.size 0) 1 1 [.slice xa r.2.2.length xc] rfl rfl (λj u hj=>XK (Yac _ _) j u hj) (by intro u hu;simp at hu;subst hu;rfl) (by unfold maxLen;omega) (by omega) (XL ad b.o.size) ?_
       intro v5 w5 f Y _;have R:=Aa f;have M:=Aa Y;clear f Y))
   obtain⟨a',c',rfl,_⟩:=Au R.o;have X:=Ap J.o b.o;refine⟨⟨k+1,a',c',by omega,by simp,rfl,Aa ?_,Aa ?_⟩,by simp only[Ev];omega⟩
   ·rw[ap.o]
    refine Sc.snoc am.o (E.Ad y.o b.o) (λj x q hx hq=>E.Ad (an.o j x q hx hq) b.o) (E.Ad HX.o b.o) M.o ?_;rw[N.o];exact R.o
   exact X.grown M.o X.size (λj hj=>Fu y.o hj)
  have aw:¬((k:Int)<(rs.length:Int)):=by omega
  have av:k=rs.length:=by omega
  subst av;have v:=HO.o;rw[Yg] at v;have ao:=Aa v;have ac:=L.o.size;clear v;go_wp2;go_ret2;exact⟨_,rfl,ao.o.base ac,Ap L.o J.o⟩
def Nz(v:V):Prop:=v.1=0\/v.1=1\/v.1=2
theorem AD4(D:ALo L p)(v:Kl L)(u:∀c∈l,Nz (bP c))(z:r∈p){s:Tb}(G:Rf l s):S.AJG (I5 L p l s) (Uk l (l.map (pick L r)) s):=by
 obtain⟨j,h,g⟩:∃j:Nat,j<l.length/\Ce l s=j:=by
  rcases Gz l s with⟨g,_⟩|⟨j,h,g,_⟩
  ·unfold Rf at G;omega
  exact⟨j,h,g⟩
 unfold I5 Uk;rw[g,Yad (by omega),XJ];have f:=Y' h
 have e:((l.map (pick L r))[j]?.getD zV)=pick L r (l[j]?.getD zC):=by rw[XN,f];rfl
 rw[e];have i:(l[j]?.getD zC)∈l:=by rw[f];exact Yh h
 generalize (l[j]?.getD zC)=c at *
 have k:(∀x∈p.map (λr=>pick L r c),Nz x)/\∃o,∀x∈p.map (λr=>pick L r c),x.1=0\/x.1=o:=by
  by_cases hp:pos L c.1<L.length
  ·have b:∀x∈p.map (λr=>pick L r c),x.1=0\/x.1=kd (L[pos L c.1]?.getD zC):=λx a=>by
    obtain⟨q,n,rfl⟩:=List.mem_map.1 a;unfold pick;rw[Yae hp];exact AEu ((D q n).2 _ hp).1
   have w:=v _ hp;refine⟨λx a=>?_,_,b⟩;have:=b x a;unfold Nz;omega
  have d:∀x∈p.map (λr=>pick L r c),x=bP c:=λx a=>by obtain⟨q,n,rfl⟩:=List.mem_map.1 a;unfold pick;rw[Yad hp]
  refine⟨λx a=>by rw[d x a];exact u c i,(bP c).1,λx a=>.inr (by rw[d x a])⟩
 obtain⟨t,o,m⟩:=k;refine⟨p.map (λr=>pick L r c),S.AHR _ (λx a=>?_),λx a y hy hx0 hy0=>?_,List.mem_map.2 ⟨r,z,rfl⟩⟩
 ·have:=t x a;unfold Nz at this;omega
 have:=m x a;have:=m y hy;omega
theorem AB6(i:ALo L p)(d:Kl L)(b:∀c∈l,Nz (bP c))(e:r∈p)(g:S.okT T)(a:S.Kg (Rf l) T)(f:S.Bp (I5 L p l) false T=false):¬evR l (l.map (pick L r)) T=1:=λh=>by
 have:=(S.sound (Rf l) (I5 L p l) (Uk l (l.map (pick L r))) (λs j=>AD4 i d b e j) T g a).1 h;rw[f] at this;cases this
theorem AAs(l:List Aj)(r:List V):evR l r .nil=1:=rfl
theorem ABU(gs:Tb->S.St):S.Bp gs false .nil=true:=rfl
def Q9(l:List Aj)(T:S.CT)(f:Px):Bool:=decide (evR l f.2.2 T=1)
theorem lE(qk:Tb)(qv:List Int)(l:List Aj)(T:S.CT):∀(rs:List (List V))(p:Int),Jw qk qv l T p rs=(Jw qk qv l .nil p rs).filter (Q9 l T)
 | [],_=>rfl
 | r :: rs,p=>by
   have a:=lE qk qv l T rs (p+1);simp only[Jw,AAs,and_true]
   by_cases hm:(qv.any λy=>p==y)=false
   ·rw[Yae hm]
    by_cases he:evR l r T=1
    ·rw[Yae ⟨hm,he⟩,XY (by simp[Q9,he]),a]
    rw[Yad (λh=>he h.2),XZ (by simp[Q9,he]),a]
   rw[Yad hm,Yad (λh=>hm h.1),a]
theorem AAv(qk:Tb)(qv:List Int)(l:List Aj)(T:S.CT):∀(rs:List (List V))(p:Int),(∀r∈rs,¬evR l r T=1)->Jw qk qv l T p rs=[]
 | [],_,_=>rfl
 | r :: rs,p,h=>by simp only[Jw];rw[Yad (λq=>h r (Ye ..) q.2)];exact AAv qk qv l T rs (p+1) λq a=>h q (Yd _ a)
theorem lJ(qk:Tb)(qv:List Int)(l:List Aj)(T:S.CT)(a:List Aj)(i:Kl a)(g:∀c∈l,Nz (bP c))(j:S.okT T)(e:S.Kg (Rf l) T):∀(b:List (List (List V)))(f:Int),(∀p∈b,ALo a p)->(Oe qk qv l T a f b).1=(Oe qk qv l .nil a f b).1.filter (Q9 l T)/\(Oe qk qv l T a f b).2<=(Oe qk qv l .nil a f b).2
 | [],_,_=>⟨rfl,XA _⟩
 | p :: b,f,h=>by
   obtain⟨n,o⟩:=lJ qk qv l T a i g j e b (f+p.length) λq d=>h q (Yd _ d)
   simp only[Oe,ABU,if_true];rw[WB,<-n,<-lE];cases hm:S.Bp (I5 a p l) false T with
   | true=>exact⟨by simp,by simp only[if_true];omega⟩
   | false=>
     have m:=AAv qk qv l T (Cw a l p) f λr k=>by obtain⟨q,d,rfl⟩:=List.mem_map.1 k;exact AB6 (h p (Ye ..)) i g d j e hm
     rw[m];exact⟨by simp,by simp;omega⟩
theorem all_filter{D:Td}(l:List Aj)(T:S.CT)(b:∀c∈l,Nz (bP c))(d:S.okT T)(a:Ex l T=0):∀xs:List A6,(∀x∈xs,Gt D x)->(Bo l T xs).1=(Bo l .nil xs).1.filter (Q9 l T)/\(Bo l T xs).2<=(Bo l .nil xs).2
 | [],_=>⟨rfl,XA _⟩
 | x :: xs,h=>by
   obtain⟨e,g⟩:=all_filter l T b d a xs λy hy=>h y (Yd _ hy)
   have O:=(opened (h x (Ye ..)).ok (h x (Ye ..)).i64).1;obtain⟨f,i⟩:=lJ x.1.1 x.1.2.2 l T (By x.2.1) O.kinds b d (gP a).1 (parts x.2.2) 0 λp hp=>(O.each p hp).1
   simp only[Bo,N9,WB,<-e,<-f];exact⟨trivial,by omega⟩
theorem fA(qk:Tb)(qv:List Int)(l:List Aj)(T:S.CT):∀(a b:List (List V))(p:Int),Jw qk qv l T p (a++b)=Jw qk qv l T p a++Jw qk qv l T (p+a.length) b
 | [],b,p=>by simp[Jw]
 | r :: a,b,p=>by
   have c:=fA qk qv l T a b (p+1);have e:p+1+(a.length:Int)=p+((r :: a).length:Int):=by simp only[XI];omega
   rw[e] at c;simp only[XO,Jw,c];split <;> simp
theorem dP(c l:List Aj)(a b:List (List V)):Cw c l (a++b)=Cw c l a++Cw c l b:=by simp[Cw]
theorem J2(b l:List Aj)(a:List (List V)):(Cw b l a).length=a.length:=by simp[Cw]
theorem vB(qk:Tb)(qv:List Int)(l b:List Aj):∀(a:List (List (List V)))(f:Int),Oe qk qv l .nil b f a=(Jw qk qv l .nil f (Cw b l a.flatten),a.length)
 | [],_=>rfl
 | p :: a,f=>by have c:=vB qk qv l b a (f+p.length);simp only[Oe,ABU,if_true,c,WC,dP,fA,J2,XI]
def E4(l:List Aj)(x:A6):List Px:=Jw x.1.1 x.1.2.2 l .nil 0 (Cw (By x.2.1) l x.2.2)
theorem zN(l:List Aj)(x:A6):(N9 l .nil x).1=E4 l x:=by unfold N9 E4;rw[vB,V2]
theorem H9(l:List Aj):∀xs:List A6,(Bo l .nil xs).1=xs.flatMap (E4 l)
 | []=>rfl
 | x :: xs=>by simp only[Bo,zN,H9 l xs,WD]
theorem sW(l:List Aj)(xs:List A6):Fc l xs=(xs.flatMap (E4 l)).map (·.2.2):=by unfold Fc;rw[H9]
theorem AHe(qk:Tb)(qv a m:List Int)(l:List Aj)(c:∀y,y∈a↔y∈qv\/y∈m):∀(rs:List (List V))(p:Int),Jw qk a l .nil p rs=(Jw qk qv l .nil p rs).filter λz=>!(m.any λy=>z.2.1==y)
 | [],_=>rfl
 | r :: rs,p=>by
   have g:=AHe qk qv a m l c rs (p+1)
   have b:∀q:List Int,((q.any λy=>p==y)=false)↔¬p∈q:=λq=>by
    constructor
    ·intro h d
     have:=List.any_eq_false.mp h p d;simp at this
    intro h;rw[WE];intro y f e;simp at e;subst e;exact h f
   simp only[Jw,AAs,and_true,b,g]
   by_cases h1:p∈qv
   ·rw[Yad (λh=>h ((c p).mpr (.inl h1))),Yad (λh=>h h1)]
   rw[Yae h1]
   by_cases h2:p∈m
   ·rw[Yad (λh=>h ((c p).mpr (.inr h2))),XZ (by
     have:¬((m.any λy=>p==y)=false):=λh=>(b m).mp h h2
     simpa using this)]
   rw[Yae (λh=>by rcases (c p).mp h with h|h <;> contradiction),XY (by have:=(b m).mpr h2;simpa using this)]
theorem Pv(qk:Tb)(qv:List Int)(l:List Aj)(T:S.CT):∀(rs:List (List V))(p:Int),(∀z∈Jw qk qv l T p rs,z.1=qk/\p<=z.2.1/\z.2.1<p+rs.length/\¬z.2.1∈qv)/\(Jw qk qv l T p rs).Pairwise λa b=>a.2.1<b.2.1
 | [],_=>⟨λz e=>(by cases e),List.Pairwise.nil⟩
 | r :: rs,p=>by
   obtain⟨g,i⟩:=Pv qk qv l T rs (p+1)
   have f:∀z∈Jw qk qv l T (p+1) rs,z.1=qk/\p<=z.2.1/\z.2.1<p+((r :: rs).length:Int)/\¬z.2.1∈qv:=λz e=>by obtain⟨a,b,c,d⟩:=g z e;simp only[XI];exact⟨a,by omega,by omega,d⟩
   simp only[Jw];split
   ·next h=>
    refine⟨λz e=>?_,List.Pairwise.cons (λz e=>?_) i⟩
    ·rcases List.mem_cons.1 e with rfl|e
     ·refine⟨rfl,Int.le_refl _,by simp only[XI];omega,λj=>?_⟩
      have:=List.any_eq_false.mp h.1 p j;simp at this
     exact f z e
    have:=(g z e).2.1;show p<z.2.1;omega
   exact⟨f,i⟩
def Ct(l:List Aj)(T:S.CT)(x:A6):List Int:=((E4 l x).filter (Q9 l T)).map (·.2.1)
def pO(l:List Aj)(T:S.CT)(x:A6):Option A6 :=
 if Ct l T x=[] then some x
 else if (Ct l T x).length=(E4 l x).length then none
 else some (N6 x.1 (Ct l T x),x.2)
theorem mD{a b:List Vc}{e:Vc}(j:((a++e :: b).map (·.1)).Nodup):Bt (a++e :: b) e.1=a.length:=by
 rcases J8 (a++e :: b) e.1 with⟨_,h⟩|⟨k,g,h,f,l⟩
 ·have:=h a.length (by simp)
  rw[getElem!_pos _ _ (by simp)] at this;simp at this
 rw[h];rw[getElem!_pos _ k g] at f;have d:k<((a++e :: b).map (·.1)).length:=by simpa using g
 have c:a.length<((a++e :: b).map (·.1)).length:=by simp
 have i:=List.pairwise_iff_getElem.mp j
 rcases Y6 k a.length with h|h|h
 ·exact absurd (by simp only[X2];rw[f];simp) (i k a.length d c h)
 ·omega
 exact absurd (by simp only[X2];rw[f];simp) (i a.length k c d h)
def Vm(l:List Aj)(T:S.CT)(x:A6):List ADV :=
 if Ct l T x=[] then []
 else if (Ct l T x).length=(E4 l x).length then [(2,x.1.1,0,[],[],0)]
 else [(3,x.1.1,0,Ct l T x,[],0)]
theorem O6(l:List Aj)(T:S.CT)(x:A6)(g:x.1.2.1=x.2.2.length):Ma (-1) x.1.2.1 (Ct l T x)/\aK (Ct l T x) x.1.2.2=false:=by
 obtain⟨a,d⟩:=Pv x.1.1 x.1.2.2 l .nil (Cw (By x.2.1) l x.2.2) 0;rw[J2] at a;refine⟨⟨?_,λy b=>?_⟩,?_⟩
 ·unfold Ct
  rw[List.pairwise_map];exact d.filter _
 ·obtain⟨z,c,rfl⟩:=List.mem_map.1 b
  have:=a z (List.mem_filter.1 c).1;omega
 unfold aK;rw[WE];intro y b e;obtain⟨z,c,rfl⟩:=List.mem_map.1 b;have:=(a z (List.mem_filter.1 c).1).2.2.2;rw[List.any_eq_true] at e;obtain⟨u,f,e⟩:=e;simp at e;subst e;exact this f
theorem ADz{qj:Int}(h:Ma (-1) qj m)(a:m≠[]):Dj m qj=true:=by
 unfold Dj;rw[(Mr qj m (-1)).mpr h];cases m with
 | nil=>exact absurd rfl a
 | cons=>simp
section
variable {nb : ByteArray → Bool} {cb : ByteArray → Bool} {fb : Int → Int → Int → ByteArray → Bool}
theorem Sp(l:List Aj)(T:S.CT):∀(xs:List A6)(done tail:List Vc)(s:Ah),s.qx=done++xs.map (·.1)++tail->(s.qx.map (·.1)).Nodup->(∀x∈xs,x.1.2.1=x.2.2.length) ->
 Il nb cb fb s (xs.flatMap (Vm l T)) ⟨s.Eb,s.qz,s.next,done++(xs.filterMap (pO l T)).map (·.1)++tail⟩
 | [],done,tail,s,hf,_,_=>by simp only[List.flatMap_nil,Il,List.filterMap_nil];rw[<-hf]
 | x :: xs,done,tail,s,hf,hn,hr=>by
   have a:s.qx=done++x.1 :: (xs.map (·.1)++tail):=by rw[hf];simp
   have f:=hn;rw[a] at f;have i:Bt s.qx x.1.1=done.length:=by rw[a];exact mD f
   have b:s.qx[done.length]! = x.1:=by rw[a,getElem!_pos _ _ (by simp)];simp
   have m:=hr x (Ye ..);have c:∀y∈xs,y.1.2.1=y.2.2.length:=λy n=>hr y (Yd _ n)
   obtain⟨j,k⟩:=O6 l T x m;rw[WD]
   by_cases c1:Ct l T x=[]
   ·have d:Vm l T x=[]:=by unfold Vm;rw[Yae c1]
    have e:pO l T x=some x:=by unfold pO;rw[Yae c1]
    have g:=Sp l T xs (done++[x.1]) tail s (by rw[hf];simp) hn c;rw[d,YP,e];simpa using g
   by_cases c2:(Ct l T x).length=(E4 l x).length
   ·have d:Vm l T x=[(2,x.1.1,0,[],[],0)]:=by unfold Vm;rw[Yad c1,Yae c2]
    have e:pO l T x=none:=by unfold pO;rw[Yad c1,Yae c2]
    have h:s.qx.eraseIdx (Bt s.qx x.1.1).toNat=done++xs.map (·.1)++tail:=by rw[i,XJ,a,List.eraseIdx_append_of_length_le (XA _)];simp
    have g:=Sp l T xs done tail ⟨s.Eb,s.qz,s.next,done++xs.map (·.1)++tail⟩ rfl (by refine List.Sublist.nodup ?_ hn;rw[<-h];exact(YN _ _).map _) c
    rw[d,YP,e];refine⟨_,.inr (.inl ⟨rfl,by show 0<=Bt s.qx x.1.1;omega,rfl⟩),?_⟩;unfold tI;simp only;rw[h];exact g
   have d:Vm l T x=[(3,x.1.1,0,Ct l T x,[],0)]:=by unfold Vm;rw[Yad c1,Yad c2]
   have e:pO l T x=some (N6 x.1 (Ct l T x),x.2):=by unfold pO;rw[Yad c1,Yad c2]
   have h:s.qx.set (Bt s.qx x.1.1).toNat (N6 s.qx[(Bt s.qx x.1.1).toNat]! (Ct l T x))=(done++[N6 x.1 (Ct l T x)])++xs.map (·.1)++tail:=by rw[i,XJ,b,a,YA _ _ (XA _)];simp
   have g:=Sp l T xs (done++[N6 x.1 (Ct l T x)]) tail ⟨s.Eb,s.qz,s.next,(done++[N6 x.1 (Ct l T x)])++xs.map (·.1)++tail⟩ rfl (by rw[a] at hn;simpa[N6] using hn) c
   rw[d,YP,e];refine⟨_,.inr (.inr (.inl ⟨rfl,⟨by show 0<=Bt s.qx x.1.1;omega,?_,?_⟩,rfl⟩)),?_⟩
   ·show Dj (Ct l T x) (s.qx[(Bt s.qx x.1.1).toNat]!).2.1=true
    rw[i,XJ,b];exact ADz j c1
   ·show aK (Ct l T x) (s.qx[(Bt s.qx x.1.1).toNat]!).2.2=false
    rw[i,XJ,b];exact k
   unfold gJ;simp only;rw[h];simpa using g
theorem qO:∀(es tail:List Vc)(s:Ah),s.qx=es++tail->(s.qx.map (·.1)).Nodup->Il nb cb fb s (es.map λe=>(2,e.1,0,[],[],0)) ⟨s.Eb,s.qz,s.next,tail⟩
 | [],tail,s,hf,_=>by simp only[List.map_nil,Il];simp at hf;rw[<-hf]
 | e :: es,tail,s,hf,hn=>by
   have d:Bt s.qx e.1=0:=by have:=mD (a:=[]) (b:=es++tail) (e:=e) (by rw[hf] at hn;simpa using hn);rw[hf];simpa using this
   have c:s.qx.eraseIdx (Bt s.qx e.1).toNat=es++tail:=by rw[d,hf];simp
   have f:=qO es tail ⟨s.Eb,s.qz,s.next,es++tail⟩ rfl (by rw[hf] at hn;simpa using (List.nodup_cons.mp (by simpa using hn)).2);refine⟨_,.inr (.inl ⟨rfl,by show 0<=Bt s.qx e.1;omega,rfl⟩),?_⟩;unfold tI;simp only;rw[c];exact f
end
def mst(c:Aj):Bool:=c.2.2.2.1
theorem jL:∀{l:List Aj}{r:List V},r.length=l.length->(Ia l r=0↔∀i,i<l.length->Lx (l[i]?.getD zC) (r[i]?.getD zV)=true/\(mst (l[i]?.getD zC)=true->(r[i]?.getD zV).1≠0))
 | [],[],_=>by simp[Ia]
 | [],_ :: _,h=>by simp at h
 | _ :: _,[],h=>by simp at h
 | c :: l,v :: r,h=>by
   have g:=jL (l:=l) (r:=r) (by simpa using h);unfold Ia;constructor
   ·intro a i b
    by_cases h1:Lx c v=false
    ·rw[Yae h1] at a;exact absurd a (by decide)
    rw[Yad h1] at a
    by_cases h2:(c.2.2.2.1 && v.1==0)=true
    ·rw[Yae h2] at a;exact absurd a (by decide)
    rw[Yad h2] at a;cases i with
    | zero=>
      refine⟨by simpa using h1,λj e=>h2 ?_⟩;simp at e;have d:c.2.2.2.1=true:=by simpa[mst] using j
      rw[d,e];rfl
    | succ i=>simpa using g.mp a i (by simpa using b)
   intro a;have f:=a 0 (by simp);simp at f
   rw[Yad (by simp[f.1]),Yad (λe=>by simp at e;exact f.2 e.1 e.2)]
   exact g.mpr λi b=>by simpa using a (i+1) (by simpa using b)
theorem O7:Hu l r=0↔r.length=l.length/\∀i,i<l.length->Lx (l[i]?.getD zC) (r[i]?.getD zV)=true/\(mst (l[i]?.getD zC)=true->(r[i]?.getD zV).1≠0):=by
 unfold Hu
 by_cases h:r.length=l.length
 ·rw[Yae h,jL h];simp[h]
 rw[Yad h];simp[h]
structure Lk(fl l:List Aj):Prop where
 same:∀c∈l,∀d∈fl,d.1=c.1->kd d=kd c/\mst d=mst c
 late:∀c∈l,(∀d∈fl,d.1≠c.1)->mst c=true->(bP c).1≠0
theorem ADh(l:List Aj):ids (By l)=ids l:=by simp[ids,By,qN]
theorem eV(a:List Aj)(r:List V)(c:Aj):pick (By a) r c=pick a r c:=by unfold pick pos;rw[ADh];simp[By]
theorem pos_at{id:Int}(h:pos l id<l.length):(l[pos l id]?.getD zC).1=id/\(l[pos l id]?.getD zC)∈l:=by
 rw[Y' h];refine⟨?_,Yh h⟩;unfold pos at h ⊢;have b:(ids l).idxOf id<(ids l).length:=by simpa[ids] using h
 have a:(ids l)[(ids l).idxOf id]=id:=List.getElem_idxOf b;simp only[ids,X2] at a;exact a
theorem AIo{id:Int}(h:¬pos l id<l.length):∀d∈l,d.1≠id:=λd a e=>h (by
 unfold pos;have:id∈ids l:=List.mem_map.2 ⟨d,a,e⟩;have:=List.idxOf_lt_length_of_mem this;simpa[ids] using this)
theorem kA(g:Lk L l)(m:Hu L r=0)(k:∀c∈l,Lx c (bP c)=true):Hu l (l.map (pick (By L) r))=0:=by
 obtain⟨p,j⟩:=O7.mp m;rw[O7];refine⟨by simp,λi f=>?_⟩;have h:=Y' f;have b:(l[i]?.getD zC)∈l:=by rw[h];exact Yh f
 have e:((l.map (pick (By L) r))[i]?.getD zV)=pick L r (l[i]?.getD zC):=by rw[XN,h];exact eV L r _
 rw[e];generalize (l[i]?.getD zC)=c at *;unfold pick
 by_cases hp:pos L c.1<L.length
 ·rw[Yae hp]
  obtain⟨n,o⟩:=pos_at hp;obtain⟨s1,s2⟩:=g.same c b _ o n;obtain⟨a,d⟩:=j _ hp;unfold Lx at a ⊢;rw[s1] at a;rw[s2] at d;exact⟨a,d⟩
 rw[Yad hp];exact⟨k c b,g.late c b (AIo hp)⟩
theorem Lk.self(g:l.Pairwise λa b=>a.1≠b.1):Lk l l:=by
 refine⟨λc f d n e=>?_,λc f h=>absurd rfl (h c f)⟩
 have:d=c:=by
  obtain⟨i,k,rfl⟩:=List.mem_iff_getElem.mp f;obtain⟨j,m,rfl⟩:=List.mem_iff_getElem.mp n;rw[Yv] at g
  rcases Y6 i j with h|h|h
  ·exact absurd e.symm (g i j k m h)
  ·subst h;rfl
  exact absurd e (g j i m k h)
 rw[this];exact⟨rfl,rfl⟩
theorem Lk.sub{L l l':List Aj}(h:Lk L l)(b:∀c∈l',c∈l):Lk L l':=⟨λc a=>h.same c (b c a),λc a=>h.late c (b c a)⟩
theorem Lk.more{c:Aj}(h:Lk L l)(g:∀d∈L,d.1≠c.1)(f:mst c=true->(bP c).1≠0):Lk L (l++[c]):=by
 refine⟨λx a d b e=>?_,λx a hz=>?_⟩
 ·rcases List.mem_append.1 a with a|a
  ·exact h.same x a d b e
  simp at a;subst a;exact absurd e (g d b)
 rcases List.mem_append.1 a with a|a
 ·exact h.late x a hz
 simp at a;subst a;exact f
theorem Lk.named{L l l':List Aj}(h:Lk L l)(i:∀c∈l',∃d∈l,d.1=c.1/\d.2.2=c.2.2):Lk L l':=by
 refine⟨λc f x j e=>?_,λc f hz=>?_⟩
 ·obtain⟨d,g,a,b⟩:=i c f
  have:=h.same d g x j (by rw[e,a]);unfold kd mst at this ⊢;rw[b] at this;exact this
 obtain⟨d,g,a,b⟩:=i c f;have:=h.late d g (λy k=>by rw[a];exact hz y k);unfold bP mst at this ⊢;rw[b] at this;exact this
section
variable {nb : ByteArray → Bool} {cb : ByteArray → Bool} {fb : Int → Int → Int → ByteArray → Bool}
end
structure C7(D:DataW Unit)(s:Ah)(xs:List A6):Prop where
 Lz:Xh D s xs
 link:∀x∈xs,Lk x.2.1 s.qz
 below:∀x∈xs,∀d∈x.2.1,d.1<s.next
 qj:∀x∈xs,x.1.2.1=x.2.2.length
def R6(D:DataW Unit)(H:List (Dn×Ah)):Prop:=∀k,k<=H.length->∃xs,C7 D (Ae H k) xs
theorem Gt.put{D:Td}{x:A6}(h:Gt D x){s:Tb}(b:Maps.has D (B.lit s)=false)(v:Td):Gt (D.put (B.lit s) v) x:=by
 have a:B.lit (Eh x.1.1)≠B.lit s:=λe=>by have:=h.has;rw[e,b] at this;cases this
 exact⟨by rw[Maps.has_put_other a];exact h.has,by rw[Maps.atKey_put_other a];exact h.Gw,h.ok,h.i64,h.name,h.qv⟩
theorem Xh.put{D:Td}{s:Ah}{xs:List A6}(h:Xh D s xs){t:Tb}(a:Maps.has D (B.lit t)=false)(v:Td):Xh (D.put (B.lit t) v) s xs :=
 ⟨h.qx,λx b=>(h.each x b).put a v,h.Iz,h.eight,h.bare⟩
theorem C7.put{D:Td}{s:Ah}{xs:List A6}(h:C7 D s xs){t:Tb}(a:Maps.has D (B.lit t)=false)(v:Td):C7 (D.put (B.lit t) v) s xs :=
 ⟨h.Lz.put a v,h.link,h.below,h.qj⟩
theorem R6.put{D:Td}{H:List (Dn×Ah)}(h:R6 D H){s:Tb}(b:Maps.has D (B.lit s)=false)(v:Td):R6 (D.put (B.lit s) v) H:=λk a=>by
 obtain⟨xs,c⟩:=h k a;exact⟨xs,c.put b v⟩
theorem tG(p:Tb)(i:Nat):Eh p≠Ek i:=λe=>by
 have h:=congrArg (λb:Tb=>b.1.toList[0]?) e;simp[Eh,Ek,AAe] at h
theorem ACQ(h:U6 D H)(p:Tb)(v:Td):U6 (D.put (B.lit (Eh p)) v) H:=by
 refine⟨h.1.put _ _,λi b=>?_⟩;have a:B.lit (Ek (i+1))≠B.lit (Eh p):=λe=>tG p (i+1) (B.Jr e).symm
 rw[Maps.has_put_other a,Maps.atKey_put_other a];exact h.2 i b
theorem xA{x:Dn×Ah}{k:Nat}(a:k<=H.length):Ae (H++[x]) k=Ae H k:=by unfold Ae;rw[Yy a]
theorem AAM{x:Dn×Ah}:Ae (H++[x]) (H.length+1)=x.2:=by
 have:Ae (H++[x]) (H++[x]).length=x.2:=by rw[bR,Re]
 simpa using this
theorem R6.snoc(h:R6 D H){c:Dn}{t:Ah}{b:List A6}(f:C7 D t b):R6 D (H++[(c,t)]):=λk d=>by
 rcases Yc H.length k with a|a
 ·have e:k=H.length+1:=by simp at d;omega
  subst e;rw[AAM];exact⟨b,f⟩
 rw[xA a];exact h k a
theorem R0(h:Ma (-1) n m)(a:n<=60):m.length<=60:=by have:=fO n ((Mr n m (-1)).mpr h);omega
theorem C7.go{xs:List A6}(h:C7 D s xs)(g:Good Bv Cm s)(T:S.CT)(Eb:Int):C7 D ⟨Eb,s.qz,s.next,(xs.filterMap (pO s.qz T)).map (·.1)⟩ (xs.filterMap (pO s.qz T)):=by
 have c:∀y∈xs.filterMap (pO s.qz T),∃x∈xs,(y=x\/y=(N6 x.1 (Ct s.qz T x),x.2)):=λy b=>by
  obtain⟨x,a,e⟩:=List.mem_filterMap.1 b;refine⟨x,a,?_⟩;unfold pO at e;split at e
  ·injection e with e;exact .inl e.symm
  split at e
  ·cases e
  injection e with e;exact .inr e.symm
 refine⟨⟨rfl,λy b=>?_,XL (List.length_filterMap_le _ _) h.Lz.Iz,h.Lz.eight,λe=>?_⟩,λy b=>?_,λy b=>?_,λy b=>?_⟩
 ·obtain⟨x,a,rfl|rfl⟩:=c y b
  ·exact h.Lz.each _ a
  have f:=h.Lz.each x a;refine⟨f.has,f.Gw,f.ok,f.i64,f.name,?_⟩;show (Go.Proofs.YthafikkkjfielaaGreatDoor.Ir (x.1.2.2++Ct s.qz T x)).length<=1000;have d:x.1∈s.qx:=by rw[<-h.Lz.qx];exact List.mem_map.2 ⟨x,a,rfl⟩
  have i:=R0 (g.Cl _ d) (g.qj _ d);have j:=R0 (O6 s.qz T x (h.qj x a)).1 (g.qj _ d);rw[Go.Proofs.YthafikkkjfielaaGreatDoor.Ml,XT];omega
 ·have:xs=[]:=by
   have:=h.Lz.qx;rw[h.Lz.bare e] at this;simpa using this
  subst this;rfl
 ·obtain⟨x,a,rfl|rfl⟩:=c y b
  ·exact h.link _ a
  exact h.link x a
 ·obtain⟨x,a,rfl|rfl⟩:=c y b
  ·exact h.below _ a
  exact h.below x a
 obtain⟨x,a,rfl|rfl⟩:=c y b
 ·exact h.qj _ a
 exact h.qj x a
theorem C7.add{xs:List A6}(h:C7 D s xs){qk:Tb}{qj:List (List V)}(k:Gt D ((qk,(qj.length:Int),[]),s.qz,qj))(o:∀d∈s.qz,d.1<s.next)(p:xs.length<1000)(Eb:Int):C7 D ⟨Eb,s.qz,s.next,s.qx++[(qk,(qj.length:Int),[])]⟩ (xs++[((qk,(qj.length:Int),[]),s.qz,qj)]):=by
 have g:=(B4.mp k.ok).1;have f:s.qz≠[]:=λe=>by have:=g.one;simp[e] at this
 refine⟨⟨by rw[List.map_append,h.Lz.qx];rfl,λy a=>?_,by simp;omega,h.Lz.eight,λe=>absurd e f⟩,λy a=>?_,λy a=>?_,λy a=>?_⟩
 ·rcases List.mem_append.1 a with a|a
  ·exact h.Lz.each y a
  simp at a;subst a;exact k
 ·rcases List.mem_append.1 a with a|a
  ·exact h.link y a
  simp at a;subst a;refine Lk.self ?_;rw[Yv];intro i j b l c;have:=g.once i j c l;show (s.qz[i]).1≠(s.qz[j]).1;have m:(s.qz[i]?.getD zC)=s.qz[i]:=by rw[Y' b];rfl
  have n:(s.qz[j]?.getD zC)=s.qz[j]:=by rw[Y' l];rfl
  show s.qz[i].1≠s.qz[j].1
  change (s.qz[i]?.getD zC).1≠(s.qz[j]?.getD zC).1 at this
  rw[m,n] at this;exact this
 ·rcases List.mem_append.1 a with a|a
  ·exact h.below y a
  simp at a;subst a;exact o
 rcases List.mem_append.1 a with a|a
 ·exact h.qj y a
 simp at a;subst a;rfl
theorem C7.qz{xs:List A6}(h:C7 D s xs){next:Int}(a:l.length<=8)(c:l≠[])(b:∀x∈xs,Lk x.2.1 l)(f:s.next<=next)(Eb:Int):C7 D ⟨Eb,l,next,s.qx⟩ xs :=
 ⟨⟨h.Lz.qx,h.Lz.each,h.Lz.Iz,a,λe=>absurd e c⟩,b,λx hx d hd=>by have:=h.below x hx d hd;show d.1<next;omega,h.qj⟩
theorem C7.right{xs:List A6}(h:C7 D s xs)(g:∀c∈s.qz,Lx c (bP c)=true):∀r∈Fc s.qz xs,Hu s.qz r=0:=λr d=>by
 rw[sW] at d;obtain⟨z,a,rfl⟩:=List.mem_map.1 d;obtain⟨x,f,b⟩:=List.mem_flatMap.1 a
 have i:∀(rs:List (List V))(p:Int),∀z∈Jw x.1.1 x.1.2.2 s.qz .nil p rs,z.2.2∈rs:=λrs=>by
  induction rs with
  | nil=>intro p z a;cases a
  | cons r rs ih=>
    intro p z a;simp only[Jw] at a;split at a
    ·rcases List.mem_cons.1 a with rfl|a
     ·exact Ye ..
     exact Yd _ (ih _ z a)
    exact Yd _ (ih _ z a)
 obtain⟨q,j,e⟩:=List.mem_map.1 (i _ _ z b);rw[<-e];exact kA (h.link x f) ((B4.mp (h.Lz.each x f).ok).2.2.2 q j) g
theorem AJm(a b:Tv)(r:List V)(w:Tw)(d:E.Sl w a r)(f:E.Sl w b r)(g:r.length<=1000):
 Zc 31 #[a,b] w λe i=>e=Zr (Zo true)/\Zb w i:=by
 have c:=Aa (E.AJA a b r r w d f g g);rw[decide_eq_true rfl] at c;clear d f;go_enter func31,ntmps31;go_wp2_with fail;apply c.o.mono;rintro e j⟨rfl,h⟩;go_wp2;go_ret;exact⟨rfl,h⟩
theorem AGn(p q:Tv)(l:List (List V))(w:Tw)(h:iJ w p l)(i:iJ w q l)(O:l.length<=1000000)(b:∀r∈l,r.length<=1000):
 Zc 30 #[p,q,.func (.func 31) #[] #[]] w λe v=>e=Zr (Zo true)/\Zb w v:=by
 have H1:=Aa h;have H2:=Aa i;have s:=Aa b;obtain⟨z,c1,rfl,_⟩:=h.slice;obtain⟨D,J,rfl,_⟩:=i.slice;clear h i b;go_enter func30,ntmps30;go_wp2
 go_loopw [17] (λo wr=>∃k:Nat,k<=l.length/\o=Zi k/\Hid (Zb w wr)) (λo _=>l.length-(intOf o).toNat)
 case atStart=>exact⟨0,XH _,rfl,Aa (XB _ _)⟩
 case round=>
  obtain⟨k,N,rfl,a⟩:=hrel
  by_cases hlt:k<l.length
  ·obtain⟨r,b⟩:∃r,l[k]? = some r:=⟨_,Y' hlt⟩
   obtain⟨G,P,L,x,t,_,T,s1⟩:=(H1.o.up a.o).at b;obtain⟨I,R,M,y,u,_,U,s2⟩:=(H2.o.up a.o).at b;injection t with e11 _ d;injection u with f _ g;subst e11 d f g;have c:=Aa (AJm x y r wr s1 s2 (s.o r (XE b)));obtain⟨X,Y,rfl,_⟩:=id s1;obtain⟨ya,yc,rfl,_⟩:=id s2;have n:(k:Int)<(l.length:Int):=by omega
   clear b s1 s2;go_wp2_with fail;apply c.o.mono;rintro e W⟨rfl,j⟩;have m:=Ap a.o j;go_wp2;exact⟨⟨k+1,by omega,by go_num,Aa m⟩,by simp[intOf];omega⟩
  have n:¬(k:Int)<(l.length:Int):=by omega
  go_wp2;go_ret;exact⟨rfl,a.o⟩
theorem ACk(a b:Tv)(l:List (List V))(w:Tw)(c:iJ w a l)(d:iJ w b l)(f:l.length<=1000000)(g:∀r∈l,r.length<=1000):
 Zc 13 #[a,b] w λe j=>e=Zr (Zo true)/\Zb w j:=by
 have h:=Aa (AGn a b l w c d f g);clear c d g f;go_enter func13,ntmps13;go_wp2_with fail;apply h.o.mono;rintro e k⟨rfl,i⟩;go_wp2;go_ret;exact⟨rfl,i⟩
theorem qQ(bb n:Nat)(D:Td)(mv:Tv)(H:List (Dn×Ah))(w:Tw)(h:Ground w bb n D mv)(f:U6 D H)(g:La H)(O5:H.length<=40):
 Zc 15 #[Zp (some (Zd bb 0))] w λe i=>e=Zr (Zi (H.length:Int))/\Zb w i:=by
 have c:=Aa (Ua bb n D mv H (-1) H.length w h f g O5 (XA _) (.inl ⟨by decide,rfl⟩));clear h f g;go_enter func15,ntmps15;go_wp2_with fail;apply c.o.mono;rintro e m⟨j,n1,c1,o,k,n2,l,rfl,d,b⟩;unfold K4;clear d;have a:=Aa b;clear b;go_wp2;go_ret;exact⟨rfl,a.o.alloc a.o.size _⟩
def wK(i:Nat):ByteArray:=⟨#[116,UInt8.ofNat (97+i % 26),UInt8.ofNat (97+i / 26 % 26)]⟩
theorem AAm{x:Nat}(h:x<256):((UInt8.ofNat x).toNat:Int)=(x:Int):=by rw[UInt8.toNat_ofNat'];omega
theorem AJt(i:Nat)(w:Tw):(convert 90 9 (Zs (some (Zd w.1.size 0)) 2 2)).run prog (w.alloc (Zk #[.int .u8 (97+(i:Int) % 26),.int .u8 (97+(i:Int) / 26 % 26)] 5))=.ok (Zt ⟨#[UInt8.ofNat (97+i % 26),UInt8.ofNat (97+i / 26 % 26)]⟩) (w.alloc (Zk #[.int .u8 (97+(i:Int) % 26),.int .u8 (97+(i:Int) / 26 % 26)] 5)) :=
 run_convert_bytes_back _ 90 9 5 (Zd w.1.size 0) 2 [UInt8.ofNat (97+i % 26),UInt8.ofNat (97+i / 26 % 26)] underlying90 underlying5 underlying9 (λj c=>by
  have a:=AAm (x:=97+i % 26) (by omega);have b:=AAm (x:=97+i / 26 % 26) (by omega)
  match j,c with
  | 0,_=>simp[Addr.add,X'];push_cast at a;omega
  | 1,_=>simp[Addr.add,X'];push_cast at b;omega)
theorem ADi(i:Nat)(f:i<=600)(w:Tw):
 Zc 9 #[Zi (i:Int)] w λe d=>e=Zr (Zt (wK i))/\Zb w d:=by
 have c:=AJt i w;have a:Hid ((⟨#[116]⟩:Tb)++⟨#[UInt8.ofNat (97+i % 26),UInt8.ofNat (97+i / 26 % 26)]⟩=wK i):=Aa rfl;have b:(⟨#[UInt8.ofNat (97+i % 26),UInt8.ofNat (97+i / 26 % 26)]⟩:Tb).size=2:=rfl;generalize (⟨#[UInt8.ofNat (97+i % 26),UInt8.ofNat (97+i / 26 % 26)]⟩:Tb)=B at c a b;generalize wK i=C at a ⊢;go_enter func9,ntmps9;go_wp2;refine bodyPost_ret (v:=Zt (⟨#[116]⟩++B)) ?_ rfl ?_
 ·simp[results,results9,go_sem]
 exact⟨congrArg (λx=>Ending.returned (Zt x)) a.o,Zal⟩
theorem AHh(e:i<676)(f:j<676)(h:wK i=wK j):i=j:=by unfold wK at h;have d:=congrArg ByteArray.data h;have a:=congrArg Array.toList d;simp only[List.cons.injEq,and_true,true_and] at a;have b:=congrArg UInt8.toNat a.1;have c:=congrArg UInt8.toNat a.2;rw[UInt8.toNat_ofNat',UInt8.toNat_ofNat'] at b c;omega
def Bw(a:ByteArray)(k:Nat):ByteArray:=⟨(a.1.toList++95 :: Lib.itoa (k:Int)).toArray⟩
def Plain(a:ByteArray):Prop:=∀x∈a.1.toList,x≠95
theorem jV{α:Type}{c:α}:∀{a b x y:List α},(∀z∈a,z≠c)->(∀z∈b,z≠c)->a++c :: x=b++c :: y->a=b/\x=y
 | [],[],_,_,_,_,h=>by simpa using h
 | [],z :: b,_,_,_,hb,h=>by simp at h;exact absurd h.1.symm (hb z (Ye ..))
 | z :: a,[],_,_,ha,_,h=>by simp at h;exact absurd h.1 (ha z (Ye ..))
 | z :: a,u :: b,x,y,ha,hb,h=>by simp at h;obtain⟨d,e⟩:=h;obtain⟨f,g⟩:=jV (λw hw=>ha w (Yd _ hw)) (λw hw=>hb w (Yd _ hw)) e;exact⟨by rw[d,f],g⟩
theorem AHM{a b:List UInt8}(h:(⟨a.toArray⟩:Tb)=⟨b.toArray⟩):a=b:=by have:=congrArg (λx:Tb=>x.1.toList) h;simpa using this
theorem S5{t u:Tb}{k:Nat}(e:Plain t)(f:Plain u)(h:Bw t i=Bw u k):t=u/\(i<=1000000->k<=1000000->i=k):=by
 obtain⟨b,c⟩:=jV e f (AHM h);refine⟨?_,?_⟩
 ·have:t.data=u.data:=Array.toList_inj.mp b
  exact ByteArray.ext this
 intro g j;have a:=Vy (n:=(i:Int)) (by omega) (by omega);have d:=Vy (n:=(k:Int)) (by omega) (by omega);rw[c,d] at a;injection a with a;omega
theorem Uw{p q:Tb}(h:Eh p=Eh q):p=q:=by have a:=congrArg (λb:Tb=>b.1.toList) h;simp[Eh] at a;exact ByteArray.ext a
def Used(D:DataW Unit)(U:List ByteArray):Prop:=∀p,Maps.has D (B.lit (Eh p))=true->∃tx∈U,∃k,p=Bw tx k
theorem Used.nil:Used (.map []) []:=λp h=>by simp[Maps.has] at h
theorem Used.fresh(h:Used D U){s:Tb}(d:¬s∈U)(f:Plain s)(c:∀u∈U,Plain u)(k:Nat):Maps.has D (B.lit (Eh (Bw s k)))=false:=by
 cases e:Maps.has D (B.lit (Eh (Bw s k))) with
 | false=>rfl
 | true=>obtain⟨u,a,i,b⟩:=h _ e;obtain⟨rfl,_⟩:=S5 f (c u a) b;exact absurd a d
theorem Used.more{a:List Tb}(h:Used D U)(c:∀u∈U,u∈a):Used D a:=λp b=>by
 obtain⟨u,d,k,e⟩:=h p b;exact⟨u,c u d,k,e⟩
theorem Used.put{D:Td}{U:List Tb}(h:Used D U){s:Tb}(c:s∈U)(k:Nat)(v:Td):Used (D.put (B.lit (Eh (Bw s k))) v) U:=λp a=>by
 by_cases e:p=Bw s k
 ·exact⟨s,c,k,e⟩
 rw[Maps.has_put_other (λb=>e (Uw (B.Jr b)))] at a;exact h p a
theorem Used.log(h:Used D U)(i:Nat)(v:Td):Used (D.put (B.lit (Ek i)) v) U:=λp a=>by
 rw[Maps.has_put_other (λb=>tG p i (B.Jr b))] at a;exact h p a
theorem AFl(i:Nat):Plain (wK i):=λx a=>by
 simp[wK] at a
 rcases a with rfl|rfl|rfl
 ·decide
 ·intro e
  have:=congrArg UInt8.toNat e;rw[UInt8.toNat_add,UInt8.toNat_ofNat'] at this;simp at this;omega
 intro e;have:=congrArg UInt8.toNat e;rw[UInt8.toNat_add,UInt8.toNat_ofNat'] at this;simp at this;omega
def PA(w:World)(base i:Nat):Prop:=base<=i/\∃cs T,w.1[i]? = some (.cells cs T (0,0))/\(T=58\/T=111)
structure Mv(base bb:Nat)(mv mv':Value)(w w':World):Prop where
 only:B.A0 (λi=>B.Own bb mv i\/PA w base i) w w'
 link:∀k,mv'=.map (some k)->mv=.map (some k)\/w.1.size<=k
 stay:B.St mv mv'
theorem Mv.trans{base bb:Nat}{mv v u:Tv}{w W r:Tw}(h:Mv base bb mv v w W)(k:Mv base bb v u W r):Mv base bb mv u w r:=by
 refine⟨h.only.trans k.only λi f e=>?_,λj a=>?_,λj a=>(k.stay j ((h.stay j a).trans a)).trans (h.stay j a)⟩
 ·rcases e with(e|e)|⟨b,cs,T,c,d⟩
  ·exact .inl (.inl e)
  ·rcases h.link i e with e|e
   ·exact .inl (.inr e)
   omega
  by_cases hs:B.Own bb mv i\/PA w base i
  ·exact hs
  exact .inr ⟨b,cs,T,(h.only.block i f hs).symm.trans c,d⟩
 rcases k.link j a with e|e
 ·exact h.link j e
 exact .inr (XL h.only.size e)
theorem Mv.below{base bb:Nat}{mv:Tv}(h:Zb w W):Mv base bb mv mv w W:=⟨B.A0.Ba h,λ_ e=>.inl e,B.St.refl _⟩
theorem Mv.refl{base bb:Nat}{mv:Tv}{w:Tw}:Mv base bb mv mv w w:=Mv.below (XB _ _)
theorem Mv.put{base bb:Nat}{mv v:Tv}(h:B.A0 (B.Own bb mv) w W)(a:(∀k,v=.map (some k)->mv=.map (some k)\/w.1.size<=k)/\B.St mv v):Mv base bb mv v w W:=⟨h.mono λ_ _ e=>.inl e,a.1,a.2⟩
theorem Mv.o{base bb:Nat}{mv v:Tv}(h:Mv base bb mv v w W)(a:w.1.size<=base):B.A0 (B.Own bb mv) w W :=
 h.only.mono λi b e=>e.elim id λe=>by have:=e.1;omega
theorem Mv.ACV{base bb:Nat}{mv:Tv}(h:B.A0 (PA w base) w W):Mv base bb mv mv w W:=⟨h.mono λ_ _ e=>.inr e,λ_ e=>.inl e,B.St.refl _⟩
theorem Mv.zG{base bb n:Nat}{fs:List Int}{mv v u:Tv}(h:Mv base bb mv u w W)(g:B.Bu w bb n D fs mv v){cs:Array Tv}{T:TypeId}(a:w.1[i]? = some (Zk cs T (0,0)))(o:T≠28)(p:T≠58)(q:T≠111):W.1[i]? = some (Zk cs T (0,0)):=by
 refine(h.only.block i (Ac a) ?_).trans a;rintro((e|e)|⟨_,j,r,b,c⟩)
 ·subst e
  have d:w.1[i]? = _:=g.1;rw[d] at a;injection a with a;injection a with _ a;exact o a.symm
 ·rcases g.2.1 with⟨l,_⟩|⟨m,k,es,clock,f,_⟩
  ·rw[l] at e;cases e
  rw[k] at e;cases e;rw[f] at a;cases a
 rw[a] at b;injection b with b;injection b with _ b;subst b
 rcases c with c|c
 ·exact p c
 exact q c
theorem Mv.row{base bb n:Nat}{fs:List Int}{mv u f:Tv}(h:Mv base bb mv f w W)(p:B.Bu w bb n D fs mv u){b z m:Nat}{T:TypeId}{xs:List Tv}(i:w.ownsRow b T z v m xs)(k:T≠28)(l:T≠58)(o:T≠111):W.ownsRow b T z v m xs:=by
 refine⟨i.1,?_⟩
 rcases i.2 with j|⟨g,c,a,r,d,q,e⟩
 ·exact .inl j
 exact .inr ⟨g,c,a,r,d,h.zG p q k l o,e⟩
theorem Mv.snap{base bb n:Nat}{fs:List Int}{mv u f:Tv}(h:Mv base bb mv f w W)(b:B.Bu w bb n D fs mv u)(i:Dl w s v):Dl W s v:=by obtain⟨c,c1,d,g,L,e,a⟩:=i;exact⟨c,c1,d,g,L,e,h.row b a.qz (by decide) (by decide) (by decide),a.qx,h.row b a.row (by decide) (by decide) (by decide),λx j=>h.row b (a.Cl x j) (by decide) (by decide) (by decide)⟩
theorem Mv.AKi{base bb n:Nat}{fs:List Int}{mv v u:Tv}(h:Mv base bb mv u w W)(a:B.Bu w bb n D fs mv v){b:Nat}{q:Gx}(c:pC b w q):pC b W q :=
 ⟨h.row a c.1 (by decide) (by decide) (by decide),h.row a c.2 (by decide) (by decide) (by decide)⟩
theorem Mv.slO{base bb n:Nat}{fs:List Int}{mv u f:Tv}(h:Mv base bb mv f w W)(a:B.Bu w bb n D fs mv u){b:Nat}{qj:List (List V)}(g:Sc b w v qj):Sc b W v qj:=by obtain⟨l,c,d,e⟩:=g;exact⟨l,c,h.row a d (by decide) (by decide) (by decide),λj x r k i=>h.row a (e j x r k i) (by decide) (by decide) (by decide)⟩
theorem Kv{w0 w W:Tw}{k base bb n:Nat}{fs:List Int}{mv v:Tv}(h:Ey w0 w k bb n D fs mv v)(U:k<=base)(P:w0.1.size<=base)(p:B.A0 (PA w base) w W):Ey w0 W k bb n D fs mv v:=by
 obtain⟨q,c,L⟩:=h.bu
 have s:¬PA w base bb:=by
  rintro⟨_,cs,T,b,o⟩;have r:w.1[bb]? = _:=q;rw[r] at b;injection b with b;injection b with _ b;subst b
  rcases o with o|o <;> exact absurd o (by decide)
 refine⟨⟨q.keep (p.block bb q.lt s),c.keep λm e=>p.block m (c.lt e) ?_,?_⟩,p.below h.low h.low.size (λi hi=>XL P hi.1),h.hb,h.hm,h.er,h.nc,h.tb,h.hf⟩
 ·rintro⟨_,cs,T,b,_⟩
  rcases c with⟨J,_⟩|⟨V,G,es,clock,t,_⟩
  ·rw[J] at e;cases e
  rw[G] at e;cases e;rw[t] at b;cases b
 obtain⟨a,j,e,M,N⟩:=L;refine⟨a,j,e,M,λz=>?_⟩;obtain⟨g,off,u,d⟩:=N z;refine⟨g,off,u,λi x R=>?_⟩
 have O:g<k:=by
  cases hfs:fs with
  | nil=>exact absurd hfs z
  | cons y l=>refine h.hf g off l.length j ?_;rw[e,u,hfs];rfl
 have f:=d i x R;have I:=p.block g (Fv f) (λe=>by have:=e.1;omega);simp only[World.cell?,I] at f ⊢;exact f
structure Dv(base:Nat)(w:World)(pb:Nat)(s:Ah)(v:Int)(a1:Option Addr)(n1 c1:Nat)(x2:Int)(a2:Option Addr)(n2 c2:Nat)(tx:ByteArray)(rd:Bool)(aa:Option Addr)(ac:Nat)(L:List Gx)(qj:Int):Prop where
 box:w.1[pb]? = some (.cells #[Zi v,.slice a1 n1 c1,Zi x2,.slice a2 n2 c2,.string tx,.bool rd,.slice aa L.length ac,Zi qj] 58 (0,0))
 snap:Dl w s (K4 v a1 n1 c1 x2 a2 n2 c2)
 row:w.ownsRow base 111 6 (.slice aa L.length ac) L.length (Ci L)
 own:∀q∈L,pC 0 w q
 Vv:∀q∈L,pM q.1
 low:base<=pb
theorem Dv.up{base:Nat}{w W:Tw}{n:Nat}{s:Ah}{v:Int}{b:To}{n1 c1:Nat}{x:Int}{c:To}{n2 k:Nat}{t:Tb}{f:Bool}{d:To}{i:Nat}{L:List Gx}{qj:Int}(h:Dv base w n s v b n1 c1 x c n2 k t f d i L qj)(a:Zb w W):Dv base W n s v b n1 c1 x c n2 k t f d i L qj :=
 ⟨(a.block _ (Ac h.box)).trans h.box,h.snap.up a,Bc h.row a,λq e=>⟨Bc (h.own q e).1 a,Bc (h.own q e).2 a⟩,h.Vv,h.low⟩
theorem Dv.put{base:Nat}{w W:Tw}{k:Nat}{s:Ah}{v:Int}{o:To}{n1 c1:Nat}{x:Int}{p:To}{n2 i:Nat}{t:Tb}{y:Bool}{r:To}{j:Nat}{L:List Gx}{qj:Int}{bb n:Nat}{D:Td}{fs:List Int}{mv u:Tv}(h:Dv base w k s v o n1 c1 x p n2 i t y r j L qj)(a:B.Bu w bb n D fs mv u)(f:B.A0 (B.Own bb mv) w W):Dv base W k s v o n1 c1 x p n2 i t y r j L qj:=by
 have m:Mv 0 bb mv mv w W:=Mv.put f ⟨λ_ e=>.inl e,B.St.refl _⟩;refine⟨Ut a f h.box (by decide),m.snap a h.snap,⟨h.row.1,?_⟩,λq I=>m.AKi a (h.own q I),h.Vv,h.low⟩
 rcases h.row.2 with z|⟨g,c,b,J,d,G,l⟩
 ·exact .inl z
 exact .inr ⟨g,c,b,J,d,Ut a f G (by decide),l⟩
theorem F2{b:Nat}{v u f a e c d g:Tv}{t:TypeId}(h:W.1[b]? = some (Zk #[v,u,f,a,e,c,d,g] t (0,0))):
 W.cell? (Zd b 0)=some v/\W.cell? (Zd b 1)=some u/\W.cell? (Zd b 2)=some f/\W.cell? (Zd b 3)=some a/\W.cell? (Zd b 4)=some e/\W.cell? (Zd b 5)=some c/\W.cell? (Zd b 6)=some d/\W.cell? (Zd b 7)=some g/\∀i,W.frozen? (Zd b i)=false:=by
 simp[World.cell?,World.frozen?,h]
