import Derived.Test.YthpcepcghakimaaGreatDoorFX0
set_option maxHeartbeats 40000000
set_option maxRecDepth 100000
open List renaming getElem?_eq_getElem->Y',mem_of_getElem?->XD,setIfInBounds_toArray->XH,flatMap_append->XI,length_append->XK,set_cons_zero->XO,set_cons_succ->XQ,cons_append->XT,length_take->XU,append_toArray->XV,size_toArray->XY,push_toArray->XZ,length_cons->X2,length_nil->X4,nil_append->X6,length_map->X',getElem?_append_right->WA,getElem?_drop->WB,getElem?_append_left->WC,mem_cons->WD,drop_of_length_le->WG,range_succ->WH,not_mem_nil->WL,length_drop->WN,drop_length->WO,all_eq_true->WQ,map_append->WS
open Nat renaming le_refl->XA,zero_le->XF,le_add_right->XG,le_trans->XL,le_succ->XP,lt_succ_self->WM,add_assoc->WU,zero_add->WV,min_def->WW
open Go.RowKit.Below renaming refl->XB
open Go.World renaming size_alloc->XC,news_of_block->XE,ownsRow_nil->XJ,putObj_heap_other->XX
open Array renaming getElem?_eq_none->XM,replicate_succ->XR,replicate_zero->XS
open Bool renaming and_eq_true->XN,and_false->WI,false_eq_true->WJ,or_eq_true->WT
open Int renaming cast_ofNat_Int->XW,eq_ofNat_of_zero_le->WE,toNat_natCast->WK
open Option renaming getD_some->WR
namespace Go.Proofs.YthpcepcghakimaaGreatDoor
open Tryz RowKit Shelf Joins Lib Extern.Stop Stop Extern
open Go.Sort (grow)
namespace F
variable{k:Nat}{v:Tv}{w:Tw}
theorem AGG:(prog.info? 235).map (λi=>(i.zero,i.size,i.bytes))=some (some (.agg #[.int .i64 0,.int .i64 0,.int .i64 0,.int .i64 0,.string ⟨#[]⟩,.int .i64 0,.int .i64 0,.string ⟨#[]⟩]),8,80):=by kernel_rfl
theorem Uz:(prog.info? 9).map (λi=>(i.zero,i.size,i.bytes))=some (some (.string ⟨#[]⟩),1,16):=by kernel_rfl
theorem AMs(s:S.St):∀u∈encS s,u.oneCell'=true:=by
 intro u a;simp only[encS,S.E6,WD,WL,or_false] at a
 rcases a with rfl|rfl|rfl|rfl|rfl|rfl|rfl|rfl <;> rfl
def ACb(part:List (List V))(k:Nat):List S.St:=(List.range k).map λi=>S.Iv (D7 part i)
def ACO(l:List Aj)(part:List (List V))(k:Nat):List (List UInt8):=(List.range k).map λi=>E.Hv (kd (l[i]?.getD zC)) (D7 part i)
theorem ACc(part:List (List V))(k:Nat):ACb part (k+1)=ACb part k++[S.Iv (D7 part k)]:=by simp[ACb,WH]
theorem ACu(l:List Aj)(part:List (List V))(k:Nat):ACO l part (k+1)=ACO l part k++[E.Hv (kd (l[k]?.getD zC)) (D7 part k)]:=by simp[ACO,WH]
theorem AAf{part:List (List V)}{j:Nat}{r:List V}{x:V}(a:part[j]? = some r)(b:r[k]? = some x):(D7 part k).take (j+1)=(D7 part k).take j++[x]:=by refine E.Br ?_;unfold D7;rw[List.getElem?_map,a];simp[b]
theorem ABc{W:Tw}{B e z n b:Nat}{xs:List Tv}(h:W.ownsRow B e z v n xs)(a:b<B)(x y u:Tv):(((W.setCell ⟨b,0,none⟩ x).setCell ⟨b,1,none⟩ y).setCell ⟨b,2,none⟩ u).ownsRow B e z v n xs :=
 E.Dc h a (E.Al (E.Ar _ _ _ _) (E.Al (E.Ar _ _ _ _) (E.Ar _ _ _ _)))
theorem AB7(lv rv:Tv)(l:List Aj)(part:List (List V))(w:Tw)(hl:F7 7 Cc w lv l)(hp:iJ w rv part)(h8:l.length<=8)(da:1<=part.length)(db:part.length<=6)(b3:Gr l part)(hk:Kl l):
 Zc 173 #[lv,rv] w λe w'=>∃sv bv,e=.returned (.agg #[.int .i64 part.length,sv,bv])/\w'.ownsRow w.1.size 235 8 sv l.length ((An l part).2.1.flatMap encS)/\w'.ownsRow w.1.size 9 1 bv l.length ((An l part).2.2.flatMap Mc)/\Below w.1.size w w':=by
 have HL:=Aa hl;have HP:=Aa hp;have bo:=Aa b3;have HK:=Aa hk;obtain⟨la,lc,rfl,_⟩:=hl.slice;obtain⟨ra,rc,rfl,_⟩:=hp.slice;obtain⟨iV,b1,cb,aw,az⟩:=info_parts E.Ip;have ah:=Zy b1 cb aw az;obtain⟨iS,bz,b9,au,ax⟩:=info_parts AGG;have af:=Zy bz b9 au ax;obtain⟨iT,b0,ca,av,ay⟩:=info_parts Uz;have ag:=Zy b0 ca av ay;have bt:∀args w,(callFunc 196 args).run prog w=.ok (.enter 196 args) w:=enters_of func196 (by kernel_rfl) rfl;have bj:=Aa bt;clear hl hp b3 hk b1 cb aw az bz b9 au ax b0 ca av ay bt;obtain⟨b4,hX,hY,hB⟩:=Kt w (.cells #[.int .i64 0,.slice none 0 0,.slice none 0 0] 171) (.cells #[.int .i64 part.length,.slice none 0 0,.slice none 0 0] 171);have HX:=Aa hX;have HY:=Aa hY;have HB:=Aa hB;have cf:=Aa b4;clear hX hY hB b4;go_enter func173,ntmps173;go_wp2
 go_loopw [18] (λvi wr=>∃k:Nat,k<=l.length/\vi=.int .i64 k/\(∃sv bv,Hid (wr.1[w.1.size+1]? = some (.cells #[.int .i64 part.length,sv,bv] 171))/\Hid (wr.ownsRow (w.1.size+2) 235 8 sv k ((ACb part k).flatMap encS))/\Hid (wr.ownsRow (w.1.size+2) 9 1 bv k ((ACO l part k).flatMap Mc)))/\Hid (wr.1[w.1.size]? = some (.cells #[.int .i64 0,.slice none 0 0,.slice none 0 0] 171))/\Hid (Below w.1.size w wr)/\w.1.size+2<=wr.1.size) (λvi _=>l.length-(intOf vi).toNat)
 case atStart=>exact⟨0,XF _,rfl,⟨_,_,HY,Aa (XJ _ _ _ _),Aa (XJ _ _ _ _)⟩,HX,HB,by have:=cf.o;omega⟩
 case round=>
  obtain⟨k,hk,rfl,⟨sv,bv,hg,ac,U⟩,ab,T,de⟩:=hrel;obtain⟨sa,sc,rfl,_⟩:=E.Ak ac.o;obtain⟨ba,bc,rfl,_⟩:=E.Ak U.o
  by_cases hlt:k<l.length
  ·obtain⟨⟨c1,c2,G,c4,c5,c6,c7⟩,hc⟩:∃c,l[k]? = some c:=⟨_,Y' hlt⟩
   obtain⟨lb,lo,dg,el,_,c9,o⟩:=(HL.o.up T.o).cons (by omega);injection el with cj _ ck;subst cj ck;obtain⟨q0,q1,q2,q3,q4,q5,q6⟩:=F8 o hc;have HC:=Aa hc;obtain⟨X,ar⟩:=Ot bo.o hlt (HK.o k hlt);have a6:kd (l[k]?.getD zC)=G:=by rw[hc];rfl
   rw[a6] at X;have al:Hid (E.Me G (D7 part k)=.tuple #[.string (E.str (E.Hv G (D7 part k))),.nilIface]):=Aa (by unfold E.Me;rw[X];simp[Gn,show part.length<=60 by omega]);have ce:Hid (ACO l part (k+1)=ACO l part k++[E.Hv G (D7 part k)]):=Aa (by rw[ACu,a6]);have am:=Aa ar;have cs:(k:Int)<(l.length:Int):=by omega
   have bh:Hid (Below wr.1.size wr (wr.alloc (.cells #[.int .i64 c1,.string c2,.int .i64 G,.bool c4,.int .i64 c5,.int .i64 c6,.string c7] 59))):=Aa (Zal);have bi:=Aa (Yad wr (.cells #[.int .i64 c1,.string c2,.int .i64 G,.bool c4,.int .i64 c5,.int .i64 c6,.string c7] 59));clear o hc X ar a6;go_wp2;clear q0 q1 q2 q3 q4 q5 q6;rename Tw=>wo
   have J:Hid (∀W,Below (wo.1.size+1) (wo.alloc (.cells #[.int .i64 c1,.string c2,.int .i64 G,.bool c4,.int .i64 c5,.int .i64 c6,.string c7] 59)) W->Below wo.1.size wo W):=Aa (λW hW=>Ap bh.o (by change Below _ _ _;rw[XC];exact hW))
   go_loopw [8,25] (λvv vi wi=>∃j:Nat,j<=part.length/\vi=.int .i64 j/\Hid (wi.ownsRow (wo.1.size+1) 55 3 vv j (E.AHk ((D7 part k).take j)))/\Hid (Below (wo.1.size+1) (wo.alloc (.cells #[.int .i64 c1,.string c2,.int .i64 G,.bool c4,.int .i64 c5,.int .i64 c6,.string c7] 59)) wi)) (λ_ vi _=>part.length-(intOf vi).toNat)
   case atStart=>exact⟨0,XF _,rfl,Aa (XJ _ _ _ _),Aa (XB _ _)⟩
   case round=>
    obtain⟨j,hj,rfl,ae,D⟩:=hrel;obtain⟨va,vc,rfl,_⟩:=E.Ak ae.o;have cv:=D.o.size;simp only[XC] at cv
    by_cases hjl:j<part.length
    ·obtain⟨r,hr⟩:∃r,part[j]? = some r:=⟨_,Y' hjl⟩
     have b:Below w.1.size w wr:=Ap T.o (J.o _ D.o);obtain⟨pb,po,pc,rv,ep,dc,cp,cn⟩:=(HP.o.up b).at hr;injection ep with cl _ cm;subst cl cm;have a8:r.length=l.length:=(bo.o r (XD hr)).1;obtain⟨xa,xc,rfl,_,b8⟩:=cn;obtain⟨xb,xo,rfl,df,t⟩:=b8 (by intro e;rw[e] at a8;simp at a8;omega);obtain⟨⟨vk,vn,vt⟩,hv⟩:∃x,r[k]? = some x:=⟨_,Y' (by omega)⟩;obtain⟨y0,y1,y2⟩:=t k _ hv;have ci:=Aa (AAf hr hv);have cr:(j:Int)<(part.length:Int):=by omega
     have c8:(k:Int)<(r.length:Int):=by omega
     clear t b8 hr hv a8 b;go_wp2_with (at_builtin;refine wpList_append_own _ rfl _ _ 61 rfl (wo.1.size+1) 55 iV (.agg #[.int .i64 0,.int .i64 0,.string ⟨#[]⟩]) 3 32 underlying61 ah.o.1 ah.o.2.1 ah.o.2.2.1 ah.o.2.2.2 rfl (by decide) _ _ _ rfl (ae.o.alloc _) ⟨wr.1.size,0,none⟩ 1 1 [.int .i64 vk,.int .i64 vn,.string vt] rfl rfl (λj u hj=>XE (Yad _ _) j u hj) (E.Hf [(vk,vn,vt)]) ?d3 ?d4 ?d5 ?_)
     case d3=>unfold maxLen;omega
     case d4=>omega
     case d5=>first|omega|(simp;omega)
     intro v2 w2 cu cq _;have co:=E.Bj (D.o.alloc (by omega) _) (ae.o.alloc _) cq (by simp;omega);go_wp2;exact⟨⟨j+1,by omega,by go_num,Aa (by rw[ci.o,E.Jk];exact cu),Aa co⟩,by simp[intOf];omega⟩
    have ej:j=part.length:=by omega
    have cr:¬(j:Int)<(part.length:Int):=by omega
    have bs:Hid (wr.ownsRow (wo.1.size+1) 55 3 (.slice va j vc) (D7 part k).length (E.AHk (D7 part k))):=Aa (by have O:=ae.o;rw[Yd (by rw[Gn];omega)] at O;rw[Gn,<-ej];exact O)
    have a5:=Aa (E.Cy bs.o);have c0:j<=6:=by omega
    have b:Below wo.1.size wo wr:=J.o _ D.o;have bu:=(D.o.block wo.1.size (WM _)).trans bi.o;have cK:wr.cell? ⟨wo.1.size,2,none⟩=some (.int .i64 G):=by simp[World.cell?,bu]
    have bl:=Aa ((b.block (w.1.size+1) (by omega)).trans hg.o);have an:=Aa ((b.block w.1.size (by omega)).trans ab.o);have bp:=Aa (E.Ad ac.o b);have bd:=Aa (E.Ad U.o b);have bb:=Aa (Ap T.o b);have bk:=Aa (E.gM G (.slice va j vc) (D7 part k) wr a5.o (by rw[Gn];omega) am.o);rw[al.o] at bk;clear ae bu hg ab ac U T D b ej bh J bi;go_wp2_with fail;apply bk.o.mono;rintro e w3⟨rfl,i⟩;have ap:=Aa (a5.o.up i);have a0:=Aa ((i.block (w.1.size+1) (by omega)).trans bl.o);have L:=Aa ((i.block w.1.size (by omega)).trans an.o);have h:=Aa (E.Ad bp.o i);have I:=Aa (E.Ad bd.o i);have aj:=Aa (Ap bb.o i);have dd:=i.size;clear bl an bp bd bb a5 cK i bs;obtain⟨⟨s1,s2,⟨k1,n1,t1⟩,⟨k2,n2,t2⟩⟩,a9⟩:∃s,S.Iv (D7 part k)=s:=⟨_,rfl⟩
    have bn:Hid (∀W,Below w3.1.size w3 W->Zc 196 #[.slice va j vc] W λe w'=>e=.returned (.agg #[.int .i64 s1,.int .i64 s2,.int .i64 k1,.int .i64 n1,.string t1,.int .i64 k2,.int .i64 n2,.string t2])/\Below W.1.size W w'):=Aa (λW hW=>by have O:=S.yU (.slice va j vc) (D7 part k) W (ap.o.up hW) (by rw[Gn];omega);rw[a9] at O;exact O)
    have ch:Hid (ACb part (k+1)=ACb part k++[(s1,s2,(k1,n1,t1),(k2,n2,t2))]):=Aa (by rw[ACc,a9]);have bx:w.1.size+1<w3.1.size:=by omega
    have a2:Hid (∀W,Below w3.1.size w3 W->(W.cell? ⟨w.1.size+1,0,none⟩=some (.int .i64 part.length)/\W.cell? ⟨w.1.size+1,1,none⟩=some (.slice sa k sc)/\W.cell? ⟨w.1.size+1,2,none⟩=some (.slice ba k bc)/\W.frozen? ⟨w.1.size+1,0,none⟩=false/\W.frozen? ⟨w.1.size+1,1,none⟩=false/\W.frozen? ⟨w.1.size+1,2,none⟩=false)):=Aa (λW hW=>J5 ((hW.block (w.1.size+1) bx).trans a0.o));obtain⟨_,g1,g2,_,z1,z2⟩:=a2.o w3 (XB _ _);clear a9 g2 z2;go_wp2_with fail
    go_region_law
     (first
       | (refine I6 (by rfl) 196 (.tmp 46) 61 (by rfl) (.slice va j vc) (by rfl) bj.o _ (bn.o _ (XB _ _).drew) ?_
          rintro e w4⟨rfl,aq⟩;have R:Below w3.1.size w3 w4:=Ap (XB _ _).drew aq;refine⟨_,rfl,?_⟩;obtain⟨_,p1,_,_,o1,_⟩:=a2.o w4 R;have cw:=Ag ((XB w4.1.size w4).alloc (XA _) (.cells #[.int .i64 s1,.int .i64 s2,.int .i64 k1,.int .i64 n1,.string t1,.int .i64 k2,.int .i64 n2,.string t2] 235)) p1;have b5:=R.size;have ct:w4.1.size≠w.1.size+1:=(λe=>by rw[e] at b5;omega))
       | (refine step_append_lies _ (by rfl) (.tmp 45) (.tmp 48) 169 (by rfl) (w.1.size+2) 235 iS (.agg #[.int .i64 0,.int .i64 0,.int .i64 0,.int .i64 0,.string ⟨#[]⟩,.int .i64 0,.int .i64 0,.string ⟨#[]⟩]) 8 80 underlying169 af.o.1 af.o.2.1 af.o.2.2.1 af.o.2.2.2 rfl (by decide) (.slice sa k sc) k _ (by rfl) ((E.Ad h.o R).alloc _) ⟨w4.1.size,0,none⟩ 1 1 [.int .i64 s1,.int .i64 s2,.int .i64 k1,.int .i64 n1,.string t1,.int .i64 k2,.int .i64 n2,.string t2] (by rfl) rfl (λj u hj=>XE (Yad _ _) j u hj) (AMs (s1,s2,(k1,n1,t1),(k2,n2,t2))) (by omega) (by unfold maxLen;omega) (by omega) (by simp;omega) _ rfl ?_
          intro g N w5 a7 d bw b2;have y:Hid (some (w.1.size+1)≠(Value.slice sa k sc).ownBlock):=Aa (λe=>by have:=(h.o.lt _ e.symm).1;omega);have r1:=(d.cell_far ⟨w.1.size+1,1,none⟩ (by simp;omega) y.o).trans (Ag (Zal) p1);have r2:=(d.frozen_far ⟨w.1.size+1,1,none⟩ (by simp;omega) y.o).trans (((XB w4.1.size w4).alloc (XA _) (.cells #[.int .i64 s1,.int .i64 s2,.int .i64 k1,.int .i64 n1,.string t1,.int .i64 k2,.int .i64 n2,.string t2] 235)).frozen (p:=⟨w.1.size+1,1,none⟩) (by show w.1.size+1<_;omega) |>.trans o1))
       | fail)
    all_goals
     have a:Below w3.1.size w3 (w4.alloc (.cells #[.int .i64 s1,.int .i64 s2,.int .i64 k1,.int .i64 n1,.string t1,.int .i64 k2,.int .i64 n2,.string t2] 235)):=Ap R (Zal);have M:=Aa (E.Ad h.o a);have ak:=Aa (E.Ad I.o a);have ad:w.1.size+2<(w4.alloc (.cells #[.int .i64 s1,.int .i64 s2,.int .i64 k1,.int .i64 n1,.string t1,.int .i64 k2,.int .i64 n2,.string t2] 235)).1.size:=by simp;omega
     have z:=(d.block (w.1.size+1) (by omega) y.o).trans ((a.block (w.1.size+1) bx).trans a0.o);have P:=(d.block w.1.size (by omega) (λe=>by have:=(h.o.lt _ e.symm).1;omega)).trans ((a.block w.1.size (by omega)).trans L.o);have Y:=E.Ar w5 (w.1.size+1) 1 (.slice (some ⟨g,0,none⟩) (k+1) N);have a1:=Aa (heap_setCell_same w5 (w.1.size+1) 1 _ 171 (.slice (some ⟨g,0,none⟩) (k+1) N) z);have a3:=Aa ((Y.block w.1.size (by have:=d.size;omega) (by simp)).trans P);have ao:=Aa (a7.kept Y (.inr (λe=>by have:=(a7.lt _ e).1;omega)))
     have f:=Aa ((E.C2 ak.o M.o (by decide) d).kept Y (by
      cases hob:(Value.slice ba k bc).ownBlock with
      | none=>exact .inl rfl
      | some q=>exact .inr (λe=>by injection e with e;have:=(I.o.lt q hob).1;omega)))
     have cc:=Aa ((E.Bj (Ap aj.o a) (E.Ai M.o (XG _ 2)) d (by omega)).setCell (p:=⟨w.1.size+1,1,none⟩) (XP _) (.slice (some ⟨g,0,none⟩) (k+1) N));have cy:w.1.size+2<(w5.setCell ⟨w.1.size+1,1,none⟩ (.slice (some ⟨g,0,none⟩) (k+1) N)).1.size:=by have:=d.size;have:=Y.size;omega
     clear z P Y M ak a ad r1 r2 a7 d bw b2 p1 cw o1 R aq b5 ct y;generalize w5.setCell ⟨w.1.size+1,1,none⟩ (.slice (some ⟨g,0,none⟩) (k+1) N)=w6 at *;simp only[XH,XQ,XO] at a1;obtain⟨_,_,cz,_,_,dh⟩:=J5 a1.o;generalize b6:E.str (E.Hv G (D7 part k))=sb at *;have cg:=Aa b6;clear b6 bn a2 a0 L h I aj ap g1 z1 al am;have cx:¬w.1.size+1=w6.1.size:=by omega
     go_wp2_with (at_builtin;refine wpList_append_own _ rfl _ _ 46 rfl (w.1.size+2) 9 iT (.string ⟨#[]⟩) 1 16 underlying46 ag.o.1 ag.o.2.1 ag.o.2.2.1 ag.o.2.2.2 rfl (by decide) _ _ _ rfl (f.o.alloc _) ⟨w6.1.size,0,none⟩ 1 1 [.string sb] rfl rfl (λj u hj=>XE (Yad _ _) j u hj) (by simp[Value.oneCell']) ?d3 ?d4 ?d5 ?_)
     case d3=>unfold maxLen;omega
     case d4=>omega
     case d5=>first|omega|(simp;omega)
     intro v7 w7 ai m _;obtain⟨g7,n,rfl,_,_⟩:=ai.form (by omega);have a:Below w6.1.size w6 (w6.alloc (.cells #[.string sb] 9)):=Zal;have ad:w.1.size+2<(w6.alloc (.cells #[.string sb] 9)).1.size:=by simp;omega
     have y:Hid (some (w.1.size+1)≠(Value.slice ba k bc).ownBlock):=Aa (λe=>by have:=(f.o.lt _ e.symm).1;omega);have z:=(m.block (w.1.size+1) (by omega) y.o).trans ((a.block (w.1.size+1) (by omega)).trans a1.o);have P:=(m.block w.1.size (by omega) (λe=>by have:=(f.o.lt _ e.symm).1;omega)).trans ((a.block w.1.size (by omega)).trans a3.o);obtain⟨_,_,p2,_,_,o2⟩:=J5 z;have aa:=E.Ar w7 (w.1.size+1) 2 (.slice (some ⟨g7,0,none⟩) (k+1) n);have bm:=Aa (heap_setCell_same w7 (w.1.size+1) 2 _ 171 (.slice (some ⟨g7,0,none⟩) (k+1) n) z);simp only[XH,XQ,XO] at bm;have a4:=Aa ((aa.block w.1.size (by have:=m.size;omega) (by simp)).trans P);have bf:=Aa (ai.kept aa (.inr (λe=>by have:=(ai.lt _ e).1;omega)));have bq:=Aa ((E.C2 (E.Ad ao.o a) (f.o.alloc (.cells #[.string sb] 9)) (by decide) m).kept aa (.inr (λe=>by have:=(ao.o.lt _ e).1;omega)));have cd:=Aa ((E.Bj (Ap cc.o a) (E.Ai (f.o.alloc (.cells #[.string sb] 9)) (XG _ 2)) m (by omega)).setCell (p:=⟨w.1.size+1,2,none⟩) (XP _) (.slice (some ⟨g7,0,none⟩) (k+1) n));have b7:w.1.size+2<=(w7.setCell ⟨w.1.size+1,2,none⟩ (.slice (some ⟨g7,0,none⟩) (k+1) n)).1.size:=by have:=m.size;have:=aa.size;omega
     clear z P aa m ai a ad;go_wp2;refine⟨⟨k+1,by omega,by go_num,⟨_,_,bm,Aa ?_,Aa ?_⟩,a4,cd,b7⟩,by simp[intOf];omega⟩
     ·rw[ch.o,XI];exact bq.o
     rw[ce.o,XI];have e:[E.Hv G (D7 part k)].flatMap Mc=[.string sb]:=by rw[<-cg.o];rfl
     rw[e];exact bf.o
  have ek:k=l.length:=by omega
  have cs:¬(k:Int)<(l.length:Int):=by omega
  obtain⟨g0,g1,g2,_,_,_⟩:=J5 hg.o;obtain⟨y0,y1,y2,z0,z1,z2⟩:=J5 ab.o;have br:Hid (wr.ownsRow (w.1.size+2) 235 8 (.slice sa k sc) l.length ((An l part).2.1.flatMap encS)):=Aa (by have O:=ac.o;rw[ek] at O ⊢;exact O);have bg:Hid (wr.ownsRow (w.1.size+2) 9 1 (.slice ba k bc) l.length ((An l part).2.2.flatMap Mc)):=Aa (by have O:=U.o;rw[ek] at O ⊢;exact O);clear ek ac U;go_wp2;refine bodyPost_ret (v:=.agg #[.int .i64 part.length,.slice sa k sc,.slice ba k bc]) (by simp[results,results173,go_sem,y0,y1,y2]) rfl ⟨_,_,rfl,?_,?_,?_⟩
  ·exact E.Ai (ABc br.o (by omega) _ _ _) (XG _ 2)
  ·exact E.Ai (ABc bg.o (by omega) _ _ _) (XG _ 2)
  exact((T.o.setCell (p:=⟨w.1.size,0,none⟩) (XA _) _).setCell (p:=⟨w.1.size,1,none⟩) (XA _) _).setCell (p:=⟨w.1.size,2,none⟩) (XA _) _
theorem ADE{i:Nat}(h:i<8):(⟨#[99]⟩++⟨(Lib.decDigits i).toArray⟩:Tb)=I3 i:=by rw[Lib.decDigits,dif_pos (by omega)];rfl
theorem yR{l:List Aj}{c:Aj}(h:l[k]? = some c):((A7 l).take (k+1)).flatMap Cc=((A7 l).take k).flatMap Cc++[Zi c.1,Zt (I3 k),Zi c.2.2.1,Zo false,Zi 0,Zi 0,Zt ⟨#[]⟩]:=by rw[E.Br (M3 h),XI];rfl
theorem ADI(lv:Tv)(l:List Aj)(w:Tw)(hl:F7 7 Cc w lv l)(h8:l.length<=8):
 Zc 221 #[lv] w λe V=>∃v',e=Zr v'/\V.ownsRow w.1.size 59 7 v' l.length ((A7 l).flatMap Cc)/\Zb w V:=by
 have HL:=Aa hl;obtain⟨la,lc,rfl,_⟩:=hl.slice;clear hl;obtain⟨iC,R,U,n,o⟩:=info_parts Kh;have b:=Zy R U n o;clear R U n o;go_enter func221,ntmps221;go_wp2
 go_loopw [3,8] (λvp vi wr=>∃k:Nat,k<=l.length/\vi=Zi k/\Hid (wr.ownsRow w.1.size 59 7 vp k (((A7 l).take k).flatMap Cc))/\Hid (Zb w wr)) (λ_ vi _=>l.length-(intOf vi).toNat)
 case atStart=>exact⟨0,XF _,rfl,Aa (XJ _ _ _ _),Aa (XB _ _)⟩
 case round=>
  obtain⟨k,hk,rfl,X,g⟩:=hrel;obtain⟨pa,Y,rfl,_⟩:=E.Ak X.o;have T:=g.o.size
  by_cases hlt:k<l.length
  ·obtain⟨⟨c1,G,f,I,J,L,M⟩,hc⟩:∃c,l[k]? = some c:=⟨_,Y' hlt⟩
   obtain⟨lb,lo,al,el,_,ak,a⟩:=(HL.o.up g.o).cons (by omega);injection el with ae _ af;subst ae af;obtain⟨q0,q1,q2,q3,q4,q5,q6⟩:=F8 a hc;have ab:=Aa (yR hc);have ai:(k:Int)<(l.length:Int):=by omega
   have s:=Aa (ADE (i:=k) (by omega));have v:=Aa (λW=>strconv_Itoa_small k (by omega) W);obtain⟨d,hd⟩:∃d,(⟨(Lib.decDigits k).toArray⟩:Tb)=d:=⟨_,rfl⟩;rw[hd] at s v;have ah:d.size=1:=by rw[<-hd,Lib.decDigits,dif_pos (by omega)];rfl
   clear hd;have aj:k<8:=by omega
   clear a hc;go_wp2_with fail;clear q0 q1 q2 q3 q4 q5 q6;have x:=Aa (Yad wr (Zk #[Zi c1,Zt G,Zi f,Zo I,Zi J,Zi L,Zt M] 59));have O:=(X.o.alloc (Zk #[Zi c1,Zt G,Zi f,Zo I,Zi J,Zi L,Zt M] 59));have N:Zb w (wr.alloc (Zk #[Zi c1,Zt G,Zi f,Zo I,Zi J,Zi L,Zt M] 59)):=g.o.alloc T _;have P:(wr.alloc (Zk #[Zi c1,Zt G,Zi f,Zo I,Zi J,Zi L,Zt M] 59)).1.size=wr.1.size+1:=XC _ _;generalize wr.alloc (Zk #[Zi c1,Zt G,Zi f,Zo I,Zi J,Zi L,Zt M] 59)=r at *;have q0:r.cell? (Zd wr.1.size 0)=some (Zi c1):=by simp[World.cell?,x.o]
   have q2:r.cell? (Zd wr.1.size 2)=some (Zi f):=by simp[World.cell?,x.o]
   have z:=Aa P;have y:=Aa O;have q:=Aa N;have t:Hid (∀j,(Value.slice pa k Y).ownBlock=some j->j<wr.1.size):=Aa (λj hj=>(X.o.lt j hj).2)
   have aa:Hid (∀W D,Below (wr.1.size+1) r W->W.grownBy D (Value.slice pa k Y).ownBlock->D.cell? (Zd wr.1.size 0)=some (Zi c1)/\D.cell? (Zd wr.1.size 2)=some (Zi f)):=Aa (λW D hW hg=>by
    have hs:=hW.size;have far:∀i,D.cell? (Zd wr.1.size i)=r.cell? (Zd wr.1.size i):=λi=>(hg.cell_far (Zd wr.1.size i) (by show wr.1.size<_;omega) (λe=>by have:=t.o _ e.symm;exact absurd this (YZ _))).trans (hW.cell (p:=Zd wr.1.size i) (WM _))
    exact⟨(far 0).trans q0,(far 2).trans q2⟩)
   clear O N P
   go_region_held3 (λV=>V.cell? (Zd wr.1.size 0)=some (Zi c1)/\V.cell? (Zd wr.1.size 2)=some (Zi f))
    (first
      | (go_keep;done)
      | exact m
      | fail)
    (first
      | (go_at_call 98;refine(v.o _).mono ?_;rintro e w3⟨rfl,rfl⟩)
      | (refine step_append_lies _ (by rfl) (.tmp 13) (.tmp 22) 34 (by rfl) w.1.size 59 iC L6 7 72 underlying34 b.o.1 b.o.2.1 b.o.2.2.1 b.o.2.2.2 rfl (by decide) (.slice pa k Y) k (((A7 l).take k).flatMap Cc) (by rfl) (y.o.drew.alloc _) (Zd r.1.size 0) 1 1 [Zi c1,.string (⟨#[99]⟩++d),Zi f,.bool false,Zi 0,Zi 0,.string ⟨#[]⟩] (by rfl) rfl (λj u hj=>XE (Yad _ _) j u hj) (by simp[Value.oneCell']) (by omega) (by unfold maxLen;omega) (by omega) (by have:=z.o;simp;omega) _ rfl ?_;intro g4 cap4 w4 ho4 hg4 _ _;have m:=aa.o _ _ (((XB _ r).drew).alloc (by have:=z.o;simp;omega) _) hg4;clear ah)
      | fail)
   have ag:=E.Bj (q.o.drew.alloc (by have:=q.o.size;simp;omega) _) (y.o.drew.alloc _) hg4 (by have:=q.o.size;simp;omega);have ad:Hid (w4.ownsRow w.1.size 59 7 (Zs (some (Zd g4 0)) (k+1) cap4) (k+1) (((A7 l).take (k+1)).flatMap Cc)):=Aa (by rw[ab.o,<-s.o];exact ho4);clear ho4 hg4 m;go_wp2;exact⟨⟨k+1,by omega,by go_num,ad,Aa ag⟩,by simp[intOf];omega⟩
  have ai:¬(k:Int)<(l.length:Int):=by omega
  have ac:Hid (wr.ownsRow w.1.size 59 7 (Zs pa k Y) l.length ((A7 l).flatMap Cc)):=Aa (by
   have h:=X.o;have ek:k=l.length:=by omega
   rw[Yd (by rw[Cx];omega)] at h;rw[<-ek];exact h)
  go_wp2;go_ret;exact⟨_,rfl,ac.o,g.o⟩
def AEe(x y:V):Bool:=x.1==y.1 && (x.2.1==y.2.1 && x.2.2.toList==y.2.2.toList)
def eqS(x y:S.St):Bool:=x.1==y.1 && (x.2.1==y.2.1 && (AEe x.2.2.1 y.2.2.1 && AEe x.2.2.2 y.2.2.2))
theorem AK2:NeqAt prog 235 (λx:S.St=>Zg (encS x).toArray) eqS:=by
 refine⟨λx y w=>?_,GuardAt.agg _ (by kernel_rfl)⟩;obtain⟨f,g,⟨h,i,j⟩,⟨k,l,m⟩⟩:=x;obtain⟨n,o,⟨p,q,r⟩,⟨s,t,u⟩⟩:=y;have c:prog.underlying 235=some (.struct (prog.fieldsOf 235)):=by kernel_rfl
 have d:prog.stoodInHeld 235=false:=by kernel_rfl
 have a:prog.underlying 55=some (.struct (prog.fieldsOf 55)):=by kernel_rfl
 have b:prog.stoodInHeld 55=false:=by kernel_rfl
 have I:=underlying2;have z:=isAgg2;have M:=sizeOf2;have J:=underlying3;have D:=isAgg3;have N:=sizeOf3;have L:=underlying9;have G:=isAgg9;have O:=sizeOf9;have e:=isAgg55;have v:=sizeOf55;simp only[encS,S.E6,eqS,AEe];rw[run_neq_struct,show (10000:Nat)=9999+1 from rfl,run_equalIn_agg w 9999 235 _ _ c d];simp only[Program.fieldsOf,underlying235];clear c d a b;go_simp
 by_cases h1:f=n
 case neg=>rw[A1 h1];simp[h1]
 rw[A2 h1]
 by_cases h2:g=o
 case neg=>rw[A1 h2];simp[h2]
 rw[A2 h2]
 by_cases h3:h=p
 case neg=>rw[A1 h3];simp[h3]
 rw[A2 h3]
 by_cases h4:i=q
 case neg=>rw[A1 h4];simp[h4]
 rw[A2 h4]
 by_cases h5:j.toList=r.toList
 case neg=>rw[A1 h5];simp[h5]
 rw[A2 h5]
 by_cases h6:k=s
 case neg=>rw[A1 h6];simp[h6]
 rw[A2 h6]
 by_cases h7:l=t
 case neg=>rw[A1 h7];simp[h7]
 rw[A2 h7]
 by_cases h8:m.toList=u.toList
 case neg=>rw[A1 h8];simp[h8]
 rw[A2 h8];simp[h1,h2,h3,h4,h5,h6,h7,h8]
theorem AEb(x y:V):AEe x y=true↔x=y:=by
 obtain⟨a,b,c⟩:=x;obtain⟨d,e,f⟩:=y;simp only[AEe,XN,beq_iff_eq,Prod.mk.injEq];constructor
 ·rintro⟨h,i,g⟩;exact⟨h,i,by rw[ByteArray.toList_eq,ByteArray.toList_eq] at g;exact ByteArray.ext (Array.toList_inj.1 g)⟩
 rintro⟨h,i,g⟩;exact⟨h,i,by rw[g]⟩
theorem AHA(x y:S.St):eqS x y=true↔x=y:=by obtain⟨a,b,c,d⟩:=x;obtain⟨e,f,g,h⟩:=y;simp only[eqS,XN,beq_iff_eq,Prod.mk.injEq,AEb]
theorem P5{α:Type}{eq:α->α->Bool}(h:∀x y,eq x y=true↔x=y):∀l m:List α,Lib.allEq eq l m=true↔l=m
 | [],[]=>by simp[Lib.allEq]
 | [],_ :: _=>by simp[Lib.allEq]
 | _ :: _,[]=>by simp[Lib.allEq]
 | x :: l,y :: m=>by simp only[Lib.allEq,XN,P5 h l m,List.cons.injEq,h x y]
theorem F7.flat{α:Type}[Inhabited α]{enc:α->List Tv}{b off n c:Nat}{l:List α}(h:F7 k enc w (Zs (some (Zd b off)) n c) l)(p:0<l.length):∀j,j<l.length->∀i v,(enc l[j]!)[i]? = some v->w.cell? (Zd b (off+j*k+i))=some v:=by obtain⟨q,g,r,e,_,_,o⟩:=h.cons p;injection e with a _ _;injection a with a;injection a with a m _;subst a m;intro j d i v f;rw[getElem!_pos l j d] at f;exact o j _ (Y' d) i v f
theorem AAR(f g:Tv)(l m:List S.St)(w:Tw)(a:F7 8 encS w f l)(b:F7 8 encS w g m)(c:0<l.length)(d:0<m.length)(n:l.length<=1000)(o:m.length<=1000):
 Zc 270 #[f,g] w λe h=>e=Zr (Zo (Lib.allEq eqS l m))/\Zb w h:=by
 obtain⟨i,p,c1,rfl,_,_,_⟩:=a.cons c;obtain⟨j,r,k,rfl,_,_,_⟩:=b.cons d;refine(AnyQ.slices_Equal layEqS 8 isAgg235 sizeOf235 encS rG eqS AK2 i p l.length c1 j r m.length k l m w (XA _) (XA _) (by omega) (by omega) (a.flat c) (b.flat d)).mono ?_;rintro e h⟨rfl,q,rfl⟩;exact⟨by rw[Ye,Ye],⟨rfl,rfl,rfl,XA _,λ_ _=>rfl⟩⟩
def eqT(x y:List UInt8):Bool:=x==y
theorem AG5(x y:List UInt8):eqT x y=true↔x=y:=by simp[eqT]
theorem AKu:NeqAt prog 9 (λb:List UInt8=>Zt (E.str b)) eqT:=by refine⟨λx y w=>?_,λop a b x y w=>(NeqAt.string prog 9).2 op a b (E.str x) (E.str y) w⟩;rw[(NeqAt.string prog 9).1 (E.str x) (E.str y) w];simp[eqT,E.str,ByteArray.toList_eq]
theorem xE(g h:Tv)(l m:List (List UInt8))(w:Tw)(a:F7 1 Mc w g l)(c:F7 1 Mc w h m)(d:0<l.length)(f:0<m.length)(p:l.length<=1000)(r:m.length<=1000):
 Zc 271 #[g,h] w λe i=>e=Zr (Zo (Lib.allEq eqT l m))/\Zb w i:=by
 obtain⟨k,s,c1,rfl,_,_,_⟩:=a.cons d;obtain⟨n,t,o,rfl,_,_,_⟩:=c.cons f;refine(AnyE.slices_Equal layEqT (λb:List UInt8=>Zt (E.str b)) eqT AKu k s l.length c1 n t m.length o l m w (XA _) (XA _) (by omega) (by omega) (λj hj=>by have:=a.flat d j hj 0 _ rfl;simpa using this) (λj hj=>by have:=c.flat f j hj 0 _ rfl;simpa using this)).mono ?_;rintro e i⟨rfl,q,rfl⟩;exact⟨by rw[Ye,Ye],⟨rfl,rfl,rfl,XA _,λ_ _=>rfl⟩⟩
def J7(a b:Fk):Bool:=decide ((a.1:Int)=b.1) && (Lib.allEq eqS a.2.1 b.2.1 && Lib.allEq eqT a.2.2 b.2.2)
theorem ABk(a b:Fk):J7 a b=true↔a=b:=by
 obtain⟨n,s,t⟩:=a;obtain⟨m,u,v⟩:=b;simp only[J7,XN,decide_eq_true_eq,P5 AHA,P5 AG5,Prod.mk.injEq];constructor
 ·rintro⟨e,c,d⟩;exact⟨by omega,c,d⟩
 rintro⟨e,c,d⟩;exact⟨by omega,c,d⟩
theorem AGI(x y:Int×Tv×Tv)(a b:Fk)(w:Tw)(hx:Xr w x a)(hy:Xr w y b)(O:0<a.2.1.length)(P:0<a.2.2.length)(R:0<b.2.1.length)(T:0<b.2.2.length)(U:a.2.1.length<=1000)(V:a.2.2.length<=1000)(X:b.2.1.length<=1000)(Y:b.2.2.length<=1000):
 Zc 223 #[Zg #[Zi x.1,x.2.1,x.2.2],Zg #[Zi y.1,y.2.1,y.2.2]] w λe w'=>e=Zr (Zo (J7 a b))/\Zb w w':=by
 obtain⟨x1,xs,xt⟩:=x;obtain⟨y1,ys,yt⟩:=y;obtain⟨M,f,g⟩:=hx;obtain⟨N,h,i⟩:=hy;dsimp only at M f g N h i;subst M N;have HS:=Aa (λW(j:Zb w W)=>AAR xs ys a.2.1 b.2.1 W (f.up j) (h.up j) O R U X);have HT:=Aa (λW(j:Zb w W)=>xE xt yt a.2.2 b.2.2 W (g.up j) (i.up j) P T V Y);obtain⟨u,v,rfl,_⟩:=f.slice;obtain⟨z,D,rfl,_⟩:=h.slice;obtain⟨q,r,rfl,_⟩:=g.slice;obtain⟨s,t,rfl,_⟩:=i.slice;clear f h g i O P R T U V X Y;obtain⟨l,m,n,L⟩:=Kt w (Zk #[Zi a.1,Zs u a.2.1.length v,Zs q a.2.2.length r] 171) (Zk #[Zi b.1,Zs z b.2.1.length D,Zs s b.2.2.length t] 171)
 have HK:Hid (∀W,Below (w.1.size+2) ((w.alloc (Zk #[Zi a.1,Zs u a.2.1.length v,Zs q a.2.2.length r] 171)).alloc (Zk #[Zi b.1,Zs z b.2.1.length D,Zs s b.2.2.length t] 171)) W->W.1[w.1.size]? = some (Zk #[Zi a.1,Zs u a.2.1.length v,Zs q a.2.2.length r] 171)/\W.1[w.1.size+1]? = some (Zk #[Zi b.1,Zs z b.2.1.length D,Zs s b.2.2.length t] 171)/\Zb w W):=Aa (λW j=>by
  have k:Below ((w.alloc (Zk #[Zi a.1,Zs u a.2.1.length v,Zs q a.2.2.length r] 171)).alloc (Zk #[Zi b.1,Zs z b.2.1.length D,Zs s b.2.2.length t] 171)).1.size ((w.alloc (Zk #[Zi a.1,Zs u a.2.1.length v,Zs q a.2.2.length r] 171)).alloc (Zk #[Zi b.1,Zs z b.2.1.length D,Zs s b.2.2.length t] 171)) W:=by rw[l];exact j
  exact⟨(k.block w.1.size (by omega)).trans m,(k.block (w.1.size+1) (by omega)).trans n,Ap L k⟩)
 have J:=Aa l;have I:=Aa L;obtain⟨p0,p1,p2,_⟩:=J5 m;obtain⟨r0,r1,r2,_⟩:=J5 n;clear m n L l;have d:Hid (J7 a b=(decide ((a.1:Int)=b.1) && (Lib.allEq eqS a.2.1 b.2.1 && Lib.allEq eqT a.2.2 b.2.2))):=Aa rfl;generalize (a.1:Int)=n1 at *;generalize (b.1:Int)=n2 at *
 by_cases e1:n1=n2
 ·subst e1
  have G:Hid (J7 a b=(Lib.allEq eqS a.2.1 b.2.1 && Lib.allEq eqT a.2.2 b.2.2)):=Aa (by rw[d.o];simp);clear d;generalize Lib.allEq eqS a.2.1 b.2.1=q1 at *;generalize Lib.allEq eqT a.2.2 b.2.2=q2 at *;go_enter func223,ntmps223;go_wp2_with fail;refine(HS.o _ (by first|exact I.o|exact I.o.drew)).mono ?_;rintro e w1⟨rfl,o⟩;obtain⟨m,n,c⟩:=HK.o w1 (by have:=J.o;first|(rw[<-this];exact o)|(rw[<-this];exact Ap (XB _ _).drew o));obtain⟨p0,p1,p2,_⟩:=J5 m;obtain⟨r0,r1,r2,_⟩:=J5 n;cases q1 with
  | false=>go_wp2;go_ret;rw[G.o];exact⟨rfl,c⟩
  | true=>go_wp2_with fail;refine(HT.o _ (by first|exact c|exact c.drew)).mono ?_;rintro e w2⟨rfl,p⟩;go_wp2;go_ret;rw[G.o];exact⟨rfl,by first|exact Ap c p|exact Ap c.drew p⟩
 have G:Hid (J7 a b=false):=Aa (by rw[d.o,decide_eq_false e1];rfl);clear d;go_enter func223,ntmps223;go_wp2;go_ret;rw[G.o];exact⟨rfl,I.o⟩
theorem vL.get{gs:List Fk}{g:Fk}(h:vL w v gs)(q:gs[k]? = some g):∃b off c d e f i,v=Zs (some (Zd b off)) gs.length c/\b<w.1.size/\w.cell? (Zd b (off+k*3))=some (Zi g.1)/\w.cell? (Zd b (off+k*3+1))=some (Zs d g.2.1.length e)/\w.cell? (Zd b (off+k*3+2))=some (Zs f g.2.2.length i)/\Xr w (g.1,Zs d g.2.1.length e,Zs f g.2.2.length i) g:=by obtain⟨xs,s,hlen,t⟩:=h;have u:=Ax q;obtain⟨x,a⟩:∃x,xs[k]? = some x:=⟨_,Y' (by omega)⟩;have p:=t k x g a q;obtain⟨b,off,c,rfl,_,r,l⟩:=s.cons (by omega);obtain⟨z,y,D⟩:=x;have j:=p;obtain⟨m,n,o⟩:=p;dsimp only at m n o;subst m;obtain⟨d,e,rfl,_⟩:=n.slice;obtain⟨f,i,rfl,_⟩:=o.slice;exact⟨b,off,c,d,e,f,i,by rw[hlen],r,l k _ a 0 _ rfl,l k _ a 1 _ rfl,l k _ a 2 _ rfl,j⟩
theorem yD{α:Type}{eq:α->α->Bool}{l m:List α}{x y:α}(a:l[k]? = some x)(b:m[k]? = some y):Lib.allEq eq (l.drop k) (m.drop k)=(eq x y && Lib.allEq eq (l.drop (k+1)) (m.drop (k+1))):=by
 have c:l.drop k=x :: l.drop (k+1):=by rw[Ym (Ax a)];rw[Y' (Ax a)] at a;injection a with a;rw[a]
 have d:m.drop k=y :: m.drop (k+1):=by rw[Ym (Ax b)];rw[Y' (Ax b)] at b;injection b with b;rw[b]
 rw[c,d,Lib.allEq]
theorem allEq_len{α:Type}{eq:α->α->Bool}:∀{l m:List α},l.length≠m.length->Lib.allEq eq l m=false
 | [],[],h=>absurd rfl h
 | [],_ :: _,_=>rfl
 | _ :: _,[],_=>rfl
 | x :: l,y :: m,h=>by
   have a:l.length≠m.length:=by intro e;exact h (by simp[e])
   rw[Lib.allEq,allEq_len a,WI]
def AEE(g:Fk):Prop:=0<g.2.1.length/\0<g.2.2.length/\g.2.1.length<=1000/\g.2.2.length<=1000
theorem zR(v1 v2:Tv)(l m:List Fk)(w:Tw)(h1:vL w v1 l)(h2:vL w v2 m)(hl:l.length<=1000)(_hm:m.length<=1000)(t:∀g∈l,AEE g)(u:∀g∈m,AEE g):
 Zc 222 #[v1,v2,.func (.func 223) #[] #[]] w λe M=>e=Zr (Zo (Lib.allEq J7 l m))/\Zb w M:=by
 have H1:=Aa h1;have H2:=Aa h2;have P:=Aa t;have R:=Aa u;obtain⟨a1,c1,rfl,_⟩:=h1.slice;obtain⟨a2,c2,rfl,_⟩:=h2.slice;clear h1 h2 t u
 by_cases hn:l.length=m.length
 ·have HN:=Aa hn
  generalize hq:m.length=n at *;have HQ:=Aa hq;clear hq;rw[hn] at H1 hl ⊢;clear hn;go_enter func222,ntmps222;go_wp2
  go_loopw [17] (λvi wr=>∃k:Nat,k<=n/\vi=Zi k/\Hid (Lib.allEq J7 l m=Lib.allEq J7 (l.drop k) (m.drop k))/\Hid (Zb w wr)) (λvi _=>n-(intOf vi).toNat)
  case atStart=>exact⟨0,XF _,rfl,Aa rfl,Aa (XB _ _)⟩
  case round=>
   obtain⟨k,hk,rfl,o,f⟩:=hrel
   by_cases hlt:k<n
   ·obtain⟨a,h⟩:∃g,l[k]? = some g:=⟨_,Y' (by have:=HN.o;omega)⟩
    obtain⟨b,i⟩:∃g,m[k]? = some g:=⟨_,Y' (by have:=HQ.o;omega)⟩;obtain⟨b1,o1,d1,v,x,y,z,e1,ac,p0,p1,p2,hA⟩:=(H1.o.up f.o).get h;obtain⟨b2,o2,d2,G,I,J,L,e2,ad,r0,r1,r2,j⟩:=(H2.o.up f.o).get i;injection e1 with e11 U V;injection e2 with W X Y;clear U X;subst e11 V W Y;have c:=Aa (And.intro hA (And.intro j (And.intro (P.o a (XD h)) (R.o b (XD i)))));have p:Hid (Lib.allEq J7 l m=(J7 a b && Lib.allEq J7 (l.drop (k+1)) (m.drop (k+1)))):=Aa (by rw[o.o,yD h i]);have aa:(k:Int)<(n:Int):=by omega
    have d:Zb wr (wr.alloc (Zk #[Zi a.1,Zs v a.2.1.length x,Zs y a.2.2.length z] 171)):=Zal;replace r0:=Ag d r0;replace r1:=Ag d r1;replace r2:=Ag d r2;obtain⟨ab,hX,hY,D⟩:=Kt wr (Zk #[Zi a.1,Zs v a.2.1.length x,Zs y a.2.2.length z] 171) (Zk #[Zi b.1,Zs G b.2.1.length I,Zs J b.2.2.length L] 171);obtain⟨x0,x1,x2,_⟩:=J5 hX;obtain⟨y0,y1,y2,_⟩:=J5 hY;have T:Hid (Zc 223 #[Zg #[Zi a.1,Zs v a.2.1.length x,Zs y a.2.2.length z],Zg #[Zi b.1,Zs G b.2.1.length I,Zs J b.2.2.length L]] ((wr.alloc (Zk #[Zi a.1,Zs v a.2.1.length x,Zs y a.2.2.length z] 171)).alloc (Zk #[Zi b.1,Zs G b.2.1.length I,Zs J b.2.2.length L] 171)) λe M=>e=Zr (Zo (J7 a b))/\Zb wr M):=Aa ((AGI (a.1,Zs v a.2.1.length x,Zs y a.2.2.length z) (b.1,Zs G b.2.1.length I,Zs J b.2.2.length L) a b _ (hA.up D) (j.up D) c.o.2.2.1.1 c.o.2.2.1.2.1 c.o.2.2.2.1 c.o.2.2.2.2.1 c.o.2.2.1.2.2.1 c.o.2.2.1.2.2.2 c.o.2.2.2.2.2.1 c.o.2.2.2.2.2.2).mono λe M⟨he,hb⟩=>⟨he,Ap D hb⟩);have N:=Aa f.o;clear h i o hX hY D ab d hA j c;generalize J7 a b=q at *;go_wp2_with fail;apply T.o.mono;rintro e w1⟨rfl,r⟩;have s:=Ap N.o r;cases q with
    | false=>go_wp2;go_ret;rw[p.o];exact⟨rfl,s⟩
    | true=>go_wp2;exact⟨⟨k+1,by omega,by go_num,p,Aa s⟩,by simp[intOf];omega⟩
   have aa:¬(k:Int)<(n:Int):=by omega
   have O:Hid (Lib.allEq J7 l m=true):=Aa (by rw[o.o,WG (by have:=HN.o;omega),WG (by have:=HQ.o;omega)];rfl);go_wp2;go_ret;rw[O.o];exact⟨rfl,f.o⟩
 have O:Hid (Lib.allEq J7 l m=false):=Aa (allEq_len hn);have ae:¬(l.length:Int)=(m.length:Int):=by omega
 generalize l.length=n1 at *;generalize m.length=n2 at *;clear hn;go_enter func222,ntmps222;go_wp2;go_ret;rw[O.o];exact⟨rfl,XB _ _⟩
theorem wQ{o:Oper}{a:Act}{K:Act->Tw->Prop}{Q:Exit->Act->Tw->Prop}{l n:Nat}(b:∀c,o.op≠.defer c)(h:o.wp prog a w K Q):o.wpIn (Fence.wide.inRound l) n prog a w K Q:=by
 refine⟨λ_ _=>trivial,?_⟩;rw[show (Fence.wide.inRound l).round=some l from rfl,Oper.semAt_some l a.eval o b];unfold Oper.wp at h;generalize (execOp a.eval o).run prog w=r at h ⊢;cases r with
 | ok nx w'=>
   cases nx with
   | value v=>exact h
   | skip=>exact h
   | defer d=>exact h
   | enter f args=>exact⟨(λh=>by cases h),CallsIn.inRound l (callsIn_wide.2 h)⟩
   | row r args=>exact⟨(λh=>by cases h),λc cs _=>let ⟨v,w',hr,hst⟩:=h c cs;⟨v,w',hr,stepsIn_wide.2 hst⟩⟩
   | _=>exact h.elim
 | halt hh w'=>
   cases hh with
   | panic v=>exact h
   | _=>exact h.elim
theorem Qe{e:Array Oper}{g:Region.Mode}{Q:Exit->Act->Tw->Prop}{l n:Nat}(b:∀(i:Nat)(o:Oper),e[i]? = some o->∀c,o.op≠.defer c)(f:¬LetsOut Q):∀(fuel:Nat)(listed:Array Bool)(a:Act)(w:Tw),wpAny prog g e Q fuel listed a w->wpAnyIn (Fence.wide.inRound l) n prog g e Q fuel listed a w
 | 0,_,_,_,h=>h
 | fuel+1,listed,a,w,h=>by
   refine⟨h.1,λi j=>?_⟩;have d:=h.2 i j;unfold wpOp at d;unfold wpOpIn;cases ho:e[i]? with
   | none=>rw[ho] at d;exact Qe b f fuel _ a w d
   | some o=>
     rw[ho] at d;simp only at d ⊢;split
     ·rename_i hw
      rw[A2 hw] at d
      rcases d with d|⟨_,d⟩
      ·refine wQ (b i o ho) ?_
       exact Oper.wp_mono (λa w k=>Qe b f fuel _ a w k) d
      exact absurd d f
     rename_i hw;rw[A1 hw] at d;exact⟨λ_ _=>trivial,Qe b f fuel _ _ w d⟩
attribute [local go_sem] Oper.semAt_some
theorem ACB(b:To)(len a:Nat)(w:Tw):
 Zc 74 #[Zs b len a,Zi 6] w λe c=>e=Zr (.func (.func 119) #[] #[Zp (some (Zd w.1.size 0)),Zp (some (Zd (w.1.size+1) 0))])/\c=(w.alloc (Zk #[Zs b len a] 35)).alloc (Zk #[Zi 6] 3):=by
 go_enter func74,ntmps74;go_wp2;go_ret;exact⟨rfl,rfl⟩
abbrev CK(n:Nat):={ k:Nat // 6*k<n }
def ckN{n:Nat}(x:CK n):Nat:=x.1
def ckL(n k:Nat):Nat:=if n-6*k<6 then n-6*k else 6
def ckV(b off n:Nat)(k:CK n):Value:=.slice (some ⟨b,off+6*k.1,none⟩) (ckL n k.1) (ckL n k.1)
def KpC(b a:Nat)(W c:World):Prop:=c.cell? ⟨b,0,none⟩=W.cell? ⟨b,0,none⟩/\c.cell? ⟨a,0,none⟩=W.cell? ⟨a,0,none⟩
theorem KpC.t{n i:Nat}{A B C:Tw}(h:KpC n i A B)(k:KpC n i B C):KpC n i A C:=⟨k.1.trans h.1,k.2.trans h.2⟩
theorem ADo(n:Nat)(_hn:1<=n)(l g f b off len a:Nat)(hlen:len<=1000)(L:len<=a)(J D:List (CK len)->Tw->Prop)(u:∀pre W,J pre W->J pre W.drew)(V:∀pre x W,J pre W->pre.length<aF len->YieldAt Fence.wide (n-1) prog l #[ckV b off len x] W λe d=>
   (e=Zr (Zo true)/\J (pre++[x]) d/\KpC g f W d)\/(e=Zr (Zo false)/\D (pre++[x]) d))(W:Tw)(s:W.cell? (Zd g 0)=some (Zs (some (Zd b off)) len a))(r:W.cell? (Zd f 0)=some (Zi 6))(T:J [] W):
 CallsIn Fence.wide n prog 119 #[.func (.yield l) #[] #[],Zp (some (Zd g 0)),Zp (some (Zd f 0))] W λe d=>(∃v,e=Zr v) /\
  ((∃O:List (CK len),O.map ckN=List.range (aF len)/\J O d)\/(∃pre:List (CK len),True/\D pre d)):=by
 refine callsIn_of_wp func119 rfl trivial ?_ rfl;simp only[ntmps119,XY,X2,X4,Nat.reduceAdd,Nat.reduceSub,XR,XS,XZ,XV,X6,XT];gi_wp2
 gi_loopw [4] (λi wr=>∃(k:Nat)(pre:List (CK len)),k<=aF len/\i=Zi ((6*k:Nat):Int)/\pre.map ckN=List.range k/\J pre wr/\wr.cell? (Zd g 0)=some (Zs (some (Zd b off)) len a)/\wr.cell? (Zd f 0)=some (Zi 6))
  (λi _=>len+6-(intOf i).toNat)
 case atStart=>exact⟨0,[],XF _,rfl,rfl,T,s,r⟩
 case round=>
  obtain⟨k,pre,hk,rfl,c,h,q0,q1⟩:=hrel;have y:pre.length=k:=by have:=congrArg List.length c;simpa using this
  by_cases hlt:6*k<len
  ·obtain⟨fn,tmps,assign,body,z,U⟩:=V pre ⟨k,hlt⟩ wr.drew (u _ _ h) (by rw[y];unfold aF;omega)
   have q:Hid (6*k<len):=Aa hlt;have w:k<aF len:=by unfold aF;omega
   obtain⟨m,p⟩:∃m,6*k=m:=⟨_,rfl⟩;have I:ckL len k=(((m:Int)+min 6 ((len-m:Nat):Int)).toNat-m):=by unfold ckL;rw[p];split <;> omega
   unfold ckV at z;dsimp only at z;rw[I,p] at z;rw[p] at hlt ⊢;have M:(m:Int)<(len:Int):=by omega
   have N:(m:Int)<=(len:Int):=by omega
   have aa:(0:Int)<=(m:Int):=by omega
   have X:¬a=m:=by omega
   have ab:m<=a:=by omega
   have P:=Aa p;clear I p;gi_wp2;refine wpIn_wide.2 ?_
   go_region
   all_goals gi_wp2
   apply U.mono;rintro e G (⟨rfl,t,o⟩|⟨rfl,j⟩)
   ·have p0:G.cell? (Zd g 0)=some (Zs (some (Zd b off)) len a):=o.1.trans q0
    have p1:G.cell? (Zd f 0)=some (Zi 6):=o.2.trans q1;gi_wp2
    go_roundw
    case rel=>
     refine⟨k+1,pre++[⟨k,q.o⟩],w,?_,?_,t,p0,p1⟩
     ·have:=P.o
      congr 1;omega
     rw[WS,c,WH];rfl
    case measure=>simp[intOf];omega
   gi_wp2;refine bodyPost_ret (results_none rfl _ _ _) rfl ?_;exact⟨⟨_,rfl⟩,.inr ⟨_,trivial,j⟩⟩
  have Y:¬((6*k:Nat):Int)<(len:Int):=by omega
  have R:k=aF len:=by unfold aF at hk ⊢;omega
  gi_wp2
  go_end0
  exact⟨⟨_,rfl⟩,.inl ⟨pre,by rw[c,R],h⟩⟩
theorem rS(n:Nat)(k:1<=n)(d c b off len a:Nat)(hlen:len<=1000)(f:len<=a)(w:Tw)(i:d<w.1.size)(g:c<w.1.size)(m:w.cell? (Zd d 0)=some (Zs (some (Zd b off)) len a))(j:w.cell? (Zd c 0)=some (Zi 6)):
 SeqStopsK Fence.wide n prog 119 #[Zp (some (Zd d 0)),Zp (some (Zd c 0))] (λx:CK len=>#[ckV b off len x]) (KpC d c) (λys=>ys.map ckN=List.range (aF len)) (λ_=>True) (aF len) w:=λl J Jx W hW hJ _ hY h0=>
 ADo n k l d c b off len a hlen f J Jx (λpre W h=>hJ pre W _ none h ⟨rfl,rfl,rfl,XA _,λ_ _ _=>rfl⟩ (λr e=>by cases e)) hY W ((hW.cell (p:=Zd d 0) i).trans m) ((hW.cell (p:=Zd c 0) g).trans j) h0
variable{W w:Tw}{x:Int×Tv×Tv}{g:Fk}{v:Tv}{l:List Aj}
def U7(w:World)(x:Int×Value×Value)(g:Fk):Prop:=x.1=g.1/\w.ownsRow 0 235 8 x.2.1 g.2.1.length (g.2.1.flatMap encS)/\w.ownsRow 0 9 1 x.2.2 g.2.2.length (g.2.2.flatMap Mc)
theorem U7.at(h:U7 w x g):Xr w x g:=⟨h.1,F7.Fz rG h.2.1 rfl,F7.Fz (k:=1) (enc:=Mc) (λ_=>rfl) h.2.2 rfl⟩
theorem U7.up(h:U7 w x g)(a:Zb w W):U7 W x g:=⟨h.1,E.Ad h.2.1 a,E.Ad h.2.2 a⟩
theorem U7.other{row:Option Nat}(h:U7 w x g)(f:w.grownBy W row)(i:∀r a fr,row=some r->w.1[r]? ≠some (Zk a 235 fr)/\w.1[r]? ≠some (Zk a 9 fr)):U7 W x g:=by
 refine⟨h.1,h.2.1.kept f ?_,h.2.2.kept f ?_⟩
 ·rcases h.2.1.2 with⟨e,_⟩|⟨q,b,a,e,_,d,_⟩
  ·rw[e];exact .inl rfl
  rw[e];exact .inr (λc=>(i q a (0,0) c.symm).1 d)
 rcases h.2.2.2 with⟨e,_⟩|⟨q,b,a,e,_,d,_⟩
 ·rw[e];exact .inl rfl
 rw[e];exact .inr (λc=>(i q a (0,0) c.symm).2 d)
def Wn(B:Nat)(w:World)(v:Value)(gs:List Fk):Prop:=∃xs:List (Int×Value×Value),xs.length=gs.length/\w.ownsRow B 171 3 v gs.length (xs.flatMap aG)/\∀(j:Nat)x g,xs[j]? = some x->gs[j]? = some g->U7 w x g
theorem Wn.slg{B:Nat}{gs:List Fk}(h:Wn B w v gs):vL w v gs:=by obtain⟨xs,a,b,c⟩:=h;exact⟨xs,F7.Fz (k:=3) (enc:=aG) (λ_=>rfl) b a.symm,a,λj x g hx hg=>(c j x g hx hg).at⟩
theorem Wn.kept{B:Nat}{w W:Tw}{v:Tv}{gs:List Fk}{row:Option Nat}(h:Wn B w v gs)(m:w.grownBy W row)(y:∀r,row=some r->∃o:Obj,w.1[r]? = some o/\(o.isCells=false\/∃a,o=Zk a 125 (0,0))):Wn B W v gs:=by
 have c:∀(T:TypeId),T≠125->∀r a fr,row=some r->w.1[r]? ≠some (Zk a T fr):=by
  intro T u r a fr e i;obtain⟨o,d,b⟩:=y r e;rw[i] at d;injection d with d;subst d
  rcases b with b|⟨k,b⟩
  ·cases b
  injection b with _ b _;exact u b
 obtain⟨xs,s,l,t⟩:=h;refine⟨xs,s,l.kept m ?_,λj x g z f=>(t j x g z f).other m (λr a fr e=>⟨c _ (by decide) r a fr e,c _ (by decide) r a fr e⟩)⟩
 rcases l.2 with⟨e,_⟩|⟨q,n,a,e,_,i,_⟩
 ·rw[e];exact .inl rfl
 rw[e];exact .inr (λp=>c _ (by decide) q a (0,0) p.symm i)
theorem uW(B:Nat)(w:Tw):Wn B w (Zs none 0 0) []:=⟨[],rfl,XJ _ _ _ _,λj x g a=>by simp at a⟩
theorem Wn.app{B:Nat}{v v':Tv}{gs:List Fk}{xs:List (Int×Tv×Tv)}(m:xs.length=gs.length)(u:w.ownsRow B 171 3 v gs.length (xs.flatMap aG))(s:∀(j:Nat)x g,xs[j]? = some x->gs[j]? = some g->U7 w x g)(z:U7 w x g)(i:W.ownsRow B 171 3 v' (gs.length+1) (xs.flatMap aG++aG x))(n:w.grownBy W v.ownBlock):Wn B W v' (gs++[g]):=by
 have o:∀r a fr,v.ownBlock=some r->w.1[r]? ≠some (Zk a 235 fr)/\w.1[r]? ≠some (Zk a 9 fr):=by
  intro r a fr e
  rcases u.2 with⟨d,_⟩|⟨q,p,l,d,_,t,_⟩
  ·rw[d] at e;cases e
  rw[d] at e;injection e with e;subst e;rw[t];constructor <;> (intro h;injection h with h;injection h with _ h _;revert h;decide)
 refine⟨xs++[x],by simp[m],by rw[XK,XI];simpa using i,λj y k c b=>?_⟩
 by_cases hj:j<gs.length
 ·rw[WC (by omega)] at c
  rw[WC hj] at b;exact(s j y k c b).other n o
 rw[WA (by omega),m] at c;rw[WA (by omega)] at b;have f:j-gs.length=0:=by have:=Ax b;simp at this;omega
 rw[f] at c b;simp at c b;subst c b;exact z.other n o
def MkI(l:List Aj)(qj:List (List V))(fb:Nat)(b:Value)(w5:World)(pre:List (CK qj.length))(W:World):Prop:=(∃a,W.1[fb]? = some (.cells #[b,a] 125)/\Wn (fb+3) W a (pre.map λk=>An l (Dz qj k.1)))/\Below fb w5 W/\fb+3<=W.1.size
theorem MkI.own{qj:List (List V)}{fb B:Nat}{w5:Tw}(f:fb<=w5.1.size)(n:fb<=B):OwnFrom B (MkI l qj fb v w5):=λs A C row p b h=>by
 obtain⟨⟨j,d,g⟩,i,m⟩:=p;refine⟨⟨j,(b.block fb (E.Ac d) (λe=>?_)).trans d,g.kept b (λr e=>by obtain⟨_,o,a,c⟩:=h r e;exact⟨o,a,.inl c⟩)⟩,i.grown b (XL f i.size) (λk e=>XL n (h k e).1),XL m b.size⟩;obtain⟨_,_,a,c⟩:=h fb e.symm;rw[d] at a;injection a with a;subst a;cases c
theorem Ie{A B:Tw}(h:Zb A B):KeepsOthers A B:=⟨h.size,λk _ a _=>(h.block k (Array.getElem?_eq_some_iff.1 a).1).trans a⟩
theorem P0{qj:List (List V)}{fb B:Nat}{u:Tv}{w5 W w s:Tw}{xs:List (Int×Tv×Tv)}{pre:List (CK qj.length)}{k:CK qj.length}{z t:To}{n i m d:Nat}(M:Zb W w)(X:xs.length=pre.length)(I:W.ownsRow (fb+3) 171 3 u pre.length (xs.flatMap aG))(U:∀(j:Nat)x g,xs[j]? = some x->(pre.map λk=>An l (Dz qj k.1))[j]? = some g->U7 W x g)(R:w.ownsRow W.1.size 235 8 (Zs z l.length n) l.length ((An l (Dz qj k.1)).2.1.flatMap encS))(N:w.ownsRow W.1.size 9 1 (Zs t l.length i) l.length ((An l (Dz qj k.1)).2.2.flatMap Mc))(O:s.ownsRow (fb+3) 171 3 (Zs (some (Zd m 0)) (pre.length+1) d) (pre.length+1) (xs.flatMap aG++[Zi (Dz qj k.1).length,Zs z l.length n,Zs t l.length i]))(c:(w.alloc (Zk #[Zi (Dz qj k.1).length,Zs z l.length n,Zs t l.length i] 171)).grownBy s u.ownBlock)(hf:W.1[fb]? = some (Zk #[v,u] 125))(h5:Below fb w5 W)(h3:fb+3<=W.1.size):
 s.cell? (Zd fb 1)=some u/\s.frozen? (Zd fb 1)=false/\∀(Y:Code->List (CK qj.length)->Tw->Prop)(a:Act),ownPostG B (KpC (fb+1) (fb+2)) (MkI l qj fb v w5) Y (pre++[k]) W .normal a (s.setCell (Zd fb 1) (Zs (some (Zd m 0)) (pre.length+1) d)):=by
 have b:Zb W (w.alloc (Zk #[Zi (Dz qj k.1).length,Zs z l.length n,Zs t l.length i] 171)):=Ap M (Zal);have P:fb+3<=(w.alloc (Zk #[Zi (Dz qj k.1).length,Zs z l.length n,Zs t l.length i] 171)).1.size:=XL h3 b.size;have y:=E.Ad I b;have far:∀q,q<fb+3->some q≠u.ownBlock:=λq hq e=>by have:=(I.lt q e.symm).1;omega
 have h:s.1[fb]? = some (Zk #[v,u] 125):=(c.block fb (by omega) (far fb (by omega))).trans ((b.block fb (by omega)).trans hf);have f:∀q,q<fb+3->s.cell? (Zd q 0)=W.cell? (Zd q 0):=λq hq=>(c.cell_far (Zd q 0) (by show q<_;omega) (far q hq)).trans (b.cell (p:=Zd q 0) (by show q<_;omega))
 obtain⟨c0,c1⟩:=Hg h;refine⟨c1,Yag s fb 1 _ _ h,λY a=>⟨?_,?_,?_,?_,XL (XL P c.size) (E.Ar s fb 1 (Zs (some (Zd m 0)) (pre.length+1) d)).size⟩⟩
 ·refine KeepsOthers.from (((Ie b).trans (KeepsOthers.of_grownBy c (λj o e J=>?_))).trans (KeepsOthers.setCell _ _ _)) _
  rcases y.2 with⟨L,_⟩|⟨q,aa,ab,L,_,hh,_⟩
  ·rw[L] at e;cases e
  rw[L] at e;injection e with e;subst e;rw[hh] at J;injection J with J;subst J;rfl
 ·have hs:=E.Ar s fb 1 (Zs (some (Zd m 0)) (pre.length+1) d)
  have h9:=c.size;exact⟨(hs.cell_far (Zd (fb+1) 0) (by show fb+1<_;omega) (by simp)).trans (f _ (by omega)),(hs.cell_far (Zd (fb+2) 0) (by show fb+2<_;omega) (by simp)).trans (f _ (by omega))⟩
 ·have G:=heap_setCell_same s fb 1 _ _ (Zs (some (Zd m 0)) (pre.length+1) d) h
  refine⟨_,G,?_⟩;rw[WS]
  have T:U7 (w.alloc (Zk #[Zi (Dz qj k.1).length,Zs z l.length n,Zs t l.length i] 171)) ((Dz qj k.1).length,Zs z l.length n,Zs t l.length i) (An l (Dz qj k.1)):=by
   have e1:(An l (Dz qj k.1)).2.1.length=l.length:=by simp[An]
   have e2:(An l (Dz qj k.1)).2.2.length=l.length:=by simp[An]
   refine⟨rfl,?_,?_⟩
   ·rw[e1];exact(E.Ai R (XF _)).alloc _
   rw[e2];exact(E.Ai N (XF _)).alloc _
  have D:=Wn.app (v':=Zs (some (Zd m 0)) (pre.length+1) d) (gs:=pre.map λk=>An l (Dz qj k.1)) (by simpa using X) (by rw[X'];exact y) (λj x g T hg=>(U j x g T hg).up b) T (by rw[X'];exact O) c;refine D.kept (E.Ar s fb 1 (Zs (some (Zd m 0)) (pre.length+1) d)) (λr e=>?_);injection e with e;subst e;exact⟨_,h,.inr ⟨_,rfl⟩⟩
 exact(E.Bj (h5.trans (b.mono (by have:=h5.size;omega))) (E.Ai y (XG fb 3)) c (by omega)).setCell (p:=Zd fb 1) (XA _) _
theorem ADs{b off n c:Nat}{qj:List (List V)}(h:iJ w (Zs (some (Zd b off)) n c) qj)(J:n=qj.length)(k:CK qj.length):iJ w (ckV b off qj.length k) (Dz qj k.1):=by
 obtain⟨m,q,s,t⟩:=h;have I:=k.2;obtain⟨z,l,D,e,G,v,a⟩:=q.cons (by omega);injection e with g _ _;injection g with g;injection g with o p _;subst o p;have y:(Dz qj k.1).length=ckL qj.length k.1:=by simp only[Dz,XU,WN,ckL];split <;> omega
 have d:((m.drop (6*k.1)).take 6).length=ckL qj.length k.1:=by simp only[XU,WN,ckL,s];split <;> omega
 refine⟨(m.drop (6*k.1)).take 6,⟨_,ckL qj.length k.1,by rw[d];rfl,by rw[d];exact XA _,λ_=>⟨b,off+6*k.1,rfl,v,λj x hx i u hu=>?_⟩⟩,by rw[y,d],λj x r hx hr=>?_⟩
 ·have f:j<6:=by have:=Ax hx;rw[XU] at this;omega
  rw[Yh f,WB] at hx;have:=a (6*k.1+j) x hx i u hu;rwa[show off+(6*k.1+j)*1+i=off+6*k.1+j*1+i by omega] at this
 have f:j<6:=by have:=Ax hx;rw[XU] at this;omega
 rw[Yh f,WB] at hx;unfold Dz at hr;rw[Yh f,WB] at hr;exact t _ x r hx hr
def L8(x:Int):Value:=if x=0 then .nilIface else .iface 107 (Zi x)
theorem wM{r:List V}{k:Nat}{c:Aj}{v:V}(a:l[k]? = some c)(b:r[k]? = some v):Ia (l.drop k) (r.drop k)=if Lx c v=false then 1 else if (c.2.2.2.1 && v.1==0)=true then 7 else Ia (l.drop (k+1)) (r.drop (k+1)):=by
 have d:l.drop k=c :: l.drop (k+1):=by rw[Ym (Ax a)];rw[Y' (Ax a)] at a;injection a with a;rw[a]
 have e:r.drop k=v :: r.drop (k+1):=by rw[Ym (Ax b)];rw[Y' (Ax b)] at b;injection b with b;rw[b]
 rw[d,e,Ia]
theorem AA2(lv rv:Tv)(l:List Aj)(r:List V)(w:Tw)(hl:F7 7 Cc w lv l)(hr:E.Sl w rv r)(hlen:l.length<=1000)(ht:∀v∈r,v.2.2.size<=maxLen):
 Zc 171 #[lv,rv] w λe w'=>e=Zr (L8 (Hu l r))/\Below w.1.size w w':=by
 have HL:=Aa hl;have HT:=Aa ht;obtain⟨la,lc,rfl,_⟩:=hl.slice;obtain⟨ra,rc,rfl,ai,d⟩:=hr;have Y:=Aa d;clear hl ht d
 by_cases hne:r.length=l.length
 ·rw[<-hne]
  have U:Hid (Hu l r=Ia (l.drop 0) (r.drop 0)):=Aa (by unfold Hu;rw[A2 hne];rfl);have z:=Aa hne;have aj:r.length<=1000:=by omega
  clear hne;go_enter func171,ntmps171;go_wp2
  go_loopw [15] (λvi wr=>∃k:Nat,k<=r.length/\vi=Zi k/\Hid (Hu l r=Ia (l.drop k) (r.drop k))/\Hid (Below w.1.size w wr)) (λvi _=>r.length-(intOf vi).toNat)
  case atStart=>exact⟨0,XF _,rfl,U,Aa (XB _ _)⟩
  case round=>
   obtain⟨k,hk,rfl,t,b⟩:=hrel
   by_cases hlt:k<r.length
   ·have ac:k<l.length:=by rw[<-z.o];exact hlt
    obtain⟨⟨g,o,p⟩,I⟩:∃x,r[k]? = some x:=⟨_,Y' hlt⟩;obtain⟨⟨c1,c2,D,u,c5,c6,c7⟩,hc⟩:∃x,l[k]? = some x:=⟨_,Y' ac⟩;obtain⟨rb,ro,rfl,ah,h⟩:=Y.o (by intro e;rw[e] at hlt;simp at hlt);obtain⟨lb,f,ak,el,_,ag,c⟩:=(HL.o.up b.o).cons (by omega);injection el with aa _ ab;subst aa ab;obtain⟨J,L,M,N,O,P,R⟩:=F8 c hc;obtain⟨v0,v1,v2⟩:=h k _ I;replace v0:=Ag b.o v0;replace v1:=Ag b.o v1;replace v2:=Ag b.o v2;have HF:=Aa (λW=>Sn c1 c2 D u c5 c6 c7 g o p W (HT.o _ (XD I)));have X:Hid (Hu l r=if Cm D g o p=false then 1 else if (u && g==0)=true then 7 else Ia (l.drop (k+1)) (r.drop (k+1))):=Aa (by rw[t.o,wM hc I];rfl);have af:(k:Int)<(r.length:Int):=by omega
    have a:Below wr.1.size wr (wr.alloc (Zk #[Zi g,Zi o,Zt p] 55)):=Zal;obtain⟨x0,x1,x2⟩:=E.Ei (Yad wr (Zk #[Zi g,Zi o,Zt p] 55));have T:=Aa (Ap b.o a);clear h c t I hc;go_wp2_with fail;replace J:=Ag a J;replace L:=Ag a L;replace M:=Ag a M;replace N:=Ag a N;replace O:=Ag a O;replace P:=Ag a P;replace R:=Ag a R;clear v0 v1 v2 a b;generalize wr.alloc (Zk #[Zi g,Zi o,Zt p] 55)=G at *;generalize wr.1.size=y at *;have HU:Hid (∀W,Below G.1.size G W->(W.cell? (Zd lb (f+k*7))=some (Zi c1)/\W.cell? (Zd lb (f+k*7+1))=some (Zt c2)/\W.cell? (Zd lb (f+k*7+2))=some (Zi D)/\W.cell? (Zd lb (f+k*7+3))=some (Zo u)/\W.cell? (Zd lb (f+k*7+4))=some (Zi c5)/\W.cell? (Zd lb (f+k*7+5))=some (Zi c6)/\W.cell? (Zd lb (f+k*7+6))=some (Zt c7)/\W.cell? (Zd y 0)=some (Zi g)/\W.cell? (Zd y 1)=some (Zi o)/\W.cell? (Zd y 2)=some (Zt p))):=Aa (λW i=>⟨Ag i J,Ag i L,Ag i M,Ag i N,Ag i O,Ag i P,Ag i R,Ag i x0,Ag i x1,Ag i x2⟩)
    go_region_held3 (λW=>W.cell? (Zd lb (f+k*7))=some (Zi c1)/\W.cell? (Zd lb (f+k*7+1))=some (Zt c2)/\W.cell? (Zd lb (f+k*7+2))=some (Zi D)/\W.cell? (Zd lb (f+k*7+3))=some (Zo u)/\W.cell? (Zd lb (f+k*7+4))=some (Zi c5)/\W.cell? (Zd lb (f+k*7+5))=some (Zi c6)/\W.cell? (Zd lb (f+k*7+6))=some (Zt c7)/\W.cell? (Zd y 0)=some (Zi g)/\W.cell? (Zd y 1)=some (Zi o)/\W.cell? (Zd y 2)=some (Zt p))
     (first|(go_keep;done)|exact HU.o _ s|fail)
     (first|(go_at_call 167;refine(HF.o _).mono ?_;rintro e w1⟨rfl,n⟩;have s:Below G.1.size G w1:=Ap (XB _ _).drew n)|fail)
    obtain⟨_,_,_,p3,_,_,_,p7,_,_⟩:=HU.o w1 s;have m:=Ap T.o s;clear J L M N O P R x0 x1 x2 HU n;cases hf:Cm D g o p with
    | false=>have j:Hid (Hu l r=1):=Aa (by rw[X.o,hf];rfl);go_wp2;go_ret;rw[j.o];exact⟨rfl,m⟩
    | true=>
      have q:Hid (Hu l r=if (u && g==0)=true then 7 else Ia (l.drop (k+1)) (r.drop (k+1))):=Aa (by rw[X.o,hf];rfl);clear X hf;cases u with
      | false=>
        have j:Hid (Hu l r=Ia (l.drop (k+1)) (r.drop (k+1))):=Aa (by rw[q.o];rfl);go_wp2
        go_roundw
        case rel=>exact⟨k+1,by omega,by go_num,j,Aa m⟩
        case measure=>simp[intOf];omega
      | true=>
        by_cases hv0:g=0
        ·subst hv0
         have j:Hid (Hu l r=7):=Aa (by rw[q.o];rfl);go_wp2;go_ret;rw[j.o];exact⟨rfl,m⟩
        have ad:(g==0)=false:=by simpa using hv0
        have j:Hid (Hu l r=Ia (l.drop (k+1)) (r.drop (k+1))):=Aa (by rw[q.o,ad];rfl);clear hv0;go_wp2
        go_roundw
        case rel=>exact⟨k+1,by omega,by go_num,j,Aa m⟩
        case measure=>simp[intOf];omega
   have ek:k=r.length:=by omega
   subst ek;have j:Hid (Hu l r=0):=Aa (by rw[t.o,z.o,WO];rfl);go_wp2;go_ret;rw[j.o];exact⟨rfl,b.o⟩
 have ae:((r.length:Int)==(l.length:Int))=false:=by simp;omega
 have U:Hid (Hu l r=1):=Aa (by unfold Hu;rw[A1 hne]);clear hne;go_enter func171,ntmps171;go_wp2;go_ret;rw[U.o];exact⟨rfl,XB _ _⟩
theorem ANP(c:Aj):Ko c=Go.Proofs.YthpcepcghakimaaGreatDoor.Ko c:=rfl
theorem AMw(l:List Aj)(next:Int):Be l next=Go.Proofs.YthpcepcghakimaaGreatDoor.Be l next:=by
 unfold Be Go.Proofs.YthpcepcghakimaaGreatDoor.Be
 have h:(List.range l.length).all (Mg l next)=(List.range l.length).all (Go.Proofs.YthpcepcghakimaaGreatDoor.Mg l next):=by
  rw[Y2,WQ,WQ];refine forall₂_congr λk b=>?_
  have a:=List.mem_range.1 b;unfold Mg Go.Proofs.YthpcepcghakimaaGreatDoor.Mg;rw[getElem!_pos l k a,Y' a,WR,ANP,show Ez l[k]=Go.Proofs.YthpcepcghakimaaGreatDoor.Ez l[k] from rfl,show (!decide (next<=l[k].1))=decide (l[k].1<next) from by rw[Y2];simp]
 rw[h,Bool.decide_and,Bool.and_assoc]
theorem kR(f:Tv)(l:List Aj)(next:Int)(w:Tw)(h:F7 7 Cc w f l)(_hlen:l.length<=1000)(d:∀x∈l,x.2.1.size<=maxLen/\x.2.2.2.2.2.2.size<=maxLen)(j:Lw w):
 Zc 63 #[f,Zi next] w λe k=>e=Zr (Zo (Be l next))/\Zb w k:=by
 rw[AMw]
 by_cases hl:1<=l.length/\l.length<=8
 ·obtain⟨g,o,c,rfl,b,i⟩:=wR h (by omega)
  exact Go.Proofs.YthpcepcghakimaaGreatDoor.AE6 g o c l next w i hl.1 hl.2 b j d
 obtain⟨a,c,rfl,_⟩:=h.slice;rw[<-Go.Proofs.YthpcepcghakimaaGreatDoor.xO hl];exact Go.Proofs.YthpcepcghakimaaGreatDoor.ACH a l.length c next w hl
end F
def Ob(w:World):Prop:=w.cell? ⟨1,0,none⟩=some (.iface 390 (.agg #[.pointer (some ⟨11,32,none⟩)]))
theorem Ob.lt{w:Tw}(h:Ob w):1<w.1.size:=by
 rcases Yc 1 w.1.size with a|a
 ·exact a
 unfold Ob at h;simp[World.cell?,XM a] at h
theorem Ob.below{w W:Tw}(h:Ob w)(a:Zb w W):Ob W:=(a.cell (p:=Zd 1 0) h.lt).trans h
theorem vQ(t:Addr)(w:Tw):(ReflectliteValue.unpack (Zf 309 (Zp (some t)))).run prog w
 = .ok (Zg #[Zp (some (Zd 11 309)),Zp (some (Zd w.1.size 0)),.int .u64 150]) (w.alloc (Zk #[Zp (some t)] 309)):=by kernel_rfl
theorem type102(a:Addr)(w:Tw):(ReflectliteValue.methodAny (ReflectliteValue.valueError "reflectlite.Value.Type" 0) (λt _ _ _=>ReflectliteType.toType t) #[Zg #[Zp (some (Zd 11 309)),Zp (some a),.int .u64 150]]).run prog w
 = .ok (Zf 390 (Zg #[Zp (some (Zd 11 309))])) w:=by kernel_rfl
theorem wL(h:Tv)(w:Tw):(Go.method 565 390 (Zg #[h]) "Kind").run prog w=.ok (377,h) w:=by kernel_rfl
theorem AHH(w:Tw):((ReflectliteType.abiMethod λt=>(λa:Nat=>Value.int IntKind.u8 (a:Int)) <$> Rtype.kind t) #[Zp (some (Zd 11 309))]).run prog w=.ok (.int .u8 22) w:=by kernel_rfl
theorem AIi(w:Tw):((ReflectliteType.abiMethod λt=>(λa:Nat=>Value.int IntKind.u8 (a:Int)) <$> Rtype.kind t) #[Zp (some (Zd 11 107))]).run prog w=.ok (.int .u8 2) w:=by kernel_rfl
theorem sJ(a:Addr)(w:Tw):(ReflectliteValue.parts (Zg #[Zp (some (Zd 11 309)),Zp (some a),.int .u64 150])).run prog w=.ok (some (309,a,150)) w:=by kernel_rfl
theorem AGU(a p:Addr)(W:Tw)(b:W.cell? a=some (Zp (some p))):
 (ReflectliteValue.method (ReflectliteValue.valueError "reflectlite.Value.IsNil" 0) ReflectliteValue.isNil #[Zg #[Zp (some (Zd 11 309)),Zp (some a),.int .u64 150]]).run prog W=.ok (Zo false) W:=by
 rw[Lib.rl_method];simp only[Sem.run_bind,sJ,Result.andThen];simp[ReflectliteValue.isNil,loadVar,isAgg,underlying,underlying309,b,Result.andThen]
theorem AM8(h:Tv)(w:Tw):(Go.method 565 390 (Zg #[h]) "Elem").run prog w=.ok (394,Zg #[h]) w:=by kernel_rfl
theorem Vt(h:Tv)(w:Tw):(Go.method 565 390 (Zg #[h]) "Implements").run prog w=.ok (395,Zg #[h]) w:=by kernel_rfl
theorem Rx(h:Tv)(w:Tw):(Go.method 565 390 (Zg #[h]) "AssignableTo").run prog w=.ok (392,Zg #[h]) w:=by kernel_rfl
theorem AHg(w:Tw):(ReflectliteType.method ReflectliteType.elem #[Zg #[Zp (some (Zd 11 309))]]).run prog w=.ok (Zf 390 (Zg #[Zp (some (Zd 11 107))])) w:=by kernel_rfl
theorem nD(w:Tw):(ReflectliteType.relation "Implements" ReflectliteType.implements_ #[Zg #[Zp (some (Zd 11 107))],Zf 390 (Zg #[Zp (some (Zd 11 32))])]).run prog w=.ok (Zo true) w:=by kernel_rfl
theorem AEN(v:Tv)(w:Tw):(ReflectliteType.typeOf #[Zf 107 v]).run prog w=.ok (Zf 390 (Zg #[Zp (some (Zd 11 107))])) w:=by kernel_rfl
theorem nM(w:Tw):(ReflectliteType.relation "AssignableTo" ReflectliteType.assignableTo #[Zg #[Zp (some (Zd 11 107))],Zf 390 (Zg #[Zp (some (Zd 11 107))])]).run prog w=.ok (Zo true) w:=by kernel_rfl
theorem ABj(x:Int)(w:Tw):(ReflectliteValue.unpack (Zf 107 (Zi x))).run prog w
 = .ok (Zg #[Zp (some (Zd 11 107)),Zp (some (Zd w.1.size 0)),.int .u64 130]) (w.alloc (Zk #[Zi x] 107)):=by kernel_rfl
theorem ABv(w:Tw):(Rtype.elem? 309).run prog w=.ok (some 107) w:=by kernel_rfl
theorem AK6(p:Addr)(w:Tw):(ReflectliteValue.mk 107 p ReflectliteValue.flagAddr).run prog w=.ok (Zg #[Zp (some (Zd 11 107)),Zp (some p),.int .u64 386]) w:=by kernel_rfl
theorem AFG(a p:Addr)(W:Tw)(b:W.cell? a=some (Zp (some p))):
 (ReflectliteValue.method (ReflectliteValue.valueError "reflectlite.Value.Elem" 0) ReflectliteValue.elem #[Zg #[Zp (some (Zd 11 309)),Zp (some a),.int .u64 150]]).run prog W
   = .ok (Zg #[Zp (some (Zd 11 107)),Zp (some p),.int .u64 386]) W:=by
 rw[Lib.rl_method];simp only[Sem.run_bind,sJ,Result.andThen];simp[ReflectliteValue.elem,loadVar,isAgg,underlying,underlying309,b,Result.andThen,ABv,AK6]
theorem ADu{m:Array Tv->Type}(a b:Tv)(c:(v x:Tv)->m #[v,x])(d:(x:Array Tv)->m x):ReflectliteValue.set.match_3 m #[a,b] c d=c a b:=rfl
theorem AEo(a:Addr)(w:Tw):(ReflectliteValue.parts (Zg #[Zp (some (Zd 11 107)),Zp (some a),.int .u64 386])).run prog w=.ok (some (107,a,386)) w:=by kernel_rfl
theorem AGw(a:Addr)(w:Tw):(ReflectliteValue.parts (Zg #[Zp (some (Zd 11 107)),Zp (some a),.int .u64 130])).run prog w=.ok (some (107,a,130)) w:=by kernel_rfl
theorem AFE(w:Tw):(Rtype.directlyAssignable 107 107).run prog w=.ok true w:=by kernel_rfl
theorem AJy(a b:Addr)(x:Int)(old:Tv)(W:Tw)(c:W.cell? b=some (Zi x))(e:W.cell? a=some old)(d:W.frozen? a=false):
 (ReflectliteValue.set #[Zg #[Zp (some (Zd 11 107)),Zp (some a),.int .u64 386],Zg #[Zp (some (Zd 11 107)),Zp (some b),.int .u64 130]]).run prog W
   = .ok (Zu #[]) (W.setCell a (Zi x)):=by
 delta ReflectliteValue.set
 rw[ADu];simp only[Sem.run_bind,AEo,AGw,Result.andThen];simp[ReflectliteValue.flagAddr,loadVar,isAgg,underlying,underlying107,c,Result.andThen,AFE,storeVar,Value.cells,storeCells,Addr.add];rw[run_store prog W a _ _ (by rfl)];simp[e,d]
theorem AIm(x:Int)(t:Addr)(old:Tv)(w:Tw)(d:Ob w)(b:w.cell? t=some old)(e:w.frozen? t=false):
 Zc 219 #[Zf 107 (Zi x),Zf 309 (Zp (some t))] w λi y=>i=Zr (Zo true)/\y=((((w.alloc (Zk #[Zp (some t)] 309)).alloc (Zk #[Zp (some (Zd 11 309)),Zp (some (Zd w.1.size 0)),.int .u64 150] 347)).alloc (Zk #[Zp (some (Zd 11 309)),Zp (some (Zd w.1.size 0)),.int .u64 150] 347)).alloc (Zk #[Zi x] 107)).setCell t (Zi x):=by
 have I:=@run_callFunc_extern prog 262 _ (λargs=>ReflectliteValue.unpack (args.getD 0 (Zu #[]))) func262 (by kernel_rfl) (by kernel_rfl) (by kernel_rfl) (by kernel_rfl);have J:=@run_callFunc_extern prog 263 _ (ReflectliteValue.methodAny (ReflectliteValue.valueError "reflectlite.Value.Type" 0) (λt _ _ _=>ReflectliteType.toType t)) func263 (by kernel_rfl) (by kernel_rfl) (by kernel_rfl) (by kernel_rfl);have L:=@run_callFunc_extern prog 264 _ (ReflectliteValue.method (ReflectliteValue.valueError "reflectlite.Value.IsNil" 0) ReflectliteValue.isNil) func264 (by kernel_rfl) (by kernel_rfl) (by kernel_rfl) (by kernel_rfl);have m:=@run_callFunc_extern prog 377 _ (ReflectliteType.abiMethod λt=>do pure (.int .u8 (<-Rtype.kind t))) func377 (by kernel_rfl) (by kernel_rfl) (by kernel_rfl) (by kernel_rfl);have o:=@run_callFunc_extern prog 394 _ (ReflectliteType.method ReflectliteType.elem) func394 (by kernel_rfl) (by kernel_rfl) (by kernel_rfl) (by kernel_rfl);have p:=@run_callFunc_extern prog 395 _ (ReflectliteType.relation "Implements" ReflectliteType.implements_) func395 (by kernel_rfl) (by kernel_rfl) (by kernel_rfl) (by kernel_rfl);have j:=@run_callFunc_extern prog 310 _ ReflectliteType.typeOf func310 (by kernel_rfl) (by kernel_rfl) (by kernel_rfl) (by kernel_rfl);have n:=@run_callFunc_extern prog 392 _ (ReflectliteType.relation "AssignableTo" ReflectliteType.assignableTo) func392 (by kernel_rfl) (by kernel_rfl) (by kernel_rfl) (by kernel_rfl);have k:=@run_callFunc_extern prog 311 _ (ReflectliteValue.method (ReflectliteValue.valueError "reflectlite.Value.Elem" 0) ReflectliteValue.elem) func311 (by kernel_rfl) (by kernel_rfl) (by kernel_rfl) (by kernel_rfl);have l:=@run_callFunc_extern prog 312 _ ReflectliteValue.set func312 (by kernel_rfl) (by kernel_rfl) (by kernel_rfl) (by kernel_rfl);have T:=AEN;have M:=Rx;have f:=nM;have v:=ABj;have D:=vQ;have G:=type102;have P:=wL;have N:=AM8;have O:=Vt;have u:=AHH;have s:=AIi;have g:=AHg;have r:=nD;have R:=AGU (Zd w.1.size 0) t ((w.alloc (Zk #[Zp (some t)] 309)).alloc (Zk #[Zp (some (Zd 11 309)),Zp (some (Zd w.1.size 0)),.int .u64 150] 347)) (by simp);have a:1<w.1.size:=d.lt;have d:w.cell? (Zd 1 0)=some (Zf 390 (Zg #[Zp (some (Zd 11 32))])):=d
 have q:((w.alloc (Zk #[Zp (some t)] 309)).alloc (Zk #[Zp (some (Zd 11 309)),Zp (some (Zd w.1.size 0)),.int .u64 150] 347)).cell? (Zd 1 0)=some (Zf 390 (Zg #[Zp (some (Zd 11 32))])):=by rw[Yl _ _ (Zd 1 0) (by rw[XC];exact Nat.lt_succ_of_lt a),Yl _ _ (Zd 1 0) a];exact d
 have c:t.block<w.1.size:=by
  rcases Yc t.block w.1.size with h|h
  ·exact h
  simp[World.cell?,XM h] at b
 have z:=AFG (Zd w.1.size 0) t (((w.alloc (Zk #[Zp (some t)] 309)).alloc (Zk #[Zp (some (Zd 11 309)),Zp (some (Zd w.1.size 0)),.int .u64 150] 347)).alloc (Zk #[Zp (some (Zd 11 309)),Zp (some (Zd w.1.size 0)),.int .u64 150] 347)) (by rw[Yl _ _ (Zd w.1.size 0) (by simp;omega)];simp)
 have st:=AJy t (Zd (w.1.size+1+1+1) 0) x old ((((w.alloc (Zk #[Zp (some t)] 309)).alloc (Zk #[Zp (some (Zd 11 309)),Zp (some (Zd w.1.size 0)),.int .u64 150] 347)).alloc (Zk #[Zp (some (Zd 11 309)),Zp (some (Zd w.1.size 0)),.int .u64 150] 347)).alloc (Zk #[Zi x] 107))
  (by rw[World.cell?_alloc_at _ _ _ _ (by simp)];rfl)
  (by rw[Yl _ _ t (by simp;omega),Yl _ _ t (by simp;omega),Yl _ _ t (by simp;omega),Yl _ _ t c];exact b)
  (by rw[YJ _ _ t (by simp;omega),YJ _ _ t (by simp;omega),YJ _ _ t (by simp;omega),YJ _ _ t (Nat.ne_of_lt c)];exact e)
 go_enter func219,ntmps219;go_wp2;refine wp_loop_rounds 1 ?_;rw[rounds_succ];go_wp2;go_ret;exact⟨rfl,rfl⟩
theorem AGB(x:Int)(w:Tw)(g:Ob w):Zc 172 #[Zf 107 (Zi x)] w λe b=>e=Zr (Zi x)/\Zb w b:=by
 have i:Hid (∀W t,Ob W->W.cell? t=some (Zi 0)->W.frozen? t=false->w.1.size<=t.block->Zb w W->Zc 219 #[Zf 107 (Zi x),Zf 309 (Zp (some t))] W λe b=>e=Zr (Zo true)/\b.cell? t=some (Zi x)/\Zb w b):=by
  intro W t k c l m a
  have f:t.block<W.1.size:=by
   rcases Yc t.block W.1.size with h|h
   ·exact h
   simp[World.cell?,XM h] at c
  refine(AIm x t _ W k c l).mono ?_;rintro e b⟨rfl,rfl⟩;refine⟨rfl,?_,?_⟩
  ·refine World.cell?_setCell_same _ _ _ (u:=Zi 0) ?_
   rw[Yl _ _ t (by simp;omega),Yl _ _ t (by simp;omega),Yl _ _ t (by simp;omega),Yl _ _ t f];exact c
  exact((((a.alloc (by have:=a.size;omega) _).alloc (by have:=a.size;simp;omega) _).alloc (by have:=a.size;simp;omega) _).alloc (by have:=a.size;simp;omega) _).setCell m _
 have j:Hid (∀o,Ob (w.alloc o)):=λo=>g.below (Zal)
 clear g;go_enter func172,ntmps172
 go_wp2_with (first
  | (go_at_call 219;refine(i.o _ (Zd w.1.size 0) (j.o _) (by simp) (by simp) (XA _) (Zal)).mono ?_;rintro e p⟨rfl,n,d⟩))
 go_ret;exact⟨rfl,d⟩
namespace F
variable{l:List Aj}
attribute [local go_sem] Oper.semAt_some
def gK(r:Option s9)(w:World)(e:Ending)(a:World):Prop:=match r with
 | none=>∃T v,e=.returned (.tuple #[.agg #[.slice none 0 0,.slice none 0 0],.iface T v])/\Zb w a
 | some f=>∃b c,e=.returned (.tuple #[.agg #[b,c],.nilIface])/\Hm a b c f/\Zb w a
theorem AL3{qj:List (List V)}(h:De l qj=false):J9 l qj=none:=by unfold J9;rw[A1 (by simp[h])]
theorem lG{qj:List (List V)}(h:De l qj=true):J9 l qj=some (l,Ay l qj):=by unfold J9;rw[A2 h]
theorem AGV:(prog.info? 171).map (λi=>(i.zero,i.size,i.bytes))=some (some (Zg #[Zi 0,Zs none 0 0,Zs none 0 0]),3,56):=by kernel_rfl
theorem rW(lv rv:Tv)(l:List Aj)(qj:List (List V))(w:Tw)(hl:F7 7 Cc w lv l)(hr:iJ w rv qj)(hlen:l.length<=1000)(dp:qj.length<=100000)(b9:∀x∈l,x.2.1.size<=maxLen/\x.2.2.2.2.2.2.size<=maxLen)(ht:∀r∈qj,∀v∈r,v.2.2.size<=maxLen)(bp:K9 qj)(hw:Lw w)(hg:Ob w):
 Zc 110 #[lv,rv] w (gK (J9 l qj) w):=by
 have HL:=Aa hl;have HR:=Aa hr;have HT:=Aa ht;have cd:=Aa bp;have HG:=Aa hg;obtain⟨la,s,rfl,dk⟩:=hl.slice;obtain⟨ra,rc,rfl,c9⟩:=hr.slice;obtain⟨ac,hX,hY,hB⟩:=Kt w (Zk #[Zs la l.length s] 34) (Zk #[Zs none 0 0,Zs none 0 0] 125);have c1:((w.alloc (Zk #[Zs la l.length s] 34)).alloc (Zk #[Zs none 0 0,Zs none 0 0] 125)).cell? (Zd w.1.size 0)=some (Zs la l.length s):=by simp[World.cell?,hX]
 have X:=Aa (kR (Zs la l.length s) l 1099511627777 _ (hl.up hB) hlen b9 (hw.below hB));have HX:=Aa hX;have HY:=Aa hY;have HB:=Aa hB;have af:=Aa ac;clear hl hr ht bp hw hg b9 hX hY hB ac;cases hR:Be l 1099511627777 with
 | false=>rw[hR] at X;have HE:Hid (J9 l qj=none):=Aa (AL3 (by unfold De Lf;rw[hR];rfl));obtain⟨y0,y1⟩:=Hg HY.o;refine callsIn_wide (n:=5).1 ?_;refine callsIn_of_wp_marks func110 rfl trivial ?_ rfl;simp only[ntmps110,XY,X2,X4,Nat.reduceAdd,Nat.reduceSub,XR,XS,XZ,XV,X6,XT];refine wpIn_wide.2 ?_;go_wp2_with fail;apply X.o.mono;rintro e w1⟨rfl,O⟩;have z:=(O.block (w.1.size+1) (by have:=af.o;omega)).trans HY.o;obtain⟨z0,z1⟩:=Hg z;have f0:=Yag w1 (w.1.size+1) 0 _ _ z;have f1:=Yag w1 (w.1.size+1) 1 _ _ z;go_wp2;refine⟨Zu #[Zg #[Zs none 0 0,Zs none 0 0],Zf 107 (Zi 1)],by simp[results,results110,go_sem,z0,z1],?_⟩;rw[HE.o];exact⟨_,_,rfl,((Ap HB.o O).setCell (p:=Zd (w.1.size+1) 0) (XP _) _).setCell (p:=Zd (w.1.size+1) 1) (XP _) _⟩
 | true=>
   rw[hR] at X;have ar:=K5.1 hR;have c0:=ar.one;have b4:=ar.eight;have bn:=Aa ar;clear ar c1
   have a7:Hid (∀W,Below (w.1.size+2) ((w.alloc (Zk #[Zs la l.length s] 34)).alloc (Zk #[Zs none 0 0,Zs none 0 0] 125)) W->W.cell? (Zd w.1.size 0)=some (Zs la l.length s)/\W.1[w.1.size+1]? = some (Zk #[Zs none 0 0,Zs none 0 0] 125)/\Below w.1.size w W):=Aa (λW hW=>by
    have N:Below ((w.alloc (Zk #[Zs la l.length s] 34)).alloc (Zk #[Zs none 0 0,Zs none 0 0] 125)).1.size ((w.alloc (Zk #[Zs la l.length s] 34)).alloc (Zk #[Zs none 0 0,Zs none 0 0] 125)) W:=by rw[af.o];exact hW
    have hc:((w.alloc (Zk #[Zs la l.length s] 34)).alloc (Zk #[Zs none 0 0,Zs none 0 0] 125)).cell? (Zd w.1.size 0)=some (Zs la l.length s):=by simp[World.cell?,HX.o]
    exact⟨Ag N hc,(N.block (w.1.size+1) (by rw[af.o];omega)).trans HY.o,Ap HB.o N⟩)
   have ac:=af.o
   by_cases h60:1<=qj.length/\qj.length<=60
   ·obtain⟨c4,b7⟩:=h60
    have df:¬(qj.length:Int)<1:=by omega
    have c6:¬(60:Int)<(qj.length:Int):=by omega
    refine(callsIn_wide (n:=5)).1 ?_;refine callsIn_of_wp_marks func110 rfl trivial ?_ rfl;simp only[ntmps110,XY,X2,X4,Nat.reduceAdd,Nat.reduceSub,XR,XS,XZ,XV,X6,XT];refine wpIn_wide.2 ?_;go_wp2_with fail;apply X.o.mono;rintro e w1⟨rfl,O⟩;have ce:Hid (Below (w.1.size+2) ((w.alloc (Zk #[Zs la l.length s] 34)).alloc (Zk #[Zs none 0 0,Zs none 0 0] 125)) w1):=Aa (by rw[<-ac];exact O);clear O X;generalize (w.alloc (Zk #[Zs la l.length s] 34)).alloc (Zk #[Zs none 0 0,Zs none 0 0] 125)=W2 at *;go_wp2
    go_loopw [28] (λvi wr=>∃i:Nat,i<=qj.length/\vi=Zi i/\Hid (∀j r,j<i->qj[j]? = some r->Hu l r=0)/\Hid (Below (w.1.size+2) W2 wr)) (λvi _=>qj.length-(intOf vi).toNat)
    case atStart=>exact⟨0,XF _,rfl,Aa (λj r hj=>absurd hj (Yp _)),ce⟩
    case round=>
     obtain⟨i,hi,rfl,bh,bb⟩:=hrel;obtain⟨q0,ao,Y⟩:=a7.o wr bb.o;have a0:=bb.o.size;rw[ac] at a0
     by_cases hlt:i<qj.length
     ·obtain⟨r,hr⟩:∃r,qj[i]? = some r:=⟨_,Y' hlt⟩
      obtain⟨T,U,dc,xv,er,dn,cx,bt⟩:=(HR.o.up Y).at hr;injection er with a8 _ cn;subst a8 cn;have ad:=Aa (AA2 (Zs la l.length s) xv l r wr (HL.o.up Y) bt hlen (HT.o r (XD hr)));obtain⟨xa,xc,rfl,_,_⟩:=bt;have b3:(i:Int)<(qj.length:Int):=by omega
      have bo:=Aa hr;clear hr
      by_cases hz:Hu l r=0
      ·have he:L8 (Hu l r)=Zn:=by unfold L8;rw[A2 hz]
       rw[he] at ad
       have ci:Hid (∀j r,j<i+1->qj[j]? = some r->Hu l r=0):=Aa (λj r' hj an=>by
        by_cases e:j=i
        ·subst e;rw[bo.o] at an;injection an with an;rw[<-an];exact hz
        exact bh.o j r' (by omega) an)
       clear he hz;go_wp2_with fail;apply ad.o.mono;rintro e w3⟨rfl,ak⟩;have cu:=bb.o.trans (ak.mono a0);go_wp2;exact⟨⟨i+1,by omega,by go_num,ci,Aa cu⟩,by simp[intOf];omega⟩
      have he:L8 (Hu l r)=Zf 107 (Zi (Hu l r)):=by unfold L8;rw[A1 hz]
      rw[he] at ad
      have HE:Hid (J9 l qj=none):=Aa (AL3 (by
       cases h:De l qj with
       | false=>rfl
       | true=>exact absurd ((B4.1 h).2.2.2 r (XD bo.o)) hz))
      generalize Hu l r=x at *;clear he hz;go_wp2_with fail;apply ad.o.mono;rintro e w3⟨rfl,ak⟩;have cj:=Aa (AGB x w3 (HG.o.below (Ap Y ak)));go_wp2_with fail;apply cj.o.mono;rintro e w4⟨rfl,bz⟩;have ay:Below w4.1.size w4 (w4.alloc (Zk #[Zi x,Zi i] 196)):=Zal;have au:=((Ap (Ap ak bz) ay).block (w.1.size+1) (by omega)).trans ao;obtain⟨z0,z1⟩:=Hg au;have f0:=Yag _ (w.1.size+1) 0 _ _ au;have f1:=Yag _ (w.1.size+1) 1 _ _ au;have bx:=Ap Y (Ap (Ap ak bz) ay);clear au;go_wp2;refine⟨Zu #[Zg #[Zs none 0 0,Zs none 0 0],Zf 194 (Zp (some (Zd w4.1.size 0)))],by simp[results,results110,go_sem,z0,z1],?_⟩;rw[HE.o];exact⟨_,_,rfl,(bx.setCell (p:=Zd (w.1.size+1) 0) (XP _) _).setCell (p:=Zd (w.1.size+1) 1) (XP _) _⟩
     have ei:i=qj.length:=by omega
     have b3:¬(i:Int)<(qj.length:Int):=by omega
     have bl:Hid (De l qj=true):=Aa (B4.2 ⟨bn.o,c4,b7,λr hr=>by obtain⟨j,hj,rfl⟩:=Yj hr;exact bh.o j _ (by omega) (Y' hj)⟩)
     obtain⟨g,o,c,eC,di,bs⟩:=wR (HL.o.up Y) c0;injection eC with ck _ cl;subst ck cl
     obtain⟨T,U,c8⟩:∃T U,ra=some (Zd T U):=by obtain⟨vs,da,ds,dt⟩:=HR.o;obtain⟨T,U,dc,er,_,_,_⟩:=da.cons (by omega);injection er with a8 _ _;exact⟨T,U,a8⟩
     subst c8;have bk:=Aa (Rb g o s l wr bs b4);clear ei bh bs;go_wp2_with fail;apply bk.o.mono;rintro e w5⟨g5,c5,rfl,b5,a9⟩;have a4:=Aa (ACB (some (Zd T U)) qj.length rc (w5.alloc (Zk #[Zs (some (Zd g5 0)) l.length c5,Zs none 0 0] 125)));simp only[XC,WU,Nat.reduceAdd] at a4;have ch:=Aa b5;have cf:=Aa a9;have dq:=a9.size;clear b5 a9 bk;go_wp2_with fail;apply a4.o.mono;rintro e w6⟨rfl,rfl⟩;clear a4;obtain⟨dr,cp,br,bq,cr⟩:=Jl w5 (Zk #[Zs (some (Zd g5 0)) l.length c5,Zs none 0 0] 125) (Zk #[Zs (some (Zd T U)) qj.length rc] 35) (Zk #[Zi 6] 3);go_wp2_with fail;generalize ((w5.alloc (Zk #[Zs (some (Zd g5 0)) l.length c5,Zs none 0 0] 125)).alloc (Zk #[Zs (some (Zd T U)) qj.length rc] 35)).alloc (Zk #[Zi 6] 3)=W7 at *;have cw:W7.cell? (Zd (w5.1.size+1) 0)=some (Zs (some (Zd T U)) qj.length rc):=by simp[World.cell?,br]
     have cv:W7.cell? (Zd (w5.1.size+2) 0)=some (Zi 6):=by simp[World.cell?,bq]
     obtain⟨iG,b2,ca,a2,a3⟩:=info_parts AGV;have d:=Zy b2 ca a2 a3;have ae:Hid (∀args w,(callFunc 173 args).run prog w=.ok (.enter 173 args) w):=Aa (enters_of func173 (by kernel_rfl) rfl)
     have HW:Hid (∀W,Below w5.1.size w5 W->F7 7 Cc W (Zs (some (Zd g o)) l.length s) l/\iJ W (Zs (some (Zd T U)) qj.length rc) qj/\W.cell? (Zd w.1.size 0)=some (Zs (some (Zd g o)) l.length s)/\W.1[w.1.size+1]? = some (Zk #[Zs none 0 0,Zs none 0 0] 125)/\Below w.1.size w W):=Aa (λW hW=>by have hb:=Ap cf.o hW;have bd:=Ap Y hb;exact⟨HL.o.up bd,HR.o.up bd,Ag hb q0,(hb.block (w.1.size+1) (by omega)).trans ao,bd⟩)
     have bm:Hid (∀k,k<aF qj.length->Gr l (Dz qj k)/\1<=(Dz qj k).length/\(Dz qj k).length<=6):=Aa (λk hk=>⟨λr hr=>Mu (B4.1 bl.o).2.2.2 cd.o r (List.mem_of_mem_drop (Yk hr)),kD hk⟩);have cg:Hid (Kl l):=Aa (bn.o.kinds);clear b2 ca a2 a3 br bq q0 ao Y;refine(wpIn_wide (n:=5)).1 ?_
     refine wpIn_rangeFunc_ownG (w0:=W7) rfl (by decide) (gf:=119) (lb:=#[Zp (some (Zd (w5.1.size+1) 0)),Zp (some (Zd (w5.1.size+2) 0))]) (by rfl) trivial (enters_of func119 (by kernel_rfl) rfl)
      (rS _ (by decide) (w5.1.size+1) (w5.1.size+2) T U qj.length rc (by omega) c9 W7 (by omega) (by omega) cw cv) KpC.t ?hKb (XB _ _) (λ_=>rfl) (MkI l qj w5.1.size (Zs (some (Zd g5 0)) l.length c5) w5) (λ_ _ _=>False) (MkI.own (XA _) (by omega)) (λ_ _ _ _ _ h _ _=>h) ⟨⟨_,cp,uW _ _⟩,cr,by omega⟩ ?a1 ?assign ?body ?done ?stop
     case hKb=>
      intro W q o1 o2 hq dm _ _;constructor
      ·unfold World.cell?;rw[XX (by show w5.1.size+1≠q;omega)]
      unfold World.cell?;rw[XX (by show w5.1.size+2≠q;omega)]
     case assign=>intro q x W K hK;gi_wp2;exact hK
     case stop=>rintro D c pre W _ _ h _;exact h.elim
     case body=>
      rintro q pre k W⟨⟨gv,R,⟨xs,ap,M,av⟩⟩,I,J⟩dl;simp only[X'] at ap M;have dj:=k.2;have cz:k.1<aF qj.length:=by unfold aF;omega
      have cc:aF qj.length<=10:=by unfold aF;omega
      obtain⟨az,c2,c3⟩:=bm.o k.1 cz;obtain⟨bu,bw,cq,_,_⟩:=HW.o W I;have de:=I.size;have a5:Hid (∀W',Below W.1.size W W'->Zc 173 #[Zs (some (Zd g o)) l.length s,ckV T U qj.length k] W' _):=Aa (λW' N=>AB7 _ _ l (Dz qj k.1) W' (bu.up N) (iJ.up (ADs bw rfl k) N) b4 c2 c3 az cg.o);have a6:Hid (∀W',Below W.1.size W W'->W'.cell? (Zd w5.1.size 1)=some gv):=Aa (λW' N=>Ag N (Hg R).2);have q1:W.drew.cell? (Zd w5.1.size 1)=some gv:=(Hg R).2;have q2:W.drew.cell? (Zd w.1.size 0)=some (Zs (some (Zd g o)) l.length s):=cq;clear bu bw az HW bm;refine wpIn_block ?_;refine wpIn_region_any (by kernel_rfl) (Qe ?hops ?hQ _ _ _ _ ?_)
      case hops=>
       intro i o h c hc;have h:=Array.mem_of_getElem? h;simp only[List.mem_toArray,WD,WL,or_false] at h
       rcases h with rfl|rfl|rfl|rfl|rfl|rfl|rfl|rfl|rfl <;> simp at hc
      case hQ=>rintro⟨a,W',h⟩;exact h
      refine wpAny_take (i:=0) (v:=Zp (some (Zd w5.1.size 1))) rfl (by kernel_rfl) (by kernel_rfl) (by kernel_rfl) (λ_ _ _ h=>h) (Or.inl ⟨by rfl,?t0⟩) ?_
      case t0=>(intro w;go_simp)
      refine wpAny_take (i:=3) (v:=ckV T U qj.length k) rfl (by kernel_rfl) (by kernel_rfl) (by kernel_rfl) (λ_ _ _ h=>h) (Or.inl ⟨by rfl,?t3⟩) ?_
      case t3=>(intro w;go_simp)
      refine wpAny_ready (rs:=[1,2]) (by kernel_rfl) (by simp) ?_;refine AllReady.cons rfl (λK hK=>?_) ?_
      ·go_simp
       refine hK _ _ ?_;clear hK K;refine wpAny_ready (rs:=[2]) (by kernel_rfl) (by simp) ?_;refine AllReady.cons rfl (λK hK=>?_) ?_
       ·go_simp
        refine hK _ _ ?_;clear hK K;refine wpAny_ready (rs:=[4]) (by kernel_rfl) (by simp) ?_;refine AllReady.cons rfl (λK hK=>?_) ?_
        ·refine Gc (by rfl) 173 (.tmp 54) (.tmp 55) 34 35 (by rfl) (Zs (some (Zd g o)) l.length s) (ckV T U qj.length k) (by rfl) (by rfl) ae.o _ (a5.o _ (XB _ _).drew) ?_
         rintro e y⟨sv,bv,rfl,L,G,P⟩;have f:Below W.1.size W y:=Ap (XB _ _).drew P;have b8:=f.size;obtain⟨sa,sc,ai,_⟩:=E.Ak L;obtain⟨ba,bc,ah,_⟩:=E.Ak G;subst ai ah;refine⟨_,rfl,?_⟩;have p1:=a6.o y f;have cb:(y.alloc (Zk #[Zi (Dz qj k.1).length,Zs sa l.length sc,Zs ba l.length bc] 171)).cell? (Zd w5.1.size 1)=some gv:=Ag ((XB y.1.size y).alloc (XA _) _) p1
         try go_simp
         refine hK _ _ ?_;clear hK K;refine wpAny_ready (rs:=[5]) (by kernel_rfl) (by simp) ?_;refine AllReady.cons rfl (λK hK=>?_) ?_
         ·go_simp
          refine hK _ _ ?_;clear hK K;refine wpAny_ready (rs:=[6]) (by kernel_rfl) (by simp) ?_;refine AllReady.cons rfl (λK hK=>?_) ?_
          ·refine step_append_lies _ (by rfl) (.tmp 53) (.tmp 57) 123 (by rfl) (w5.1.size+3) 171 iG (.agg #[Zi 0,.slice none 0 0,.slice none 0 0]) 3 56 underlying123 d.o.1 d.o.2.1 d.o.2.2.1 d.o.2.2.2 rfl (by decide) gv pre.length (xs.flatMap aG) (by rfl) ((E.Ad M f).alloc _) (Zd y.1.size 0) 1 1 [Zi (Dz qj k.1).length,.slice sa l.length sc,.slice ba l.length bc] (by rfl) rfl (λj u hj=>XE (Yad _ _) j u hj) (by simp[Value.oneCell']) (by omega) (by unfold maxLen;omega) (by omega) (by simp;omega) _ rfl ?_
           intro g9 ag w9 ab aa aj am;have b:=Aa (P0 (B:=W7.1.size) (l:=l) (qj:=qj) (pre:=pre) (k:=k) f ap M av L G ab aa R I J);obtain⟨r1,r2,_⟩:=b.o
           try go_simp
           refine hK _ _ ?_;clear hK K;refine wpAny_take (i:=7) (v:=Zp (some (Zd w5.1.size 1))) rfl (by kernel_rfl) (by kernel_rfl) (by kernel_rfl) (λ_ _ _ h=>h) (Or.inl ⟨by rfl,?t7⟩) ?_
           case t7=>(intro w;go_simp)
           refine wpAny_ready (rs:=[8]) (by kernel_rfl) (by simp) ?_;refine AllReady.cons rfl (λK hK=>?_) ?_
           ·go_simp
            refine hK _ _ ?_;clear hK K;refine wpAny_done (by kernel_rfl) ?_ _;exact b.o.2.2 (λ_ _ _=>False) { tmps:=#[],defers:=[] }
           exact AllReady.nil
          exact AllReady.nil
         exact AllReady.nil
        exact AllReady.nil
       exact AllReady.nil
      refine AllReady.cons rfl (λK hK=>?_) ?_
      ·go_simp
       refine hK _ _ ?_;clear hK K;refine wpAny_ready (rs:=[1,4]) (by kernel_rfl) (by simp) ?_;refine AllReady.cons rfl (λK hK=>?_) ?_
       ·go_simp
        refine hK _ _ ?_;clear hK K;refine wpAny_ready (rs:=[4]) (by kernel_rfl) (by simp) ?_;refine AllReady.cons rfl (λK hK=>?_) ?_
        ·refine Gc (by rfl) 173 (.tmp 54) (.tmp 55) 34 35 (by rfl) (Zs (some (Zd g o)) l.length s) (ckV T U qj.length k) (by rfl) (by rfl) ae.o _ (a5.o _ (XB _ _).drew) ?_
         rintro e y⟨sv,bv,rfl,L,G,P⟩;have f:Below W.1.size W y:=Ap (XB _ _).drew P;have b8:=f.size;obtain⟨sa,sc,ai,_⟩:=E.Ak L;obtain⟨ba,bc,ah,_⟩:=E.Ak G;subst ai ah;refine⟨_,rfl,?_⟩;have p1:=a6.o y f;have cb:(y.alloc (Zk #[Zi (Dz qj k.1).length,Zs sa l.length sc,Zs ba l.length bc] 171)).cell? (Zd w5.1.size 1)=some gv:=Ag ((XB y.1.size y).alloc (XA _) _) p1
         try go_simp
         refine hK _ _ ?_;clear hK K;refine wpAny_ready (rs:=[5]) (by kernel_rfl) (by simp) ?_;refine AllReady.cons rfl (λK hK=>?_) ?_
         ·go_simp
          refine hK _ _ ?_;clear hK K;refine wpAny_ready (rs:=[6]) (by kernel_rfl) (by simp) ?_;refine AllReady.cons rfl (λK hK=>?_) ?_
          ·refine step_append_lies _ (by rfl) (.tmp 53) (.tmp 57) 123 (by rfl) (w5.1.size+3) 171 iG (.agg #[Zi 0,.slice none 0 0,.slice none 0 0]) 3 56 underlying123 d.o.1 d.o.2.1 d.o.2.2.1 d.o.2.2.2 rfl (by decide) gv pre.length (xs.flatMap aG) (by rfl) ((E.Ad M f).alloc _) (Zd y.1.size 0) 1 1 [Zi (Dz qj k.1).length,.slice sa l.length sc,.slice ba l.length bc] (by rfl) rfl (λj u hj=>XE (Yad _ _) j u hj) (by simp[Value.oneCell']) (by omega) (by unfold maxLen;omega) (by omega) (by simp;omega) _ rfl ?_
           intro g9 ag w9 ab aa aj am;have b:=Aa (P0 (B:=W7.1.size) (l:=l) (qj:=qj) (pre:=pre) (k:=k) f ap M av L G ab aa R I J);obtain⟨r1,r2,_⟩:=b.o
           try go_simp
           refine hK _ _ ?_;clear hK K;refine wpAny_take (i:=7) (v:=Zp (some (Zd w5.1.size 1))) rfl (by kernel_rfl) (by kernel_rfl) (by kernel_rfl) (λ_ _ _ h=>h) (Or.inl ⟨by rfl,?t7⟩) ?_
           case t7=>(intro w;go_simp)
           refine wpAny_ready (rs:=[8]) (by kernel_rfl) (by simp) ?_;refine AllReady.cons rfl (λK hK=>?_) ?_
           ·go_simp
            refine hK _ _ ?_;clear hK K;refine wpAny_done (by kernel_rfl) ?_ _;exact b.o.2.2 (λ_ _ _=>False) { tmps:=#[],defers:=[] }
           exact AllReady.nil
          exact AllReady.nil
         exact AllReady.nil
        exact AllReady.nil
       refine AllReady.cons rfl (λK hK=>?_) ?_
       ·refine Gc (by rfl) 173 (.tmp 54) (.tmp 55) 34 35 (by rfl) (Zs (some (Zd g o)) l.length s) (ckV T U qj.length k) (by rfl) (by rfl) ae.o _ (a5.o _ (XB _ _).drew) ?_
        rintro e y⟨sv,bv,rfl,L,G,P⟩;have f:Below W.1.size W y:=Ap (XB _ _).drew P;have b8:=f.size;obtain⟨sa,sc,ai,_⟩:=E.Ak L;obtain⟨ba,bc,ah,_⟩:=E.Ak G;subst ai ah;refine⟨_,rfl,?_⟩;have p1:=a6.o y f;have cb:(y.alloc (Zk #[Zi (Dz qj k.1).length,Zs sa l.length sc,Zs ba l.length bc] 171)).cell? (Zd w5.1.size 1)=some gv:=Ag ((XB y.1.size y).alloc (XA _) _) p1
        try go_simp
        refine hK _ _ ?_;clear hK K;refine wpAny_ready (rs:=[1,5]) (by kernel_rfl) (by simp) ?_;refine AllReady.cons rfl (λK hK=>?_) ?_
        ·go_simp
         refine hK _ _ ?_;clear hK K;refine wpAny_ready (rs:=[5]) (by kernel_rfl) (by simp) ?_;refine AllReady.cons rfl (λK hK=>?_) ?_
         ·go_simp
          refine hK _ _ ?_;clear hK K;refine wpAny_ready (rs:=[6]) (by kernel_rfl) (by simp) ?_;refine AllReady.cons rfl (λK hK=>?_) ?_
          ·refine step_append_lies _ (by rfl) (.tmp 53) (.tmp 57) 123 (by rfl) (w5.1.size+3) 171 iG (.agg #[Zi 0,.slice none 0 0,.slice none 0 0]) 3 56 underlying123 d.o.1 d.o.2.1 d.o.2.2.1 d.o.2.2.2 rfl (by decide) gv pre.length (xs.flatMap aG) (by rfl) ((E.Ad M f).alloc _) (Zd y.1.size 0) 1 1 [Zi (Dz qj k.1).length,.slice sa l.length sc,.slice ba l.length bc] (by rfl) rfl (λj u hj=>XE (Yad _ _) j u hj) (by simp[Value.oneCell']) (by omega) (by unfold maxLen;omega) (by omega) (by simp;omega) _ rfl ?_
           intro g9 ag w9 ab aa aj am;have b:=Aa (P0 (B:=W7.1.size) (l:=l) (qj:=qj) (pre:=pre) (k:=k) f ap M av L G ab aa R I J);obtain⟨r1,r2,_⟩:=b.o
           try go_simp
           refine hK _ _ ?_;clear hK K;refine wpAny_take (i:=7) (v:=Zp (some (Zd w5.1.size 1))) rfl (by kernel_rfl) (by kernel_rfl) (by kernel_rfl) (λ_ _ _ h=>h) (Or.inl ⟨by rfl,?t7⟩) ?_
           case t7=>(intro w;go_simp)
           refine wpAny_ready (rs:=[8]) (by kernel_rfl) (by simp) ?_;refine AllReady.cons rfl (λK hK=>?_) ?_
           ·go_simp
            refine hK _ _ ?_;clear hK K;refine wpAny_done (by kernel_rfl) ?_ _;exact b.o.2.2 (λ_ _ _=>False) { tmps:=#[],defers:=[] }
           exact AllReady.nil
          exact AllReady.nil
         exact AllReady.nil
        refine AllReady.cons rfl (λK hK=>?_) ?_
        ·go_simp
         refine hK _ _ ?_;clear hK K;refine wpAny_ready (rs:=[1]) (by kernel_rfl) (by simp) ?_;refine AllReady.cons rfl (λK hK=>?_) ?_
         ·go_simp
          refine hK _ _ ?_;clear hK K;refine wpAny_ready (rs:=[6]) (by kernel_rfl) (by simp) ?_;refine AllReady.cons rfl (λK hK=>?_) ?_
          ·refine step_append_lies _ (by rfl) (.tmp 53) (.tmp 57) 123 (by rfl) (w5.1.size+3) 171 iG (.agg #[Zi 0,.slice none 0 0,.slice none 0 0]) 3 56 underlying123 d.o.1 d.o.2.1 d.o.2.2.1 d.o.2.2.2 rfl (by decide) gv pre.length (xs.flatMap aG) (by rfl) ((E.Ad M f).alloc _) (Zd y.1.size 0) 1 1 [Zi (Dz qj k.1).length,.slice sa l.length sc,.slice ba l.length bc] (by rfl) rfl (λj u hj=>XE (Yad _ _) j u hj) (by simp[Value.oneCell']) (by omega) (by unfold maxLen;omega) (by omega) (by simp;omega) _ rfl ?_
           intro g9 ag w9 ab aa aj am;have b:=Aa (P0 (B:=W7.1.size) (l:=l) (qj:=qj) (pre:=pre) (k:=k) f ap M av L G ab aa R I J);obtain⟨r1,r2,_⟩:=b.o
           try go_simp
           refine hK _ _ ?_;clear hK K;refine wpAny_take (i:=7) (v:=Zp (some (Zd w5.1.size 1))) rfl (by kernel_rfl) (by kernel_rfl) (by kernel_rfl) (λ_ _ _ h=>h) (Or.inl ⟨by rfl,?t7⟩) ?_
           case t7=>(intro w;go_simp)
           refine wpAny_ready (rs:=[8]) (by kernel_rfl) (by simp) ?_;refine AllReady.cons rfl (λK hK=>?_) ?_
           ·go_simp
            refine hK _ _ ?_;clear hK K;refine wpAny_done (by kernel_rfl) ?_ _;exact b.o.2.2 (λ_ _ _=>False) { tmps:=#[],defers:=[] }
           exact AllReady.nil
          exact AllReady.nil
         exact AllReady.nil
        exact AllReady.nil
       exact AllReady.nil
      exact AllReady.nil
     case done=>
      rintro D ys W hD db⟨⟨gv,R,b0⟩,I,dd⟩hK;obtain⟨_,_,_,m,ct⟩:=HW.o W I;obtain⟨f0,f1⟩:=Hg R;obtain⟨z0,z1⟩:=Hg m;have y0:=Yag W (w.1.size+1) 0 _ _ m;have y1:=Yag W (w.1.size+1) 1 _ _ m;obtain⟨ga,gc,rfl,_⟩:=vL.slice b0.slg;gi_wp2;go_wp2;have dh:w5.1.size+3<=D:=by omega
      have co:=E.Ac hK;have bg:W.grownBy ((W.setCell (Zd (w.1.size+1) 0) (Zs (some (Zd g5 0)) l.length c5)).setCell (Zd (w.1.size+1) 1) (Zs ga ys.length gc)) (some (w.1.size+1)):=E.Al (E.Ar W (w.1.size+1) 0 _) (E.Ar _ (w.1.size+1) 1 _);have aq:=(bg.block D co (by simp;omega)).trans hK;have bi:=heap_setCell_same _ (w.1.size+1) 1 _ _ (Zs ga ys.length gc) (heap_setCell_same W (w.1.size+1) 0 _ _ (Zs (some (Zd g5 0)) l.length c5) m);have cs:Below w.1.size w ((W.setCell (Zd (w.1.size+1) 0) (Zs (some (Zd g5 0)) l.length c5)).setCell (Zd (w.1.size+1) 1) (Zs ga ys.length gc)):=(ct.setCell (p:=Zd (w.1.size+1) 0) (XP _) _).setCell (p:=Zd (w.1.size+1) 1) (XP _) _;have b6:=E.Dc (E.Ad ch.o (Below.mono I (XA _))) (show w.1.size+1<wr.1.size by omega) bg;have b1:=b0.kept bg (λr e=>by injection e with e;subst e;exact⟨_,m,.inr ⟨_,rfl⟩⟩);refine⟨by simp,.inl ⟨_,_,rfl,run_takeDeferred aq,?_⟩⟩;generalize (W.setCell (Zd (w.1.size+1) 0) (Zs (some (Zd g5 0)) l.length c5)).setCell (Zd (w.1.size+1) 1) (Zs ga ys.length gc)=W9 at *;have c7:=(XX (w:=W9) (r:=D) (k:=w.1.size+1) (o:=.deferred none) (by omega)).trans bi;obtain⟨x0,x1⟩:=Hg c7;refine⟨Zu #[Zg #[Zs (some (Zd g5 0)) l.length c5,Zs ga ys.length gc],Zn],by simp[results,results110,go_sem,x0,x1],?_⟩;rw[lG bl.o];refine⟨_,_,rfl,⟨F7.Fz (k:=7) (enc:=Cc) (λ_=>rfl) (ownsRow_putObj b6 _ aq rfl) rfl,?_⟩,cs.trans (belowK_b (w:=w) (XA _) W9 D _ _ (by omega) aq rfl rfl)⟩;have cy:=(b1.kept (grownBy_putObj' W9 D (.deferred none)) (λr e=>by injection e with e;subst e;exact⟨_,aq,.inl rfl⟩)).slg;have cm:(ys.map λk=>An l (Dz qj k.1))=Ay l qj:=by unfold Ay parts;rw[<-db];simp[List.map_map,ckN,Function.comp_def]
      show vL _ _ (Ay l qj);rw[<-cm];simpa only [X'] using cy
   have HE:Hid (J9 l qj=none):=Aa (AL3 (by
    cases h:De l qj with
    | false=>rfl
    | true=>exact absurd ⟨(B4.1 h).2.1,(B4.1 h).2.2.1⟩ h60))
   have hY:=HY.o;have aw:Hid (∀W,Below (w.1.size+2) ((w.alloc (Zk #[Zs la l.length s] 34)).alloc (Zk #[Zs none 0 0,Zs none 0 0] 125)) W->W.cell? (Zd w.1.size 0)=some (Zs la l.length s)/\W.1[w.1.size+1]? = some (Zk #[Zs none 0 0,Zs none 0 0] 125)/\Below w.1.size w W):=a7;have bf:qj.length<1\/60<qj.length:=by omega
   have al:(qj.length:Int)<1\/(60:Int)<(qj.length:Int):=by omega
   refine(callsIn_wide (n:=5)).1 ?_;refine callsIn_of_wp_marks func110 rfl trivial ?_ rfl;simp only[ntmps110,XY,X2,X4,Nat.reduceAdd,Nat.reduceSub,XR,XS,XZ,XV,X6,XT];refine wpIn_wide.2 ?_;go_wp2_with fail;apply X.o.mono;rintro e w1⟨rfl,O⟩;obtain⟨_,z,ax⟩:=aw.o w1 (by rw[<-ac];exact O);obtain⟨z0,z1⟩:=Hg z;have f0:=Yag w1 (w.1.size+1) 0 _ _ z;have f1:=Yag w1 (w.1.size+1) 1 _ _ z;have dg:=Aa z;have bj:=Aa ax;clear z ax O X a7 aw hY HY ac af HB HX h60 bf
   rcases al with al|al
   all_goals go_wp2
   all_goals
    refine⟨Zu #[Zg #[Zs none 0 0,Zs none 0 0],Zf 107 (Zi 4)],by simp[results,results110,go_sem,z0,z1],?_⟩;rw[HE.o];exact⟨_,_,rfl,(bj.o.setCell (p:=Zd (w.1.size+1) 0) (XP _) _).setCell (p:=Zd (w.1.size+1) 1) (XP _) _⟩
variable{c:Aj}{W w:Tw}{a:Array Tv}{v:Tv}{g:Fk}{I k n:Nat}{r:List (List V)}{l:List Aj}{s:E.St}
theorem AC2(n:Nat)(b:1<=n)(c:n<=6)(w:Tw):Zc 204 #[.int .u64 1,.int .u64 n] w λe a=>e=Zr (Zu #[.int .u64 0,.int .u64 n])/\a=w:=by
 obtain rfl|rfl|rfl|rfl|rfl|rfl:n=1\/n=2\/n=3\/n=4\/n=5\/n=6:=by omega
 all_goals
  go_enter func204,ntmps204;go_wp2;go_ret2;exact⟨rfl,rfl⟩
theorem AIJ(n:Nat)(c:1<=n)(d:n<=6)(w:Tw):Zc 149 #[.int .u64 1,.int .u64 n] w λe a=>e=Zr (Zu #[.int .u64 0,.int .u64 n])/\a=w:=by
 have b:Hid (∀W,Zc 204 #[.int .u64 1,.int .u64 n] W λe a=>e=Zr (Zu #[.int .u64 0,.int .u64 n])/\a=W):=λW=>AC2 n c d W
 go_enter func149,ntmps149
 go_wp2_with (first
  | (go_at_call 204;refine(b.o _).mono ?_;rintro e f⟨rfl,rfl⟩))
 go_ret2;exact⟨rfl,rfl⟩
def AHE(v:V):List Value:=[Zi v.1,Zi v.2.1,.string v.2.2]
def rep(v:V)(m:Nat):List Value:=(List.replicate m v).flatMap AHE
theorem Iy(v:V)(m:Nat):(rep v m).length=m*3:=by
 unfold rep
 induction m with
 | zero=>rfl
 | succ m ih=>rw[YH,List.flatMap_cons,XK,ih];simp[AHE];omega
theorem ABO(v:V)(m c:Nat):rep v (m+c)=rep v m++rep v c:=by unfold rep;rw[<-List.replicate_append_replicate,XI]
theorem AEP(v:V){m c:Nat}(h:c<=m):(rep v m).take (c*3)=rep v c:=by obtain⟨d,rfl⟩:∃d,m=c+d:=⟨m-c,by omega⟩;rw[ABO,Yx (by rw[Iy];exact XA _),Yd (by rw[Iy];exact XA _)]
theorem ABb(v:V)(m:Nat):∀u∈rep v m,u.oneCell'=true:=by
 intro u a;simp only[rep,List.mem_flatMap] at a;obtain⟨x,_,b⟩:=a;simp[AHE] at b
 rcases b with rfl|rfl|rfl <;> rfl
theorem kO{P:Program}(w:Tw)(dT sT z elem:TypeId)(g o c e:Nat)(a:Addr)(d k:Nat)(b:Array Tv)(t:TypeId)(cs:List Tv)(m:Nat)(y:P.underlying dT=some (.slice elem))(p:(P.info? elem).map (·.size)=some 3)(r:w.1[g]? = some (Zk b t (0,0)))(u:m=Nat.min d c)(x:cs.length=m*3)(h:∀j v,cs[j]? = some v->w.cell? (a.add j)=some v)(f:o+cs.length<=b.size)(q:∀v∈cs,v.oneCell'=true):
 (Builtin.copy_ #[dT,sT] z #[Zs (some (Zd g o)) c e,Zs (some a) d k]).run P w =
   .ok (goInt m) (w.setRow g (b.toList.take o++cs++b.toList.drop (o+cs.length)).toArray):=by
 have n:=run_loadCells_list (P:=P) w a cs h;have l:=run_storeCells_at P g o t cs 0 b w r (by simpa using f) q;rw[x] at n;cases hq:P.info? elem with
 | none=>simp[hq] at p
 | some i=>
   have s:i.size=3:=by simpa[hq] using p
   simp[Builtin.copy_,run_underlying y,Builtin.lenOf,Builtin.firstCells,sizeOf,typeInfo,hq,s,<-u,n,l]
theorem AEK:(prog.info? 55).map (·.size)=some 3:=by kernel_rfl
theorem pG{p:Array Oper}{rest:List Oper}{o:Oper}{a:Act}{Q:Exit->Act->Tw->Prop}(r:o.guard=none)(d s:Operand)(J:o.op=.call { callee:=.builtin .copy,args:=#[d,s],argTypes:=#[61,61] })(g off c f:Nat)(q:Addr)(e i:Nat)(z:a.eval d=Zs (some (Zd g off)) c f)(L:a.eval s=Zs (some q) e i)(b:Array Tv)(t:TypeId)(D:w.1[g]? = some (Zk b t (0,0)))(cs:List Tv)(m:Nat)(G:m=Nat.min e c)(I:cs.length=m*3)(n:∀j v,cs[j]? = some v->w.cell? (q.add j)=some v)(k:off+cs.length<=b.size)(y:∀v∈cs,v.oneCell'=true)(h:∀u,u=w.setRow g (b.toList.take off++cs++b.toList.drop (off+cs.length)).toArray->wpList prog p Q rest (a.put o.dst (goInt m)) u):wpList prog p Q (o :: rest) a w:=by
 refine wpList_plain r λK hK=>?_
 have l:=kO (P:=prog) w 61 61 o.type 55 g off c f q e i b t cs m underlying61 AEK D G I n k y;unfold Oper.wp;have x:=h _ rfl;simp[execOp,J,resolve,invoke,builtin,z,L,l,Result.andThen];exact hK _ _ (by simpa using x)
def Rw(w0:World)(g n:Nat)(v:V)(m:Nat)(w:World):Prop:=∃a:Array Value,w.1[g]? = some (.cells a 55 (0,0))/\a.size=n*3/\a.toList.take (m*3)=rep v m/\Zb w0 w
theorem Rw.step{w0 w W:Tw}{g n m c off:Nat}{v:V}(f:w.1[g]? = some (Zk a 55 (0,0)))(k:a.size=n*3)(i:a.toList.take (m*3)=rep v m)(d:Zb w0 w)(b:w0.1.size<=g)(h:off=m*3)(j:m+c<=n)(e:W=w.setRow g (a.toList.take off++rep v c++a.toList.drop (off+(rep v c).length)).toArray):Rw w0 g n v (m+c) W:=by
 subst h;subst e;refine⟨_,setRow_heap w g _ _ _ _ f,?_,?_,below_setRow d b _⟩
 ·simp[Iy]
  omega
 rw[i,ABO];rw[Yx (by simp[Iy];omega),Yd (by simp[Iy];omega)]
theorem Rw.cells{w:Tw}{g m c:Nat}{v:V}{a:Array Tv}(e:w.1[g]? = some (Zk a 55 (0,0)))(i:a.toList.take (m*3)=rep v m)(d:c<=m):∀j u,(rep v c)[j]? = some u->w.cell? (((Zd g 0):Addr).add j)=some u:=by
 intro j u b
 have f:j<c*3:=by
  rcases Yc j (c*3) with h|h
  ·exact h
  rw[Yb (by rw[Iy];exact h)] at b;cases b
 rw[<-AEP v d,<-i,Yh f,Yh (by omega)] at b;rw[Addr.add_lit];simp[World.cell?,e];simpa using b
theorem AF8{B g n:Nat}{xs:List Tv}(h:w.ownsRow B 55 3 (Zs (some (Zd g 0)) n n) n xs):∃a,w.1[g]? = some (Zk a 55 (0,0))/\a.size=n*3:=by
 obtain⟨_,⟨b,_⟩|⟨f,c,a,b,_,d,_,_,e,_⟩⟩:=h
 ·cases b
 cases b;exact⟨a,d,e⟩
theorem AFi{w0:Tw}{g:Nat}{v:V}(f:w.1[g]? = some (Zk a 55 (0,0)))(h:a.size=n*3)(d:Zb w0 w)(b:w0.1.size<=g)(i:1<=n)(e:W=w.setRow g (a.toList.take 0++rep v 1++a.toList.drop (0+(rep v 1).length)).toArray):Rw w0 g n v 1 W:=by have:=Rw.step (m:=0) (c:=1) (v:=v) f h (by simp[rep]) d b rfl (by omega) e;simpa using this
theorem AIA{v:V}(b:w.1[n]? = some (Zk #[Zi v.1,Zi v.2.1,Zt v.2.2] 55 (0,0))):∀j u,(rep v 1)[j]? = some u->w.cell? (((Zd n 0):Addr).add j)=some u:=by intro j u a;rw[Addr.add_lit];simp only[World.cell?,b,WV];simpa[rep,AHE] using a
theorem zA(l xc n:Nat)(v:V)(w:Tw)(N:1<=n)(h6:n<=6)(G:w.1[l]? = some (Zk #[Zi v.1,Zi v.2.1,Zt v.2.2] 55 (0,0))):
 Zc 238 #[Zs (some (Zd l 0)) 1 xc,Zi n] w λe I=>∃v',e=Zr v'/\I.ownsRow w.1.size 55 3 v' n (rep v n)/\Zb w I:=by
 obtain⟨iV,R,X,t,u⟩:=info_parts E.Ip;have HM:Hid (∀W,Zc 149 #[.int .u64 1,.int .u64 n] W λe I=>e=Zr (Zu #[.int .u64 0,.int .u64 n])/\I=W):=λW=>AIJ n N h6 W
 have HX:=Aa G
 have U:l<w.1.size:=by
  rcases Yc l w.1.size with h|h
  ·exact h
  rw[XM h] at G;cases G
 have ah:¬(n:Int)<0:=by omega
 clear G;go_enter func238,ntmps238
 go_wp2_with (first
  | (go_at_call 149;refine(HM.o _).mono ?_;rintro e w1⟨rfl,hw⟩;rw[hw];clear hw)
  | (refine wpList_make_full _ rfl _ _ 61 rfl w.1.size 55 iV (.agg #[Zi 0,Zi 0,.string ⟨#[]⟩]) 3 underlying61 R X t .i64 .i64 _ _ n rfl rfl rfl rfl (by rw[u];omega) (by unfold maxLen;omega) (XA _) ?_;intro w2 r q;obtain⟨cur2,hc2,hs2⟩:=AF8 r;have g:Hid (Zb w w2):=(XB _ w).grown q (XA _) (λj hj=>by cases hj);have o:=Aa ((g.o.block l U).trans HX.o);have a:=Aa (And.intro hc2 hs2);clear r q hc2 hs2)
  | (refine pG rfl _ _ rfl w.1.size 0 n n (Zd l 0) 1 xc rfl rfl cur2 55 a.o.1 (rep v 1) 1 (by simp[WW];omega) (by rw[Iy]) (AIA o.o) (by rw[Iy,a.o.2];omega) (ABb v 1) ?_;intro w3 s;have L:=Aa (AFi a.o.1 a.o.2 g.o (XA _) N s);clear s))
 clear a o g
 go_loopw [8] (λY wr=>∃m:Nat,1<=m/\m<=n/\Y=Zi m/\Hid (Rw w w.1.size n v m wr)) (λY _=>n-(intOf Y).toNat)
 case atStart=>exact⟨1,XA _,N,rfl,L⟩
 case round=>
  obtain⟨m,ae,af,rfl,i⟩:=hrel
  by_cases hlt:m<n
  ·have aa:(m:Int)<(n:Int):=by omega
   have ad:(0:Int)<=(m:Int):=by omega
   have ag:¬n=m:=by omega
   obtain⟨b,y,z,D,x⟩:=i.o;obtain⟨c,p⟩:∃c,c=Nat.min m (n-m):=⟨_,rfl⟩;have O:c<=m:=by rw[p];exact Nat.min_le_left _ _
   have ac:c<=n-m:=by rw[p];exact Nat.min_le_right _ _
   have ab:0<c:=by rw[p];simp[WW];split <;> omega
   have d:=Zy y z D x;have J:=Aa p;clear y z D x i p;go_wp2;have f:=kO (P:=prog) wr.drew 61 61 3 55 w.1.size (m*3) (n-m) (n-m) (Zd w.1.size 0) m n b 55 (rep v c) c underlying61 AEK d.o.1 J.o (Iy v c) (Rw.cells (w:=wr.drew) d.o.1 d.o.2.2.1 O) (by rw[Iy,d.o.2.1];omega) (ABb v c);obtain⟨w5,k⟩:∃w5,w5=wr.drew.setRow w.1.size (b.toList.take (m*3)++rep v c++b.toList.drop (m*3+(rep v c).length)).toArray:=⟨_,rfl⟩;rw[<-k] at f;simp only[goInt] at f;have M:=Aa k;clear k
   go_region
   go_wp2
   go_roundw
   case rel=>exact⟨m+c,by omega,by omega,by simp,Rw.step (w:=wr.drew) d.o.1 d.o.2.1 d.o.2.2.1 d.o.2.2.2.drew (XA _) rfl (by omega) M.o⟩
   case measure=>simp[intOf];omega
  have T:m=n:=by omega
  subst T;go_wp2;go_ret;obtain⟨b,y,z,D,x⟩:=i.o;exact⟨_,rfl,⟨Iy v m,.inr ⟨w.1.size,m,b,rfl,XA _,y,XA _,by unfold maxLen;omega,z,D⟩⟩,x⟩
theorem Sf(n:Nat)(sv q:Tv)(y m:To)(D z p o:Nat)(c1:Int)(r:Tb)(s:Int)(t:Bool)(a b:Int)(c:Tb)(w:Tw)(I:1<=n)(J:n<=6)(es:sv=Zs y D z)(G:q=Zs m p o):
 Zc 197 #[Zg #[Zi n,sv,q],Zg #[Zi c1,Zt r,Zi s,Zo t,Zi a,Zi b,Zt c]] w λe d=>∃v',e=Zr v'/\d.ownsRow w.1.size 55 3 v' n (rep (a,b,c) n)/\Zb w d:=by
 subst es G
 have l:Hid (∀W f k,Zb w W->W.1[f]? = some (Zk #[Zi a,Zi b,Zt c] 55 (0,0))->Zc 238 #[Zs (some (Zd f 0)) 1 k,Zi n] W λe d=>∃v',e=Zr v'/\d.ownsRow w.1.size 55 3 v' n (rep (a,b,c) n)/\Zb w d):=by intro W f k x M;refine(zA f k n (a,b,c) W I J M).mono ?_;rintro e d⟨v',rfl,L,h⟩;exact⟨v',rfl,E.Ai L x.size,Ap x h⟩
 obtain⟨_,_,_,v,u⟩:=Jl w (Zk #[Zi n,Zs y D z,Zs m p o] 171) (Zk #[Zi c1,Zt r,Zi s,Zo t,Zi a,Zi b,Zt c] 59) (Zk #[Zi a,Zi b,Zt c] 55);have g:=Aa (l.o _ (w.1.size+2) 1 u v);clear v u l;go_enter func197,ntmps197;go_wp2_with (go_at_call 238;apply g.o.mono;rintro e O⟨N,rfl,j,i⟩);go_ret;exact⟨_,rfl,j,i⟩
theorem ABF{qz:List Aj}{id:Int}(h:¬pos qz id<qz.length):cM qz id = -1:=by unfold cM;rw[A1 h]
theorem AC1(D:Tv)(G:To)(J I:Nat)(qz:List Aj)(n:Nat)(t:To)(v u:Nat)(p:To)(r q:Nat)(c1:Int)(j:Tb)(k:Int)(l:Bool)(c d:Int)(f:Tb)(w:Tw)(O:F7 7 Cc w D qz)(h1:1<=qz.length)(h8:qz.length<=8)(hp:¬pos qz c1<qz.length)(P:1<=n)(R:n<=6):
 Zc 139 #[Zg #[D,Zs G J I],Zg #[Zi n,Zs t v u,Zs p r q],Zg #[Zi c1,Zt j,Zi k,Zo l,Zi c,Zi d,Zt f]] w
  λe m=>∃v',e=Zr v'/\m.ownsRow w.1.size 55 3 v' n (rep (c,d,f) n)/\Zb w m:=by
 have y:=Aa (λW s=>U9 D (Zs G J I) qz c1 j k l c d f W (O.up s) h1 h8);rw[ABF hp] at y;obtain⟨g,o,cc,rfl,aa,ab,h⟩:=O.cons (by omega);obtain⟨U,hX,V,X,L⟩:=Jl w (Zk #[Zs (some (Zd g o)) qz.length cc,Zs G J I] 125) (Zk #[Zi n,Zs t v u,Zs p r q] 171) (Zk #[Zi c1,Zt j,Zi k,Zo l,Zi c,Zi d,Zt f] 59);have z:=Aa (y.o _ L)
 have HD:Hid (∀W,Zb w W->Zc 197 #[Zg #[Zi n,Zs t v u,Zs p r q],Zg #[Zi c1,Zt j,Zi k,Zo l,Zi c,Zi d,Zt f]] W λe m=>∃v',e=Zr v'/\m.ownsRow w.1.size 55 3 v' n (rep (c,d,f) n)/\Zb w m):=by intro W s;refine(Sf n _ _ t p v u r q c1 j k l c d f W P R rfl rfl).mono ?_;rintro e m⟨v',rfl,ho,M⟩;exact⟨v',rfl,E.Ai ho s.size,Ap s M⟩
 obtain⟨Y,y1,y2,_,_,_⟩:=J5 V;have b:=Zy Y y1 y2 X;have HB:=Aa L;clear hX V X L Y y1 y2 h U y O;go_enter func139,ntmps139;go_wp2_with fail;apply z.o.mono;rintro e i⟨rfl,a⟩;have q0:=Ag a b.o.1;have q1:=Ag a b.o.2.1;have q2:=Ag a b.o.2.2.1;have z0:i.cell? (Zd (w.1.size+1+1) 0)=some (Zi c1):=Ag a (by simp only[World.cell?,b.o.2.2.2];rfl);have z1:i.cell? (Zd (w.1.size+1+1) 1)=some (Zt j):=Ag a (by simp only[World.cell?,b.o.2.2.2];rfl);have z2:i.cell? (Zd (w.1.size+1+1) 2)=some (Zi k):=Ag a (by simp only[World.cell?,b.o.2.2.2];rfl);have z3:i.cell? (Zd (w.1.size+1+1) 3)=some (Zo l):=Ag a (by simp only[World.cell?,b.o.2.2.2];rfl);have z4:i.cell? (Zd (w.1.size+1+1) 4)=some (Zi c):=Ag a (by simp only[World.cell?,b.o.2.2.2];rfl);have z5:i.cell? (Zd (w.1.size+1+1) 5)=some (Zi d):=Ag a (by simp only[World.cell?,b.o.2.2.2];rfl);have z6:i.cell? (Zd (w.1.size+1+1) 6)=some (Zt f):=Ag a (by simp only[World.cell?,b.o.2.2.2];rfl);have x:=Aa (Ap HB.o a);go_wp2_with (go_at_call 197;refine(HD.o _ x.o).mono ?_;rintro e w2⟨v2,rfl,T,N⟩);go_ret;exact⟨_,rfl,T,N⟩
theorem xR{qz:List Aj}{st:List S.St}{bs:List (List UInt8)}(h:¬pos qz c.1<qz.length):Bq qz (n,st,bs) c=List.replicate n (bP c):=by unfold Bq;rw[A1 h]
theorem wW(j:Tv)(o:To)(q p:Nat)(qz:List Aj)(n:Nat)(x:To)(z y:Nat)(k:To)(m l:Nat)(st:List S.St)(bs:List (List UInt8))(c1:Int)(a:Tb)(d:Int)(f:Bool)(g h:Int)(i:Tb)(w:Tw)(J:F7 7 Cc w j qz)(s:F7 1 Mc w (Zs k m l) bs)(G:1<=qz.length)(I:qz.length<=8)(r:bs.length=qz.length)(v:∀b∈bs,b.length<=1000000)(t:1<=n)(u:n<=6):
 Zc 139 #[Zg #[j,Zs o q p],Zg #[Zi n,Zs x z y,Zs k m l],Zg #[Zi c1,Zt a,Zi d,Zo f,Zi g,Zi h,Zt i]] w
  λe D=>∃v',e=Zr v'/\D.ownsRow w.1.size 55 3 v' (Bq qz (n,st,bs) (c1,a,d,f,g,h,i)).length (E.AHk (Bq qz (n,st,bs) (c1,a,d,f,g,h,i)))/\Zb w D:=by
 by_cases hp:pos qz c1<qz.length
 ·rw[kK (n:=n) (st:=st) (c:=(c1,a,d,f,g,h,i)) hp]
  exact Lb j o q p qz n x z y _ bs c1 a d f g h i w J s G I r hp v
 rw[xR (n:=n) (st:=st) (bs:=bs) (c:=(c1,a,d,f,g,h,i)) hp];refine(AC1 j o q p qz n x z y k m l c1 a d f g h i w J G I hp t u).mono ?_;rintro e D⟨v',rfl,M,L⟩;refine⟨v',rfl,?_,L⟩;rw[List.length_replicate];exact M
def yF(I:Nat)(w:World)(v:Value)(qj:List (List V)):Prop:=∃a:List Value,a.length=qj.length/\w.ownsRow 0 61 1 v qj.length a/\∀(j:Nat)x r,a[j]? = some x->qj[j]? = some r->w.ownsRow I 55 3 x r.length (E.AHk r)
theorem yF.o{qj:List (List V)}(h:yF I w v qj):Sc 0 w v qj:=by obtain⟨f,a,b,c⟩:=h;exact⟨f,a,b,λj x r e d=>E.Ai (c j x r e d) (XF _)⟩
theorem yF.low{I I':Nat}{qj:List (List V)}(h:yF I w v qj)(d:I'<=I):yF I' w v qj:=by obtain⟨g,a,b,c⟩:=h;exact⟨g,a,b,λj x r f e=>E.Ai (c j x r f e) d⟩
theorem yF.up{qj:List (List V)}(h:yF I w v qj)(a:Zb w W):yF I W v qj:=by obtain⟨g,b,c,d⟩:=h;exact⟨g,b,E.Ad c a,λj x r f e=>E.Ad (d j x r f e) a⟩
def l4(r:Option (List (List V)))(w:World)(e:Ending)(a:World):Prop:=match r with
 | none=>e=.returned (.tuple #[.slice none 0 0,.iface 107 (Zi 2)])/\Zb w a
 | some qj=>∃v',e=.returned (.tuple #[v',.nilIface])/\yF w.1.size a v' qj/\Zb w a
theorem RI.AIj{B R I:Nat}{X:List Tv}{L:List (List V)}(h:RI B R W X L)(a:I<=B):yF I W (Zs (some (Zd R 0)) L.length L.length) L :=
 ⟨X,h.len,E.Ai h.row (XF _),λj x r c b=>E.Ai (h.each j x r c b) a⟩
theorem AFP(k:Nat)(cv gv lv:Tv)(qz:List Aj)(gs:List Fk)(g:Fk)(d:List Aj)(w:Tw)(hF:Hm w cv gv (qz,gs))(hk:gs[k]? = some g)(hn:F7 7 Cc w lv d)(cx:d.length<=8)(h1:1<=qz.length)(h8:qz.length<=8)(bx:∀b∈g.2.2,b.length<=1000000):
 Zc 85 #[Zg #[cv,gv],Zi k,lv] w (l4 (Ew qz g d) w):=by
 obtain⟨n,st,bs⟩:=g;obtain⟨hC,hG⟩:=hF;have HA:=Aa (λW hW=>nL k cv gv qz gs (n,st,bs) W (hC.up hW) (hG.up hW) hk);have HC:=Aa hC;have HN:=Aa hn;obtain⟨ga,gc,rfl,_⟩:=hG.slice;obtain⟨la,lc,rfl,_⟩:=hn.slice;obtain⟨ca,cc,rfl,_⟩:=hC.slice;have a0:Below w.1.size w (w.alloc (Zk #[Zs ca qz.length cc,Zs ga gs.length gc] 125)):=Zal;have aa:=Aa (HA.o _ a0);have hX:=Yad w (Zk #[Zs ca qz.length cc,Zs ga gs.length gc] 125);obtain⟨f0,f1⟩:=Hg hX;have a9:Hid (∀W,Below (w.alloc (Zk #[Zs ca qz.length cc,Zs ga gs.length gc] 125)).1.size (w.alloc (Zk #[Zs ca qz.length cc,Zs ga gs.length gc] 125)) W->W.cell? (Zd w.1.size 0)=some (Zs ca qz.length cc)/\W.cell? (Zd w.1.size 1)=some (Zs ga gs.length gc)):=Aa (λW hW=>⟨Ag hW f0,Ag hW f1⟩);have N:=Aa a0;clear hC hG hn HA a0 hX f0 f1;cases hw:Gb qz (n,st,bs) with
 | false=>have HR:Hid (Ew qz (n,st,bs) d=none):=Aa (by unfold Ew;rw[hw];rfl);simp only[hw] at aa;go_enter func85,ntmps85;go_wp2_with fail;apply aa.o.mono;rintro e t⟨sv,bv,rfl,ag,R,s⟩;obtain⟨sa,sc,rfl,_⟩:=ag.slice;obtain⟨ba,bc,rfl,_⟩:=R.slice;clear ag R;go_wp2;go_ret2;rw[HR.o];exact⟨rfl,(Ap N.o s).alloc (Ap N.o s).size _⟩
 | true=>
   simp only[hw] at aa;have cq:st.length=qz.length/\bs.length=qz.length/\1<=n/\n<=6:=by simpa[Gb] using hw
   obtain⟨ak,bn,bt,ck⟩:=cq;have b2:=Aa bn;have HW:=Aa hw;have b9:=Aa bx;obtain⟨iS,bo,bz,ar,av⟩:=info_parts eI;have ah:=Zy bo bz ar av;obtain⟨iV,bp,b0,au,aw⟩:=info_parts E.Ip;have ai:=Zy bp b0 au aw;clear hw bx bn ak bo bz ar av bp b0 au aw hk;go_enter func85,ntmps85;go_wp2_with fail;apply aa.o.mono;rintro e t⟨sv,bv,rfl,ag,R,s⟩;have a7:=Aa (R.up s);obtain⟨sa,sc,rfl,_⟩:=ag.slice;obtain⟨ba,bc,rfl,_⟩:=R.slice;clear ag R;have cy:¬(n:Int)<0:=by omega
   have bw:=s.size;simp only[XC] at bw;go_wp2_with (refine wpList_make_full _ rfl _ _ 35 rfl (t.1.size+1) 61 iS (.slice none 0 0) 1 underlying35 ah.o.1 ah.o.2.1 ah.o.2.2.1 .i64 .i64 _ _ n rfl rfl rfl rfl ?m1 ?m2 ?m3 ?_)
   case m1=>rw[ah.o.2.2.2];omega
   case m2=>unfold maxLen;omega
   case m3=>simp
   intro w3 bu T;have bl:=Yad t (Zk #[Zi n,Zs sa st.length sc,Zs ba bs.length bc] 171);obtain⟨g0,g1,g2,_,_,_⟩:=J5 bl;have aq:Below (t.1.size+1) (t.alloc (Zk #[Zi n,Zs sa st.length sc,Zs ba bs.length bc] 171)) w3:=⟨T.os,T.tape,T.output,T.size,λk hk=>T.block k (by simp;omega) (by simp)⟩;have J:Below w.1.size w (t.alloc (Zk #[Zi n,Zs sa st.length sc,Zs ba bs.length bc] 171)):=(Ap N.o s).alloc (Ap N.o s).size _;have af:Below t.1.size t (t.alloc (Zk #[Zi n,Zs sa st.length sc,Zs ba bs.length bc] 171)):=Zal
   have bb:Hid (∀W,Below (t.1.size+1) w3 W->(W.cell? (Zd w.1.size 0)=some (Zs ca qz.length cc)/\W.cell? (Zd w.1.size 1)=some (Zs ga gs.length gc))/\(W.cell? (Zd t.1.size 0)=some (Zi n)/\W.cell? (Zd t.1.size 1)=some (Zs sa st.length sc)/\W.cell? (Zd t.1.size 2)=some (Zs ba bs.length bc))/\F7 7 Cc W (Zs ca qz.length cc) qz/\F7 7 Cc W (Zs la d.length lc) d/\F7 1 Mc W (Zs ba bs.length bc) bs/\Below w.1.size w W):=Aa (λW hW=>by
    have y:Below (t.alloc (Zk #[Zi n,Zs sa st.length sc,Zs ba bs.length bc] 171)).1.size (t.alloc (Zk #[Zi n,Zs sa st.length sc,Zs ba bs.length bc] 171)) W:=by change Below _ _ _;rw[XC];exact aq.trans hW
    exact⟨a9.o W (Ap (Ap s af) y),⟨Ag y g0,Ag y g1,Ag y g2⟩,HC.o.up (Ap J y),HN.o.up (Ap J y),a7.o.up (Ap af y),Ap J y⟩)
   have b5:Hid (RI (t.1.size+1) (t.1.size+1) w3 (List.replicate n (Zs none 0 0)) (Jm (Bq qz (n,st,bs)) d n 0 0)):=Aa (by rw[kG];refine AAq ?_;rw[<-AFW];exact bu)
   have b3:Hid (w.1.size<=t.1.size):=Aa (Ap N.o s).size;clear bu T bl g0 g1 g2 aq J af a9 HC HN a7 N aa bw;generalize hR:t.1.size=gb at *;clear hR s;go_wp2
   go_loopw [30] (λvi wr=>∃j:Nat,j<=d.length/\vi=Zi j/\Hid (∀c∈d.take j,(Bq qz (n,st,bs) c).length=n)/\(∃vs,Hid (RI (gb+1) (gb+1) wr vs (Jm (Bq qz (n,st,bs)) d n j 0)))/\Hid (Below (gb+1) w3 wr)) (λvi _=>d.length-(intOf vi).toNat)
   case atStart=>exact⟨0,XF _,rfl,Aa (by simp),⟨_,b5⟩,Aa (XB _ _)⟩
   case round=>
    obtain⟨j,hj,rfl,ae,⟨vs,ad⟩,a3⟩:=hrel
    by_cases hlt:j<d.length
    ·obtain⟨⟨c1,c2,c3,c4,c5,c6,c7⟩,hc⟩:∃c,d[j]? = some c:=⟨_,Y' hlt⟩
     obtain⟨⟨f0,f1⟩,⟨g0,g1,g2⟩,bk,bm,bj,aj⟩:=bb.o wr a3.o;obtain⟨lb,lo,da,el,_,ct,M⟩:=bm.cons (by omega);injection el with ce _ cf;subst ce cf;obtain⟨q0,q1,q2,q3,q4,q5,q6⟩:=F8 M hc;have o:Below wr.1.size wr (wr.alloc (Zk #[Zi c1,Zt c2,Zi c3,Zo c4,Zi c5,Zi c6,Zt c7] 59)):=Zal;replace f0:=Ag o f0;replace f1:=Ag o f1;replace g0:=Ag o g0;replace g1:=Ag o g1;replace g2:=Ag o g2;have HV:=Aa (wW (Zs ca qz.length cc) ga gs.length gc qz n sa st.length sc ba bs.length bc st bs c1 c2 c3 c4 c5 c6 c7 _ (bk.up o) (bj.up o) h1 h8 b2.o b9.o bt ck);have bf:=Aa (XD hc);have a8:=Aa hc;have bq:(j:Int)<(d.length:Int):=by omega
     have b4:Hid (Bq qz (n,st,bs) (c1,c2,c3,c4,c5,c6,c7)=Bq qz (n,st,bs) (c1,c2,c3,c4,c5,c6,c7)):=Aa rfl;generalize hL:Bq qz (n,st,bs) (c1,c2,c3,c4,c5,c6,c7)=L at HV;have HL:=Aa hL;clear hL b4 bk bm bj M hc
     by_cases hlen:L.length=n
     ·rw[hlen] at HV
      have al:=Aa hlen;clear hlen;go_wp2_with fail;apply HV.o.mono;rintro e w5⟨v5,rfl,D,h⟩;obtain⟨va,vc,rfl,cp⟩:=E.Ak D;have co:=h.size;simp only[XC] at co;have ci:=(ad.o.row.lt (gb+1) rfl).2
      have b1:Hid (Apt (Zs va n vc) vs):=Aa (λi u hu q hq hv=>by obtain⟨m,hm⟩:∃m,(Jm (Bq qz (n,st,bs)) d n j 0)[i]? = some m:=⟨_,Y' (by rw[<-ad.o.len];exact Ax hu)⟩;have a1:=((ad.o.each i u m hu hm).lt q hq).2;have a2:=(D.lt q hv).1;simp only[XC] at a2;omega)
      have bh:=Aa (ad.o.kept (Ap o h));have a5:=Aa (a3.o.trans ((Ap o h).mono (YT ci)));have b6:Hid (w5.ownsRow (wr.1.size+1) 55 3 (Zs va n vc) n (E.AHk L)):=Aa (by simpa only [XC] using D);clear D h o f0 f1 g0 g1 g2 q0 q1 q2 q3 q4 q5 q6 aj;go_wp2
      go_loopw [46] (λvi wi=>∃i:Nat,i<=n/\vi=Zi i/\(∃us,Hid (RI (gb+1) (gb+1) wi us (Jm (Bq qz (n,st,bs)) d n j i))/\Hid (Apt (Zs va n vc) us))/\Hid (wi.ownsRow (wr.1.size+1) 55 3 (Zs va n vc) n (E.AHk L))/\Hid (Below (gb+1) w3 wi)) (λvi _=>n-(intOf vi).toNat)
      case atStart=>exact⟨0,XF _,rfl,⟨vs,bh,b1⟩,b6,a5⟩
      case round=>
       obtain⟨i,hi,rfl,⟨us,f,bi⟩,O,h⟩:=hrel
       by_cases hlt2:i<n
       ·have G:=AA9 (Bq qz (n,st,bs)) d (j:=j) hlt2
        obtain⟨l,hl⟩:∃l,(Jm (Bq qz (n,st,bs)) d n j i)[i]? = some l:=⟨_,G⟩;have bd:Hid (l=(d.take j).map λc=>(Bq qz (n,st,bs) c)[i]?.getD zV):=Aa (by rw[hl] at G;injection G);have cu:l.length<=8:=by rw[bd.o];simp;omega
        obtain⟨v,hv⟩:∃v,us[i]? = some v:=⟨_,Y' (by rw[f.o.len,Ka];exact hlt2)⟩;obtain⟨s0,s1,s2,s3,a,c,rfl⟩:=f.o.AIM hv hl;have ao:=Aa (f.o.each i _ l hv hl);obtain⟨q,az,e5,cn,c0⟩:=O.o.form (by omega);injection e5 with cb _ cd;subst cb cd;obtain⟨⟨U,V,X⟩,hx⟩:=E.Hk (l:=L) (k:=i) (by rw[al.o];exact hlt2);obtain⟨t0,t1,t2⟩:=E.Hr hx;have y0:wr.cell? (Zd q (i*3))=some (Zi U):=(O.o.cellAt _ (by omega)).trans t0;have y1:wr.cell? (Zd q (i*3+1))=some (Zi V):=(O.o.cellAt _ (by omega)).trans t1;have y2:wr.cell? (Zd q (i*3+2))=some (Zt X):=(O.o.cellAt _ (by omega)).trans t2;have HX:=Aa hx;have ac:=Aa hv;have ax:=Aa hl;have cj:(i:Int)<(n:Int):=by omega
        have c8:=h.o.size;clear t0 t1 t2 hx hv hl G;have P:Below wr.1.size wr (wr.alloc (Zk #[Zi U,Zi V,Zt X] 55)):=Zal;have an:=Aa (f.o.kept P);obtain⟨x0,x1,x2⟩:=E.Ei (Yad wr (Zk #[Zi U,Zi V,Zt X] 55));have am:=Aa (E.Ad O.o P);have a6:=Aa (h.o.trans (P.mono (YT s2)));have c9:wr.1.size<(wr.alloc (Zk #[Zi U,Zi V,Zt X] 55)).1.size:=by simp
        have bg:=Aa (f.o.ne ac.o ax.o);have ay:Hid (∀q,(Value.slice a l.length c).ownBlock=some q->q<wr.1.size):=Aa (λq hq=>(ao.o.lt q hq).2);go_wp2_with fail;replace s0:=Ag P s0;replace s1:=(P.frozen (p:=Zd (gb+1) i) s2).trans s1;replace s2:gb+1<(wr.alloc (Zk #[Zi U,Zi V,Zt X] 55)).1.size:=by simp;omega
        clear P y0 y1 y2 ao f O h cn;generalize wr.alloc (Zk #[Zi U,Zi V,Zt X] 55)=Wb at *;generalize wr.1.size=xb at *;have r:Hid (∀Y,Below Wb.1.size Wb (Wb.drew.alloc Y)):=Aa (λY=>(XB _ _).drew.alloc (XA _) _);have ab:=Aa (an.o.each i _ l ac.o ax.o);have bt:Wb.1.size≠gb+1:=by omega
        have cw:Wb.1.size≠xb:=by omega
        go_region_law
         (first
           | (refine step_append_lies _ (by rfl) (.tmp 56) (.tmp 58) 61 (by rfl) (gb+1) 55 iV (.agg #[Zi 0,Zi 0,.string ⟨#[]⟩]) 3 32 underlying61 ai.o.1 ai.o.2.1 ai.o.2.2.1 ai.o.2.2.2 rfl (by decide) (.slice a l.length c) l.length (E.AHk l) (by rfl) (E.Ad ab.o (r.o _)) (Zd Wb.1.size 0) 1 1 [Zi U,Zi V,.string X] (by rfl) rfl (λj u hj=>XE (Yad _ _) j u hj) (E.Hf [(U,V,X)]) (by omega) (by unfold maxLen;omega) (by omega) (by simp;omega) _ rfl ?_
              intro g az w6 cl z ap cr;have p0:=(z.cell_far (Zd (gb+1) i) (by simp;omega) bg.o).trans (Ag (r.o _) s0);have p1:=(z.cell_far (Zd xb 0) (by simp;omega) (λe=>YZ _ (ay.o _ e.symm))).trans (Ag (r.o _) x0);have p2:=(z.cell_far (Zd xb 1) (by simp;omega) (λe=>YZ _ (ay.o _ e.symm))).trans (Ag (r.o _) x1);have p3:=(z.cell_far (Zd xb 2) (by simp;omega) (λe=>YZ _ (ay.o _ e.symm))).trans (Ag (r.o _) x2);have p4:=(z.frozen_far (Zd (gb+1) i) (by simp;omega) bg.o).trans (((r.o _).frozen (p:=Zd (gb+1) i) s2).trans s1))
           | fail)
        all_goals
         go_wp2;have ak:=(an.o.kept (r.o (Zk #[Zi U,Zi V,Zt X] 55))).step (x:=(U,V,X)) ac.o ax.o cl z (ap.imp_right (λe=>Nat.le_of_eq e.symm));have br:=pU (Bq qz (n,st,bs)) (x:=(U,V,X)) hlt2 a8.o (by rw[HL.o];exact HX.o);rw[<-bd.o] at br;rw[br] at ak;have cz:=(am.o.lt q rfl).1;have cm:=((E.Ad am.o (r.o (Zk #[Zi U,Zi V,Zt X] 55))).kept z (.inr (λe=>bi.o i _ ac.o q e.symm rfl))).kept (E.Ar w6 (gb+1) i (Zs (some (Zd g 0)) (l.length+1) az)) (.inr (λe=>by simp[Value.ownBlock] at e;omega));have cg:=(E.Bj (a6.o.trans ((r.o (Zk #[Zi U,Zi V,Zt X] 55)).mono (YT s2))) (E.Ad ab.o (r.o _)) z (by simp;omega)).setCell (p:=Zd (gb+1) i) (XA _) (Zs (some (Zd g 0)) (l.length+1) az);exact⟨⟨i+1,by omega,by go_num,⟨_,Aa ak,Aa (bi.o.step (H:=Wb.1.size+1) ac.o (ap.imp_right (λe=>by rw[e];simp)) (λq' e=>by simp[Value.ownBlock] at e;omega))⟩,Aa cm,Aa cg⟩,by simp[intOf];omega⟩
       have cj:¬(i:Int)<(n:Int):=by omega
       have ei:i=n:=by omega
       have b8:Hid (RI (gb+1) (gb+1) wr us (Jm (Bq qz (n,st,bs)) d n (j+1) 0)):=Aa (by rw[<-mJ,<-ei];rw[ei] at f ⊢;exact f.o)
       have a4:Hid (∀c∈d.take (j+1),(Bq qz (n,st,bs) c).length=n):=Aa (by
        intro c hc;rw[E.Br a8.o,List.mem_append,List.mem_singleton] at hc
        rcases hc with hc|rfl
        ·exact ae.o c hc
        rw[HL.o];exact al.o)
       clear ei;go_wp2;exact⟨⟨j+1,by omega,by go_num,a4,⟨us,b8⟩,h⟩,by simp[intOf];omega⟩
     have cs:((L.length:Int)==(n:Int))=false:=by simp;omega
     have HR:Hid (Ew qz (n,st,bs) d=none):=Aa (tF bf.o (by rw[HL.o];exact hlen));clear hlen;go_wp2_with fail;apply HV.o.mono;rintro e w5⟨v5,rfl,D,h⟩;obtain⟨va,vc,rfl,cp⟩:=E.Ak D;have ch:=Ap (Ap aj o) h;clear D;go_wp2;go_ret2;rw[HR.o];exact⟨rfl,ch⟩
    have bq:¬(j:Int)<(d.length:Int):=by omega
    have ej:j=d.length:=by omega
    have HR:Hid (Ew qz (n,st,bs) d=some (Lh qz (n,st,bs) d)):=Aa (mC HW.o (λc hc=>by rw[ej,Ye] at ae;exact ae.o c hc))
    have b7:Hid (yF w.1.size wr (Zs (some (Zd (gb+1) 0)) n n) (Lh qz (n,st,bs) d)):=Aa (by have hm:=uC qz (n,st,bs) d;simp only at hm;rw[<-hm];have h3:=ad.o;rw[ej] at h3;have h4:=h3.AIj (I:=w.1.size) (by have:=b3.o;omega);rwa[Ka] at h4)
    have aj:=(bb.o wr a3.o).2.2.2.2.2;clear ej;go_wp2;go_ret2;rw[HR.o];exact⟨_,rfl,b7.o,aj⟩
theorem ANp(k:Nat)(c d l:Tv)(qz:List Aj)(gs:List Fk)(g:Fk)(a:List Aj)(w:Tw)(q:Hm w c d (qz,gs))(s:gs[k]? = some g)(t:F7 7 Cc w l a)(i:a.length<=8)(f:1<=qz.length)(p:qz.length<=8)(j:∀b∈g.2.2,b.length<=1000000):
 Zc 85 #[Zg #[c,d],Zi k,l] w (dM (Ew qz g a) w) :=
 (AFP k c d l qz gs g a w q s t i f p j).mono λe u h=>by
   cases hr:Ew qz g a with
   | none=>rw[hr] at h;exact h
   | some r=>rw[hr] at h;obtain⟨v,m,f,n⟩:=h;exact⟨v,m,f.o,n⟩
theorem AG2{qz:List Aj}(n:pos qz c.1<qz.length)(d:∀b∈g.2.2,b.length<=1000000):∀v∈Bq qz g c,Ks v/\v.2.2.size<=maxLen:=by
 unfold Bq;rw[A2 n];intro v a;cases hd:E.Ll (kd (qz[pos qz c.1]?.getD zC)) (g.2.2[pos qz c.1]?.getD []) with
 | none=>rw[hd] at a;simp at a
 | some m=>
   rw[hd] at a;obtain⟨_,_,l⟩:=E.l3 hd
   have j:(g.2.2[pos qz c.1]?.getD []).length<=1000000:=by
    cases hx:g.2.2[pos qz c.1]? with
    | none=>simp
    | some b=>exact d b (XD hx)
   have e:=(E.nO (k:=kd (qz[pos qz c.1]?.getD zC)) j).1;rw[<-l] at e;obtain⟨f,h,i⟩:=e v a;exact⟨⟨f,h⟩,i⟩
theorem AD7{qz l:List Aj}(h:Ew qz g l=some r)(f:∀c∈l,pos qz c.1<qz.length)(a:∀b∈g.2.2,b.length<=1000000):∀row∈r,∀v∈row,Ks v/\v.2.2.size<=maxLen:=by
 unfold Ew at h;split at h
 ·injection h with h
  subst h;intro row d v i;unfold Lh at d;obtain⟨j,_,rfl⟩:=List.mem_map.1 d;obtain⟨c,e,rfl⟩:=List.mem_map.1 i;cases hx:(Bq qz g c)[j]? with
  | none=>exact⟨AEv,XF _⟩
  | some u=>exact AG2 (f c e) a u (XD hx)
 cases h
theorem sX{qz l:List Aj}(e:∀c∈l,pos qz c.1<qz.length):∀{gs:List Fk}{acc qj:List (List V)},Fb qz l acc gs=some qj->(∀g∈gs,∀b∈g.2.2,b.length<=1000000)->(∀row∈acc,∀v∈row,Ks v/\v.2.2.size<=maxLen)->∀row∈qj,∀v∈row,Ks v/\v.2.2.size<=maxLen
 | [],acc,qj,h,_,ha=>by rw[Fb] at h;injection h with h;subst h;exact ha
 | g :: gs,acc,qj,h,hs,ha=>by
   cases hr:Ew qz g l with
   | none=>rw[Nb hr] at h;cases h
   | some r=>
     rw[Nx hr] at h;refine sX e h (λf i=>hs f (Yf _ i)) (λrow a=>?_)
     rcases List.mem_append.1 a with d|d
     ·exact ha row d
     exact AD7 hr e (hs g List.mem_cons_self) row d
theorem ABu{qz l:List Aj}(h:Ew qz g l=some r)(b:1<=qz.length)(c:qz.length<=8):AEE g:=by
 unfold Ew at h;split at h
 ·rename_i a
  rw[XN] at a;have a:=a.1;simp only[Gb,decide_eq_true_eq] at a;exact⟨by omega,by omega,by omega,by omega⟩
 cases h
theorem lM{qz l:List Aj}(b:1<=qz.length)(c:qz.length<=8):∀{gs:List Fk}{acc qj:List (List V)},Fb qz l acc gs=some qj->∀g∈gs,AEE g
 | [],_,_,_=>by simp
 | g :: gs,acc,qj,h=>by
   cases hr:Ew qz g l with
   | none=>rw[Nb hr] at h;cases h
   | some r=>
     rw[Nx hr] at h;intro d a
     rcases List.mem_cons.1 a with rfl|a
     ·exact ABu hr b c
     exact lM b c h d a
theorem ADP{qj:List (List V)}{f:s9}(h:J9 l qj=some f)(b:1<=l.length)(c:l.length<=8):(∀g∈f.2,AEE g)/\f.2.length<=qj.length+5:=by
 unfold J9 at h;split at h
 ·injection h with h
  subst h;refine⟨λg a=>?_,?_⟩
  ·obtain⟨p,_,rfl⟩:=List.mem_map.1 a
   refine⟨?_,?_,?_,?_⟩ <;> simp[An] <;> omega
  simp[Ay,parts,aF];omega
 cases h
theorem lR(l:List Aj):∀c∈A7 l,pos l c.1<l.length:=λc a=>by
 have b:c.1∈ids l:=by rw[<-(Gh l).1];exact List.mem_map.2 ⟨c,a,rfl⟩
 have:=List.idxOf_lt_length_of_mem b;unfold pos;simpa[ids] using this
theorem cD(l:List Aj):∀x∈A7 l,x.2.1.size<=maxLen/\x.2.2.2.2.2.2.size<=maxLen:=λx a=>by
 unfold A7 at a;obtain⟨i,_,rfl⟩:=List.mem_map.1 a;constructor
 ·show (I3 i).size<=maxLen
  have:(I3 i).size=2:=rfl;rw[this];unfold maxLen;omega
 show (ByteArray.mk #[]).size<=maxLen;exact XF _
theorem rN{qz:List Aj}{gs:List Fk}(h:Be (A7 qz) 1099511627777=false):madeB (qz,gs)=false:=by unfold madeB Lf;rw[h];rfl
theorem bL{qz:List Aj}{gs:List Fk}(h:Fb qz (A7 qz) [] gs=none):madeB (qz,gs)=false:=by unfold madeB;simp only[h,WI]
theorem AC3{qz:List Aj}{gs:List Fk}{qj:List (List V)}(h:Fb qz (A7 qz) [] gs=some qj)(a:J9 (A7 qz) qj=none):madeB (qz,gs)=false:=by unfold madeB;simp only[h,a,WI]
theorem wP{qz:List Aj}{gs:List Fk}{qj:List (List V)}{f:s9}{b:Bool}(c:Be (A7 qz) 1099511627777=true)(h:Fb qz (A7 qz) [] gs=some qj)(d:J9 (A7 qz) qj=some f)(a:b=true↔gs=f.2):madeB (qz,gs)=b:=by
 unfold madeB Lf;simp only[c,h,d,Bool.true_and];cases b with
 | true=>simpa using a.1 rfl
 | false=>simp;intro e;cases a.2 e
theorem AFk(cv gv:Tv)(qz:List Aj)(gs:List Fk)(w:Tw)(hF:Hm w cv gv (qz,gs))(h8:qz.length<=8)(az:∀g∈gs,∀b∈g.2.2,b.length<=1000000)(bp:gs.length<=60)(hw:Lw w)(q:Ob w):
 Zc 174 #[Zg #[cv,gv]] w λe w'=>e=Zr (Zo (madeB (qz,gs)))/\Below w.1.size w w':=by
 have HF:=Aa hF;have au:=Aa az;have HW:=Aa hw;have HG:=Aa q;obtain⟨hC,hG⟩:=hF;obtain⟨P,R,rfl,_⟩:=hG.slice;obtain⟨N,O,rfl,_⟩:=hC.slice;have ae:Below w.1.size w (w.alloc (Zk #[Zs N qz.length O,Zs P gs.length R] 125)):=Zal;obtain⟨f0,f1⟩:=Hg (Yad w (Zk #[Zs N qz.length O,Zs P gs.length R] 125));have ar:=Aa (ADI (Zs N qz.length O) qz _ (hC.up ae) h8)
 have s:Hid (∀W,Below (w.1.size+1) (w.alloc (Zk #[Zs N qz.length O,Zs P gs.length R] 125)) W->W.cell? (Zd w.1.size 0)=some (Zs N qz.length O)/\W.cell? (Zd w.1.size 1)=some (Zs P gs.length R)/\Below w.1.size w W):=Aa (λW hW=>by
  have ad:Below (w.alloc (Zk #[Zs N qz.length O,Zs P gs.length R] 125)).1.size (w.alloc (Zk #[Zs N qz.length O,Zs P gs.length R] 125)) W:=by change Below _ _ _;rw[XC];exact hW
  exact⟨Ag ad f0,Ag ad f1,Ap ae ad⟩)
 obtain⟨iS,aw,a7,U,X⟩:=info_parts eI;have t:=Zy aw a7 U X;clear hC hG az hw q aw a7 U X ae;go_enter func174,ntmps174;go_wp2_with fail;apply ar.o.mono;rintro e w1⟨v1,rfl,aj,D⟩;obtain⟨pa,pc,rfl,_⟩:=E.Ak aj;have f:Below (w.1.size+1) (w.alloc (Zk #[Zs N qz.length O,Zs P gs.length R] 125)) w1:=by change Below _ _ _ at D;rw[XC] at D;exact D
 obtain⟨q0,q1,p⟩:=s.o w1 f;have ax:=f.size;rw[XC] at ax;have ap:Hid (F7 7 Cc w1 (Zs pa qz.length pc) (A7 qz)):=Aa (F7.Fz (k:=7) (enc:=Cc) (λ_=>rfl) aj (Cx qz).symm);have y:=Aa (kR (Zs pa qz.length pc) (A7 qz) 1099511627777 w1 ap.o (by rw[Cx];omega) (cD qz) (HW.o.below p));have a8:=Aa f;have am:=Aa p;clear D f aj ar p f0 f1;cases hR:Be (A7 qz) 1099511627777 with
 | false=>rw[hR] at y;have bc:=Aa (rN (gs:=gs) hR);go_wp2_with fail;apply y.o.mono;rintro e w2⟨rfl,c⟩;go_wp2;go_ret;rw[bc.o];exact⟨rfl,Ap am.o c⟩
 | true=>
   rw[hR] at y;have HR:=Aa hR;have ai:1<=qz.length:=by have:=(K5.1 hR).one;rwa[Cx] at this
   clear hR;go_wp2_with fail;apply y.o.mono;rintro e w2⟨rfl,c⟩;have ac:=a8.o.trans (c.mono ax);obtain⟨q0,q1,bk⟩:=s.o w2 ac;have aq:=Aa (ap.o.up c);have bq:=c.size;go_wp2
   go_loopw [4,19] (λvo vi wr=>∃(k:Nat)(acc:List (List V)),k<=gs.length/\vi=Zi k/\acc.length<=6*k/\Hid (Fb qz (A7 qz) [] gs=Fb qz (A7 qz) acc (gs.drop k))/\Hid (Sc w2.1.size wr vo acc)/\Hid (Below w2.1.size w2 wr)) (λ_ vi _=>gs.length-(intOf vi).toNat)
   case atStart=>exact⟨0,[],XF _,rfl,by simp,Aa rfl,Aa (ABG _ _),Aa (XB _ _)⟩
   case round=>
    obtain⟨k,acc,hk,rfl,bj,I,J,o⟩:=hrel;obtain⟨q0,q1,d⟩:=s.o wr (ac.trans (o.o.mono (by omega)));have a0:=o.o.size;have M:=Aa (aq.o.up o.o);have bb:=Aa (HF.o.up d)
    by_cases hlt:k<gs.length
    ·obtain⟨g,q⟩:∃g,gs[k]? = some g:=⟨_,Y' hlt⟩
     have z:=Aa (ANp k _ _ (Zs pa qz.length pc) qz gs g (A7 qz) wr bb.o q M.o (by rw[Cx];exact h8) ai h8 (au.o g (XD q)));have an:Hid (Fb qz (A7 qz) [] gs=Fb qz (A7 qz) acc (g :: gs.drop (k+1))):=Aa (by rw[I.o,Ym hlt];rw[Y' hlt] at q;injection q with q;rw[q]);have bf:(k:Int)<(gs.length:Int):=by omega
     obtain⟨vs,a3,al,a4⟩:=J.o;obtain⟨oa,oc,rfl,_⟩:=E.Ak al;have ab:=Aa (And.intro a3 (And.intro al a4));clear q I a3 al a4 J;cases i:Ew qz g (A7 qz) with
     | none=>rw[i] at z;have L:Hid (madeB (qz,gs)=false):=Aa (bL (by rw[an.o,Nb i]));clear i;go_wp2_with fail;apply z.o.mono;rintro e w3⟨rfl,h⟩;go_wp2;go_ret;rw[L.o];exact⟨rfl,Ap d h⟩
     | some r=>
       rw[i] at z;obtain⟨bi,bh⟩:=ACn i;have bl:r.length<=6:=by omega
       have L:Hid (Fb qz (A7 qz) [] gs=Fb qz (A7 qz) (acc++r) (gs.drop (k+1))):=Aa (by rw[an.o,Nx i]);clear i bi bh;go_wp2_with fail;apply z.o.mono;rintro e w3⟨v1,rfl,⟨us,a1,ak,a2⟩,h⟩;obtain⟨ra,rc,rfl,_⟩:=E.Ak ak;have l:=Aa (And.intro a1 (And.intro ak a2));have aa:=Aa (E.Ad ab.o.2.1 h);have br:=h.size;clear a1 ak a2;go_wp2_with (at_builtin;refine E.Ck rfl _ _ 35 rfl w2.1.size 61 iS (.slice none 0 0) 1 24 underlying35 t.o.1 t.o.2.1 t.o.2.2.1 t.o.2.2.2 rfl (by decide) _ _ _ rfl aa.o _ _ _ _ rfl l.o.2.1 (Sc.one l.o.1 l.o.2.2) ?f1 ?f2 ?f3 ?_)
       case f1=>unfold maxLen;omega
       case f2=>omega
       case f3=>omega
       intro v2 w4 bg av;have ay:=Sc.app ab.o.1 l.o.1 aa.o (λj x r hx i=>E.Ad (ab.o.2.2 j x r hx i) h) l.o.2.2 bg av;have c:=E.Bj (o.o.trans (h.mono a0)) aa.o av (by omega);go_wp2;exact⟨⟨k+1,acc++r,by omega,by go_num,by simp;omega,L,Aa ay,Aa c⟩,by simp[intOf];omega⟩
    have ek:k=gs.length:=by omega
    have L:Hid (Fb qz (A7 qz) [] gs=some acc):=Aa (by rw[I.o,ek,WO];rfl);have bf:¬(k:Int)<(gs.length:Int):=by omega
    have bo:acc.length<=360:=by omega
    have ao:=Aa (sX (lR qz) L.o au.o (by simp));have u:=Aa (rW (Zs pa qz.length pc) _ (A7 qz) acc wr M.o J.o.slr (by rw[Cx];omega) (by omega) (cD qz) (λr i v hv=>(ao.o r i v hv).2) (λr i v hv=>(ao.o r i v hv).1) (HW.o.below d) (HG.o.below d));obtain⟨oa,oc,rfl,_⟩:=J.o.slr.slice;clear ek I;cases hm:J9 (A7 qz) acc with
    | none=>rw[hm] at u;have Y:=Aa (AC3 L.o hm);clear hm;go_wp2_with fail;apply u.o.mono;rintro e w5⟨T5,v5,rfl,n⟩;have af:=(Ap d n).alloc (by have:=n.size;have:=d.size;omega) (Zk #[Zs none 0 0,Zs none 0 0] 125);go_wp2;go_ret;rw[Y.o];exact⟨rfl,af⟩
    | some f'=>rw[hm] at u;obtain⟨l',a⟩:=f';go_wp2_with fail;apply u.o.mono;rintro e w5⟨bm,bn,rfl,m,n⟩;obtain⟨a5,c5,rfl,_⟩:=m.1.slice;obtain⟨a6,c6,rfl,_⟩:=m.2.slice;dsimp only at m ⊢;have G:Below w5.1.size w5 (w5.alloc (Zk #[Zs a5 l'.length c5,Zs a6 a.length c6] 125)):=Zal;have T:=Ap (Ap d n) G;obtain⟨q0,q1,_⟩:=s.o (w5.alloc (Zk #[Zs a5 l'.length c5,Zs a6 a.length c6] 125)) ((ac.trans (o.o.mono (by omega))).trans ((Ap n G).mono (by omega)));obtain⟨x0,x1⟩:=Hg (Yad w5 (Zk #[Zs a5 l'.length c5,Zs a6 a.length c6] 125));obtain⟨ah,ag⟩:=ADP hm (by rw[Cx];exact ai) (by rw[Cx];exact h8);dsimp only at ah ag;have ba:=Aa (zR (Zs P gs.length R) (Zs a6 a.length c6) gs a _ (HF.o.up T).2 (m.2.up G) (by omega) (by have:=ag;omega) (lM ai h8 L.o) ah);have Y:Hid (madeB (qz,gs)=Lib.allEq J7 gs a):=Aa (wP HR.o L.o hm (P5 ABk gs a));have a9:=Aa T;clear ah ag m hm G;go_wp2_with fail;apply ba.o.mono;rintro e w6⟨rfl,af⟩;have bd:=Ap a9.o af;go_wp2;go_ret;rw[Y.o];exact⟨rfl,bd⟩
theorem A4{b i:Nat}{cs:Array Tv}{T:TypeId}(h:W.1[b]? = some (Zk cs T))(a:cs[i]? = some v):W.cell? (Zd b i)=some v:=by simp[World.cell?,h,a]
def ADK(r:Option (List UInt8))(w:World)(e:Ending)(a:World):Prop:=match r with
 | none=>e=.returned (.tuple #[.string ⟨#[]⟩,.iface 107 (Zi 1)])/\Zb w a
 | some b=>e=.returned (.tuple #[.string (E.str b),.nilIface])/\Zb w a
def Fj(qz:List Aj)(k:Nat):List UInt8:=Lib.uvarint qz.length++(qz.take k).flatMap Eg
def Fl(qz:List Aj)(gs:List Fk)(k:Nat):List UInt8:=(Fj qz qz.length++Lib.uvarint gs.length)++(gs.take k).flatMap Bh
theorem xF(qz:List Aj)(gs:List Fk):Fl qz gs gs.length=Cq (qz,gs):=by unfold Fl Fj Cq;rw[Ye,Ye];simp
theorem qG{qz:List Aj}(h:qz[k]? = some c):Fj qz (k+1)=(Fj qz k++Lib.uvarint c.1.toNat)++Lib.uvarint (kd c).toNat:=by unfold Fj;rw[E.Br h];simp[Eg]
theorem qJ{qz:List Aj}{gs:List Fk}(h:gs[k]? = some g):Fl qz gs (k+1)=Fl qz gs k++Bh g:=by unfold Fl;rw[E.Br h];simp
theorem xB{qz:List Aj}(o:qz.length<=8)(h:∀c∈qz,0<=c.1/\c.1<=1099511627776/\0<=kd c/\kd c<=2)(k:Nat):(Fj qz k).length<=200:=by
 unfold Fj;have i:(Lib.uvarint qz.length).length<=10:=Lib.uvarint_length64 (by omega)
 have j:=Mp Eg 20 (l:=qz.take k) (λc f=>by obtain⟨a,b,d,e⟩:=h c (Yk f);have m:(Lib.uvarint c.1.toNat).length<=10:=Lib.uvarint_length64 (by omega);have g:(Lib.uvarint (kd c).toNat).length<=10:=Lib.uvarint_length64 (by omega);simp only[Eg,XK];omega)
 have g:(qz.take k).length<=8:=by rw[XU];omega
 have n:=Yn 20 g;rw[XK];omega
theorem Xi{qz:List Aj}{gs:List Fk}(h:madeB (qz,gs)=true):Be (A7 qz) 1099511627777=true/\∃qj,Fb qz (A7 qz) [] gs=some qj:=by
 constructor
 ·cases hr:Be (A7 qz) 1099511627777 with
  | true=>rfl
  | false=>rw[rN hr] at h;cases h
 cases ha:Fb qz (A7 qz) [] gs with
 | some qj=>exact⟨qj,rfl⟩
 | none=>rw[bL ha] at h;cases h
theorem ACG{qz:List Aj}{gs:List Fk}(h:madeB (qz,gs)=true):∀c∈qz,0<=c.1/\c.1<=1099511627776/\0<=kd c/\kd c<=2:=λc e=>by
 obtain⟨d,f,a,b⟩:=Sk (show Es qz (A7 qz) from⟨(Gh qz).1.symm,(Gh qz).2.symm⟩) e;have:=Wg (K5.1 (Xi h).1) f;rwa[a,b] at this
theorem Xk{qz l:List Aj}:∀{gs:List Fk}{acc qj:List (List V)},Fb qz l acc gs=some qj->∀g∈gs,g.1<=6/\g.2.2.length=qz.length
 | [],_,_,_=>by simp
 | g :: gs,acc,qj,h=>by
   cases hr:Ew qz g l with
   | none=>rw[Nb hr] at h;cases h
   | some r=>
     rw[Nx hr] at h;intro c b
     rcases List.mem_cons.1 b with rfl|b
     ·unfold Ew at hr
      split at hr
      ·rename_i a
       rw[XN] at a;have a:=a.1;simp only[Gb,decide_eq_true_eq] at a;exact⟨a.2.2.2,a.2.1⟩
      cases hr
     exact Xk h c b
theorem AJQ(n:Nat):0<(Lib.uvarint n).length:=by rw[Lib.uvarint];split <;> simp
theorem cR(d:g.1<=6)(c:g.2.2.length<=8)(a:∀b∈g.2.2,b.length<=1000000):(Bh g).length<=9000000:=by have h:=Xz d a g.2.2.length;rw[X5] at h;have:g.2.2.length*1000010<=8*1000010:=Yn _ c;omega
theorem lH(cv gv:Tv)(qz:List Aj)(gs:List Fk)(w:Tw)(hF:Hm w cv gv (qz,gs))(h8:qz.length<=8)(ah:∀g∈gs,∀b∈g.2.2,b.length<=1000000)(bs:gs.length<=60)(q:Lw w)(I:Ob w):
 Zc 111 #[Zg #[cv,gv]] w (ADK (Jn (qz,gs)) w):=by
 have HF:=Aa hF;have bf:=Aa ah;have am:=Aa (λW(hW:Below w.1.size w W)=>AFk cv gv qz gs W (hF.up hW) h8 ah bs (q.below hW) (I.below hW));obtain⟨hC,hG⟩:=hF;obtain⟨Y,gc,rfl,_⟩:=hG.slice;obtain⟨T,V,rfl,_⟩:=hC.slice;have n:Below w.1.size w (w.alloc (Zk #[Zs T qz.length V,Zs Y gs.length gc] 125)):=Zal;obtain⟨f0,f1⟩:=Hg (Yad w (Zk #[Zs T qz.length V,Zs Y gs.length gc] 125))
 have a1:Hid (∀W,Below (w.1.size+1) (w.alloc (Zk #[Zs T qz.length V,Zs Y gs.length gc] 125)) W->W.cell? (Zd w.1.size 0)=some (Zs T qz.length V)/\W.cell? (Zd w.1.size 1)=some (Zs Y gs.length gc)/\Below w.1.size w W):=Aa (λW hW=>by
  have aa:Below (w.alloc (Zk #[Zs T qz.length V,Zs Y gs.length gc] 125)).1.size (w.alloc (Zk #[Zs T qz.length V,Zs Y gs.length gc] 125)) W:=by change Below _ _ _;rw[XC];exact hW
  exact⟨Ag aa f0,Ag aa f1,Ap n aa⟩)
 have r:=Aa (am.o _ n);clear hC hG ah q I;cases hm:madeB (qz,gs) with
 | false=>rw[hm] at r;have HE:Hid (Jn (qz,gs)=none):=Aa (by unfold Jn;rw[A1 (by simp[hm])]);clear hm;have ak:=Aa n;clear n;go_enter func111,ntmps111;go_wp2_with fail;apply r.o.mono;rintro e d⟨rfl,o⟩;go_wp2;go_ret2;rw[HE.o];exact⟨rfl,Ap ak.o o⟩
 | true=>
   rw[hm] at r;have HM:=Aa hm;have HE:Hid (Jn (qz,gs)=some (Cq (qz,gs))):=Aa (by unfold Jn;rw[A2 hm]);clear hm;have ak:=Aa n;clear n;go_enter func111,ntmps111;go_wp2_with fail;apply r.o.mono;rintro e d⟨rfl,o⟩;have s:Below (w.1.size+1) (w.alloc (Zk #[Zs T qz.length V,Zs Y gs.length gc] 125)) d:=by change Below _ _ _ at o;rw[XC] at o;exact o
   obtain⟨q0,q1,G⟩:=a1.o d s;have bv:=s.size;rw[XC] at bv;have u:Hid (Zc 175 #[Zs none 0 0,.int .u64 qz.length] d _):=Aa (E.Dq d.1.size 0 qz.length (by omega) (Zs none 0 0) [] d (XJ _ _ _ _) (XA _) (by omega));go_wp2_with fail;apply u.o.mono;rintro e w2⟨v2,rfl,x,ai⟩;rw[WV] at x;obtain⟨a2,c2,rfl,_⟩:=E.Ak x
   have a9:Hid (w2.ownsRow d.1.size 5 1 (Zs a2 (Lib.uvarint qz.length).length c2) (Fj qz 0).length (Lib.byteCells (Fj qz 0))):=Aa (by
    have e0:Fj qz 0=Lib.uvarint qz.length:=by simp[Fj]
    rw[e0];simpa using x)
   have bg:=Aa ai;have al:=Aa (ACG HM.o);have bj:=Aa (Xk (Xi HM.o).2.choose_spec);have D:=Aa (xB h8 al.o);have b7:=(ai.1.cell (p:=Zd w.1.size 0) (by show w.1.size<_;omega)).trans q0;have bd:=Aa q1;have z:=Aa G;clear x ai u o s q0 q1 G r am f0 f1;go_wp2
   go_loopw [4,21] (λvb vi wr=>∃k:Nat,k<=qz.length/\vi=Zi k/\Hid (wr.ownsRow d.1.size 5 1 vb (Fj qz k).length (Lib.byteCells (Fj qz k)))/\Hid (E.Wr d.1.size d wr)) (λ_ vi _=>qz.length-(intOf vi).toNat)
   case atStart=>exact⟨0,XF _,rfl,a9,bg⟩
   case round=>
    obtain⟨k,hk,rfl,ho,q⟩:=hrel;obtain⟨b3,b0,rfl,_⟩:=E.Ak ho.o;have t:=q.o.1.size;have f:Below w.1.size w wr:=z.o.trans (q.o.1.mono (by omega))
    by_cases hlt:k<qz.length
    ·obtain⟨⟨c1,c2,c3,c4,c5,c6,c7⟩,hc⟩:∃c,qz[k]? = some c:=⟨_,Y' hlt⟩
     obtain⟨g1,g2,g3,g4⟩:=al.o _ (XD hc);dsimp only [kd] at g1 g2 g3 g4;have m:=Aa (qG hc);obtain⟨lb,lo,b5,el,_,b4,i⟩:=(HF.o.up f).1.cons (by show 0<qz.length;omega);injection el with bp em bq;clear em;subst bp bq;obtain⟨q0,q1,q2,q3,q4,q5,q6⟩:=F8 i hc;obtain⟨n1,rfl⟩:=WE g1;obtain⟨n3,rfl⟩:=WE g3;dsimp only [kd] at m;rw[WK,WK] at m;have a:=D.o k;have bu:(k:Int)<(qz.length:Int):=by omega
     have au:(Lib.uvarint n1).length<=10:=Lib.uvarint_length64 (by omega);have l:=Aa (Yad wr (Zk #[Zi n1,Zt c2,Zi n3,Zo c4,Zi c5,Zi c6,Zt c7] 59));have x0:(wr.alloc (Zk #[Zi n1,Zt c2,Zi n3,Zo c4,Zi c5,Zi c6,Zt c7] 59)).cell? (Zd wr.1.size 0)=some (Zi n1):=A4 l.o rfl;have u:=Aa (E.Dq d.1.size (Fj qz k).length n1 (by omega) _ _ _ (ho.o.alloc (Zk #[Zi n1,Zt c2,Zi n3,Zo c4,Zi c5,Zi c6,Zt c7] 59)) (by simp;omega) (by omega));have R:=Aa (q.o.alloc t (Zk #[Zi n1,Zt c2,Zi n3,Zo c4,Zi c5,Zi c6,Zt c7] 59));have O:=Aa (And.intro a au);clear i hc a au;go_wp2_with fail;apply u.o.mono;rintro e w3⟨v3,rfl,ad,y⟩;obtain⟨a3,d3,rfl,_⟩:=E.Ak ad;have x2:w3.cell? (Zd wr.1.size 2)=some (Zi n3):=A4 (E.Hw y l.o (by decide)) rfl;have ay:=Aa (E.Dq d.1.size _ n3 (by omega) _ _ w3 ad (by have:=y.1.size;simp at this;omega) (by have:=O.o;omega));have bk:=Aa (R.o.trans y);clear ad y q0 q1 q2 q3 q4 q5 q6 x0;go_wp2_with fail;apply ay.o.mono;rintro e w4⟨v4,rfl,ae,aw⟩;obtain⟨a4,d4,rfl,_⟩:=E.Ak ae
     have ba:Hid (w4.ownsRow d.1.size 5 1 (Zs a4 ((Fj qz k).length+(Lib.uvarint n1).length+(Lib.uvarint n3).length) d4) (Fj qz (k+1)).length (Lib.byteCells (Fj qz (k+1)))):=Aa (by rw[m.o,E.Bg,E.Bg];simpa[WU] using ae)
     have bh:=Aa (bk.o.trans aw);clear ae aw;go_wp2;exact⟨⟨k+1,by omega,by go_num,ba,bh⟩,by simp[intOf];omega⟩
    have ek:k=qz.length:=by omega
    have bu:¬(k:Int)<(qz.length:Int):=by omega
    have q1:=(q.o.1.cell (p:=Zd w.1.size 1) (by show w.1.size<_;omega)).trans bd.o;have a:=D.o k;have az:Hid (Zc 175 #[_,.int .u64 gs.length] wr _):=Aa (E.Dq d.1.size (Fj qz k).length gs.length (by omega) _ _ wr ho.o (by omega) (by omega));have HK:=Aa ek;have av:(Lib.uvarint gs.length).length<=10:=Lib.uvarint_length64 (by omega);have O:=Aa (And.intro a av);clear ek a av;go_wp2_with fail;apply az.o.mono;rintro e w5⟨v5,rfl,af,aj⟩;obtain⟨a5,d5,rfl,_⟩:=E.Ak af;have b8:=(aj.1.cell (p:=Zd w.1.size 1) (by show w.1.size<_;omega)).trans q1
    have bb:Hid (w5.ownsRow d.1.size 5 1 (Zs a5 ((Fj qz k).length+(Lib.uvarint gs.length).length) d5) (Fl qz gs 0).length (Lib.byteCells (Fl qz gs 0))):=Aa (by
     have e0:Fl qz gs 0=Fj qz k++Lib.uvarint gs.length:=by rw[HK.o];simp[Fl]
     rw[e0,E.Bg];simpa using af)
    have ap:=Aa (q.o.trans aj);clear af aj q1;go_wp2;have bz:=ap.o.1.size
    go_loopw [4,45] (λvb vi wr=>∃j:Nat,j<=gs.length/\vi=Zi j/\(Fl qz gs j).length<=300+j*9000000/\Hid (wr.ownsRow d.1.size 5 1 vb (Fl qz gs j).length (Lib.byteCells (Fl qz gs j)))/\Hid (E.Wr d.1.size d wr)) (λ_ vi _=>gs.length-(intOf vi).toNat)
    case atStart=>
     refine⟨0,XF _,rfl,?_,bb,ap⟩;have e0:Fl qz gs 0=Fj qz k++Lib.uvarint gs.length:=by rw[HK.o];simp[Fl]
     have:=O.o;rw[e0,XK];omega
    case round=>
     obtain⟨j,hj,rfl,b2,ho,q⟩:=hrel;obtain⟨b6,v,rfl,_⟩:=E.Ak ho.o;have t:=q.o.1.size;have f:Below w.1.size w wr:=z.o.trans (q.o.1.mono (by omega))
     by_cases hlt:j<gs.length
     ·obtain⟨g,I⟩:∃g,gs[j]? = some g:=⟨_,Y' hlt⟩
      obtain⟨gb,go,gd,J,L,M,N,eg,_,p0,p1,p2,aq⟩:=HF.o.2.get I;replace p0:=Ag f p0;replace p1:=Ag f p1;replace p2:=Ag f p2;injection eg with bn em bo;clear em;subst bn bo;obtain⟨ac,br⟩:=bj.o g (XD I);have ao:=Aa (bf.o g (XD I));have ar:=cR ac (by omega) ao.o;have m:=Aa (qJ (qz:=qz) I);have bt:(j:Int)<(gs.length:Int):=by omega
      have l:=Aa (Yad wr (Zk #[Zi g.1,Zs J g.2.1.length L,Zs M g.2.2.length N] 171));have x0:(wr.alloc (Zk #[Zi g.1,Zs J g.2.1.length L,Zs M g.2.2.length N] 171)).cell? (Zd wr.1.size 0)=some (Zi g.1):=A4 l.o rfl;have x1:(wr.alloc (Zk #[Zi g.1,Zs J g.2.1.length L,Zs M g.2.2.length N] 171)).cell? (Zd wr.1.size 1)=some (Zs J g.2.1.length L):=A4 l.o rfl;have x2:(wr.alloc (Zk #[Zi g.1,Zs J g.2.1.length L,Zs M g.2.2.length N] 171)).cell? (Zd wr.1.size 2)=some (Zs M g.2.2.length N):=A4 l.o rfl;have a0:=Aa (aI d.1.size (Fl qz gs j).length _ _ g J g.2.1.length L (Zs M g.2.2.length N) w _ (ho.o.alloc (Zk #[Zi g.1,Zs J g.2.1.length L,Zs M g.2.2.length N] 171)) (by omega) (by simp;omega) (f.alloc (by omega) _) aq.2.2 ac (by omega) ao.o (by omega));have R:=Aa (q.o.alloc t (Zk #[Zi g.1,Zs J g.2.1.length L,Zs M g.2.2.length N] 171));have a6:=Aa ar;clear I aq ac br ar;go_wp2_with fail;apply a0.o.mono;rintro e w7⟨v7,rfl,ag,ax⟩;obtain⟨a7,d7,rfl,_⟩:=E.Ak ag
      have bc:Hid (w7.ownsRow d.1.size 5 1 (Zs a7 ((Fl qz gs j).length+(Bh g).length) d7) (Fl qz gs (j+1)).length (Lib.byteCells (Fl qz gs (j+1)))):=Aa (by rw[m.o,E.Bg];simpa using ag)
      have bi:=Aa (R.o.trans ax);have a8:Hid ((Fl qz gs (j+1)).length<=300+(j+1)*9000000):=Aa (by have:=a6.o;rw[m.o,XK];omega);clear ag ax;go_wp2;exact⟨⟨j+1,by omega,by go_num,a8.o,bc,bi⟩,by simp[intOf];omega⟩
     have ej:j=gs.length:=by omega
     have bt:¬(j:Int)<(gs.length:Int):=by omega
     have P:Hid (wr.ownsRow d.1.size 5 1 (Zs b6 (Fl qz gs j).length v) (Cq (qz,gs)).length (Lib.byteCells (Cq (qz,gs)))):=Aa (by have h:=ho.o;rw[ej,xF] at h ⊢;exact h)
     have bw:0<(Cq (qz,gs)).length:=by have:=AJQ qz.length;simp only[Cq,XK];omega
     obtain⟨g8,bx,e8⟩:∃g U,(Value.slice b6 (Fl qz gs j).length v)=Zs (some (Zd g 0)) (Cq (qz,gs)).length U:=by
      rcases P.o.2 with⟨_,h0⟩|⟨g,U,b1,e,_⟩
      ·omega
      exact⟨g,U,e⟩
     injection e8 with bl X bm;subst bl bm;have an:Hid (wr.ownsRow d.1.size 5 1 (Zs (some (Zd g8 0)) (Cq (qz,gs)).length v) (Cq (qz,gs)).length (Lib.byteCells (Cq (qz,gs)))):=Aa (by have h:=P.o;rw[X] at h;exact h);have ab:=run_convert_bytes_back wr 68 9 5 (Zd g8 0) v (Cq (qz,gs)) underlying68 underlying5 underlying9 (λj hj=>an.o.cells rfl j _ (by simp[Lib.byteCells,hj]));rw[<-X] at ab;clear ej X P an bw;go_wp2;go_ret2;rw[HE.o];exact⟨rfl,f⟩
theorem ACm(kind:Int)(b:List UInt8)(w:Tw)(k:b.length<=1000000):
 Zc 198 #[.int .i64 kind,.string (E.str b)] w λe g=>∃a n c j,e=.returned (.tuple #[.slice a n c,j])/\E.Sl g (.slice a n c) ((E.Ll kind b).getD [])/\Zb w g:=by
 refine(E.xH kind (E.str b) w (by rw[E.Ds];exact k)).mono λe g h=>?_
 rw[E.Eo] at h;cases hd:E.Ll kind b with
 | none=>rw[hd] at h;obtain⟨rfl,d⟩:=h;exact⟨none,0,0,_,rfl,⟨none,0,rfl,by simp,λf=>absurd rfl f⟩,d⟩
 | some L=>rw[hd] at h;obtain⟨v,rfl,i,d⟩:=h;obtain⟨a,c,rfl,_⟩:=id i;exact⟨a,_,c,_,rfl,i,d⟩
def Cf(l:List Aj)(s:E.St)(k:Nat):List (List UInt8)×E.St:=Dk (l.take k) s
theorem Uc:∀(l:List Aj)(c:Aj)(s:E.St),Dk (l++[c]) s=((Dk l s).1++[(Hl (Dk l s).2).1],(Hl (Dk l s).2).2)
 | [],_,_=>rfl
 | _ :: l,c,s=>by simp only[XT,Dk,Uc l c]
theorem Pj:∀(l:List Aj)(s:E.St),(Dk l s).1.length=l.length
 | [],_=>rfl
 | _ :: l,s=>by simp[Dk,Pj l]
theorem AFu{bs:List (List UInt8)}{b:List UInt8}(h:bs.length=l.length):Ga (l++[c]) (bs++[b])=Ga l bs++[ABV c b]:=by unfold Ga;rw[List.zipWith_append h.symm];rfl
theorem Ee{most:Int}(h:s.1.length<=n):(E.Am most s).2.1.length<=n:=XL (E.F4 most s) h
theorem sR(n:Nat)(s:E.St):(E.C8 n s).1.length<=s.1.length:=by unfold E.C8;split <;> simp <;> omega
theorem Xq(h:s.1.length<=n):(Hl s).1.length<=n/\(Hl s).2.1.length<=n/\(E.Am 9223372036854775807 s).2.1.length<=n:=by have a:=Ee (most:=9223372036854775807) h;exact⟨XL (sR _ _) a,XL (E.Ji _ _) a,a⟩
theorem iU(i:Nat)(s:E.St)(lv:Tv)(l:List Aj)(w:Tw)(hr:E.Oi 229 [] w i s)(hl:∀W,w.grownBy W (some i)->F7 7 Cc W lv l)(h8:l.length<=8)(hs:s.1.length<=1000000):
 Zc 193 #[.pointer (some ⟨i,0,none⟩),lv] w λe w'=>∃sv bv,e=.returned (.agg #[.int .i64 (Cd l s).1.1,sv,bv])/\w'.ownsRow w.1.size 235 8 sv l.length ((Cd l s).1.2.1.flatMap encS)/\w'.ownsRow w.1.size 9 1 bv l.length ((Cd l s).1.2.2.flatMap Mc)/\E.Oi 229 [] w' i (Cd l s).2/\w.grownBy w' (some i):=by
 have HL:=Aa hl;obtain⟨la,lc,rfl,_⟩:=(hl w (E.G2 _ _)).slice;obtain⟨iS,ch,cq,a3,a5⟩:=info_parts AGG;have ag:=Zy ch cq a3 a5;obtain⟨iT,ci,cr,a4,a6⟩:=info_parts Uz;have ah:=Zy ci cr a4 a6;have cd:∀args w,(callFunc 196 args).run prog w=.ok (.enter 196 args) w:=enters_of func196 (by kernel_rfl) rfl;have br:=Aa cd;have bh:Below w.1.size w (w.alloc (.cells #[.int .i64 0,.slice none 0 0,.slice none 0 0] 171)):=Zal;have T:=Aa (Yad w (.cells #[.int .i64 0,.slice none 0 0,.slice none 0 0] 171));have dg:=hr.lt;have ai:Hid (Cd l s=(((E.Am 6 s).1,Ga l (Dk l (E.Am 6 s).2).1,(Dk l (E.Am 6 s).2).1),(Dk l (E.Am 6 s).2).2)):=Aa rfl;have c9:(E.Am 6 s).2.1.length<=1000000:=Ee hs;have HU:=Aa (E.Jo 229 [] i 6 s _ (hr.up bh) hs (by omega) (by omega));clear ch cq a3 a5 ci cr a4 a6 cd hl;generalize (E.Am 6 s).1=n0 at *;generalize (E.Am 6 s).2=b at *;go_enter func193,ntmps193;go_wp2_with fail;apply HU.o.mono;rintro e a⟨rfl,ck,al⟩;have c8:=al.size;rw[XC] at c8;have ak:Below a.1.size a (a.alloc (.cells #[.int .i64 n0,.slice none 0 0,.slice none 0 0] 171)):=Zal;have ct:=Aa (Yad a (.cells #[.int .i64 n0,.slice none 0 0,.slice none 0 0] 171));have bb:=Aa ((ak.block w.1.size (by omega)).trans ((al.block w.1.size (by simp) (by simp;omega)).trans T.o));have b2:=Aa (ck.up ak);have bu:=Aa (E.Al (E.Cr bh (r:=some i)) (E.Al al (E.Cr ak)));clear hr ck al ak bh HU T;go_wp2
 go_loopw [16] (λvi wr=>∃k:Nat,k<=l.length/\vi=.int .i64 k/\(∃sv bv,Hid (wr.1[a.1.size]? = some (.cells #[.int .i64 n0,sv,bv] 171))/\Hid (wr.ownsRow (a.1.size+1) 235 8 sv k ((Ga (l.take k) (Cf l b k).1).flatMap encS))/\Hid (wr.ownsRow (a.1.size+1) 9 1 bv k ((Cf l b k).1.flatMap Mc)))/\Hid (wr.1[w.1.size]? = some (.cells #[.int .i64 0,.slice none 0 0,.slice none 0 0] 171))/\Hid (E.Oi 229 [] wr i (Cf l b k).2)/\(Cf l b k).2.1.length<=1000000/\Hid (w.grownBy wr (some i))/\a.1.size+1<=wr.1.size) (λvi _=>l.length-(intOf vi).toNat)
 case atStart=>exact⟨0,XF _,rfl,⟨_,_,ct,Aa (XJ _ _ _ _),Aa (XJ _ _ _ _)⟩,bb,b2,c9,bu,by simp⟩
 case round=>
  obtain⟨k,hk,rfl,⟨sv,bv,hg,ae,ab⟩,ac,ao,co,O,dj⟩:=hrel;obtain⟨sa,sc,rfl,_⟩:=E.Ak ae.o;obtain⟨ba,bc,rfl,_⟩:=E.Ak ab.o
  by_cases hlt:k<l.length
  ·obtain⟨⟨c1,c2,c3,c4,c5,c6,c7⟩,hc⟩:∃c,l[k]? = some c:=⟨_,Y' hlt⟩
   obtain⟨lb,lo,dl,el,_,df,z⟩:=(HL.o wr O.o).cons (by omega);injection el with cx _ cy;subst cx cy;obtain⟨q0,q1,q2,q3,q4,q5,q6⟩:=F8 z hc;have cz:(k:Int)<(l.length:Int):=by omega
   have aj:Cf l b (k+1)=((Cf l b k).1++[(Hl (Cf l b k).2).1],(Hl (Cf l b k).2).2):=by unfold Cf;rw[E.Br hc,Uc]
   have cs:Hid ((Cf l b (k+1)).1=(Cf l b k).1++[(Hl (Cf l b k).2).1]):=Aa (by rw[aj]);have b8:Hid ((Cf l b (k+1)).2=(Hl (Cf l b k).2).2):=Aa (by rw[aj]);obtain⟨L,hL⟩:∃L,(E.Ll c3 (Hl (Cf l b k).2).1).getD []=L:=⟨_,rfl⟩;have b7:Hid (Ga (l.take (k+1)) (Cf l b (k+1)).1=Ga (l.take k) (Cf l b k).1++[S.Iv L]):=Aa (by rw[aj,E.Br hc,AFu (by unfold Cf;rw[Pj])];simp only[ABV];rw[<-hL];rfl);have ad:=Xq co;have bg:Hid ((Hl (Cf l b k).2).1.length<=1000000/\(Cf l b (k+1)).2.1.length<=1000000/\(E.Am 9223372036854775807 (Cf l b k).2).2.1.length<=1000000):=Aa ⟨ad.1,by rw[b8.o];exact ad.2.1,ad.2.2⟩
   have ce:L.length<=60:=by
    rw[<-hL];cases hd:E.Ll c3 (Hl (Cf l b k).2).1 with
    | none=>simp
    | some m=>obtain⟨_,_,hm⟩:=E.l3 hd;rw[WR,hm];exact(E.nO ad.1).2
   have bi:Below wr.1.size wr (wr.alloc (.cells #[.int .i64 c1,.string c2,.int .i64 c3,.bool c4,.int .i64 c5,.int .i64 c6,.string c7] 59)):=Zal;have bp:=Aa (Yad wr (.cells #[.int .i64 c1,.string c2,.int .i64 c3,.bool c4,.int .i64 c5,.int .i64 c6,.string c7] 59));have cc:=Aa (E.Jo 229 [] i 9223372036854775807 (Cf l b k).2 _ (ao.o.up bi) co (by omega) (by omega));have bz:=Aa (E.Cr (r:=some i) bi);have dk:=O.o.size;clear z hc aj ad bi;go_wp2_with fail;apply cc.o.mono;rintro e P⟨rfl,cl,am⟩;have bl:=Aa (E.fG 229 [] i (E.Am 9223372036854775807 (Cf l b k).2).1 _ P cl bg.o.2.2);have bs:=Aa (E.Al bz.o am);have ap:=am.size;rw[XC] at ap;have ar:=Aa ((am.block wr.1.size (by simp) (by simp;omega)).trans bp.o);clear cl am q0 q1 q2 q3 q4 q5 q6 cc bp;go_wp2_with fail;apply bl.o.mono;rintro e w5⟨rfl,cm,d⟩;have a1:E.Oi 229 [] w5 i (Cf l b (k+1)).2:=by rw[b8.o];exact cm
   have di:=d.size
   have cK:w5.cell? ⟨wr.1.size,2,none⟩=some (.int .i64 c3):=by have h5:=(d.block wr.1.size (by omega) (by simp;omega)).trans ar.o;simp[World.cell?,h5]
   have J:=E.Al bs.o d;have b0:=Aa ((J.block a.1.size (by omega) (by simp;omega)).trans hg.o);have b6:=Aa ((J.block w.1.size (by omega) (by simp;omega)).trans ac.o);have cb:=Aa (E.Dc ae.o (by omega) J);have bo:=Aa (E.Dc ab.o (by omega) J);have av:=Aa (E.Al O.o J);have ax:=Aa a1;have bq:Hid (Zc 198 #[.int .i64 c3,.string (E.str (Hl (Cf l b k).2).1)] w5 _):=Aa (ACm c3 (Hl (Cf l b k).2).1 w5 bg.o.1);rw[hL] at bq;clear hg ac ae ab O ao cm a1 d J ar bs bz bl hL;have f:(E.C8 (E.Am 9223372036854775807 (Cf l b k).2).1 (E.Am 9223372036854775807 (Cf l b k).2).2).1=(Hl (Cf l b k).2).1:=rfl;rw[f];clear f;go_wp2_with fail;apply bq.o.mono;rintro e w3⟨va,vn,vc,ev,rfl,a2,y⟩;have az:=Aa a2;have a7:=Aa ((y.block a.1.size (by omega)).trans b0.o);have U:=Aa ((y.block w.1.size (by omega)).trans b6.o);have o:=Aa (E.Ad cb.o y);have R:=Aa (E.Ad bo.o y);have au:=Aa (E.Al av.o (E.Cr y));have aw:=Aa (ax.o.up y);have dh:=y.size;clear b0 b6 cb bo av ax a2 y cK;obtain⟨⟨s1,s2,⟨k1,n1,t1⟩,⟨k2,n2,t2⟩⟩,bk⟩:∃s,S.Iv L=s:=⟨_,rfl⟩
   have b1:Hid (∀W,Below w3.1.size w3 W->Zc 196 #[.slice va vn vc] W λe w'=>e=.returned (.agg #[.int .i64 s1,.int .i64 s2,.int .i64 k1,.int .i64 n1,.string t1,.int .i64 k2,.int .i64 n2,.string t2])/\Below W.1.size W w'):=Aa (λW hW=>by have X:=S.yU (.slice va vn vc) L W (az.o.up hW) ce;rw[bk] at X;exact X)
   have cw:Hid (Ga (l.take (k+1)) (Cf l b (k+1)).1=Ga (l.take k) (Cf l b k).1++[(s1,s2,(k1,n1,t1),(k2,n2,t2))]):=Aa (by rw[b7.o,bk]);have cg:a.1.size<w3.1.size:=by omega
   have a9:Hid (∀W,Below w3.1.size w3 W->(W.cell? ⟨a.1.size,0,none⟩=some (.int .i64 n0)/\W.cell? ⟨a.1.size,1,none⟩=some (.slice sa k sc)/\W.cell? ⟨a.1.size,2,none⟩=some (.slice ba k bc)/\W.frozen? ⟨a.1.size,0,none⟩=false/\W.frozen? ⟨a.1.size,1,none⟩=false/\W.frozen? ⟨a.1.size,2,none⟩=false)):=Aa (λW hW=>J5 ((hW.block (a.1.size) cg).trans a7.o));obtain⟨_,g1,g2,_,z1,z2⟩:=a9.o w3 (XB _ _);clear bk g2 z2;go_wp2_with fail
   go_region_law
    (first
      | (refine I6 (by rfl) 196 (.tmp 33) 61 (by rfl) (.slice va vn vc) (by rfl) br.o _ (b1.o _ (XB _ _).drew) ?_
         rintro e P⟨rfl,a0⟩;have aa:Below w3.1.size w3 P:=Ap (XB _ _).drew a0;refine⟨_,rfl,?_⟩;obtain⟨_,p1,_,_,o1,_⟩:=a9.o P aa;have da:=Ag ((XB P.1.size P).alloc (XA _) (.cells #[.int .i64 s1,.int .i64 s2,.int .i64 k1,.int .i64 n1,.string t1,.int .i64 k2,.int .i64 n2,.string t2] 235)) p1;have ap:=aa.size;have c0:P.1.size≠a.1.size:=(λe=>by rw[e] at ap;omega))
      | (refine step_append_lies _ (by rfl) (.tmp 32) (.tmp 35) 169 (by rfl) (a.1.size+1) 235 iS (.agg #[.int .i64 0,.int .i64 0,.int .i64 0,.int .i64 0,.string ⟨#[]⟩,.int .i64 0,.int .i64 0,.string ⟨#[]⟩]) 8 80 underlying169 ag.o.1 ag.o.2.1 ag.o.2.2.1 ag.o.2.2.2 rfl (by decide) (.slice sa k sc) k _ (by rfl) ((E.Ad o.o aa).alloc _) ⟨P.1.size,0,none⟩ 1 1 [.int .i64 s1,.int .i64 s2,.int .i64 k1,.int .i64 n1,.string t1,.int .i64 k2,.int .i64 n2,.string t2] (by rfl) rfl (λj u hj=>XE (Yad _ _) j u hj) (AMs (s1,s2,(k1,n1,t1),(k2,n2,t2))) (by omega) (by unfold maxLen;omega) (by omega) (by simp;omega) _ rfl ?_
         intro g G w5 bj d cf cj;have D:Hid (some (a.1.size)≠(Value.slice sa k sc).ownBlock):=Aa (λe=>by have:=(o.o.lt _ e.symm).1;omega);have r1:=(d.cell_far ⟨a.1.size,1,none⟩ (by simp;omega) D.o).trans (Ag (Zal) p1);have r2:=(d.frozen_far ⟨a.1.size,1,none⟩ (by simp;omega) D.o).trans (((XB P.1.size P).alloc (XA _) (.cells #[.int .i64 s1,.int .i64 s2,.int .i64 k1,.int .i64 n1,.string t1,.int .i64 k2,.int .i64 n2,.string t2] 235)).frozen (p:=⟨a.1.size,1,none⟩) (by show a.1.size<_;omega) |>.trans o1))
      | fail)
   all_goals
    have h:Below w3.1.size w3 (P.alloc (.cells #[.int .i64 s1,.int .i64 s2,.int .i64 k1,.int .i64 n1,.string t1,.int .i64 k2,.int .i64 n2,.string t2] 235)):=Ap aa (Zal);have V:=Aa (E.Ad o.o h);have aq:=Aa (E.Ad R.o h);have af:a.1.size+1<(P.alloc (.cells #[.int .i64 s1,.int .i64 s2,.int .i64 k1,.int .i64 n1,.string t1,.int .i64 k2,.int .i64 n2,.string t2] 235)).1.size:=by simp;omega
    have I:=(d.block (a.1.size) (by omega) D.o).trans ((h.block (a.1.size) cg).trans a7.o);have Y:=(d.block w.1.size (by omega) (λe=>by have:=(o.o.lt _ e.symm).1;omega)).trans ((h.block w.1.size (by omega)).trans U.o);have M:=E.Ar w5 (a.1.size) 1 (.slice (some ⟨g,0,none⟩) (k+1) G);have a8:=Aa (heap_setCell_same w5 (a.1.size) 1 _ 171 (.slice (some ⟨g,0,none⟩) (k+1) G) I);have bd:=Aa ((M.block w.1.size (by have:=d.size;omega) (by simp;omega)).trans Y);have ay:=Aa (bj.kept M (.inr (λe=>by have:=(bj.lt _ e).1;omega)))
    have n:=Aa ((E.C2 aq.o V.o (by decide) d).kept M (by
     cases hob:(Value.slice ba k bc).ownBlock with
     | none=>exact .inl rfl
     | some q=>exact .inr (λe=>by injection e with e;have:=(R.o.lt q hob).1;omega)))
    have bw:=Aa (E.C0 (E.Hj (E.Al au.o (E.Cr h)) V.o (by omega) d) (g:=a.1.size) (j:=1) (by omega) (.slice (some ⟨g,0,none⟩) (k+1) G));have b3:Hid (E.Oi 229 [] (w5.setCell ⟨a.1.size,1,none⟩ (.slice (some ⟨g,0,none⟩) (k+1) G)) i (Cf l b (k+1)).2):=Aa ((M.block i (by have:=d.size;omega) (by simp;omega)).trans ((d.block i (by omega) (λe=>by have:=(o.o.lt _ e.symm).1;omega)).trans (aw.o.up h)));have dc:a.1.size+1<(w5.setCell ⟨a.1.size,1,none⟩ (.slice (some ⟨g,0,none⟩) (k+1) G)).1.size:=by have:=d.size;have:=M.size;omega
    clear I Y M V aq h af r1 r2 bj d cf cj p1 da o1 aa a0 ap c0 D;generalize w5.setCell ⟨a.1.size,1,none⟩ (.slice (some ⟨g,0,none⟩) (k+1) G)=w6 at *;simp only[XH,XQ,XO] at a8;obtain⟨_,_,de,_,_,dm⟩:=J5 a8.o;generalize cn:E.str (Hl (Cf l b k).2).1=sb at *;have cv:=Aa cn;clear cn b1 a9 a7 U o R au aw az g1 z1;have db:¬a.1.size=w6.1.size:=by omega
    go_wp2_with (at_builtin;refine wpList_append_own _ rfl _ _ 46 rfl (a.1.size+1) 9 iT (.string ⟨#[]⟩) 1 16 underlying46 ah.o.1 ah.o.2.1 ah.o.2.2.1 ah.o.2.2.2 rfl (by decide) _ _ _ rfl (n.o.alloc _) ⟨w6.1.size,0,none⟩ 1 1 [.string sb] rfl rfl (λj u hj=>XE (Yad _ _) j u hj) (by simp[Value.oneCell']) ?d3 ?d4 ?d5 ?_)
    case d3=>unfold maxLen;omega
    case d4=>omega
    case d5=>first|omega|(simp;omega)
    intro v7 w7 an t _;obtain⟨g7,x,rfl,_,_⟩:=an.form (by omega);have h:Below w6.1.size w6 (w6.alloc (.cells #[Zt sb] 9)):=Zal;have af:a.1.size+1<(w6.alloc (.cells #[Zt sb] 9)).1.size:=by simp;omega
    have D:Hid (some (a.1.size)≠(Value.slice ba k bc).ownBlock):=Aa (λe=>by have:=(n.o.lt _ e.symm).1;omega);have I:=(t.block (a.1.size) (by omega) D.o).trans ((h.block (a.1.size) (by omega)).trans a8.o);have Y:=(t.block w.1.size (by omega) (λe=>by have:=(n.o.lt _ e.symm).1;omega)).trans ((h.block w.1.size (by omega)).trans bd.o);obtain⟨_,_,p2,_,_,o2⟩:=J5 I;have N:=E.Ar w7 (a.1.size) 2 (.slice (some ⟨g7,0,none⟩) (k+1) x);have bt:=Aa (heap_setCell_same w7 (a.1.size) 2 _ 171 (.slice (some ⟨g7,0,none⟩) (k+1) x) I);simp only[XH,XQ,XO] at bt;have bf:=Aa ((N.block w.1.size (by have:=t.size;omega) (by simp;omega)).trans Y);have bm:=Aa (an.kept N (.inr (λe=>by have:=(an.lt _ e).1;omega)));have b9:=Aa ((E.C2 (E.Ad ay.o h) (n.o.alloc (.cells #[Zt sb] 9)) (by decide) t).kept N (.inr (λe=>by have:=(ay.o.lt _ e).1;omega)));have bx:=Aa (E.C0 (E.Hj (E.Al bw.o (E.Cr h)) (n.o.alloc (.cells #[Zt sb] 9)) (by omega) t) (g:=a.1.size) (j:=2) (by omega) (.slice (some ⟨g7,0,none⟩) (k+1) x));have b4:Hid (E.Oi 229 [] (w7.setCell ⟨a.1.size,2,none⟩ (.slice (some ⟨g7,0,none⟩) (k+1) x)) i (Cf l b (k+1)).2):=Aa ((N.block i (by have:=t.size;omega) (by simp;omega)).trans ((t.block i (by omega) (λe=>by have:=(n.o.lt _ e.symm).1;omega)).trans (b3.o.up h)));have cp:a.1.size+1<=(w7.setCell ⟨a.1.size,2,none⟩ (.slice (some ⟨g7,0,none⟩) (k+1) x)).1.size:=by have:=t.size;have:=N.size;omega
    clear I Y N t an h af;go_wp2;refine⟨⟨k+1,by omega,by go_num,⟨_,_,bt,Aa ?_,Aa ?_⟩,bf,b4,bg.o.2.1,bx,cp⟩,by simp[intOf];omega⟩
    ·rw[cw.o,XI];exact b9.o
    rw[cs.o,XI];have e:[(Hl (Cf l b k).2).1].flatMap Mc=[.string sb]:=by rw[<-cv.o];rfl
    rw[e];exact bm.o
  have ek:k=l.length:=by omega
  have cz:¬(k:Int)<(l.length:Int):=by omega
  obtain⟨g0,g1,g2,_,_,_⟩:=J5 hg.o;obtain⟨y0,y1,y2,z0,z1,z2⟩:=J5 ac.o;have f:Cf l b k=Dk l b:=by unfold Cf;rw[ek,Ye]
  have ca:Hid (wr.ownsRow (a.1.size+1) 235 8 (.slice sa k sc) l.length ((Cd l s).1.2.1.flatMap encS)):=Aa (by have X:=ae.o;rw[f,Yd (by omega)] at X;rw[ai.o,<-ek];exact X);have bn:Hid (wr.ownsRow (a.1.size+1) 9 1 (.slice ba k bc) l.length ((Cd l s).1.2.2.flatMap Mc)):=Aa (by have X:=ab.o;rw[f] at X;rw[ai.o,<-ek];exact X);have b5:Hid (E.Oi 229 [] wr i (Cd l s).2):=Aa (by have X:=ao.o;rw[f] at X;rw[ai.o];exact X);have cu:Hid ((Cd l s).1.1=n0):=Aa (by rw[ai.o]);have dd:=O.o.size;clear ek ae ab ao f;go_wp2;refine bodyPost_ret (v:=.agg #[.int .i64 n0,.slice sa k sc,.slice ba k bc]) (by simp[results,results193,go_sem,y0,y1,y2]) rfl ⟨_,_,by rw[cu.o],?_,?_,?_,?_⟩
  ·exact E.Ai (ABc ca.o (by omega) _ _ _) (by omega)
  ·exact E.Ai (ABc bn.o (by omega) _ _ _) (by omega)
  ·exact((E.Ar _ w.1.size 2 _).block i (by have:=(E.Ar wr w.1.size 0 (.int .i64 n0)).size;have:=(E.Ar (wr.setCell ⟨w.1.size,0,none⟩ (.int .i64 n0)) w.1.size 1 (.slice sa k sc)).size;omega) (by simp;omega)).trans (((E.Ar _ w.1.size 1 _).block i (by have:=(E.Ar wr w.1.size 0 (.int .i64 n0)).size;omega) (by simp;omega)).trans (((E.Ar _ w.1.size 0 _).block i (by omega) (by simp;omega)).trans b5.o))
  exact E.C0 (E.C0 (E.C0 O.o (XA _) _) (XA _) _) (XA _) _
theorem aQ{most:Nat}(s:E.St):(E.Am most s).1<=most:=by
 unfold E.Am;split
 ·exact XF _
 rename_i h;simp only[E.Ra,WT,decide_eq_true_eq,not_or] at h;omega
def AIR(s:E.St):Aj×E.St:=(qN (E.Am 1099511627776 s).1 (E.Am 2 (E.Am 1099511627776 s).2).1,(E.Am 2 (E.Am 1099511627776 s).2).2)
theorem Xn:∀(k:Nat)(s:E.St),Ca (k+1) s=((Ca k s).1++[(AIR (Ca k s).2).1],(AIR (Ca k s).2).2)
 | 0,_=>rfl
 | k+1,s=>by have h:=Xn k (E.Am 2 (E.Am 1099511627776 s).2).2;rw[Ca,h];rfl
theorem Rz:∀(k:Nat)(s:E.St),(Ca k s).1.length=k
 | 0,_=>rfl
 | k+1,s=>by rw[Ca];simp[Rz k]
theorem Ql(l:List Aj):∀(k:Nat)(s:E.St),Bb l (k+1) s=((Bb l k s).1++[(Cd l (Bb l k s).2).1],(Cd l (Bb l k s).2).2)
 | 0,_=>rfl
 | k+1,s=>by have h:=Ql l k (Cd l s).2;rw[Bb,h];rfl
theorem Kr(l:List Aj):∀(k:Nat)(s:E.St),(Bb l k s).1.length=k
 | 0,_=>rfl
 | k+1,s=>by rw[Bb];simp[Kr l k]
theorem Mb:∀(l:List Aj){s:E.St}{n:Nat},s.1.length<=n->(Dk l s).2.1.length<=n/\∀b∈(Dk l s).1,b.length<=n
 | [],_,_,h=>⟨h,by simp[Dk]⟩
 | _ :: l,s,n,h=>by
   obtain⟨c,d,_⟩:=Xq h;obtain⟨e,f⟩:=Mb l d;refine⟨e,λb a=>?_⟩;simp only[Dk,WD] at a
   rcases a with rfl|a
   ·exact c
   exact f b a
theorem Qo(l:List Aj)(h:s.1.length<=n):(Cd l s).2.1.length<=n:=(Mb l (Ee h)).1
theorem uL(l:List Aj)(s:E.St):(Cd l s).1.2.1.length=l.length/\(Cd l s).1.2.2.length=l.length:=by have h:=Pj l (E.Am 6 s).2;exact⟨by simp[Cd,Ga,h],by simp[Cd,h]⟩
theorem Ii{B e z n b:Nat}{xs:List Tv}(h:w.ownsRow B e z v n xs)(a:b<B)(c:w.grownBy W (some b)):W.ownsRow B e z v n xs:=E.Dc h a c
theorem AMa(i:Nat)(s:List UInt8)(w:Tw)(hr:E.Oi 229 [] w i (s,false))(hs:s.length<=1000000):
 Zc 133 #[.pointer (some ⟨i,0,none⟩)] w λe w'=>∃cv gv,e=.returned (.agg #[cv,gv])/\Hm w' cv gv (G0 s).1/\E.Oi 229 [] w' i (G0 s).2/\w.grownBy w' (some i):=by
 obtain⟨cs,hX,hY,hB⟩:=Kt w (.cells #[.slice none 0 0,.slice none 0 0] 125) (.cells #[.slice none 0 0,.slice none 0 0] 125);have HU:=Aa (E.Jo 229 [] i 8 (s,false) _ (hr.up hB) hs (by omega) (by omega));have ds:=hr.lt;have dg:=aQ (most:=8) (s,false);have dm:(E.Am 8 (s,false)).2.1.length<=1000000:=Ee hs;have bd:Hid (G0 s=(((Ca (E.Am 8 (s,false)).1 (E.Am 8 (s,false)).2).1,(Rr (Ca (E.Am 8 (s,false)).1 (E.Am 8 (s,false)).2).1 (Ca (E.Am 8 (s,false)).1 (E.Am 8 (s,false)).2).2).1),(Rr (Ca (E.Am 8 (s,false)).1 (E.Am 8 (s,false)).2).1 (Ca (E.Am 8 (s,false)).1 (E.Am 8 (s,false)).2).2).2)):=Aa rfl;simp only[XW] at dg;generalize (E.Am 8 (s,false)).1=N at *;generalize (E.Am 8 (s,false)).2=J at *;obtain⟨iC,ci,cx,az,a1⟩:=info_parts Kh;have al:=Zy ci cx az a1;obtain⟨iG,cj,cy,a0,a2⟩:=info_parts AGV;have am:=Zy cj cy a0 a2;have c0:Hid (∀args w,(callFunc 192 args).run prog w=.ok (.enter 192 args) w):=Aa (enters_of func192 (by kernel_rfl) rfl);have HX:=Aa hX;have HY:=Aa hY;have HB:=Aa hB;have ao:=Aa cs;clear hX hY hB cs ci cx az a1 cj cy a0 a2 hr;go_enter func133,ntmps133;go_wp2_with fail;apply HU.o.mono;rintro e w1⟨rfl,co,ae⟩;have cr:=ae.size;rw[ao.o] at cr;have a6:=Aa ((ae.block w.1.size (by rw[ao.o];omega) (by simp;omega)).trans HX.o);have c1:=Aa ((ae.block (w.1.size+1) (by rw[ao.o];omega) (by simp;omega)).trans HY.o);have b4:=Aa co;have bz:=Aa (E.Al (E.Cr HB.o (r:=some i)) ae);clear co ae HU HX HY HB ao;go_wp2
 go_loopw [7] (λvi wr=>∃k:Nat,k<=N/\vi=.int .i64 k/\(∃cv,Hid (wr.1[w.1.size+1]? = some (.cells #[cv,.slice none 0 0] 125))/\Hid (wr.ownsRow (w.1.size+2) 59 7 cv k ((Ca k J).1.flatMap Cc)))/\Hid (wr.1[w.1.size]? = some (.cells #[.slice none 0 0,.slice none 0 0] 125))/\Hid (E.Oi 229 [] wr i (Ca k J).2)/\(Ca k J).2.1.length<=1000000/\Hid (w.grownBy wr (some i))/\w.1.size+2<=wr.1.size) (λvi _=>N-(intOf vi).toNat)
 case atStart=>exact⟨0,XF _,rfl,⟨_,c1,Aa (XJ _ _ _ _)⟩,a6,b4,dm,bz,cr⟩
 case round=>
  obtain⟨k,hk,rfl,⟨cv,hf,n⟩,a,y,R,P,dp⟩:=hrel;obtain⟨U,V,rfl,_⟩:=E.Ak n.o
  by_cases hlt:k<N
  ·have dj:(k:Int)<(N:Int):=by omega
   have T:=Aa (Xn k J);have b9:=Aa (E.Jo 229 [] i 1099511627776 (Ca k J).2 wr y.o R (by omega) (by omega));have ay:(E.Am 1099511627776 (Ca k J).2).2.1.length<=1000000:=Ee R;have bg:Hid ((Ca (k+1) J).2.1.length<=1000000):=Aa (by rw[T.o];exact Ee ay);have bw:Hid ((Ca (k+1) J).1.flatMap Cc=(Ca k J).1.flatMap Cc++[.int .i64 (E.Am 1099511627776 (Ca k J).2).1,.string ⟨#[]⟩,.int .i64 (E.Am 2 (E.Am 1099511627776 (Ca k J).2).2).1,.bool false,.int .i64 0,.int .i64 0,.string ⟨#[]⟩]):=Aa (by rw[T.o,XI];rfl);have c8:Hid ((Ca (k+1) J).2=(E.Am 2 (E.Am 1099511627776 (Ca k J).2).2).2):=Aa (by rw[T.o];rfl);generalize (E.Am 1099511627776 (Ca k J).2).1=aj at *;generalize (E.Am 1099511627776 (Ca k J).2).2=sB at *;go_wp2_with fail;apply b9.o.mono;rintro e w4⟨rfl,cp,Y⟩;have dt:=Y.size;have c2:=Aa ((Y.block (w.1.size+1) (by omega) (by simp;omega)).trans hf.o);have a7:=Aa ((Y.block w.1.size (by omega) (by simp;omega)).trans a.o);have L:=Aa (Ii n.o (by omega) Y);have b0:=Aa (E.Al P.o Y);have O:Zb w4 w4.drew:=(XB _ _).drew;have c9:=Aa (E.Jo 229 [] i 2 sB w4.drew (cp.up O) ay (by omega) (by omega));have a3:=Aa (E.Cr (r:=some i) O)
   have ab:Hid (∀W,w4.grownBy W (some i)->W.cell? ⟨w.1.size+1,0,none⟩=some (.slice U k V)/\W.frozen? ⟨w.1.size+1,0,none⟩=false/\W.1[w.1.size+1]? = some (.cells #[.slice U k V,.slice none 0 0] 125)):=Aa (λW hW=>by have h:=(hW.block (w.1.size+1) (by omega) (by simp;omega)).trans c2.o;exact⟨(Hg h).1,Yag W (w.1.size+1) 0 _ _ h,h⟩)
   obtain⟨g1,z1,_⟩:=ab.o w4 (E.G2 _ _);have b8:Hid (∀W,E.Oi 229 [] W i (E.Am 2 sB).2->E.Oi 229 [] W i (Ca (k+1) J).2):=Aa (λW h=>by rw[c8.o];exact h);generalize (E.Am 2 sB).1=ak at *;clear hf a n P y cp Y O b9;go_wp2_with fail
   go_region_law
    (first
      | (refine Gc (by rfl) 192 (.tmp 14) (.const (.int .i64 2)) 232 3 (by rfl) (.pointer (some ⟨i,0,none⟩)) (.int .i64 2) (by rfl) (by rfl) c0.o _ c9.o ?_
         rintro e w5⟨rfl,ag,aw⟩;have l:=E.Al a3.o aw;refine⟨_,rfl,?_⟩;obtain⟨p1,o1,cd⟩:=ab.o w5 l;have bq:=Ag ((XB w5.1.size w5).alloc (XA _) (.cells #[Zi aj,.string ⟨#[]⟩,Zi ak,.bool false,.int .i64 0,.int .i64 0,.string ⟨#[]⟩] 59)) p1;have bl:=l.size;have dk:w5.1.size≠w.1.size+1:=(λe=>by rw[e] at bl;omega))
      | (refine step_append_lies _ (by rfl) (.tmp 12) (.tmp 17) 34 (by rfl) (w.1.size+2) 59 iC L6 7 72 underlying34 al.o.1 al.o.2.1 al.o.2.2.1 al.o.2.2.2 rfl (by decide) (.slice U k V) k _ (by rfl) ((Ii L.o (by omega) l).alloc _) ⟨w5.1.size,0,none⟩ 1 1 [.int .i64 aj,.string ⟨#[]⟩,.int .i64 ak,.bool false,.int .i64 0,.int .i64 0,.string ⟨#[]⟩] (by rfl) rfl (λj u hj=>XE (Yad _ _) j u hj) (by simp[Value.oneCell']) (by omega) (by unfold maxLen;omega) (by omega) (by simp;omega) _ rfl ?_
         intro g d w6 bk t cg cl;have D:Hid (some (w.1.size+1)≠(Value.slice U k V).ownBlock):=Aa (λe=>by have:=(L.o.lt _ e.symm).1;omega);have r1:=(t.cell_far ⟨w.1.size+1,0,none⟩ (by simp;omega) D.o).trans (Ag (Zal) p1);have r2:=(t.frozen_far ⟨w.1.size+1,0,none⟩ (by simp;omega) D.o).trans (((XB w5.1.size w5).alloc (XA _) (.cells #[Zi aj,.string ⟨#[]⟩,Zi ak,.bool false,.int .i64 0,.int .i64 0,.string ⟨#[]⟩] 59)).frozen (p:=⟨w.1.size+1,0,none⟩) (by show w.1.size+1<_;omega) |>.trans o1))
      | fail)
   all_goals
    have f:Zb w5 (w5.alloc (.cells #[Zi aj,.string ⟨#[]⟩,Zi ak,.bool false,.int .i64 0,.int .i64 0,.string ⟨#[]⟩] 59)):=Zal;have ar:=Aa (E.Ad (Ii L.o (by omega) l) f);have ah:w.1.size+2<(w5.alloc (.cells #[Zi aj,.string ⟨#[]⟩,Zi ak,.bool false,.int .i64 0,.int .i64 0,.string ⟨#[]⟩] 59)).1.size:=by simp;omega
    have X:=(t.block (w.1.size+1) (by omega) D.o).trans ((f.block (w.1.size+1) (by omega)).trans cd);have ad:=(t.block w.1.size (by omega) (λe=>by have:=(L.o.lt _ e.symm).1;omega)).trans ((f.block w.1.size (by omega)).trans ((l.block w.1.size (by omega) (by simp;omega)).trans a7.o));have af:=E.Ar w6 (w.1.size+1) 0 (.slice (some ⟨g,0,none⟩) (k+1) d);have bx:=Aa (heap_setCell_same w6 (w.1.size+1) 0 _ 125 (.slice (some ⟨g,0,none⟩) (k+1) d) X);have a9:=Aa ((af.block w.1.size (by have:=t.size;omega) (by simp)).trans ad);have bt:Hid ((w6.setCell ⟨w.1.size+1,0,none⟩ (.slice (some ⟨g,0,none⟩) (k+1) d)).ownsRow (w.1.size+2) 59 7 (.slice (some ⟨g,0,none⟩) (k+1) d) (k+1) ((Ca (k+1) J).1.flatMap Cc)):=Aa (by rw[bw.o];exact bk.kept af (.inr (λe=>by have:=(bk.lt _ e).1;omega)));have b2:=Aa (E.C0 (E.Hj (E.Al b0.o (E.Al l (E.Cr f))) ar.o (by omega) t) (g:=w.1.size+1) (j:=0) (by omega) (.slice (some ⟨g,0,none⟩) (k+1) d));have b6:=Aa (b8.o _ ((af.block i (by have:=t.size;omega) (by simp;omega)).trans ((t.block i (by omega) (λe=>by have:=(L.o.lt _ e.symm).1;omega)).trans (ag.up f))));have cw:w.1.size+2<=(w6.setCell ⟨w.1.size+1,0,none⟩ (.slice (some ⟨g,0,none⟩) (k+1) d)).1.size:=by have:=t.size;have:=af.size;omega
    clear X ad af ar f ah r1 r2 bk t cg cl p1 bq o1 l aw bl dk D ag cd;simp only[XH,XO] at bx;go_wp2;exact⟨⟨k+1,by omega,by go_num,⟨_,bx,bt⟩,a9,b6,bg.o,b2,cw⟩,by simp[intOf];omega⟩
  have ek:k=N:=by omega
  have dj:¬(k:Int)<(N:Int):=by omega
  rw[<-ek] at bd;clear ek;obtain⟨qz,G⟩:∃c,(Ca k J).1=c:=⟨_,rfl⟩;obtain⟨sC,bm⟩:∃c,(Ca k J).2=c:=⟨_,rfl⟩;have dh:qz.length=k:=by rw[<-G,Rz]
  rw[G,bm] at bd;rw[bm] at R y;rw[G] at n;clear G bm;subst dh;have cb:=Aa (E.Jo 229 [] i 60 sC wr y.o R (by omega) (by omega));have hM:=aQ (most:=60) sC;have dn:(E.Am 60 sC).2.1.length<=1000000:=Ee R;simp only[XW] at hM;have c6:Hid (Rr qz sC=Bb qz (E.Am 60 sC).1 (E.Am 60 sC).2):=Aa rfl;generalize (E.Am 60 sC).1=M at *;generalize (E.Am 60 sC).2=o at *;go_wp2_with fail;apply cb.o.mono;rintro e w5⟨rfl,ag,l⟩;have bl:=l.size;have c3:=Aa ((l.block (w.1.size+1) (by omega) (by simp;omega)).trans hf.o);have a8:=Aa ((l.block w.1.size (by omega) (by simp;omega)).trans a.o);have bs:=Aa (Ii n.o (by omega) l);have b1:=Aa (E.Al P.o l);have b5:=Aa ag;clear hf a n P y ag l cb;have cz:Hid (∀args w,(callFunc 193 args).run prog w=.ok (.enter 193 args) w):=Aa (enters_of func193 (by kernel_rfl) rfl);have cu:w.1.size+2<=w5.1.size:=by omega
  go_wp2
  go_loopw [23] (λvi wr=>∃j:Nat,j<=M/\vi=.int .i64 j/\(∃gv,Hid (wr.1[w.1.size+1]? = some (.cells #[.slice U qz.length V,gv] 125))/\Hid (Wn (w.1.size+2) wr gv (Bb qz j o).1))/\Hid (wr.ownsRow (w.1.size+2) 59 7 (.slice U qz.length V) qz.length (qz.flatMap Cc))/\Hid (wr.1[w.1.size]? = some (.cells #[.slice none 0 0,.slice none 0 0] 125))/\Hid (E.Oi 229 [] wr i (Bb qz j o).2)/\(Bb qz j o).2.1.length<=1000000/\Hid (w.grownBy wr (some i))/\w.1.size+2<=wr.1.size) (λvi _=>M-(intOf vi).toNat)
  case atStart=>exact⟨0,XF _,rfl,⟨_,c3,Aa (uW _ _)⟩,bs,a8,b5,dn,b1,cu⟩
  case round=>
   obtain⟨j,hj,rfl,⟨gv,hf,bj⟩,n,a,y,R,P,dp⟩:=hrel;have aa:=Kr qz j o;obtain⟨xs,aq,ai,bp⟩:=bj.o;rw[aa] at aq ai;obtain⟨xa,xc,rfl,_⟩:=E.Ak ai
   by_cases hlt:j<M
   ·have ck:(j:Int)<(M:Int):=by omega
    have T:=Aa (Ql qz j o);have ac:=Aa ai;have da:=Aa bp;have db:=Aa aq;have bg:Hid ((Bb qz (j+1) o).2.1.length<=1000000):=Aa (by rw[T.o];exact Qo qz R);have O:Zb wr wr.drew:=(XB _ _).drew;have c5:=Aa (iU i (Bb qz j o).2 (.slice U qz.length V) qz wr.drew (y.o.up O) (λW hW=>F7.Fz (k:=7) (enc:=Cc) (λ_=>rfl) (Ii (E.Ad n.o O) (b:=i) (by omega) hW) rfl) (by omega) R);have a3:=Aa (E.Cr (r:=some i) O)
    have ab:Hid (∀W,wr.grownBy W (some i)->W.cell? ⟨w.1.size+1,0,none⟩=some (.slice U qz.length V)/\W.cell? ⟨w.1.size+1,1,none⟩=some (.slice xa j xc)/\W.frozen? ⟨w.1.size+1,1,none⟩=false/\W.1[w.1.size+1]? = some (.cells #[.slice U qz.length V,.slice xa j xc] 125)):=Aa (λW hW=>by have h:=(hW.block (w.1.size+1) (by omega) (by simp;omega)).trans hf.o;exact⟨(Hg h).1,(Hg h).2,Yag W (w.1.size+1) 1 _ _ h,h⟩)
    obtain⟨g0,g1,z1,_⟩:=ab.o wr (E.G2 _ _);have b7:=Aa y.o;have dr:=Aa hf.o;have bu:=Aa n.o;have c7:=Aa a.o;have c4:=Aa P.o;clear hf bj n a y P O aq ai bp aa;go_wp2_with fail
    go_region_law
     (first
       | (refine Gc (by rfl) 193 (.tmp 27) (.tmp 29) 232 34 (by rfl) (.pointer (some ⟨i,0,none⟩)) (.slice U qz.length V) (by rfl) (by rfl) cz.o _ c5.o ?_
          rintro e w8⟨sv,bv,rfl,bn,bh,cq,ax⟩;have I:=E.Al a3.o ax;obtain⟨sa,sc,df,_⟩:=E.Ak bn;obtain⟨ba,bc,dc,_⟩:=E.Ak bh;subst df dc;refine⟨_,rfl,?_⟩;obtain⟨_,p1,o1,ce⟩:=ab.o w8 I;have bq:=Ag ((XB w8.1.size w8).alloc (XA _) (.cells #[.int .i64 (Cd qz (Bb qz j o).2).1.1,Zs sa qz.length sc,Zs ba qz.length bc] 171)) p1;have ct:=I.size;have dl:w8.1.size≠w.1.size+1:=(λe=>by rw[e] at ct;omega))
       | (refine step_append_lies _ (by rfl) (.tmp 26) (.tmp 31) 123 (by rfl) (w.1.size+2) 171 iG (.agg #[.int .i64 0,.slice none 0 0,.slice none 0 0]) 3 56 underlying123 am.o.1 am.o.2.1 am.o.2.2.1 am.o.2.2.2 rfl (by decide) (.slice xa j xc) j _ (by rfl) ((Ii ac.o (by omega) I).alloc _) ⟨w8.1.size,0,none⟩ 1 1 [.int .i64 (Cd qz (Bb qz j o).2).1.1,Zs sa qz.length sc,Zs ba qz.length bc] (by rfl) rfl (λj u hj=>XE (Yad _ _) j u hj) (by simp[Value.oneCell']) (by omega) (by unfold maxLen;omega) (by omega) (by simp;omega) _ rfl ?_
          intro g d w9 cn m ch cm;have D:Hid (some (w.1.size+1)≠(Value.slice xa j xc).ownBlock):=Aa (λe=>by have:=(ac.o.lt _ e.symm).1;omega);have r1:=(m.cell_far ⟨w.1.size+1,1,none⟩ (by simp;omega) D.o).trans (Ag (Zal) p1);have r2:=(m.frozen_far ⟨w.1.size+1,1,none⟩ (by simp;omega) D.o).trans (((XB w8.1.size w8).alloc (XA _) (.cells #[.int .i64 (Cd qz (Bb qz j o).2).1.1,Zs sa qz.length sc,Zs ba qz.length bc] 171)).frozen (p:=⟨w.1.size+1,1,none⟩) (by show w.1.size+1<_;omega) |>.trans o1))
       | fail)
    all_goals
     have f:Zb w8 (w8.alloc (.cells #[.int .i64 (Cd qz (Bb qz j o).2).1.1,Zs sa qz.length sc,Zs ba qz.length bc] 171)):=Zal;have ap:=Aa (E.Ad (Ii ac.o (by omega) I) f);have ah:w.1.size+2<(w8.alloc (.cells #[.int .i64 (Cd qz (Bb qz j o).2).1.1,Zs sa qz.length sc,Zs ba qz.length bc] 171)).1.size:=by simp;omega
     have X:=(m.block (w.1.size+1) (by omega) D.o).trans ((f.block (w.1.size+1) (by omega)).trans ce);have ad:=(m.block w.1.size (by omega) (λe=>by have:=(ac.o.lt _ e.symm).1;omega)).trans ((f.block w.1.size (by omega)).trans ((I.block w.1.size (by omega) (by simp;omega)).trans c7.o));have z:=E.Ar w9 (w.1.size+1) 1 (.slice (some ⟨g,0,none⟩) (j+1) d);have au:=Aa (heap_setCell_same w9 (w.1.size+1) 1 _ 125 (.slice (some ⟨g,0,none⟩) (j+1) d) X);have an:=Aa ((z.block w.1.size (by have:=m.size;omega) (by simp)).trans ad)
     have br:=Aa ((E.C2 (E.Ad (Ii bu.o (by omega) I) f) ap.o (by decide) m).kept z (by
      cases hob:(Value.slice U qz.length V).ownBlock with
      | none=>exact .inl rfl
      | some q=>exact .inr (λe=>by injection e with e;have:=(bu.o.lt q hob).1;omega)))
     have bf:Hid (Wn (w.1.size+2) (w9.setCell ⟨w.1.size+1,1,none⟩ (.slice (some ⟨g,0,none⟩) (j+1) d)) (.slice (some ⟨g,0,none⟩) (j+1) d) (Bb qz (j+1) o).1):=Aa (by
      rw[T.o];have aa:=Kr qz j o;obtain⟨dd,de⟩:=uL qz (Bb qz j o).2;have hx:U7 (w8.alloc (.cells #[.int .i64 (Cd qz (Bb qz j o).2).1.1,Zs sa qz.length sc,Zs ba qz.length bc] 171)) ((Cd qz (Bb qz j o).2).1.1,.slice sa qz.length sc,.slice ba qz.length bc) (Cd qz (Bb qz j o).2).1:=⟨rfl,by rw[dd];exact(E.Ai bn (XF _)).alloc _,by rw[de];exact(E.Ai bh (XF _)).alloc _⟩
      have cf:=Wn.app (v':=.slice (some ⟨g,0,none⟩) (j+1) d) (gs:=(Bb qz j o).1) (by rw[aa];exact db.o) (by rw[aa];exact ap.o) (λj' x g' dq di=>((da.o j' x g' dq di).other I (λr cur fr e=>by injection e with e;subst e;have h':wr.1[i]? = some _:=b7.o;rw[h'];constructor <;> (intro h;injection h with h;injection h with _ h _;revert h;decide))).up f) hx (by rw[aa];exact cn) m
      exact cf.kept z (λr e=>by injection e with e;subst e;exact⟨_,X,.inr ⟨_,rfl⟩⟩))
     have a4:=Aa (E.C0 (E.Hj (E.Al c4.o (E.Al I (E.Cr f))) ap.o (by omega) m) (g:=w.1.size+1) (j:=1) (by omega) (.slice (some ⟨g,0,none⟩) (j+1) d))
     have a5:Hid (E.Oi 229 [] (w9.setCell ⟨w.1.size+1,1,none⟩ (.slice (some ⟨g,0,none⟩) (j+1) d)) i (Bb qz (j+1) o).2):=Aa (by rw[T.o];exact(z.block i (by have:=m.size;omega) (by simp;omega)).trans ((m.block i (by omega) (λe=>by have:=(ac.o.lt _ e.symm).1;omega)).trans (cq.up f)))
     have bo:w.1.size+2<=(w9.setCell ⟨w.1.size+1,1,none⟩ (.slice (some ⟨g,0,none⟩) (j+1) d)).1.size:=by have:=m.size;have:=z.size;omega
     clear X ad z ap f ah r1 r2 cn m ch cm p1 bq o1 I ax ct dl D cq ce bn bh;simp only[XH,XQ,XO] at au;go_wp2;exact⟨⟨j+1,by omega,by go_num,⟨_,au,bf⟩,br,an,a5,bg.o,a4,bo⟩,by simp[intOf];omega⟩
   have ej:j=M:=by omega
   have ck:¬(j:Int)<(M:Int):=by omega
   have av:Hid (G0 s=((qz,(Bb qz j o).1),(Bb qz j o).2)):=Aa (by rw[bd.o,c6.o,ej]);obtain⟨f0,f1⟩:=Hg hf.o;obtain⟨y0,y1⟩:=Hg a.o;have z0:=Yag wr w.1.size 0 _ _ a.o;have z1:=Yag wr w.1.size 1 _ _ a.o;have bb:=Aa a.o;have b3:=Aa bj.o;clear ej aq ai bp;go_wp2;have bi:wr.grownBy ((wr.setCell ⟨w.1.size,0,none⟩ (.slice U qz.length V)).setCell ⟨w.1.size,1,none⟩ (.slice xa j xc)) (some w.1.size):=E.Al (E.Ar wr w.1.size 0 _) (E.Ar _ w.1.size 1 _);refine bodyPost_ret (v:=.agg #[.slice U qz.length V,.slice xa j xc]) (by simp[results,results133,go_sem,y0,y1]) rfl ⟨_,_,rfl,?_,?_,?_⟩
   ·rw[av.o]
    exact⟨F7.Fz (k:=7) (enc:=Cc) (λ_=>rfl) (E.Dc n.o (by omega) bi) rfl,(b3.o.kept bi (λr e=>by injection e with e;subst e;exact⟨_,bb.o,.inr ⟨_,rfl⟩⟩)).slg⟩
   ·rw[av.o]
    exact(bi.block i (by omega) (by simp;omega)).trans y.o
   exact E.C0 (E.C0 P.o (XA _) _) (XA _) _
def Kx(r:Option s9)(w:World)(e:Ending)(a:World):Prop:=match r with
 | none=>e=.returned (.tuple #[.agg #[.slice none 0 0,.slice none 0 0],.iface 107 (Zi 3)])/\Zb w a
 | some f=>∃b c,e=.returned (.tuple #[.agg #[b,c],.nilIface])/\Hm a b c f/\Zb w a
theorem Pn(l:List Aj):∀(k:Nat){s:E.St}{n:Nat},s.1.length<=n->(Bb l k s).2.1.length<=n/\∀g∈(Bb l k s).1,∀b∈g.2.2,b.length<=n
 | 0,_,_,h=>⟨h,by simp[Bb]⟩
 | k+1,s,n,h=>by
   obtain⟨c,d⟩:=Pn l k (Qo l h);refine⟨c,λg a=>?_⟩;simp only[Bb,WD] at a
   rcases a with rfl|a
   ·exact(Mb l (Ee h)).2
   exact d g a
theorem Ui:∀(k:Nat){s:E.St}{n:Nat},s.1.length<=n->(Ca k s).2.1.length<=n
 | 0,_,_,h=>h
 | k+1,s,n,h=>by rw[Ca];exact Ui k (Ee (Ee h))
theorem AAV(s:List UInt8):(G0 s).1.1.length<=8/\(G0 s).1.2.length<=60/\∀g∈(G0 s).1.2,∀b∈g.2.2,b.length<=s.length:=by
 have c:=aQ (most:=8) (s,false);simp only[XW] at c;refine⟨?_,?_,?_⟩
 ·show (Ca _ _).1.length<=8
  rw[Rz];exact c
 ·have a:=aQ (most:=60) (Ox s).2
  simp only[XW] at a;show (Bb _ _ _).1.length<=60;rw[Kr];exact a
 exact(Pn _ _ (Ee (Ui _ (Ee (s:=(s,false)) (XA _))))).2
theorem F7.far{α:Type}{k:Nat}{enc:α->List Tv}(o:∀x,∃u t,enc x=u :: t/\u≠Zs none 0 0){w W:Tw}{v:Tv}{l:List α}{n:Nat}{T:TypeId}(h:F7 k enc w v l)(G:w.1[n]? = some (Zk #[Zs none 0 0,Zs none 0 0] T))(s:w.grownBy W (some n)):F7 k enc W v l:=by
 obtain⟨a,c,e,I,J⟩:=h;refine⟨a,c,e,I,λy=>?_⟩;obtain⟨b,off,z,g,d⟩:=J y
 have m:b≠n:=by
  rintro rfl;obtain⟨x,t,rfl⟩:=List.exists_cons_of_ne_nil y;obtain⟨u,r,D,p⟩:=o x;have f:=d 0 x rfl 0 u (by rw[D];rfl);simp only[World.cell?,G] at f
  have:u=Zs none 0 0:=by
   generalize off+0*k+0=q at f
   rcases q with _|_|q
   ·simpa using f.symm
   ·simpa using f.symm
   simp at f
  exact p this
 exact⟨b,off,z,Ya g s.size,λj x L i u p=>(s.cell_far (Zd b (off+j*k+i)) g (by simp;exact m)).trans (d j x L i u p)⟩
theorem Hm.far{w W:Tw}{v u:Tv}{f:s9}{n:Nat}{T:TypeId}(h:Hm w v u f)(a:w.1[n]? = some (Zk #[Zs none 0 0,Zs none 0 0] T))(b:w.grownBy W (some n)):Hm W v u f:=by obtain⟨c,xs,d,e,i⟩:=h;refine⟨c.far (λx=>⟨_,_,rfl,by simp⟩) a b,xs,d.far (λx=>⟨_,_,rfl,by simp⟩) a b,e,λj x g hx hg'=>?_⟩;obtain⟨k,l,m⟩:=i j x g hx hg';exact⟨k,l.far (λx=>⟨_,_,rfl,by simp⟩) a b,m.far (λx=>⟨_,_,rfl,by simp⟩) a b⟩
theorem Vf(s:List UInt8)(w:Tw)(hs:s.length<=1000000)(hw:Lw w)(hg:Ob w):
 Zc 83 #[Zt (E.str s)] w (Kx (Kj s) w):=by
 obtain⟨V,x,ag⟩:=AAV s;have O:=Aa (λg hg b hb=>XL (ag g hg b hb) hs);have al:=Aa hw;have aj:=Aa hg;clear ag hw hg;have ae:Below w.1.size w (w.alloc (Zk #[Zs none 0 0,Zs none 0 0] 125)):=Zal;have T:=Aa (Yad w (Zk #[Zs none 0 0,Zs none 0 0] 125));have z:Hid (Kj s=if (G0 s).2.2=true then none else if Jn (G0 s).1=some s then some (G0 s).1 else none):=Aa rfl;obtain⟨⟨qz,gs⟩,W⟩:∃f,(G0 s).1=f:=⟨_,rfl⟩;obtain⟨st,ah⟩:∃f,(G0 s).2=f:=⟨_,rfl⟩;have R:=Aa (λrb w hr=>AMa rb s w hr hs);rw[W,ah] at R z;rw[W] at O V x;dsimp only at O V x;clear W ah;have ai:=Aa ae;clear ae;go_enter func83,ntmps83;go_wp2_with fail;refine(E.qM (E.str s) _).mono ?_;rintro e Y⟨rfl,D⟩;have an:=D.size;rw[XC] at an;have U:Below Y.1.size Y (Y.alloc (Zk #[Zt (E.str s),Zo false] 229)):=Zal;have ac:=Aa (R.o Y.1.size (Y.alloc (Zk #[Zt (E.str s),Zo false] 229)) (Yad Y _));have aa:=Aa (Ap (Ap ai.o D) U);have r:=Aa (((Ap D U).block w.1.size (by simp)).trans T.o);clear D U;go_wp2_with fail;apply ac.o.mono;rintro e o⟨cv,gv,rfl,hF,X,n⟩;obtain⟨G,I,rfl,_⟩:=hF.1.slice;obtain⟨J,L,rfl,_⟩:=hF.2.slice;dsimp only at hF X ⊢;have ao:=n.size;rw[XC] at ao;have af:Below w.1.size w o:=aa.o.grown n (by simp;omega) (λk e=>by injection e with e;omega);have t:=Aa ((n.block w.1.size (by simp;omega) (by simp;omega)).trans r.o);have m:Below o.1.size o (o.alloc (Zk #[Zs G qz.length I,Zs J gs.length L] 125)):=Zal;have y:=Aa (Yad o (Zk #[Zs G qz.length I,Zs J gs.length L] 125));have c:=Aa ((m.block w.1.size (by omega)).trans t.o);have j:=Aa (Ap af m);have ad:=Aa (E.cX 229 [] Y.1.size st _ (X.up m));have u:=Aa (lH _ _ qz gs _ (hF.up m) V O.o x (al.o.below j.o) (aj.o.below j.o));have ak:=Aa (hF.up m);obtain⟨sr,sq⟩:=st;obtain⟨f0,f1⟩:=Hg y.o;obtain⟨y0,y1⟩:=Hg c.o;have z0:=Yag _ w.1.size 0 _ _ c.o;have z1:=Yag _ w.1.size 1 _ _ c.o;have M:w.1.size<(o.alloc (Zk #[Zs G qz.length I,Zs J gs.length L] 125)).1.size:=by simp;omega
 have N:o.1.size<(o.alloc (Zk #[Zs G qz.length I,Zs J gs.length L] 125)).1.size:=by simp
 have l:=Aa (And.intro M N);clear hF X n af m t r ac aa M N;cases sq with
 | true=>have P:Hid (Kj s=none):=Aa (by rw[z.o];rfl);have i:=Aa j.o;go_wp2_with fail;generalize o.alloc (Zk #[Zs G qz.length I,Zs J gs.length L] 125)=W3 at *;apply ad.o.mono;rintro e w3⟨rfl,rfl⟩;go_wp2;refine bodyPost_ret (v:=Zu #[Zg #[Zs none 0 0,Zs none 0 0],Zf 107 (Zi 3)]) (by simp[results,results83,go_sem,y0,y1]) rfl ?_;rw[P.o];exact⟨rfl,(i.o.setCell (p:=Zd w.1.size 0) (XA _) _).setCell (p:=Zd w.1.size 1) (XA _) _⟩
 | false=>
   have q:Hid (Kj s=if Jn (qz,gs)=some s then some (qz,gs) else none):=Aa (by rw[z.o];rfl);clear z R;go_wp2_with fail;generalize o.alloc (Zk #[Zs G qz.length I,Zs J gs.length L] 125)=W3 at *;apply ad.o.mono;rintro e w3⟨rfl,rfl⟩;cases hwr:Jn (qz,gs) with
   | none=>rw[hwr] at u q;have P:Hid (Kj s=none):=Aa (by rw[q.o];simp);clear hwr;go_wp2_with fail;apply u.o.mono;rintro e w4⟨rfl,d⟩;have a:=(d.block w.1.size l.o.1).trans c.o;have h:=(d.block o.1.size l.o.2).trans y.o;obtain⟨y0,y1⟩:=Hg a;obtain⟨f0,f1⟩:=Hg h;have z0:=Yag _ w.1.size 0 _ _ a;have z1:=Yag _ w.1.size 1 _ _ a;have i:=Aa (Ap j.o d);go_wp2;refine bodyPost_ret (v:=Zu #[Zg #[Zs none 0 0,Zs none 0 0],Zf 107 (Zi 3)]) (by simp[results,results83,go_sem,y0,y1]) rfl ?_;rw[P.o];exact⟨rfl,(i.o.setCell (p:=Zd w.1.size 0) (XA _) _).setCell (p:=Zd w.1.size 1) (XA _) _⟩
   | some b=>
     rw[hwr] at u q;clear hwr
     by_cases hbs:b=s
     ·subst hbs
      have P:Hid (Kj b=some (qz,gs)):=Aa (by rw[q.o];simp);go_wp2_with fail;apply u.o.mono;rintro e w4⟨rfl,d⟩;have a:=(d.block w.1.size l.o.1).trans c.o;have h:=(d.block o.1.size l.o.2).trans y.o;obtain⟨y0,y1⟩:=Hg a;obtain⟨f0,f1⟩:=Hg h;have z0:=Yag _ w.1.size 0 _ _ a;have z1:=Yag _ w.1.size 1 _ _ a;have i:=Aa (Ap j.o d);have ab:=Aa (ak.o.up d);have aq:=d.size;go_wp2;have n:w4.grownBy ((w4.setCell (Zd w.1.size 0) (Zs G qz.length I)).setCell (Zd w.1.size 1) (Zs J gs.length L)) (some w.1.size):=E.Al (E.Ar w4 w.1.size 0 _) (E.Ar _ w.1.size 1 _);have am:=ab.o.far a n;refine bodyPost_ret (v:=Zu #[Zg #[Zs G qz.length I,Zs J gs.length L],Zn]) (by simp[results,results83,go_sem,y0,y1]) rfl ?_;rw[P.o];exact⟨_,_,rfl,am,(i.o.setCell (p:=Zd w.1.size 0) (XA _) _).setCell (p:=Zd w.1.size 1) (XA _) _⟩
     have P:Hid (Kj s=none):=Aa (by rw[q.o];simp[hbs])
     have ap:((E.str b).toList==(E.str s).toList)=false:=by rw[beq_eq_false_iff_ne];intro e;rw[ByteArray.toList_eq,ByteArray.toList_eq] at e;exact hbs (by simpa[E.str] using e)
     clear hbs;go_wp2_with fail;apply u.o.mono;rintro e w4⟨rfl,d⟩;have a:=(d.block w.1.size l.o.1).trans c.o;have h:=(d.block o.1.size l.o.2).trans y.o;obtain⟨y0,y1⟩:=Hg a;obtain⟨f0,f1⟩:=Hg h;have z0:=Yag _ w.1.size 0 _ _ a;have z1:=Yag _ w.1.size 1 _ _ a;have i:=Aa (Ap j.o d);go_wp2;refine bodyPost_ret (v:=Zu #[Zg #[Zs none 0 0,Zs none 0 0],Zf 107 (Zi 3)]) (by simp[results,results83,go_sem,y0,y1]) rfl ?_;rw[P.o];exact⟨rfl,(i.o.setCell (p:=Zd w.1.size 0) (XA _) _).setCell (p:=Zd w.1.size 1) (XA _) _⟩
end F
namespace S
def O9(c:Int)(a b:V):Bool:=Vq c a.1 a.2.1 a.2.2 b.1 b.2.1 b.2.2==1
def E0(c:Int)(s:St)(v:V):Bool :=
 if c=7 then decide (0<s.2.1) else if c=8 then decide (s.2.1<s.1) else if c=1 then O9 4 s.2.2.1 v && O9 6 s.2.2.2 v else if c=2 then O9 2 s.2.2.1 v || O9 2 s.2.2.2 v else if c=3\/c=4 then O9 c s.2.2.1 v else if c=5\/c=6 then O9 c s.2.2.2 v else false
theorem Qh(c a n1 b n2:Int)(t1 t2:Tb)(w:Tw):
 Zc 276 #[Zi c,Zg #[Zi a,Zi n1,Zt t1],Zg #[Zi b,Zi n2,Zt t2]] w λe d=>e=Zr (Zo (O9 c (a,n1,t1) (b,n2,t2)))/\Zb w d:=AH7 c a n1 b n2 t1 t2 w
theorem Se{a b:Bool}(h:a=b):Ending.returned (Zo a)=Zr (Zo b):=by rw[h]
theorem Kz{w W:Tw}{X Y:Obj}(a:Below ((w.alloc X).alloc Y).heap.size ((w.alloc X).alloc Y) W):Zb w W:=Below.Ap (Gj w X Y) a
theorem Qq(c c1 o b n1:Int)(t1:Tb)(d f:Int)(g:Tb)(k n:Int)(t:Tb)(w:Tw):
 Zc 233 #[Zi c,Zg #[Zi c1,Zi o,Zi b,Zi n1,Zt t1,Zi d,Zi f,Zt g],Zg #[Zi k,Zi n,Zt t]] w
  λe D=>e=Zr (Zo (E0 c (c1,o,(b,n1,t1),(d,f,g)) (k,n,t)))/\Zb w D:=by
 have i:Hid (E0 c (c1,o,(b,n1,t1),(d,f,g)) (k,n,t)=if c=7 then decide (0<o) else if c=8 then decide (o<c1) else if c=1 then O9 4 (b,n1,t1) (k,n,t) && O9 6 (d,f,g) (k,n,t) else if c=2 then O9 2 (b,n1,t1) (k,n,t) || O9 2 (d,f,g) (k,n,t) else if c=3\/c=4 then O9 c (b,n1,t1) (k,n,t) else if c=5\/c=6 then O9 c (d,f,g) (k,n,t) else false):=rfl;generalize E0 c (c1,o,(b,n1,t1),(d,f,g)) (k,n,t)=r at *
 by_cases h7:c=7
 ·subst h7
  have h:Hid (decide (0<o)=r):=Aa (by rw[i.o,A2 rfl]);clear i;go_enter func233,ntmps233;go_wp2;go_ret;exact⟨Se h.o,Gj _ _ _⟩
 by_cases h8:c=8
 ·subst h8
  have h:Hid (decide (o<c1)=r):=Aa (by rw[i.o,A1 (by omega),A2 rfl]);clear i h7;go_enter func233,ntmps233;go_wp2;go_ret;exact⟨Se h.o,Gj _ _ _⟩
 by_cases h1:c=1
 ·subst h1
  have h:Hid ((O9 4 (b,n1,t1) (k,n,t) && O9 6 (d,f,g) (k,n,t))=r):=Aa (by rw[i.o,A1 (by omega),A1 (by omega),A2 rfl]);clear i h7 h8;have l:=Aa (Qh 4 b n1 k n t1 t);have s:=Aa (Qh 6 d f k n g t);generalize O9 4 (b,n1,t1) (k,n,t)=x at *;generalize O9 6 (d,f,g) (k,n,t)=y at *;cases x
  ·go_enter func233,ntmps233
   go_wp2_with fail;refine(l.o _).mono ?_;rintro e q⟨rfl,a⟩;go_wp2;go_ret;exact⟨Se h.o,Kz a⟩
  go_enter func233,ntmps233;go_wp2_with fail;refine(l.o _).mono ?_;rintro e q⟨rfl,a⟩;obtain⟨u,v⟩:=Qv a;have z:w.1.size<w.1.size+1+1:=by omega
  go_wp2_with fail;refine(s.o _).mono ?_;rintro e G⟨rfl,p⟩;go_wp2;go_ret;exact⟨Se h.o,Below.Ap (Kz a) p⟩
 by_cases h2:c=2
 ·subst h2
  have h:Hid ((O9 2 (b,n1,t1) (k,n,t) || O9 2 (d,f,g) (k,n,t))=r):=Aa (by rw[i.o,A1 (by omega),A1 (by omega),A1 (by omega),A2 rfl]);clear i h7 h8 h1;have l:=Aa (Qh 2 b n1 k n t1 t);have s:=Aa (Qh 2 d f k n g t);generalize O9 2 (b,n1,t1) (k,n,t)=x at *;generalize O9 2 (d,f,g) (k,n,t)=y at *;cases x
  ·go_enter func233,ntmps233
   go_wp2_with fail;refine(l.o _).mono ?_;rintro e q⟨rfl,a⟩;obtain⟨u,v⟩:=Qv a;have z:w.1.size<w.1.size+1+1:=by omega
   go_wp2_with fail;refine(s.o _).mono ?_;rintro e G⟨rfl,p⟩;go_wp2;go_ret;exact⟨Se h.o,Below.Ap (Kz a) p⟩
  go_enter func233,ntmps233;go_wp2_with fail;refine(l.o _).mono ?_;rintro e q⟨rfl,a⟩;go_wp2;go_ret;exact⟨Se h.o,Kz a⟩
 by_cases j:c=3\/c=4
 ·have h:Hid (O9 c (b,n1,t1) (k,n,t)=r):=Aa (by rw[i.o,A1 h7,A1 h8,A1 h1,A1 h2,A2 j])
  clear i h7 h8 h1 h2;have l:=Aa (Qh c b n1 k n t1 t);generalize O9 c (b,n1,t1) (k,n,t)=x at *
  rcases j with rfl|rfl
  all_goals
   go_enter func233,ntmps233;go_wp2_with fail;refine(l.o _).mono ?_;rintro e q⟨rfl,a⟩;go_wp2;go_ret;exact⟨Se h.o,Kz a⟩
 by_cases m:c=5\/c=6
 ·have h:Hid (O9 c (d,f,g) (k,n,t)=r):=Aa (by rw[i.o,A1 h7,A1 h8,A1 h1,A1 h2,A1 j,A2 m])
  clear i h7 h8 h1 h2 j;have l:=Aa (Qh c d f k n g t);generalize O9 c (d,f,g) (k,n,t)=x at *
  rcases m with rfl|rfl
  all_goals
   go_enter func233,ntmps233;go_wp2_with fail;refine(l.o _).mono ?_;rintro e q⟨rfl,a⟩;go_wp2;go_ret;exact⟨Se h.o,Kz a⟩
 have h:Hid (false=r):=Aa (by rw[i.o,A1 h7,A1 h8,A1 h1,A1 h2,A1 j,A1 m]);clear i;have O:(c==7)=false:=by simpa using h7
 have P:(c==8)=false:=by simpa using h8
 have I:(c==1)=false:=by simpa using h1
 have J:(c==2)=false:=by simpa using h2
 have b3:(c==3)=false:=by simp;omega
 have L:(c==4)=false:=by simp;omega
 have M:(c==5)=false:=by simp;omega
 have N:(c==6)=false:=by simp;omega
 clear h7 h8 h1 h2 j m;go_enter func233,ntmps233;go_wp2;go_ret;exact⟨Se h.o,Gj _ _ _⟩
def AE2:List Int:=[0,2,1,6,5,4,3,8,7]
def Lp(w:World):Prop:=Lib.TabIs prog w "millpond/stats.opposites" .i64 AE2
theorem iO:prog.globalNamed "millpond/stats.opposites"=some 4:=by kernel_rfl
theorem Lp.below{w W:Tw}(h:Lp w)(a:Zb w W):Lp W:=Lib.tabBelow_of_tabIs h W a
def Pw(c:Int):Int:=if c=1 then 2 else if c=2 then 1 else if c=3 then 6 else if c=4 then 5 else if c=5 then 4 else if c=6 then 3 else if c=7 then 8 else if c=8 then 7 else 0
theorem o9(c:Int)(w:Tw)(a:Lp w):
 Zc 275 #[Zi c] w λe f=>e=Zr (Zi (Pw c))/\f=w:=by
 by_cases h0:c<0
 ·have d:Hid (0=Pw c):=Aa (by unfold Pw;simp only[show ¬c=1 by omega,show ¬c=2 by omega,show ¬c=3 by omega,show ¬c=4 by omega,show ¬c=5 by omega,show ¬c=6 by omega,show ¬c=7 by omega,show ¬c=8 by omega,if_false])
  clear a;go_enter func275,ntmps275;go_wp2;go_ret;exact⟨Bd d.o,rfl⟩
 by_cases h9:9<=c
 ·have d:Hid (0=Pw c):=Aa (by unfold Pw;simp only[show ¬c=1 by omega,show ¬c=2 by omega,show ¬c=3 by omega,show ¬c=4 by omega,show ¬c=5 by omega,show ¬c=6 by omega,show ¬c=7 by omega,show ¬c=8 by omega,if_false])
  clear a;go_enter func275,ntmps275;go_wp2;go_ret;exact⟨Bd d.o,rfl⟩
 rcases (show c=0\/c=1\/c=2\/c=3\/c=4\/c=5\/c=6\/c=7\/c=8 by omega) with rfl|rfl|rfl|rfl|rfl|rfl|rfl|rfl|rfl
 ·have b:w.cell? (Zd 4 0)=some (Zi 0):=a.cell iO 0 (by decide)
  clear a h0 h9;go_enter func275,ntmps275;go_wp2;go_ret;exact⟨Bd (by decide),rfl⟩
 ·have b:w.cell? (Zd 4 1)=some (Zi 2):=a.cell iO 1 (by decide)
  clear a h0 h9;go_enter func275,ntmps275;go_wp2;go_ret;exact⟨Bd (by decide),rfl⟩
 ·have b:w.cell? (Zd 4 2)=some (Zi 1):=a.cell iO 2 (by decide)
  clear a h0 h9;go_enter func275,ntmps275;go_wp2;go_ret;exact⟨Bd (by decide),rfl⟩
 ·have b:w.cell? (Zd 4 3)=some (Zi 6):=a.cell iO 3 (by decide)
  clear a h0 h9;go_enter func275,ntmps275;go_wp2;go_ret;exact⟨Bd (by decide),rfl⟩
 ·have b:w.cell? (Zd 4 4)=some (Zi 5):=a.cell iO 4 (by decide)
  clear a h0 h9;go_enter func275,ntmps275;go_wp2;go_ret;exact⟨Bd (by decide),rfl⟩
 ·have b:w.cell? (Zd 4 5)=some (Zi 4):=a.cell iO 5 (by decide)
  clear a h0 h9;go_enter func275,ntmps275;go_wp2;go_ret;exact⟨Bd (by decide),rfl⟩
 ·have b:w.cell? (Zd 4 6)=some (Zi 3):=a.cell iO 6 (by decide)
  clear a h0 h9;go_enter func275,ntmps275;go_wp2;go_ret;exact⟨Bd (by decide),rfl⟩
 ·have b:w.cell? (Zd 4 7)=some (Zi 8):=a.cell iO 7 (by decide)
  clear a h0 h9;go_enter func275,ntmps275;go_wp2;go_ret;exact⟨Bd (by decide),rfl⟩
 have b:w.cell? (Zd 4 8)=some (Zi 7):=a.cell iO 8 (by decide);clear a h0 h9;go_enter func275,ntmps275;go_wp2;go_ret;exact⟨Bd (by decide),rfl⟩
variable{c k n:Int}{i j:Nat}{P:Tb->Prop}
theorem Ab{p:Prop}(h:p):Hid p:=h
theorem Below.up{a b c:Tw}(h:Zb a b)(k:Zb b c):Zb a c:=h.trans (k.mono h.size)
def Wk(n:Int):Int:=if n = -1 then -1 else 1-n
def Su(a b:Int):Int:=if a=0\/b=0 then 0 else min a b
def orJ(a b:Int):Int:=if a=1\/b=1 then 1 else min a b
theorem nj1(h:(n == -1)=true):-1=Wk n:=by simp at h;simp[Wk,h]
theorem nj2(h:(n == -1)=false):1-n=Wk n:=by simp at h;simp[Wk,h]
theorem AHu(n:Int)(b : -1<=n)(c:n<=1)(w:Tw):
 Zc 242 #[Zi n] w λe a=>e=Zr (Zi (Wk n))/\a=w:=by
 go_enter func242,ntmps242;go_wp2
 all_goals go_ret
 ·exact⟨Bd (nj1 ‹_›),rfl⟩
 exact⟨Bd (nj2 ‹_›),rfl⟩
theorem AHo(a b:Int)(w:Tw):
 Zc 243 #[Zi a,Zi b] w λe h=>e=Zr (Zi (Su a b))/\h=w:=by
 have c:Hid (Su a b=if a=0\/b=0 then 0 else min a b):=rfl
 by_cases h1:a=0
 ·have d:Hid (0=Su a b):=Ab (by rw[c.o,A2 (.inl h1)])
  have g:(a==0)=true:=by simpa using h1
  clear h1 c;go_enter func243,ntmps243;go_wp2;go_ret;exact⟨Bd d.o,rfl⟩
 by_cases h2:b=0
 ·have d:Hid (0=Su a b):=Ab (by rw[c.o,A2 (.inr h2)])
  have g:(a==0)=false:=by simpa using h1
  have f:(b==0)=true:=by simpa using h2
  clear h1 h2 c;go_enter func243,ntmps243;go_wp2;go_ret;exact⟨Bd d.o,rfl⟩
 have d:Hid (min a b=Su a b):=Ab (by rw[c.o,A1 (by omega)]);have g:(a==0)=false:=by simpa using h1
 have f:(b==0)=false:=by simpa using h2
 clear h1 h2 c;go_enter func243,ntmps243;go_wp2;go_ret;exact⟨Bd d.o,rfl⟩
theorem AHi(a b:Int)(w:Tw):
 Zc 244 #[Zi a,Zi b] w λe h=>e=Zr (Zi (orJ a b))/\h=w:=by
 have c:Hid (orJ a b=if a=1\/b=1 then 1 else min a b):=rfl
 by_cases h1:a=1
 ·have d:Hid (1=orJ a b):=Ab (by rw[c.o,A2 (.inl h1)])
  have g:(a==1)=true:=by simpa using h1
  clear h1 c;go_enter func244,ntmps244;go_wp2;go_ret;exact⟨Bd d.o,rfl⟩
 by_cases h2:b=1
 ·have d:Hid (1=orJ a b):=Ab (by rw[c.o,A2 (.inr h2)])
  have g:(a==1)=false:=by simpa using h1
  have f:(b==1)=true:=by simpa using h2
  clear h1 h2 c;go_enter func244,ntmps244;go_wp2;go_ret;exact⟨Bd d.o,rfl⟩
 have d:Hid (min a b=orJ a b):=Ab (by rw[c.o,A1 (by omega)]);have g:(a==1)=false:=by simpa using h1
 have f:(b==1)=false:=by simpa using h2
 clear h1 h2 c;go_enter func244,ntmps244;go_wp2;go_ret;exact⟨Bd d.o,rfl⟩
structure Nd where
 c:Int
 Bl:ByteArray
 k:Int
 n:Int
 t:ByteArray
abbrev CT:=Deep.BT Nd
variable{l r:CT}
def Gy(w:World):CT->Value->Prop
 | .nil,v=>v=.pointer none
 | .node _ _ ⟨c,Bl,k,n,t⟩ l r,v=>∃b a d,v=.pointer (some ⟨b,0,none⟩)/\w.1[b]? = some (.cells #[Zi c,.string Bl,Zi k,Zi n,.string t,a,d] 153)/\(1<=c/\c<=11)/\Gy w l a/\Gy w r d
theorem Gy.up{w W:Tw}(c:Zb w W):∀{T:CT}{v:Tv},Gy w T v->Gy W T v
 | .nil,_,h=>h
 | .node _ _ ⟨_,_,_,_,_⟩ _ _,_,⟨b,pl,pr,e,hh,hcd,hl,hr⟩=>⟨b,pl,pr,e,by
    rw[c.block b (by
     rcases Yc b w.1.size with a|a
     ·exact a
     rw[XM a] at hh;cases hh)]
    exact hh,hcd,Gy.up c hl,Gy.up c hr⟩
theorem cell_of_heap{w:Tw}{b:Nat}{cs:Array Tv}{t:TypeId}(h:w.1[b]? = some (Zk cs t))(i:Nat):w.cell? (Zd b i)=cs[i]? := by
 simp[World.cell?,h]
def C9:CT->Int->Bool
 | .nil,_=>true
 | .node _ _ _ l r,o=>decide (0<=o) && (C9 l (o-1) && C9 r (o-1))
theorem Rc:∀(T:CT)(v:Tv)(o:Int)(w:Tw),Gy w T v -> -1<=o->o<=1000 ->
 Zc 130 #[v,Zi o] w λe s=>e=Zr (Zo (C9 T o))/\s=w
 | .nil,v,o,w,h,h1,h2=>by obtain rfl:v=Zp none:=h;have d:Hid (true=C9 .nil o):=rfl;go_enter func130,ntmps130;go_wp2;go_ret;exact⟨Af d.o,rfl⟩
 | .node a0 o0 ⟨c,Bl,k,n,t⟩ l r,v,o,w,h,h1,h2=>by
   obtain⟨b,p,q,rfl,m,_,g,i⟩:=h;have y:w.cell? (Zd b 5)=some p:=cell_of_heap m 5;have z:w.cell? (Zd b 6)=some q:=cell_of_heap m 6;clear m
   by_cases ho:0<=o
   ·have a:=Rc l p (o-1) w g (by omega) (by omega)
    have f:=Rc r q (o-1) w i (by omega) (by omega);cases el:C9 l (o-1)
    ·rw[el] at a
     have d:Hid (false=C9 (.node a0 o0 ⟨c,Bl,k,n,t⟩ l r) o):=Ab (by simp[C9,el]);have j:=Ab a;clear a f el g i;go_enter func130,ntmps130;go_wp2_with (go_at_call 130;apply j.o.mono;rintro e u⟨rfl,rfl⟩);go_ret;exact⟨Af d.o,rfl⟩
    rw[el] at a;have d:Hid (C9 r (o-1)=C9 (.node a0 o0 ⟨c,Bl,k,n,t⟩ l r) o):=Ab (by simp[C9,el,ho]);have j:=Ab a;have IR:=Ab f;clear a f el g i;generalize C9 r (o-1)=x at *;go_enter func130,ntmps130;go_wp2_with fail;apply j.o.mono;rintro e u⟨rfl,rfl⟩;go_wp2_with fail;apply IR.o.mono;rintro e D⟨rfl,rfl⟩;go_wp2;go_ret;exact⟨Af d.o,rfl⟩
   have d:Hid (false=C9 (.node a0 o0 ⟨c,Bl,k,n,t⟩ l r) o):=Ab (by simp[C9,ho]);clear g i;go_enter func130,ntmps130;go_wp2;go_ret;exact⟨Af d.o,rfl⟩
theorem AEX(p:Addr)(w:Tw):
 CallsD prog 282 #[Zp (some p)] .returning w λe c d=>e=Zr (Zu #[])/\c=.returning/\d=w:=by
 refine callsD_of_wpS func282 rfl λa cs b=>?_
 apply wpS_seq;apply wpS_region;simp[wpOpsS,go_sem,recoverD,b,ntmps282,Exit.thenS];refine wpS_cond (t:=false) (by simp[Act.eval,Array.replicate]) ?_;simp only[WJ,if_false];refine wpS_of_wp (wp_skip ?_);cases a
 simp_all [bodyPostS,results,results282]
def Io(a b:ByteArray->Int)(gt:ByteArray->ByteArray):CT->Int
 | .nil=>1
 | .node _ _ ⟨c,Bl,k,n,t⟩ l r=>if c=7 then gG (a Bl==0) else if c=8 then gG (a Bl != 0) else if c=11 then Wk (Io a b gt l) else if c=9 then Su (Io a b gt l) (Io a b gt r) else if c=10 then orJ (Io a b gt l) (Io a b gt r) else Vq c (a Bl) (b Bl) (gt Bl) k n t
theorem Vk(b:Bool):-1<=gG b/\gG b<=1:=by cases b <;> simp[gG]
theorem ACo(c a n1:Int)(t1:Tb)(b n2:Int)(t2:Tb):-1<=Vq c a n1 t1 b n2 t2/\Vq c a n1 t1 b n2 t2<=1:=by
 unfold Vq;split
 ·omega
 exact Vk _
theorem Kw(a b:Tb->Int)(gt:Tb->Tb):∀T:CT,-1<=Io a b gt T/\Io a b gt T<=1
 | .nil=>by simp[Io]
 | .node a0 o0 ⟨c,Bl,k,n,t⟩ l r=>by
   have d:=Kw a b gt l;have e:=Kw a b gt r;unfold Io;split
   ·exact Vk _
   split
   ·exact Vk _
   split
   ·unfold Wk;split <;> omega
   split
   ·unfold Su;split <;> omega
   split
   ·unfold orJ;split <;> omega
   exact ACo _ _ _ _ _ _ _
theorem e7{a b:Tb->Int}{gt:Tb->Tb}{Bl:Tb}{t:Tb}(h:c=7):gG (a Bl==0)=Io a b gt (.node i j ⟨c,Bl,k,n,t⟩ l r):=by rw[Io,A2 h]
theorem e8{a b:Tb->Int}{gt:Tb->Tb}{Bl:Tb}{t:Tb}(h:c=8):gG (a Bl != 0)=Io a b gt (.node i j ⟨c,Bl,k,n,t⟩ l r):=by rw[Io,A1 (by omega),A2 h]
theorem e11{a b:Tb->Int}{gt:Tb->Tb}{Bl:Tb}{t:Tb}(h:c=11):Wk (Io a b gt l)=Io a b gt (.node i j ⟨c,Bl,k,n,t⟩ l r):=by rw[Io,A1 (by omega),A1 (by omega),A2 h]
theorem e9{a b:Tb->Int}{gt:Tb->Tb}{Bl:Tb}{t:Tb}(h:c=9):Su (Io a b gt l) (Io a b gt r)=Io a b gt (.node i j ⟨c,Bl,k,n,t⟩ l r):=by rw[Io,A1 (by omega),A1 (by omega),A1 (by omega),A2 h]
theorem e10{a b:Tb->Int}{gt:Tb->Tb}{Bl:Tb}{t:Tb}(h:c=10):orJ (Io a b gt l) (Io a b gt r)=Io a b gt (.node i j ⟨c,Bl,k,n,t⟩ l r):=by rw[Io,A1 (by omega),A1 (by omega),A1 (by omega),A1 (by omega),A2 h]
theorem e0{a b:Tb->Int}{gt:Tb->Tb}{Bl:Tb}{t:Tb}(h:¬c=7/\¬c=8/\¬c=11/\¬c=9/\¬c=10):Vq c (a Bl) (b Bl) (gt Bl) k n t=Io a b gt (.node i j ⟨c,Bl,k,n,t⟩ l r):=by rw[Io,A1 (by omega),A1 (by omega),A1 (by omega),A1 (by omega),A1 (by omega)]
theorem fld(k n:Int)(t:Tb)(W:Tw):(Instr.field 55 (Zg #[Zi k,Zi n,Zt t]) 0).run prog W=.ok (Zi k) W:=by kernel_rfl
theorem Uh(T:CT)(v:Tv)(w:Tw)(h:Gy w T v):
 Zc 81 #[v] w λe a=>e=Zr (Zo (C9 T 24))/\a=w:=by
 have H1:=Ab (Rc T v 24 w h (by omega) (by omega));clear h;generalize C9 T 24=b at *;go_enter func81,ntmps81;go_wp2_with fail;apply H1.o.mono;rintro e c⟨rfl,rfl⟩;go_wp2;go_ret;exact⟨rfl,rfl⟩
def dR(P:ByteArray->Prop)(a:Value)(b c:ByteArray->Int)(gt:ByteArray->ByteArray)(w:World):Prop :=
 ∀(W:World)(s:ByteArray),P s->Zb w W->Zc 241 #[a,.string s] W λe d=>e=.returned (.agg #[Zi (b s),Zi (c s),.string (gt s)])/\Zb W d
theorem dR.up{P:Tb->Prop}{v:Tv}{b c:Tb->Int}{gt:Tb->Tb}{w W:Tw}(h:dR P v b c gt w)(e:Zb w W):dR P v b c gt W :=
 λd s f a=>h d s f (Below.up e a)
def Kg(P:ByteArray->Prop):CT->Prop
 | .nil=>True
 | .node _ _ ⟨c,Bl,_,_,_⟩ l r=>if c=11 then Kg P l else if c=9\/c=10 then Kg P l/\Kg P r else P Bl
theorem Kg.Bl{P:Tb->Prop}{i j:Nat}{c:Int}{Bl:Tb}{k n:Int}{t:Tb}{l r:CT}(h:Kg P (.node i j ⟨c,Bl,k,n,t⟩ l r))(a:¬(c=9\/c=10\/c=11)):P Bl:=by simp only[Kg] at h;rwa[A1 (by omega),A1 (by omega)] at h
theorem Kg.left{Bl:Tb}{t:Tb}(h:Kg P (.node i j ⟨c,Bl,k,n,t⟩ l r))(a:c=9\/c=10\/c=11):Kg P l:=by
 simp only[Kg] at h
 by_cases h11:c=11
 ·rwa[A2 h11] at h
 rw[A1 h11,A2 (by omega)] at h;exact h.1
theorem Kg.right{Bl:Tb}{t:Tb}(h:Kg P (.node i j ⟨c,Bl,k,n,t⟩ l r))(a:c=9\/c=10):Kg P r:=by simp only[Kg] at h;rw[A1 (by omega),A2 a] at h;exact h.2
theorem R9(P:ByteArray->Prop)(j:Value)(a f:ByteArray->Int)(gt:ByteArray->ByteArray):∀(T:CT)(v:Value)(w:World),Gy w T v->Kg P T->dR P j a f gt w ->
 Zc 199 #[v,j] w λe w'=>e=.returned (.int .i64 (Io a f gt T))/\Zb w w'
 | .nil,v,w,h,_,_=>by obtain rfl:v=.pointer none:=h;have o:Hid (1=Io a f gt .nil):=rfl;go_enter func199,ntmps199;go_wp2;go_ret;exact⟨Bd o.o,XB _ _⟩
 | .node u y ⟨c,Bl,k,n,t⟩ l r,v,w,h,ha,hg=>by
   obtain⟨b,V,X,rfl,R,_,hl,hr⟩:=h;have c0:w.cell? ⟨b,0,none⟩=some (.int .i64 c):=cell_of_heap R 0;have c1:w.cell? ⟨b,1,none⟩=some (.string Bl):=cell_of_heap R 1;have c2:w.cell? ⟨b,2,none⟩=some (.int .i64 k):=cell_of_heap R 2;have c3:w.cell? ⟨b,3,none⟩=some (.int .i64 n):=cell_of_heap R 3;have c4:w.cell? ⟨b,4,none⟩=some (.string t):=cell_of_heap R 4;have c5:w.cell? ⟨b,5,none⟩=some V:=cell_of_heap R 5;have c6:w.cell? ⟨b,6,none⟩=some X:=cell_of_heap R 6;clear R;have s:Hid (¬(c=9\/c=10\/c=11)->∀W,Zb w W->Zc 241 #[j,.string Bl] W λe w'=>e=.returned (.agg #[.int .i64 (a Bl),.int .i64 (f Bl),.string (gt Bl)])/\Zb W w'):=λhc W hb=>hg W Bl (ha.Bl hc) hb
   have q:Hid ((c=9\/c=10\/c=11)->∀W,Zb w W->Zc 199 #[V,j] W λe w'=>e=.returned (.int .i64 (Io a f gt l))/\Zb W w'):=λhc W hb=>R9 P j a f gt l V W (hl.up hb) (ha.left hc) (hg.up hb)
   have IR:Hid ((c=9\/c=10)->∀W,Zb w W->Zc 199 #[X,j] W λe w'=>e=.returned (.int .i64 (Io a f gt r))/\Zb W w'):=λhc W hb=>R9 P j a f gt r X W (hr.up hb) (ha.right hc) (hg.up hb)
   have Y:=Kw a f gt l;have rr:=Kw a f gt r;clear hl hr hg ha
   by_cases h7:c=7
   ·have o:Hid (gG (a Bl==0)=Io a f gt (.node u y ⟨c,Bl,k,n,t⟩ l r)):=e7 h7
    replace s:=Ab (s.o (by omega));subst h7;clear q IR;generalize Io a f gt (.node u y ⟨7,Bl,k,n,t⟩ l r)=ee at *;generalize a Bl=M,f Bl=N,gt Bl=O at *;clear Y rr;have aa:=fld M N O;go_enter func199,ntmps199;go_wp2_with fail;refine(s.o _ (XB _ _)).mono ?_;rintro e w1⟨rfl,I⟩;go_wp2_with (go_at_call 240;refine(Jc _ _).mono ?_;rintro e w2⟨rfl,rfl⟩);go_ret;exact⟨Bd o.o,I⟩
   by_cases h8:c=8
   ·have o:Hid (gG (a Bl != 0)=Io a f gt (.node u y ⟨c,Bl,k,n,t⟩ l r)):=e8 h8
    replace s:=Ab (s.o (by omega));subst h8;clear q IR h7;generalize Io a f gt (.node u y ⟨8,Bl,k,n,t⟩ l r)=ee at *;generalize a Bl=M,f Bl=N,gt Bl=O at *;clear Y rr;have aa:=fld M N O;go_enter func199,ntmps199;go_wp2_with fail;refine(s.o _ (XB _ _)).mono ?_;rintro e w1⟨rfl,I⟩;go_wp2_with (go_at_call 240;refine(Jc _ _).mono ?_;rintro e w2⟨rfl,rfl⟩);go_ret;exact⟨Bd o.o,I⟩
   by_cases h11:c=11
   ·have o:Hid (Wk (Io a f gt l)=Io a f gt (.node u y ⟨c,Bl,k,n,t⟩ l r)):=e11 h11
    replace q:=Ab (q.o (by omega));subst h11;clear s IR h7 h8 rr;generalize Io a f gt (.node u y ⟨11,Bl,k,n,t⟩ l r)=ee at *;generalize Io a f gt l=x at *;go_enter func199,ntmps199;go_wp2_with fail;refine(q.o _ (XB _ _)).mono ?_;rintro e w1⟨rfl,I⟩;go_wp2_with (go_at_call 242;refine(AHu _ Y.1 Y.2 _).mono ?_;rintro e w2⟨rfl,rfl⟩);go_ret;exact⟨Bd o.o,I⟩
   by_cases h9:c=9
   ·have o:Hid (Su (Io a f gt l) (Io a f gt r)=Io a f gt (.node u y ⟨c,Bl,k,n,t⟩ l r)):=e9 h9
    replace q:=Ab (q.o (by omega));replace IR:=Ab (IR.o (by omega));subst h9;clear s h7 h8 h11 Y rr;generalize Io a f gt (.node u y ⟨9,Bl,k,n,t⟩ l r)=ee at *;generalize Io a f gt l=x,Io a f gt r=G at *;go_enter func199,ntmps199;go_wp2_with fail;replace c0:=cell_regrown c0;replace c5:=cell_regrown c5;replace c6:=cell_regrown c6;clear c1 c2 c3 c4;have z:Hid (∀d i,Zc 199 #[V,j] (grow (redrawn w d) i) λe g=>e=.returned (.int .i64 x)/\∃p:Regrown,g=grow (redrawn w p.d) p.os):=λd i=>Calls.regrown_of (q.o _ (below_regrown w d i))
    have D:Hid (∀d i,Zc 199 #[X,j] (grow (redrawn w d) i) λe g=>e=.returned (.int .i64 G)/\∃p:Regrown,g=grow (redrawn w p.d) p.os):=λd i=>Calls.regrown_of (IR.o _ (below_regrown w d i))
    have U:Hid (∀d i,Zc 243 #[.int .i64 x,.int .i64 G] (grow (redrawn w d) i) λe g=>e=.returned (.int .i64 (Su x G))/\∃p:Regrown,g=grow (redrawn w p.d) p.os):=λd i=>(AHo x G _).mono λ_ _⟨he,hw⟩=>⟨he,⟨⟨d,i⟩,hw⟩⟩
    refine wp_region_quiet_below (by kernel_rfl) (by kernel_rfl) ?_
    repeat (go_big_quiet_step (first
     | (go_at_call_of 199 (#[V,j]:Array Value);exact z.o _ _)
     | (go_at_call_of 199 (#[X,j]:Array Value);exact D.o _ _)
     | (go_at_call_of 243 (#[.int .i64 x,.int .i64 G]:Array Value);exact U.o _ _)))
    refine wpQuiet_nil ?_;intro _ J;obtain⟨⟨dq,L⟩,m⟩:=J;subst m;go_wp2;go_ret;exact⟨Bd o.o,below_regrown w dq L⟩
   by_cases h10:c=10
   ·have o:Hid (orJ (Io a f gt l) (Io a f gt r)=Io a f gt (.node u y ⟨c,Bl,k,n,t⟩ l r)):=e10 h10
    replace q:=Ab (q.o (by omega));replace IR:=Ab (IR.o (by omega));subst h10;clear s h7 h8 h11 h9 Y rr;generalize Io a f gt (.node u y ⟨10,Bl,k,n,t⟩ l r)=ee at *;generalize Io a f gt l=x,Io a f gt r=G at *;go_enter func199,ntmps199;go_wp2_with fail;replace c0:=cell_regrown c0;replace c5:=cell_regrown c5;replace c6:=cell_regrown c6;clear c1 c2 c3 c4;have z:Hid (∀d i,Zc 199 #[V,j] (grow (redrawn w d) i) λe g=>e=.returned (.int .i64 x)/\∃p:Regrown,g=grow (redrawn w p.d) p.os):=λd i=>Calls.regrown_of (q.o _ (below_regrown w d i))
    have D:Hid (∀d i,Zc 199 #[X,j] (grow (redrawn w d) i) λe g=>e=.returned (.int .i64 G)/\∃p:Regrown,g=grow (redrawn w p.d) p.os):=λd i=>Calls.regrown_of (IR.o _ (below_regrown w d i))
    have U:Hid (∀d i,Zc 244 #[.int .i64 x,.int .i64 G] (grow (redrawn w d) i) λe g=>e=.returned (.int .i64 (orJ x G))/\∃p:Regrown,g=grow (redrawn w p.d) p.os):=λd i=>(AHi x G _).mono λ_ _⟨he,hw⟩=>⟨he,⟨⟨d,i⟩,hw⟩⟩
    refine wp_region_quiet_below (by kernel_rfl) (by kernel_rfl) ?_
    repeat (go_big_quiet_step (first
     | (go_at_call_of 199 (#[V,j]:Array Value);exact z.o _ _)
     | (go_at_call_of 199 (#[X,j]:Array Value);exact D.o _ _)
     | (go_at_call_of 244 (#[.int .i64 x,.int .i64 G]:Array Value);exact U.o _ _)))
    refine wpQuiet_nil ?_;intro _ J;obtain⟨⟨dq,L⟩,m⟩:=J;subst m;go_wp2;go_ret;exact⟨Bd o.o,below_regrown w dq L⟩
   have o:Hid (Vq c (a Bl) (f Bl) (gt Bl) k n t=Io a f gt (.node u y ⟨c,Bl,k,n,t⟩ l r)):=e0 ⟨h7,h8,h11,h9,h10⟩;replace s:=Ab (s.o (by omega));have b7:(c==7)=false:=by simpa using h7
   have b8:(c==8)=false:=by simpa using h8
   have ac:(c==11)=false:=by simpa using h11
   have b9:(c==9)=false:=by simpa using h9
   have ab:(c==10)=false:=by simpa using h10
   clear q IR h7 h8 h11 h9 h10 Y rr;generalize Io a f gt (.node u y ⟨c,Bl,k,n,t⟩ l r)=ee at *;generalize a Bl=M,f Bl=N,gt Bl=O at *;go_enter func199,ntmps199;go_wp2_with fail;replace c0:=cell_regrown c0;replace c1:=cell_regrown c1;replace c2:=cell_regrown c2;replace c3:=cell_regrown c3;replace c4:=cell_regrown c4;clear c5 c6;have z:Hid (∀d i,Zc 241 #[j,.string Bl] (grow (redrawn w d) i) λe g=>e=.returned (.agg #[.int .i64 M,.int .i64 N,.string O])/\∃p:Regrown,g=grow (redrawn w p.d) p.os):=λd i=>Calls.regrown_of (s.o _ (below_regrown w d i))
   have D:Hid (∀d i,Zc 245 #[.int .i64 c,.agg #[.int .i64 M,.int .i64 N,.string O],.agg #[.int .i64 k,.int .i64 n,.string t]] (grow (redrawn w d) i) λe g=>e=.returned (.int .i64 (Vq c M N O k n t))/\∃p:Regrown,g=grow (redrawn w p.d) p.os):=λd i=>Calls.regrown_of (AEl c M N k n O t _)
   refine wp_region_quiet_below (by kernel_rfl) (by kernel_rfl) ?_
   repeat (go_big_quiet_step (first
    | (go_at_call_of 241 (#[j,.string Bl]:Array Value);exact z.o _ _)
    | (go_at_call_of 245 (#[.int .i64 c,.agg #[.int .i64 M,.int .i64 N,.string O],.agg #[.int .i64 k,.int .i64 n,.string t]]:Array Value);exact D.o _ _)))
   refine wpQuiet_nil ?_;intro _ J;obtain⟨⟨dq,L⟩,m⟩:=J;subst m;go_wp2;go_ret;exact⟨Bd o.o,below_regrown w dq L⟩
theorem AAk(P:Tb->Prop)(c:Tv)(a b:Tb->Int)(gt:Tb->Tb)(T:CT)(v:Tv)(w:Tw)(h:Gy w T v)(g:Kg P T)(j:dR P c a b gt w)(i:C9 T 24=true):
 Zc 140 #[v,c] w λe f=>e=Zr (Zi (Io a b gt T))/\Zb w f:=by
 have H1:Hid (Zc 81 #[v] w λe f=>e=Zr (Zo true)/\f=w):=by have:=Uh T v w h;rw[i] at this;exact this
 have H2:=Ab (R9 P c a b gt T v w h g j);generalize Io a b gt T=k at *;clear h j i g;go_enter func140,ntmps140;go_wp2_with fail;apply H1.o.mono;rintro e l⟨rfl,rfl⟩;go_wp2_with fail;apply H2.o.mono;rintro e m⟨rfl,d⟩;go_wp2;go_ret;exact⟨rfl,d⟩
theorem ABs(p:Addr)(w:Tw):
 CallsD prog 277 #[Zp (some p)] .returning w λe c d=>e=Zr (Zu #[])/\c=.returning/\d=w:=by
 refine callsD_of_wpS func277 rfl λa cs b=>?_
 apply wpS_seq;apply wpS_region;simp[wpOpsS,go_sem,recoverD,b,ntmps277,Exit.thenS];refine wpS_cond (t:=false) (by simp[Act.eval,Array.replicate]) ?_;simp only[WJ,if_false];refine wpS_of_wp (wp_skip ?_);cases a
 simp_all [bodyPostS,results,results277]
theorem AM0(pa l o:Tv)(gs:Tb->St)(s:Tb)(w:Tw)(j:∀(W:Tw)(s:Tb),Zb w W->Zc 136 #[Zt s,pa,l,o] W λe h=>e=Zr (Zg (E6 (gs s)))/\Zb W h):
 Zc 234 #[.func (.func 136) #[] #[pa,l,o],Zt s] w λe h=>e=Zr (Zg (E6 (gs s)))/\Zb w h:=by
 have d:=Ab (λW G=>j W s G);clear j;have I:∀(i:Fn)(first b:Array Tv)(w:Tw),(Instr.makeFunc i first b).run prog w=.ok (.func i first b) w:=λ_ _ _ _=>rfl
 generalize gs s=st at *;obtain⟨sc,sm,⟨sk,sn,M⟩,⟨J,L,p⟩⟩:=st;unfold E6 at d ⊢;simp only at d ⊢
 go_enter_defers func234,ntmps234
 go_wp2_with fail;refine(d.o _ (Zal)).mono ?_;rintro e q⟨rfl,a⟩;have g:Nq q w.1.size F6:=Nq.up (Yad _ _) a;obtain⟨c0,c1,u,v,x,y,z,D⟩:=Nq.cells (c:=0) (m:=0) (k:=0) (n:=0) (t:=⟨#[]⟩) (k':=0) (n':=0) (t':=⟨#[]⟩) g;obtain⟨O,P,R,T,U,V,X,Y⟩:=g.free;have r:Hid (Zb w q):=((XB _ w).alloc (XA _) _).trans (a.mono (by simp));clear a g;go_wp2;refine leaves_cons (f:=277) (args:=#[Zp (some (Zd w.1.size 0))]) (by simp) (by simp[go_sem]) ?_;refine(ABs (Zd w.1.size 0) _).mono ?_;rintro e u' N⟨rfl,rfl,rfl⟩;simp[Leaves,settle,results,results234,go_sem,c0,c1,u,v,x,y,z,D];exact b8c r.o (XA _) _ _ _ _ _ _ _ _
end S
namespace F
def Rf(l:List Aj)(s:ByteArray):Prop:=0<=Ce l s
theorem V5(k p:Nat)(cv gv:Tv)(qz:List Aj)(gs:List Fk)(g:Fk)(st:S.St)(c1:Int)(I:Tb)(J:Int)(L:Bool)(M N:Int)(O:Tb)(w:Tw)(y:Hm w cv gv (qz,gs))(hk:gs[k]? = some g)(h1:1<=qz.length)(h8:qz.length<=8)(ab:Gb qz g=true)(hp:cM qz c1=p)(aa:g.2.1[p]? = some st):
 Zc 137 #[Zg #[cv,gv],Zi k,Zg #[Zi c1,Zt I,Zi J,Zo L,Zi M,Zi N,Zt O]] w λe w'=>e=Zr (Zg (S.E6 st))/\Zb w w':=by
 have s:=Aa (λW(hW:Zb w W)=>nL k cv gv qz gs g W (y.up hW).1 (y.up hW).2 hk);have t:=Aa (λW(hW:Zb w W)=>U9 cv gv qz c1 I J L M N O W (y.up hW).1 h1 h8);obtain⟨ga,gc,rfl,_⟩:=y.2.slice;obtain⟨ca,cc,rfl,_⟩:=y.1.slice;dsimp only at s t ⊢;rw[ab] at s;rw[hp] at t;clear y ab;obtain⟨s1,s2,⟨k1,n1,t1⟩,⟨k2,n2,t2⟩⟩:=st;obtain⟨u,P,l,R,U⟩:=Jl w (Zk #[Zs ca qz.length cc,Zs ga gs.length gc] 125) (Zk #[Zi c1,Zt I,Zi J,Zo L,Zi M,Zi N,Zt O] 59) (Zk #[Zi 0,Zi 0,Zi 0,Zi 0,Zt ⟨#[]⟩,Zi 0,Zi 0,Zt ⟨#[]⟩] 235);have HA:=Aa P;have HB:=Aa l;have G:=Aa R;have z:=Aa U;have af:=Aa u;have f:=Aa aa;clear P l R U u aa;go_enter func137,ntmps137;go_wp2_with fail;generalize ((w.alloc (Zk #[Zs ca qz.length cc,Zs ga gs.length gc] 125)).alloc (Zk #[Zi c1,Zt I,Zi J,Zo L,Zi M,Zi N,Zt O] 59)).alloc (Zk #[Zi 0,Zi 0,Zi 0,Zi 0,Zt ⟨#[]⟩,Zi 0,Zi 0,Zt ⟨#[]⟩] 235)=W3 at *;refine(s.o W3 z.o).mono ?_;rintro e h⟨sv,bv,rfl,x,Y,V⟩;obtain⟨n,o,rfl,_⟩:=x.slice;obtain⟨i,j,rfl,_⟩:=Y.slice;have u:=af.o;have X:Zb h (h.alloc (Zk #[Zi g.1,Zs n g.2.1.length o,Zs i g.2.2.length j] 171)):=Zal;have d:=Ap V X;have P:=(d.block w.1.size (by omega)).trans HA.o;have l:=(d.block (w.1.size+1) (by omega)).trans HB.o;have ad:=Aa ((d.block (w.1.size+2) (by omega)).trans G.o);obtain⟨f0,f1⟩:=Hg P;have x0:(h.alloc (Zk #[Zi g.1,Zs n g.2.1.length o,Zs i g.2.2.length j] 171)).cell? (Zd (w.1.size+1) 0)=some (Zi c1):=A4 l rfl;have x1:(h.alloc (Zk #[Zi g.1,Zs n g.2.1.length o,Zs i g.2.2.length j] 171)).cell? (Zd (w.1.size+1) 1)=some (Zt I):=A4 l rfl;have x2:(h.alloc (Zk #[Zi g.1,Zs n g.2.1.length o,Zs i g.2.2.length j] 171)).cell? (Zd (w.1.size+1) 2)=some (Zi J):=A4 l rfl;have x3:(h.alloc (Zk #[Zi g.1,Zs n g.2.1.length o,Zs i g.2.2.length j] 171)).cell? (Zd (w.1.size+1) 3)=some (Zo L):=A4 l rfl;have x4:(h.alloc (Zk #[Zi g.1,Zs n g.2.1.length o,Zs i g.2.2.length j] 171)).cell? (Zd (w.1.size+1) 4)=some (Zi M):=A4 l rfl;have x5:(h.alloc (Zk #[Zi g.1,Zs n g.2.1.length o,Zs i g.2.2.length j] 171)).cell? (Zd (w.1.size+1) 5)=some (Zi N):=A4 l rfl;have x6:(h.alloc (Zk #[Zi g.1,Zs n g.2.1.length o,Zs i g.2.2.length j] 171)).cell? (Zd (w.1.size+1) 6)=some (Zt O):=A4 l rfl;have ae:=Aa (Yad h (Zk #[Zi g.1,Zs n g.2.1.length o,Zs i g.2.2.length j] 171));have ag:=Aa (x.up d);have D:=Aa (Ap z.o d);have am:=d.size;have ak:h.1.size<(h.alloc (Zk #[Zi g.1,Zs n g.2.1.length o,Zs i g.2.2.length j] 171)).1.size:=by simp
 clear x Y V X d P l HA HB G;go_wp2_with fail;generalize h.alloc (Zk #[Zi g.1,Zs n g.2.1.length o,Zs i g.2.2.length j] 171)=W5 at *;refine(t.o W5 D.o).mono ?_;rintro e c⟨rfl,m⟩;have aj:=Ax f.o;obtain⟨q,r,an,es,_,_,a⟩:=(ag.o.up m).cons (by omega);injection es with ah _ ai;subst ah ai;have y0:c.cell? (Zd q (r+p*8))=some (Zi s1):=a p _ f.o 0 _ rfl;have y1:c.cell? (Zd q (r+p*8+1))=some (Zi s2):=a p _ f.o 1 _ rfl;have y2:c.cell? (Zd q (r+p*8+2))=some (Zi k1):=a p _ f.o 2 _ rfl;have y3:c.cell? (Zd q (r+p*8+3))=some (Zi n1):=a p _ f.o 3 _ rfl;have y4:c.cell? (Zd q (r+p*8+4))=some (Zt t1):=a p _ f.o 4 _ rfl;have y5:c.cell? (Zd q (r+p*8+5))=some (Zi k2):=a p _ f.o 5 _ rfl;have y6:c.cell? (Zd q (r+p*8+6))=some (Zi n2):=a p _ f.o 6 _ rfl;have y7:c.cell? (Zd q (r+p*8+7))=some (Zt t2):=a p _ f.o 7 _ rfl;have b:=(m.block (w.1.size+2) (by omega)).trans ad.o;have T:=(m.block h.1.size ak).trans ae.o;obtain⟨_,g1,_⟩:=J5 T;have al:(p:Int)<(g.2.1.length:Int):=by omega
 have r0:c.cell? (Zd (w.1.size+2) 0)=some (Zi 0):=A4 b rfl;have r1:c.cell? (Zd (w.1.size+2) 1)=some (Zi 0):=A4 b rfl;have r2:c.cell? (Zd (w.1.size+2) 2)=some (Zi 0):=A4 b rfl;have r3:c.cell? (Zd (w.1.size+2) 3)=some (Zi 0):=A4 b rfl;have r4:c.cell? (Zd (w.1.size+2) 4)=some (Zt ⟨#[]⟩):=A4 b rfl;have r5:c.cell? (Zd (w.1.size+2) 5)=some (Zi 0):=A4 b rfl;have r6:c.cell? (Zd (w.1.size+2) 6)=some (Zi 0):=A4 b rfl;have r7:c.cell? (Zd (w.1.size+2) 7)=some (Zt ⟨#[]⟩):=A4 b rfl;have z0:=Yag c (w.1.size+2) 0 _ _ b;have z1:=Yag c (w.1.size+2) 1 _ _ b;have z2:=Yag c (w.1.size+2) 2 _ _ b;have z3:=Yag c (w.1.size+2) 3 _ _ b;have z4:=Yag c (w.1.size+2) 4 _ _ b;have z5:=Yag c (w.1.size+2) 5 _ _ b;have z6:=Yag c (w.1.size+2) 6 _ _ b;have z7:=Yag c (w.1.size+2) 7 _ _ b;have ac:=Aa (Ap D.o m);clear a b T m x0 x1 x2 x3 x4 x5 x6 f0 f1 aj;go_wp2;refine bodyPost_ret (v:=Zg #[Zi s1,Zi s2,Zi k1,Zi n1,Zt t1,Zi k2,Zi n2,Zt t2]) (by simp[results,results137,go_sem,r0,r1,r2,r3,r4,r5,r6,r7]) rfl ⟨rfl,?_⟩;exact(((((((ac.o.setCell (p:=Zd (w.1.size+2) 0) (XG _ _) _).setCell (p:=Zd (w.1.size+2) 1) (XG _ _) _).setCell (p:=Zd (w.1.size+2) 2) (XG _ _) _).setCell (p:=Zd (w.1.size+2) 3) (XG _ _) _).setCell (p:=Zd (w.1.size+2) 4) (XG _ _) _).setCell (p:=Zd (w.1.size+2) 5) (XG _ _) _).setCell (p:=Zd (w.1.size+2) 6) (XG _ _) _).setCell (p:=Zd (w.1.size+2) 7) (XG _ _) _
end F
namespace S
variable{i j:Nat}{c k n:Int}{l r:CT}
def gU(a:Value)(gs:ByteArray->St)(w:World):Prop :=
 ∀(W:World)(s:ByteArray),Zb w W->Zc 234 #[a,.string s] W λe b=>e=.returned (.agg (E6 (gs s)))/\Zb W b
theorem gU.up{v:Tv}{gs:Tb->St}{w W:Tw}(h:gU v gs w)(c:Zb w W):gU v gs W :=
 λb s a=>h b s (Below.up c a)
def Bp(gs:ByteArray->St):Bool->CT->Bool
 | b,.nil=>!b
 | b,.node _ _ ⟨c,Bl,k,n,t⟩ l r=>if c=9 then (if b then Bp gs b l || Bp gs b r else Bp gs b l && Bp gs b r) else if c=10 then (if b then Bp gs b l && Bp gs b r else Bp gs b l || Bp gs b r) else if c=11 then Bp gs (!b) l else E0 (if b then Pw c else c) (gs Bl) (k,n,t)
theorem m9f{gs:Tb->St}{Bl:Tb}{t:Tb}(h:c=9):(Bp gs false l && Bp gs false r)=Bp gs false (.node i j ⟨c,Bl,k,n,t⟩ l r):=by rw[Bp,A2 h];rfl
theorem m9t{gs:Tb->St}{Bl:Tb}{t:Tb}(h:c=9):(Bp gs true l || Bp gs true r)=Bp gs true (.node i j ⟨c,Bl,k,n,t⟩ l r):=by rw[Bp,A2 h];rfl
theorem AJv{gs:Tb->St}{Bl:Tb}{t:Tb}(h:c=10):(Bp gs false l || Bp gs false r)=Bp gs false (.node i j ⟨c,Bl,k,n,t⟩ l r):=by rw[Bp,A1 (by omega),A2 h];rfl
theorem AJu{gs:Tb->St}{Bl:Tb}{t:Tb}(h:c=10):(Bp gs true l && Bp gs true r)=Bp gs true (.node i j ⟨c,Bl,k,n,t⟩ l r):=by rw[Bp,A1 (by omega),A2 h];rfl
theorem AKD{gs:Tb->St}{Bl:Tb}{t:Tb}(h:c=11):Bp gs true l=Bp gs false (.node i j ⟨c,Bl,k,n,t⟩ l r):=by rw[Bp,A1 (by omega),A1 (by omega),A2 h];rfl
theorem AJz{gs:Tb->St}{Bl:Tb}{t:Tb}(h:c=11):Bp gs false l=Bp gs true (.node i j ⟨c,Bl,k,n,t⟩ l r):=by rw[Bp,A1 (by omega),A1 (by omega),A2 h];rfl
theorem m0f{gs:Tb->St}{Bl:Tb}{t:Tb}(h:¬c=9/\¬c=10/\¬c=11):E0 c (gs Bl) (k,n,t)=Bp gs false (.node i j ⟨c,Bl,k,n,t⟩ l r):=by rw[Bp,A1 h.1,A1 h.2.1,A1 h.2.2];rfl
theorem m0t{gs:Tb->St}{Bl:Tb}{t:Tb}(h:¬c=9/\¬c=10/\¬c=11):E0 (Pw c) (gs Bl) (k,n,t)=Bp gs true (.node i j ⟨c,Bl,k,n,t⟩ l r):=by rw[Bp,A1 h.1,A1 h.2.1,A1 h.2.2];rfl
theorem AAU(s:Value)(gs:ByteArray->St)(m o:Nat)(c:Int)(Bl:ByteArray)(k n:Int)(t:ByteArray)(l r:CT)(b:Nat)(V R:Value)(w:World)(u:w.1[b]? = some (.cells #[.int .i64 c,.string Bl,.int .i64 k,.int .i64 n,.string t,V,R] 153))(hg:gU s gs w)(ho:Lp w)(hl:∀W,Zb w W->Zc 194 #[V,s] W λe q=>e=.returned (.bool (Bp gs false l))/\Zb W q)(hr:∀W,Zb w W->Zc 194 #[R,s] W λe q=>e=.returned (.bool (Bp gs false r))/\Zb W q)(hn:∀W,Zb w W->Zc 232 #[V,s] W λe q=>e=.returned (.bool (Bp gs true l))/\Zb W q):
 Zc 194 #[.pointer (some ⟨b,0,none⟩),s] w λe q=>e=.returned (.bool (Bp gs false (.node m o ⟨c,Bl,k,n,t⟩ l r)))/\Zb w q:=by
 have c0:w.cell? ⟨b,0,none⟩=some (.int .i64 c):=cell_of_heap u 0;have c1:w.cell? ⟨b,1,none⟩=some (.string Bl):=cell_of_heap u 1;have c2:w.cell? ⟨b,2,none⟩=some (.int .i64 k):=cell_of_heap u 2;have c3:w.cell? ⟨b,3,none⟩=some (.int .i64 n):=cell_of_heap u 3;have c4:w.cell? ⟨b,4,none⟩=some (.string t):=cell_of_heap u 4;have c5:w.cell? ⟨b,5,none⟩=some V:=cell_of_heap u 5;have N:w.cell? ⟨b,6,none⟩=some R:=cell_of_heap u 6;have O:b<w.1.size:=block_lt_of_cell c0;have z:Hid (∀W,Zb w W->Zc 234 #[s,.string Bl] W λe q=>e=.returned (.agg (E6 (gs Bl)))/\Zb W q):=λW hb=>hg W Bl hb
 have HO:=Ab ho;have y:=Ab hl;have IR:=Ab hr;have T:=Ab hn;clear u hg ho hl hr hn
 by_cases h9:c=9
 ·have j:Hid ((Bp gs false l && Bp gs false r)=Bp gs false (.node m o ⟨c,Bl,k,n,t⟩ l r)):=m9f h9
  subst h9;clear z HO T;generalize Bp gs false (.node m o ⟨9,Bl,k,n,t⟩ l r)=ee at *;generalize Bp gs false l=U at *;generalize Bp gs false r=er at *;cases hel:U
  ·subst hel
   go_enter func194,ntmps194;go_wp2_with fail;refine(y.o _ (XB _ _)).mono ?_;rintro e M⟨rfl,a⟩;go_wp2;go_ret;exact⟨Af j.o,a⟩
  subst hel;go_enter func194,ntmps194;go_wp2_with fail;refine(y.o _ (XB _ _)).mono ?_;rintro e M⟨rfl,a⟩;replace N:M.cell? ⟨b,6,none⟩=some R:=(a.cell (p:=⟨b,6,none⟩) O).trans N;go_wp2_with fail;refine(IR.o _ a).mono ?_;rintro e w2⟨rfl,v⟩;go_wp2;go_ret;exact⟨Af j.o,Below.up a v⟩
 by_cases h10:c=10
 ·have j:Hid ((Bp gs false l || Bp gs false r)=Bp gs false (.node m o ⟨c,Bl,k,n,t⟩ l r)):=AJv h10
  subst h10;clear z HO T;generalize Bp gs false (.node m o ⟨10,Bl,k,n,t⟩ l r)=ee at *;generalize Bp gs false l=U at *;generalize Bp gs false r=er at *;cases hel:U
  ·subst hel
   go_enter func194,ntmps194;go_wp2_with fail;refine(y.o _ (XB _ _)).mono ?_;rintro e M⟨rfl,a⟩;replace N:M.cell? ⟨b,6,none⟩=some R:=(a.cell (p:=⟨b,6,none⟩) O).trans N;go_wp2_with fail;refine(IR.o _ a).mono ?_;rintro e w2⟨rfl,v⟩;go_wp2;go_ret;exact⟨Af j.o,Below.up a v⟩
  subst hel;go_enter func194,ntmps194;go_wp2_with fail;refine(y.o _ (XB _ _)).mono ?_;rintro e M⟨rfl,a⟩;go_wp2;go_ret;exact⟨Af j.o,a⟩
 by_cases h11:c=11
 ·have j:Hid (Bp gs true l=Bp gs false (.node m o ⟨c,Bl,k,n,t⟩ l r)):=AKD h11
  subst h11;clear z HO y IR;generalize Bp gs false (.node m o ⟨11,Bl,k,n,t⟩ l r)=ee at *;generalize Bp gs true l=U at *;go_enter func194,ntmps194;go_wp2_with fail;refine(T.o _ (XB _ _)).mono ?_;rintro e M⟨rfl,a⟩;go_wp2;go_ret;exact⟨Af j.o,a⟩
 have j:Hid (E0 c (gs Bl) (k,n,t)=Bp gs false (.node m o ⟨c,Bl,k,n,t⟩ l r)):=m0f ⟨h9,h10,h11⟩;have b9:(c==9)=false:=by simpa using h9
 have ac:(c==10)=false:=by simpa using h10
 have ad:(c==11)=false:=by simpa using h11
 clear y IR T h9 h10 h11;generalize Bp gs false (.node m o ⟨c,Bl,k,n,t⟩ l r)=ee at *;generalize gs Bl=st at *;obtain⟨G,J,⟨I,L,i⟩,⟨g,h,f⟩⟩:=st;unfold E6 at z;simp only at z;have X:Hid (∀d D,Zc 234 #[s,.string Bl] (grow (redrawn w d) D) λe x=>e=.returned (.agg #[.int .i64 G,.int .i64 J,.int .i64 I,.int .i64 L,.string i,.int .i64 g,.int .i64 h,.string f])/\∃p:Regrown,x=grow (redrawn w p.d) p.os):=λd D=>Calls.regrown_of (z.o _ (below_regrown w d D))
 have Y:Hid (∀d D,Zc 233 #[.int .i64 c,.agg #[.int .i64 G,.int .i64 J,.int .i64 I,.int .i64 L,.string i,.int .i64 g,.int .i64 h,.string f],.agg #[.int .i64 k,.int .i64 n,.string t]] (grow (redrawn w d) D) λe x=>e=.returned (.bool (E0 c (G,J,(I,L,i),(g,h,f)) (k,n,t)))/\∃p:Regrown,x=grow (redrawn w p.d) p.os):=λd D=>Calls.regrown_of (Qq c G J I L i g h f k n t _)
 generalize E0 c (G,J,(I,L,i),(g,h,f)) (k,n,t)=mc at *;go_enter func194,ntmps194;go_wp2_with fail;replace c0:=cell_regrown c0;replace c1:=cell_regrown c1;replace c2:=cell_regrown c2;replace c3:=cell_regrown c3;replace c4:=cell_regrown c4;clear c5 N;refine wp_region_quiet_below (by kernel_rfl) (by kernel_rfl) ?_
 repeat (go_big_quiet_step (first
  | (go_at_call_of 234 (#[s,.string Bl]:Array Value);exact X.o _ _)
  | (go_at_call_of 233 (#[.int .i64 c,.agg #[.int .i64 G,.int .i64 J,.int .i64 I,.int .i64 L,.string i,.int .i64 g,.int .i64 h,.string f],.agg #[.int .i64 k,.int .i64 n,.string t]]:Array Value);exact Y.o _ _)))
 refine wpQuiet_nil ?_;intro _ aa;obtain⟨⟨dq,ab⟩,P⟩:=aa;subst P;go_wp2;go_ret;exact⟨Af j.o,below_regrown w dq ab⟩
theorem ADJ(b:Tv)(gs:Tb->St)(w:Tw):
 Zc 194 #[Zp none,b] w λe c=>e=Zr (Zo (Bp gs false .nil))/\Zb w c:=by
 have a:Hid (true=Bp gs false .nil):=rfl;go_enter func194,ntmps194;go_wp2;go_ret;exact⟨Af a.o,XB _ _⟩
theorem zJ(v:Value)(gs:ByteArray->St)(q s:Nat)(c:Int)(Bl:ByteArray)(k n:Int)(t:ByteArray)(l r:CT)(b:Nat)(X R:Value)(w:World)(x:w.1[b]? = some (.cells #[.int .i64 c,.string Bl,.int .i64 k,.int .i64 n,.string t,X,R] 153))(hg:gU v gs w)(ho:Lp w)(hl:∀W,Zb w W->Zc 232 #[X,v] W λe u=>e=.returned (.bool (Bp gs true l))/\Zb W u)(hr:∀W,Zb w W->Zc 232 #[R,v] W λe u=>e=.returned (.bool (Bp gs true r))/\Zb W u)(hn:∀W,Zb w W->Zc 194 #[X,v] W λe u=>e=.returned (.bool (Bp gs false l))/\Zb W u):
 Zc 232 #[.pointer (some ⟨b,0,none⟩),v] w λe u=>e=.returned (.bool (Bp gs true (.node q s ⟨c,Bl,k,n,t⟩ l r)))/\Zb w u:=by
 have c0:w.cell? ⟨b,0,none⟩=some (.int .i64 c):=cell_of_heap x 0;have c1:w.cell? ⟨b,1,none⟩=some (.string Bl):=cell_of_heap x 1;have c2:w.cell? ⟨b,2,none⟩=some (.int .i64 k):=cell_of_heap x 2;have c3:w.cell? ⟨b,3,none⟩=some (.int .i64 n):=cell_of_heap x 3;have c4:w.cell? ⟨b,4,none⟩=some (.string t):=cell_of_heap x 4;have c5:w.cell? ⟨b,5,none⟩=some X:=cell_of_heap x 5;have N:w.cell? ⟨b,6,none⟩=some R:=cell_of_heap x 6;have O:b<w.1.size:=block_lt_of_cell c0;have D:Hid (∀W,Zb w W->Zc 234 #[v,.string Bl] W λe u=>e=.returned (.agg (E6 (gs Bl)))/\Zb W u):=λW hb=>hg W Bl hb
 have T:=Ab ho;have z:=Ab hl;have IR:=Ab hr;have U:=Ab hn;clear x hg ho hl hr hn
 by_cases h9:c=9
 ·have o:Hid ((Bp gs true l || Bp gs true r)=Bp gs true (.node q s ⟨c,Bl,k,n,t⟩ l r)):=m9t h9
  subst h9;clear D T U;generalize Bp gs true (.node q s ⟨9,Bl,k,n,t⟩ l r)=ee at *;generalize Bp gs true l=V at *;generalize Bp gs true r=er at *;cases hel:V
  ·subst hel
   go_enter func232,ntmps232;go_wp2_with fail;refine(z.o _ (XB _ _)).mono ?_;rintro e M⟨rfl,a⟩;replace N:M.cell? ⟨b,6,none⟩=some R:=(a.cell (p:=⟨b,6,none⟩) O).trans N;go_wp2_with fail;refine(IR.o _ a).mono ?_;rintro e w2⟨rfl,y⟩;go_wp2;go_ret;exact⟨Af o.o,Below.up a y⟩
  subst hel;go_enter func232,ntmps232;go_wp2_with fail;refine(z.o _ (XB _ _)).mono ?_;rintro e M⟨rfl,a⟩;go_wp2;go_ret;exact⟨Af o.o,a⟩
 by_cases h10:c=10
 ·have o:Hid ((Bp gs true l && Bp gs true r)=Bp gs true (.node q s ⟨c,Bl,k,n,t⟩ l r)):=AJu h10
  subst h10;clear D T U;generalize Bp gs true (.node q s ⟨10,Bl,k,n,t⟩ l r)=ee at *;generalize Bp gs true l=V at *;generalize Bp gs true r=er at *;cases hel:V
  ·subst hel
   go_enter func232,ntmps232;go_wp2_with fail;refine(z.o _ (XB _ _)).mono ?_;rintro e M⟨rfl,a⟩;go_wp2;go_ret;exact⟨Af o.o,a⟩
  subst hel;go_enter func232,ntmps232;go_wp2_with fail;refine(z.o _ (XB _ _)).mono ?_;rintro e M⟨rfl,a⟩;replace N:M.cell? ⟨b,6,none⟩=some R:=(a.cell (p:=⟨b,6,none⟩) O).trans N;go_wp2_with fail;refine(IR.o _ a).mono ?_;rintro e w2⟨rfl,y⟩;go_wp2;go_ret;exact⟨Af o.o,Below.up a y⟩
 by_cases h11:c=11
 ·have o:Hid (Bp gs false l=Bp gs true (.node q s ⟨c,Bl,k,n,t⟩ l r)):=AJz h11
  subst h11;clear D T z IR;generalize Bp gs true (.node q s ⟨11,Bl,k,n,t⟩ l r)=ee at *;generalize Bp gs false l=V at *;go_enter func232,ntmps232;go_wp2_with fail;refine(U.o _ (XB _ _)).mono ?_;rintro e M⟨rfl,a⟩;go_wp2;go_ret;exact⟨Af o.o,a⟩
 have o:Hid (E0 (Pw c) (gs Bl) (k,n,t)=Bp gs true (.node q s ⟨c,Bl,k,n,t⟩ l r)):=m0t ⟨h9,h10,h11⟩;have b9:(c==9)=false:=by simpa using h9
 have ae:(c==10)=false:=by simpa using h10
 have af:(c==11)=false:=by simpa using h11
 clear z IR U h9 h10 h11;generalize Bp gs true (.node q s ⟨c,Bl,k,n,t⟩ l r)=ee at *;generalize gs Bl=st at *;obtain⟨G,J,⟨I,L,i⟩,⟨g,h,f⟩⟩:=st;unfold E6 at D;simp only at D;have Y:Hid (∀d j,Zc 275 #[.int .i64 c] (grow (redrawn w d) j) λe m=>e=.returned (.int .i64 (Pw c))/\∃p:Regrown,m=grow (redrawn w p.d) p.os):=λd j=>(o9 c _ (T.o.below (below_regrown w d j))).mono λ_ _⟨he,hw⟩=>⟨he,⟨⟨d,j⟩,hw⟩⟩
 have aa:Hid (∀d j,Zc 234 #[v,.string Bl] (grow (redrawn w d) j) λe m=>e=.returned (.agg #[.int .i64 G,.int .i64 J,.int .i64 I,.int .i64 L,.string i,.int .i64 g,.int .i64 h,.string f])/\∃p:Regrown,m=grow (redrawn w p.d) p.os):=λd j=>Calls.regrown_of (D.o _ (below_regrown w d j))
 have ab:Hid (∀d j,Zc 233 #[.int .i64 (Pw c),.agg #[.int .i64 G,.int .i64 J,.int .i64 I,.int .i64 L,.string i,.int .i64 g,.int .i64 h,.string f],.agg #[.int .i64 k,.int .i64 n,.string t]] (grow (redrawn w d) j) λe m=>e=.returned (.bool (E0 (Pw c) (G,J,(I,L,i),(g,h,f)) (k,n,t)))/\∃p:Regrown,m=grow (redrawn w p.d) p.os):=λd j=>Calls.regrown_of (Qq (Pw c) G J I L i g h f k n t _)
 generalize Pw c=oc at *;generalize E0 oc (G,J,(I,L,i),(g,h,f)) (k,n,t)=mc at *;go_enter func232,ntmps232;go_wp2_with fail;replace c0:=cell_regrown c0;replace c1:=cell_regrown c1;replace c2:=cell_regrown c2;replace c3:=cell_regrown c3;replace c4:=cell_regrown c4;clear c5 N;refine wp_region_quiet_below (by kernel_rfl) (by kernel_rfl) ?_
 repeat (go_big_quiet_step (first
  | (go_at_call_of 275 (#[.int .i64 c]:Array Value);exact Y.o _ _)
  | (go_at_call_of 234 (#[v,.string Bl]:Array Value);exact aa.o _ _)
  | (go_at_call_of 233 (#[.int .i64 oc,.agg #[.int .i64 G,.int .i64 J,.int .i64 I,.int .i64 L,.string i,.int .i64 g,.int .i64 h,.string f],.agg #[.int .i64 k,.int .i64 n,.string t]]:Array Value);exact ab.o _ _)))
 refine wpQuiet_nil ?_;intro _ ac;obtain⟨⟨dq,ad⟩,P⟩:=ac;subst P;go_wp2;go_ret;exact⟨Af o.o,below_regrown w dq ad⟩
theorem ADf(b:Tv)(gs:Tb->St)(w:Tw):
 Zc 232 #[Zp none,b] w λe c=>e=Zr (Zo (Bp gs true .nil))/\Zb w c:=by
 have a:Hid (false=Bp gs true .nil):=rfl;go_enter func232,ntmps232;go_wp2;go_ret;exact⟨Af a.o,XB _ _⟩
theorem gR(d:Tv)(gs:Tb->St):∀(T:CT)(v:Tv)(w:Tw),Gy w T v->gU d gs w->Lp w ->
 (Zc 194 #[v,d] w λe j=>e=Zr (Zo (Bp gs false T))/\Zb w j)/\(Zc 232 #[v,d] w λe j=>e=Zr (Zo (Bp gs true T))/\Zb w j)
 | .nil,v,w,h,_,_=>by obtain rfl:v=Zp none:=h;exact⟨ADJ d gs w,ADf d gs w⟩
 | .node a0 o0 ⟨c,Bl,k,n,t⟩ l r,v,w,h,hg,ho=>by
   obtain⟨b,g,i,rfl,m,_,o,p⟩:=h;have f:=λW a=>gR d gs l g W (o.up a) (hg.up a) (ho.below a)
   have IR:=λW a=>gR d gs r i W (p.up a) (hg.up a) (ho.below a)
   exact⟨AAU d gs a0 o0 c Bl k n t l r b g i w m hg ho (λW a=>(f W a).1) (λW a=>(IR W a).1) (λW a=>(f W a).2),
    zJ d gs a0 o0 c Bl k n t l r b g i w m hg ho (λW a=>(f W a).2) (λW a=>(IR W a).2) (λW a=>(f W a).1)⟩
theorem AG4(a:Tv)(gs:Tb->St)(T:CT)(v:Tv)(w:Tw)(h:Gy w T v)(f:gU a gs w)(g:Lp w)(d:C9 T 24=true):
 Zc 135 #[v,a] w λe c=>e=Zr (Zo (Bp gs false T))/\Zb w c:=by
 have H1:Hid (Zc 81 #[v] w λe c=>e=Zr (Zo true)/\c=w):=by have:=Uh T v w h;rw[d] at this;exact this
 have H2:=Ab (gR a gs T v w h f g).1;generalize Bp gs false T=i at *;clear h f g d;go_enter func135,ntmps135;go_wp2_with fail;apply H1.o.mono;rintro e j⟨rfl,rfl⟩;go_wp2_with fail;apply H2.o.mono;rintro e k⟨rfl,b⟩;go_wp2;go_ret;exact⟨rfl,b⟩
variable{c n:Int}{v x:V}
def okT:CT->Prop
 | .nil=>True
 | .node _ _ ⟨c,_,_,_,_⟩ l r=>(1<=c/\c<=11)/\okT l/\okT r
theorem Gy.ok{w:Tw}:∀{T:CT}{v:Tv},Gy w T v->okT T
 | .nil,_,_=>trivial
 | .node _ _ ⟨_,_,_,_,_⟩ _ _,_,⟨_,_,_,_,_,hcd,hl,hr⟩=>⟨hcd,Gy.ok hl,Gy.ok hr⟩
def AJG(s:St)(x:V):Prop:=∃l,Pk l s/\AIN l/\x∈l
def Kn(c:Int)(x v:V):Int:=if c=7 then gG (x.1==0) else if c=8 then gG (x.1 != 0) else Vq c x.1 x.2.1 x.2.2 v.1 v.2.1 v.2.2
theorem AHV(h:Vq c x.1 x.2.1 x.2.2 v.1 v.2.1 v.2.2=1):¬x.1=0/\x.1=v.1/\B6 c (Eu x v)=true:=by
 unfold Vq at h;split at h
 ·omega
 rename_i hk;refine⟨λe=>hk (.inl e),Classical.byContradiction λe=>hk (.inr e),?_⟩;cases hs:B6 c (Eu x v) with
 | true=>rfl
 | false=>unfold Eu at hs;rw[hs] at h;simp[gG] at h
theorem vV(h:Vq c x.1 x.2.1 x.2.2 v.1 v.2.1 v.2.2=0):¬x.1=0/\x.1=v.1/\B6 c (Eu x v)=false:=by
 unfold Vq at h;split at h
 ·omega
 rename_i hk;refine⟨λe=>hk (.inl e),Classical.byContradiction λe=>hk (.inr e),?_⟩;cases hs:B6 c (Eu x v) with
 | false=>rfl
 | true=>unfold Eu at hs;rw[hs] at h;simp[gG] at h
theorem AFD(b:¬x.1=0)(d:x.1=v.1)(a:B6 c (Eu x v)=true):Vq c x.1 x.2.1 x.2.2 v.1 v.2.1 v.2.2=1:=by unfold Vq;rw[A1 (by rintro(e|e);exact b e;exact e d)];unfold Eu at a;rw[a];rfl
theorem O2(a:¬x.1=0)(b:x.1=v.1)(d:B6 c (Eu x v)=true):O9 c x v=true:=by unfold O9;rw[AFD a b d];rfl
theorem mN(o:Int):B6 1 o=true↔o=0:=by simp[B6]
theorem Sm(o:Int):B6 2 o=true↔¬o=0:=by simp[B6]
theorem aO(o:Int):B6 3 o=true↔o<0:=by simp[B6]
theorem Uo(o:Int):B6 4 o=true↔o<=0:=by simp[B6]
theorem aR(o:Int):B6 5 o=true↔0<o:=by simp[B6]
theorem S4(o:Int):B6 6 o=true↔0<=o:=by simp[B6]
theorem wJ{c o:Int}(b:1<=c)(a:c<=6)(h:B6 c o=false):B6 (Pw c) o=true:=by
 rcases (show c=1\/c=2\/c=3\/c=4\/c=5\/c=6 by omega) with rfl|rfl|rfl|rfl|rfl|rfl
 ·rw[show Pw 1=2 from rfl,Sm];intro e;rw[(mN o).2 e] at h;cases h
 ·rw[show Pw 2=1 from rfl,mN];exact Classical.byContradiction λe=>by rw[(Sm o).2 e] at h;cases h
 ·rw[show Pw 3=6 from rfl,S4];exact Classical.byContradiction λe=>by rw[(aO o).2 (by omega)] at h;cases h
 ·rw[show Pw 4=5 from rfl,aR];exact Classical.byContradiction λe=>by rw[(Uo o).2 (by omega)] at h;cases h
 ·rw[show Pw 5=4 from rfl,Uo];exact Classical.byContradiction λe=>by rw[(aR o).2 (by omega)] at h;cases h
 rw[show Pw 6=3 from rfl,aO];exact Classical.byContradiction λe=>by rw[(S4 o).2 (by omega)] at h;cases h
theorem AB9(b:1<=c)(a:c<=8):1<=Pw c/\Pw c<=8:=by rcases (show c=1\/c=2\/c=3\/c=4\/c=5\/c=6\/c=7\/c=8 by omega) with rfl|rfl|rfl|rfl|rfl|rfl|rfl|rfl <;> decide
theorem AHy(b:1<=c)(a:c<=6):¬Pw c=7/\¬Pw c=8:=by rcases (show c=1\/c=2\/c=3\/c=4\/c=5\/c=6 by omega) with rfl|rfl|rfl|rfl|rfl|rfl <;> decide
theorem AFf(d:1<=c)(k:c<=8)(h:Kn c x v=0):Kn (Pw c) x v=1:=by
 by_cases h7:c=7
 ·subst h7
  have a:(x.1==0)=false:=by
   cases e:(x.1==0) with
   | false=>rfl
   | true=>simp[Kn,e,gG] at h
  rw[show Pw 7=8 from rfl];have b:¬x.1=0:=by simpa using a
  simp[Kn,gG,b]
 by_cases h8:c=8
 ·subst h8
  have a:x.1=0:=Classical.byContradiction λe=>by simp[Kn,gG,e] at h
  rw[show Pw 8=7 from rfl];simp[Kn,gG,a]
 have l:Vq c x.1 x.2.1 x.2.2 v.1 v.2.1 v.2.2=0:=by simpa[Kn,h7,h8] using h
 obtain⟨g,i,j⟩:=vV l;have f:=AHy d (by omega);unfold Kn;rw[A1 f.1,A1 f.2];exact AFD g i (wJ d (by omega) j)
theorem rH{s:St}(T:1<=c)(I:c<=8)(J:AJG s x)(h:Kn c x v=1):E0 c s v=true:=by
 obtain⟨l,p,D,q⟩:=J
 by_cases h7:c=7
 ·subst h7
  have d:x.1=0:=Classical.byContradiction λe=>by simp[Kn,gG,e] at h
  have:=p.null q d;simp[E0,this]
 by_cases h8:c=8
 ·subst h8
  have d:¬x.1=0:=λe=>by simp[Kn,gG,e] at h
  have:=(p.some D q d).1;simp[E0,this]
 have L:Vq c x.1 x.2.1 x.2.2 v.1 v.2.1 v.2.2=1:=by simpa[Kn,h7,h8] using h
 obtain⟨o,r,b⟩:=AHV L;obtain⟨_,t,u,g,i⟩:=p.some D q o;have j:¬s.2.2.1.1=0:=by rw[t];exact o
 have k:s.2.2.1.1=v.1:=t.trans r;have m:¬s.2.2.2.1=0:=by rw[u];exact o
 have n:s.2.2.2.1=v.1:=u.trans r;have M:=He s.2.2.1 v;have N:=He s.2.2.2 v;have O:=He x v;have P:=He x s.2.2.2;have R:=He s.2.2.1 x
 rcases (show c=1\/c=2\/c=3\/c=4\/c=5\/c=6 by omega) with rfl|rfl|rfl|rfl|rfl|rfl
 ·rw[mN] at b
  have e:=Ig.1 b;subst e;have a:O9 4 s.2.2.1 x=true:=O2 j k ((Uo _).2 g);have G:O9 6 s.2.2.2 x=true:=O2 m n ((S4 _).2 (by omega));simp[E0,a,G]
 ·rw[Sm] at b
  have:¬Eu s.2.2.1 v=0\/¬Eu s.2.2.2 v=0:=Classical.byContradiction λe=>by
   have w:Eu s.2.2.1 v=0:=Classical.byContradiction λf=>e (.inl f)
   have z:Eu s.2.2.2 v=0:=Classical.byContradiction λf=>e (.inr f)
   rw[Ig] at w z;rw[w] at g;rw[z] at i;exact b (Ig.2 (ADy i g))
  rcases this with e|e
  ·have a:O9 2 s.2.2.1 v=true:=O2 j k ((Sm _).2 e)
   simp[E0,a]
  have a:O9 2 s.2.2.2 v=true:=O2 m n ((Sm _).2 e);simp[E0,a]
 ·rw[aO] at b
  have:Eu s.2.2.1 v<0:=Classical.byContradiction λe=>by have:Eu v x<=0:=Ha (y:=s.2.2.1) (by omega) g;omega
  have a:O9 3 s.2.2.1 v=true:=O2 j k ((aO _).2 this);simp[E0,a]
 ·rw[Uo] at b
  have a:O9 4 s.2.2.1 v=true:=O2 j k ((Uo _).2 (Ha g b));simp[E0,a]
 ·rw[aR] at b
  have:0<Eu s.2.2.2 v:=Classical.byContradiction λe=>by have:Eu x v<=0:=Ha i (by omega);omega
  have a:O9 5 s.2.2.2 v=true:=O2 m n ((aR _).2 this);simp[E0,a]
 rw[S4] at b;have:Eu v s.2.2.2<=0:=Ha (y:=x) (by omega) i;have a:O9 6 s.2.2.2 v=true:=O2 m n ((S4 _).2 (by omega));simp[E0,a]
theorem AFm(h:Wk n=1):n=0:=by unfold Wk at h;split at h <;> omega
theorem tP(h:Wk n=0):n=1:=by unfold Wk at h;split at h <;> omega
theorem AGM{a b:Int}(c : -1<=a/\a<=1)(d : -1<=b/\b<=1)(h:Su a b=1):a=1/\b=1:=by unfold Su at h;split at h <;> omega
theorem tL{a b:Int}(h:Su a b=0):a=0\/b=0:=by unfold Su at h;split at h <;> omega
theorem AHO{a b:Int}(c : -1<=a/\a<=1)(d : -1<=b/\b<=1)(h:orJ a b=1):a=1\/b=1:=by unfold orJ at h;split at h <;> omega
theorem AAQ{a b:Int}(c : -1<=a/\a<=1)(d : -1<=b/\b<=1)(h:orJ a b=0):a=0/\b=0:=by
 unfold orJ at h;split at h
 ·omega
 constructor <;> omega
theorem sound(P:Tb->Prop)(gs:Tb->St)(a:Tb->V)(g:∀Bl,P Bl->AJG (gs Bl) (a Bl)):∀T:CT,okT T->Kg P T ->
 (Io (λs=>(a s).1) (λs=>(a s).2.1) (λs=>(a s).2.2) T=1->Bp gs false T=true)/\(Io (λs=>(a s).1) (λs=>(a s).2.1) (λs=>(a s).2.2) T=0->Bp gs true T=true)
 | .nil,_,_=>⟨λ_=>rfl,λh=>by simp[Io] at h⟩
 | .node a0 o0 ⟨c,Bl,k,n,t⟩ l r,h,ha=>by
   obtain⟨w,u,v⟩:=h;have b:=λj=>sound P gs a g l u (ha.left j)
   have f:=λj=>sound P gs a g r v (ha.right j)
   have m:=Kw (λs=>(a s).1) (λs=>(a s).2.1) (λs=>(a s).2.2) l;have o:=Kw (λs=>(a s).1) (λs=>(a s).2.1) (λs=>(a s).2.2) r
   by_cases h9:c=9
   ·replace b:=b (by omega)
    replace f:=f (by omega);rw[<-m9f h9,<-m9t h9,<-e9 h9];constructor
    ·intro e
     obtain⟨d,i⟩:=AGM m o e;rw[b.1 d,f.1 i];rfl
    intro e
    rcases tL e with d|d
    ·rw[b.2 d];rfl
    rw[f.2 d];simp
   by_cases h10:c=10
   ·replace b:=b (by omega)
    replace f:=f (by omega);rw[<-AJv h10,<-AJu h10,<-e10 h10];constructor
    ·intro e
     rcases AHO m o e with d|d
     ·rw[b.1 d];rfl
     rw[f.1 d];simp
    intro e;obtain⟨d,i⟩:=AAQ m o e;rw[b.2 d,f.2 i];rfl
   by_cases h11:c=11
   ·replace b:=b (by omega)
    rw[<-AKD h11,<-AJz h11,<-e11 h11];exact⟨λe=>b.2 (AFm e),λe=>b.1 (tP e)⟩
   have q:Io (λs=>(a s).1) (λs=>(a s).2.1) (λs=>(a s).2.2) (.node a0 o0 ⟨c,Bl,k,n,t⟩ l r)=Kn c (a Bl) (k,n,t):=by
    by_cases h7:c=7
    ·rw[<-e7 h7];simp[Kn,h7]
    by_cases h8:c=8
    ·rw[<-e8 h8];simp[Kn,h8]
    rw[<-e0 ⟨h7,h8,h11,h9,h10⟩];simp[Kn,h7,h8]
   rw[q,<-m0f ⟨h9,h10,h11⟩,<-m0t ⟨h9,h10,h11⟩];refine⟨λe=>rH (by omega) (by omega) (g Bl (ha.Bl (by omega))) e,λe=>?_⟩;have p:=AB9 (c:=c) (by omega) (by omega);exact rH p.1 p.2 (g Bl (ha.Bl (by omega))) (AFf (by omega) (by omega) e)
end S
namespace F
theorem dF(l:List Aj)(p:List (List V))(a:1<=p.length)(b:p.length<=6):Gb l (An l p)=true:=by simp[Gb,An,a,b]
theorem ACi(l:List Aj)(p:List (List V)){j:Nat}(a:j<l.length):(An l p).2.1[j]? = some (S.Iv (D7 p j)):=by simp[An,a]
theorem Nh{c:Array Oper}{o:Oper}{a:Act}{W:Tw}{K:Act->Tw->Prop}{Q:Exit->Act->Tw->Prop}{E:Prop}(b:o.guard=none)(f:Nat)(x y z:Operand)(t s r:TypeId)(j:o.op=.call { callee:=.value (.func f),args:=#[x,y,z],argTypes:=#[t,s,r] })(u v q:Tv)(k:a.eval x=u)(l:a.eval y=v)(m:a.eval z=q)(g:∀args w,(callFunc f args).run prog w=.ok (.enter f args) w)(R:Ending->Tw->Prop)(i:Zc f #[u,v,q] W R)(h:∀e d,R e d->∃v,e=Zr v/\K (a.put o.dst v) d):
 if Region.wanted o (yielded c a.tmps)=true then Oper.wp prog o a W K Q else E :=
 Ih b f #[x,y,z] #[t,s,r] j #[u,v,q] (by simp[k,l,m]) g R i h
theorem AF1(w:Tw)(X Y Z:Obj):(((w.alloc X).alloc Y).alloc Z).heap[w.1.size]? = some X/\(((w.alloc X).alloc Y).alloc Z).heap[w.1.size+1]? = some Y/\(((w.alloc X).alloc Y).alloc Z).heap[w.1.size+2]? = some Z:=by
 have b:Below (w.alloc X).heap.size (w.alloc X) (((w.alloc X).alloc Y).alloc Z):=S.Gj (w.alloc X) Y Z;have a:Below ((w.alloc X).alloc Y).heap.size ((w.alloc X).alloc Y) (((w.alloc X).alloc Y).alloc Z):=Zal;refine⟨(b.block _ (by simp)).trans (Yad w X),?_,?_⟩
 ·have:=Yad (w.alloc X) Y
  rw[XC] at this;exact(a.block _ (by simp)).trans this
 have:=Yad ((w.alloc X).alloc Y) Z;rwa[XC,XC] at this
def Uk(l:List Aj)(r:List V)(s:ByteArray):V:=r[(Ce l s).toNat]?.getD zV
theorem AEu{c:Aj}{v:V}(h:Lx c v=true):v.1=0\/v.1=kd c:=by unfold Lx Cm at h;simp only[XN,WT,beq_iff_eq] at h;omega
end F
theorem AHr{w:Tw}(h:Lw w):Lw w:=h
theorem AJI{w:Tw}(h:B.Ob w):Ob w:=h
def Eh(p:ByteArray):ByteArray:=⟨#[100,97,116,97,47]⟩++p
theorem lS(p:Tb):(Eh p).size=5+p.size:=by simp[Eh,ByteArray.size_append];rfl
theorem tC(p:Tb)(w:Tw)(c:p.size<=1000):Zc 13 #[Zt p] w λe b=>e=Zr (Zt (Eh p))/\b=w:=by have a:Hid ((⟨#[100,97,116,97,47]⟩:Tb)++p=Eh p):=rfl;go_enter func13,ntmps13;go_wp2;go_ret;exact⟨by rw[a.o];rfl,rfl⟩
def iB(D:DataW Unit)(p:ByteArray)(w:World)(e:Ending)(a:World):Prop :=
 (Maps.has D (B.lit (Eh p))=false/\e=.returned (.tuple #[.agg #[.slice none 0 0,.slice none 0 0],.iface 107 (.int .i64 7)])/\Zb w a) \/
 (Maps.has D (B.lit (Eh p))=true/\∃t:ByteArray,D.atKey (B.lit (Eh p)) (B.Gw ByteArray.empty)=B.Gw t/\F.Kx (F.Kj t.1.toList) w e a)
theorem AD9(bb n:Nat)(D:Td)(mv:Tv)(p:Tb)(w:Tw)(h:Ground w bb n D mv)(O:B.Ob w)(P:p.size<=1000)(R:∀t:Tb,Maps.has D (B.lit (Eh p))=true->D.atKey (B.lit (Eh p)) (B.Gw ByteArray.empty)=B.Gw t->t.size<=1000000):
 Zc 48 #[Zp (some (Zd bb 0)),Zt p] w (iB D p w):=by
 have W:=Aa (λV=>tC p V P);have M:=Aa (λV(r:Zb w V)=>B.aP bb n D mv (Eh p) V (h.up r).c0 (h.up r).th (by rw[lS];unfold maxLen;omega));have q:Hid (Zb w (w.alloc (Zk #[Zs none 0 0,Zs none 0 0] 125))):=Aa (Zal);have J:=Aa (Yad w (Zk #[Zs none 0 0,Zs none 0 0] 125))
 have X:Hid (∀(t:Tb)V,Zb w V->t.size<=1000000->Zc 83 #[Zt t] V (F.Kx (F.Kj t.1.toList) V)):=Aa λt V r ht=>by
  have:=F.Vf t.1.toList V (by rw[<-Lib.size_eq];exact ht) (AHr (h.nc.below r)) (AJI (O.below r));have e:E.str t.1.toList=t:=by simp[E.str]
  rw[e] at this;exact this
 have Y:=Aa R;clear h O P R;unfold iB;unfold B.Um at M;go_enter func48,ntmps48;go_wp2_with fail;refine(W.o _).mono ?_;rintro e w1⟨rfl,rfl⟩;go_wp2_with fail;refine(M.o _ q.o).mono ?_;rintro e T⟨t,rfl,o,u,g⟩;have j:=Below.Ap q.o g;have c:=Aa ((g.block w.1.size (by simp)).trans J.o);have z:=cell_of_heap c.o 0;have n1:=cell_of_heap c.o 1;simp at z n1;have N:∀i,T.frozen? (Zd w.1.size i)=false:=λi=>by simp[World.frozen?,c.o]
 clear g;cases hh:Maps.has D (B.lit (Eh p)) with
 | false=>rw[A1 (by simp)];have e7:B.L8 7=Zf 107 (Zi 7):=rfl;rw[e7];have d:=Aa j;clear j o u;go_wp2;exact bodyPost_ret (v:=Zu #[Zg #[Zs none 0 0,Zs none 0 0],Zf 107 (Zi 7)]) (by simp[results,results48,go_sem,z,n1]) rfl (.inl ⟨hh,rfl,(d.o.setCell (XA _) _).setCell (XA _) _⟩)
 | true=>
   rw[A2 rfl];have e0:B.L8 0=Zn:=rfl;rw[e0];have G:=Aa (o hh);have HZ:=Aa (Y.o t hh G.o);have d:=Aa j;clear j o u;go_wp2_with fail;refine(X.o t T d.o HZ.o).mono ?_;intro e U l;have s:=Ac c.o;cases hr:F.Kj t.1.toList with
   | none=>
     rw[hr] at l;obtain⟨rfl,b⟩:=l;have a:=(b.block w.1.size s).trans c.o;have x:=cell_of_heap a 0;have y:=cell_of_heap a 1;simp at x y;have g0:∀i,U.frozen? (Zd w.1.size i)=false:=λi=>by simp[World.frozen?,a]
     have m:=Aa (Below.Ap d.o b);clear b a z n1 N;go_wp2;refine bodyPost_ret (v:=Zu #[Zg #[Zs none 0 0,Zs none 0 0],Zf 107 (Zi 3)]) (by simp[results,results48,go_sem,x,y]) rfl (.inr ⟨hh,t,G.o,?_⟩);rw[hr];exact⟨rfl,(m.o.setCell (XA _) _).setCell (XA _) _⟩
   | some f=>
     rw[hr] at l;obtain⟨cv,gv,rfl,k,b⟩:=l;obtain⟨ca,cc,ec,_⟩:=k.1.slice;obtain⟨ga,gc,eg,_⟩:=k.2.slice;subst ec eg;have a:=(b.block w.1.size s).trans c.o;have x:=cell_of_heap a 0;have y:=cell_of_heap a 1;simp at x y;have g0:∀i,U.frozen? (Zd w.1.size i)=false:=λi=>by simp[World.frozen?,a]
     have m:=Aa (Below.Ap d.o b);have I:=Aa k;have L:=Aa a;clear b a z n1 N k;go_wp2;refine bodyPost_ret (v:=Zu #[Zg #[Zs ca f.1.length cc,Zs ga f.2.length gc],Zn]) (by simp[results,results48,go_sem,x,y]) rfl (.inr ⟨hh,t,G.o,?_⟩);rw[hr];exact⟨_,_,rfl,I.o.far L.o ((Aq _ _ 0 _).trans (Aq _ _ 1 _)),(m.o.setCell (XA _) _).setCell (XA _) _⟩
