import Derived.Test.YthlacpbkcmellaaGreatDoorZUb
import Derived.Test.YthlacpbkcmellaaGreatDoorCards
set_option maxHeartbeats 40000000
set_option maxRecDepth 100000
open List renaming length_map->Y',getElem?_eq_getElem->XB,map_append->XG,length_take->XH,length_cons->XI,mem_of_getElem?->XJ,getElem?_drop->XL,not_mem_nil->XN,mem_of_mem_drop->XQ,append_toArray->XR,mem_cons->XS,length_append->XT,getElem?_map->XV,size_toArray->XX,push_toArray->XY,cons_append->XZ,length_drop->X2,length_nil->X4,nil_append->X6,take_zero->X'
open Nat renaming zero_le->XA,le_refl->XC,le_trans->XF,add_zero->XU,le_of_lt->XW,le_of_eq->Wb,zero_add->WA,le_succ->WB
open Go.World renaming putObj_heap_other->XD,news_of_block->XK,ownsRow_nil->XM
open Go.RowKit.Below renaming refl->XE
open Array renaming replicate_succ->XO,replicate_zero->XP
namespace Go.Proofs.YthlacpbkcmellaaGreatDoor
open _root_.Go.Proofs.Tryz RowKit Shelf Joins WideShapes Lib Deep
open Go.Sort (grow)
namespace F
variable{W:Tw}{n:Nat}{v:Tv}
theorem AMS{H:Type}{enc:TypeId×Tv->H}{d:DataW H}{p:List MemPlace}(q:Value.okWide prog W .any n 24 v)(h:DataW.Trod enc prog W 0 (λ_=>true) true 24 v d p):
 ∃a c,∃l:List Vi,v=Zs a l.length c/\F7 4 Wu W (Zs a l.length c) l/\∀s∈l,Ks s.2/\s.2.2.2.size<=maxLen:=by
 obtain⟨i,len,b,rfl⟩:=okWide_slice underlying24 q;obtain⟨fuel,m⟩:=h;obtain⟨v',e,l,f,o⟩:=M0 (k:=4) (en:=Wu) (P:=λs:Vi=>Ks s.2/\s.2.2.2.size<=maxLen) (by decide) (λ_=>rfl) underlying24 pR (λh=>AFs h) m;have j:v'=Zs i len b:=by simpa[Value.cells] using e.symm
 subst j;obtain⟨a,c,g,_⟩:=f.slice;rw[g] at f;exact⟨a,c,l,g,f,o⟩
theorem AKl{b:Nat}{T:TypeId}(h:W.heap[b]? = some (Zk #[v] T)):W.cell? (Zd b 0)=some v/\W.frozen? (Zd b 0)=false:=by simp[World.cell?,World.frozen?,h]
def AGA:Prop:=∀w:World,Ik w->Lw w->Jp w->B.Ob w->S.Lp w->Zc 5 #[] w λe a=>e=.returned (.bool true)/\Zb w a
theorem ANV{T:S.CT}{A3:List Vi}{pa f:To}{k i:Nat}(m:F7 4 Wu W (Zs f A3.length i) A3)(o:A3.length<=5)(d:∀s∈A3,Ks s.2/\s.2.2.2.size<=maxLen)(a:∀V,Zb W V->Zc 10 #[Zs pa n k] V λe b=>∃v,e=Zr v/\S.Gy b T v/\Zb V b):K8 W (AM7 T A3) none 0 none 0 pa n k f i:=by refine⟨.inl ⟨⟨_,_,rfl⟩,rfl⟩,(λc a=>by cases a),⟨[],⟨_,_,rfl,XA _,λh=>absurd rfl h⟩,rfl,λj x r hx _=>by simp at hx⟩,(λr hr=>by cases hr),m,by show A3.length<=100;omega,(λs hq=>(d s hq).2),λV hV=>?_,XA _,⟨(λc a=>by cases a),XA _,(λr hr=>by cases hr),XA _,λs hq=>(d s hq).1⟩⟩;refine(a V hV).mono ?_;rintro e b⟨v,rfl,g,l⟩;exact⟨v,T,rfl,g,rfl,l⟩
theorem ANW(d:Mw)(w0:Tw)(bb n:Nat)(D:Td)(fs:List Int)(mv k:Tv)(H:List (Dn×Ah))(U:List Tb)(c:Tb)(xs:List A6)(T:S.CT)(A3:List Vi)(pa:To)(g f:Nat)(i:To)(j:Nat)(w:Tw)(h:iK w0 w 0 bb n D fs mv k H U c)(a:H.length<40)(l:C7 D (Ae H H.length) xs)(p:S.okT T)(r:∀s∈A3,Ks s.2/\s.2.2.2.size<=maxLen)(t:K8 w (AM7 T A3) none 0 none 0 pa g f i j):
 Zc 6 #[Zp (some (Zd bb 0)),Zg #[Zi 4,Zs none 0 0,Zs none 0 0,Zs pa g f,Zs i A3.length j,Zi 0,Zt ⟨#[]⟩,Zt ⟨#[]⟩],Zt c] w λe o=>∃b,e=Zr b/\Hid (ANi w0 w bb mv H U c (Ae H H.length) xs T A3 (Zr b) o) :=
 (V1 d w0 0 bb n D fs mv k H U c xs (AM7 T A3) none 0 none 0 pa g f i j w h a l t).mono λe o m=>by obtain⟨b,rfl,_⟩:=m.wU;exact⟨b,rfl,Aa (AM8 h a l p (λs q=>(r s q).1) m)⟩
theorem ANM(fg:Mw)(gx:AGA)(lv:Tv)(pa:To)(pn pc:Nat)(sa:To)(sc:Nat)(A3:List Vi)(T:S.CT)(l:List DdS)(w:Tw)(hl:F7 8 AGa w lv l)(hr:∀q∈l,Nf w q)(fp:∀W,Zb w W->Zc 10 #[Zs pa pn pc] W λe w'=>∃v,e=Zr v/\S.Gy w' T v/\Zb W w')(fy:F7 4 Wu w (Zs sa A3.length sc) A3)(fz:∀s∈A3,Ks s.2/\s.2.2.2.size<=maxLen)(he:Ik w)(hw:Lw w)(ht:Jp w)(hg:B.Ob w)(ho:S.Lp w):
 Zc 3 #[lv,Zs pa pn pc,Zs sa A3.length sc] w λe w'=>e=Zr (Zo true)/\Zb w w':=by
 have cz:=Aa (Py lv l w hl hr);unfold Pb at cz;have HL:=Aa hl;have HR:=Aa hr;have dw:=Aa fp;have ar:=Aa (And.intro fy fz);have HV:=Aa (And.intro he (And.intro hw (And.intro ht (And.intro hg ho))));obtain⟨la,lc,rfl,_⟩:=hl.slice;clear hl hr he hw ht hg ho fp fy fz;go_enter func3,ntmps3;go_wp2_with fail;refine cz.o.mono ?_;rintro e w1⟨b1,rfl,fw,fk⟩;have U:=Aa fk;have cw:=Aa fw;clear fk fw cz;cases b1 with
 | false=>go_wp2_with fail;go_ret;exact⟨rfl,U.o⟩
 | true=>
   by_cases h20:pn<=20
   rotate_left
   ·have fe:(pn:Int) > 20:=by omega
    go_wp2_with fail;go_ret;exact⟨rfl,U.o⟩
   have fe:¬(pn:Int) > 20:=by omega
   by_cases h5:A3.length<=5
   rotate_left
   ·have gw:(A3.length:Int) > 5:=by omega
    go_wp2_with fail;go_ret;exact⟨rfl,U.o⟩
   have gw:¬(A3.length:Int) > 5:=by omega
   have h6:=(cw.o rfl).1;have d8:=Aa (cw.o rfl).2;have e6:=Aa (gx w1 (HV.o.1.below U.o) (HV.o.2.1.below U.o) (HV.o.2.2.1.below U.o) (HV.o.2.2.2.1.below U.o) (HV.o.2.2.2.2.below U.o));clear cw;go_wp2_with fail;refine e6.o.mono ?_;rintro e w2⟨rfl,fl⟩;have ac:=Aa (Ap U.o fl);have N:Hid (Ik w2/\Lw w2/\Jp w2/\B.Ob w2/\S.Lp w2):=Aa ⟨HV.o.1.below ac.o,HV.o.2.1.below ac.o,HV.o.2.2.1.below ac.o,HV.o.2.2.2.1.below ac.o,HV.o.2.2.2.2.below ac.o⟩;have bd:=Aa (LwT.start w2 N.o.1 N.o.2.1 N.o.2.2.1);clear fl e6 U HV;go_wp2_with fail
   go_loopw [8] (λvi wr=>∃(i m:Nat)(D:Td)(fs:List Int)(mv fv:Tv)(H:List (Dn×Ah)),i<=l.length/\vi=Zi i/\Hid (LwT w2 wr w2.heap.size i m D fs mv fv H)) (λvi _=>l.length-(intOf vi).toNat)
   case atStart=>exact⟨0,0,_,_,_,_,[],XA _,rfl,bd⟩
   case round=>
    obtain⟨i,m,D,fs,mv,fv,H,hi,rfl,HI⟩:=hrel;clear bd
    by_cases hlt:i<l.length
    ·obtain⟨q,hq⟩:∃q,l[i]? = some q:=⟨_,XB hlt⟩
     have ae:=Aa (Ap ac.o HI.o.base.low);obtain⟨lb,lo,io,el,_,ib,a⟩:=HL.o.cons (by omega);injection el with gq _ gr;subst gq gr;have gc:=Aa ((HR.o q (XJ hq)).at (d8.o q (XJ hq)));have q0:=a i q hq 0 _ rfl;have q1:=a i q hq 1 _ rfl;have q2:=a i q hq 2 _ rfl;have q3:=a i q hq 3 _ rfl;have q4:=a i q hq 4 _ rfl;have q5:=a i q hq 5 _ rfl;have q6:=a i q hq 6 _ rfl;have q7:=a i q hq 7 _ rfl;simp only[XU] at q0;have bz:(i:Int)<(l.length:Int):=by omega
     clear a hq;obtain⟨⟨wh,cols,rows,A3,ch,nm,tw,tr⟩,ca,cc,ra,rc,pa,pn,pc,sa,sc⟩:=q;simp only at q0 q1 q2 q3 q4 q5 q6 q7;have ei:=Aa (λW=>ADi i (by omega) W);have d0:=Aa (λW(o:Zb wr W)=>AHq fg w2 w2.heap.size i m D fs mv fv H ⟨wh,cols,rows,A3,ch,nm,tw,tr⟩ ca cc ra rc pa pn pc sa sc W (HI.o.up o) (by omega) N.o.2.2.2.1 N.o.2.2.2.2 (gc.o.up (Ap ae.o o)));have a8:Hid (∀W,Zb w W->W.cell? (Zd lb (lo+i*8))=some (Zi wh)/\W.cell? (Zd lb (lo+i*8+1))=some (Zs ca cols.length cc)/\W.cell? (Zd lb (lo+i*8+2))=some (Zs ra rows.length rc)/\W.cell? (Zd lb (lo+i*8+3))=some (Zs pa pn pc)/\W.cell? (Zd lb (lo+i*8+4))=some (Zs sa A3.length sc)/\W.cell? (Zd lb (lo+i*8+5))=some (Zi ch)/\W.cell? (Zd lb (lo+i*8+6))=some (Zt nm)/\W.cell? (Zd lb (lo+i*8+7))=some (Zt tw)):=Aa λW hb=>⟨Ag hb q0,Ag hb q1,Ag hb q2,Ag hb q3,Ag hb q4,Ag hb q5,Ag hb q6,Ag hb q7⟩
     have ad:=Aa ((XE wr.heap.size wr).drew);clear q0 q1 q2 q3 q4 q5 q6 q7;obtain⟨q0,q1,q2,q3,q4,q5,q6,q7⟩:=a8.o _ (Ap ae.o ad.o);go_wp2_with fail
     go_region_held3 (λW=>W.cell? (Zd lb (lo+i*8))=some (Zi wh)/\W.cell? (Zd lb (lo+i*8+1))=some (Zs ca cols.length cc)/\W.cell? (Zd lb (lo+i*8+2))=some (Zs ra rows.length rc)/\W.cell? (Zd lb (lo+i*8+3))=some (Zs pa pn pc)/\W.cell? (Zd lb (lo+i*8+4))=some (Zs sa A3.length sc)/\W.cell? (Zd lb (lo+i*8+5))=some (Zi ch)/\W.cell? (Zd lb (lo+i*8+6))=some (Zt nm)/\W.cell? (Zd lb (lo+i*8+7))=some (Zt tw))
      (first
        | exact a8.o _ (Ap ae.o ad.o)
        | exact a8.o _ (Ap ae.o fm)
        | exact a8.o _ (Ap ac.o gy)
        | (go_keep;done)
        | fail)
      (first
        | (go_at_call 7
           refine(ei.o _).mono ?_;rintro e w3⟨rfl,cn⟩;have fm:=Ap ad.o cn;clear cn)
        | (go_at_call 6
           refine(d0.o _ fm).mono ?_;rintro e w4⟨er,rfl,m',D',fc,dm,fd,H',db⟩;have gy:=db.base.low;have gd:=Aa db;clear db)
        | fail)
     clear q0 q1 q2 q3 q4 q5 q6 q7 a8 d0 ei;go_wp2;exact⟨⟨i+1,m',D',fc,dm,fd,H',by omega,by go_num,gd⟩,by simp[intOf];omega⟩
    have bz:¬(i:Int)<(l.length:Int):=by omega
    have h7:H.length<=30:=by have:=HI.o.Iz;omega
    have fr:i<=30:=by omega
    have ae:=Aa (Ap ac.o HI.o.base.low);obtain⟨xs,hT⟩:=HI.o.inv.wU H.length (XC _);have dg:Good Bv Cm (Ae H H.length):=(Jb HI.o.inv.past (i:=H.length) (XC _)).1;have HT:=Aa hT;have ef:=Aa (Ua w2.heap.size m D mv H (-1) H.length wr HI.o.base.ground HI.o.inv.Lm HI.o.inv.past (by omega) (XC _) (.inl ⟨by omega,rfl⟩));have d9:=Aa (λW(o:Zb wr W)=>ABH w2.heap.size m D mv H (-1) H.length xs W (HI.o.base.ground.up o) ((N.o.2.2.2.1.below HI.o.base.low).below o) ((N.o.2.2.2.2.below HI.o.base.low).below o) HI.o.inv.Lm HI.o.inv.past (by omega) (XC _) (.inl ⟨by omega,rfl⟩) hT.Lz);have h1:(Fc (Ae H H.length).cols xs).length<=60*40:=by unfold Fc;rw[Y'];exact aN hT dg .nil
    have cu:Hid (∀r∈Fc (Ae H H.length).cols xs,r.length=(Ae H H.length).cols.length):=Aa (λr hr=>by rw[sW] at hr;obtain⟨z,hz,rfl⟩:=List.mem_map.1 hr;obtain⟨x,_,dl⟩:=List.mem_flatMap.1 hz;exact ADa dl)
    have h8:=M9 dg;have cp:=Aa (λW(o:Zb wr W)=>dw.o W (Ap ae.o o));have c0:=Aa (λW(o:Zb wr W)=>ar.o.1.up (Ap ae.o o));have e5:=Aa (λW(o:Zb wr W)=>(HI.o.up o).ALy fr N.o.2.2.2.1 N.o.2.2.2.2);clear hT dg dw HL HR d8;generalize fh:Fc (Ae H H.length).cols xs=R at *;have cx:=Aa fh;clear fh;go_wp2_with fail;refine ef.o.mono ?_;rintro e w5⟨a1,n1,c1,x2,a2,n2,c2,rfl,fi,fo⟩;have du:=Aa fo;have cy:=Aa fi;clear fo fi ef;unfold K4 at cy;unfold K4;have dd:Zb w5 (w5.alloc (Zk #[Zi (H.length:Int),Zs a1 n1 c1,Zi x2,Zs a2 n2 c2] 42)):=Zal;have cv:=Aa (Yae w5 (Zk #[Zi (H.length:Int),Zs a1 n1 c1,Zi x2,Zs a2 n2 c2] 42));have ak:=Aa (Ap du.o dd);have et:=Aa (Dl.up cy.o dd);have cd:=Aa (d9.o _ ak.o);clear dd cy du d9;go_wp2_with fail;refine cd.o.mono ?_;rintro e w7⟨v7,rfl,dc,bx⟩;obtain⟨ra,rc,rfl,ig⟩:=dc.slr.slice;have bn:=Aa (Ap ak.o bx);have eu:=Aa (Dl.up et.o bx);have c5:=Aa ((bx.block _ (Ac cv.o)).trans cv.o);have bs:=Aa (Sc.base dc (XA _));clear bx dc cd ak et cv;go_wp2_with fail
    go_loopw [13] (λvi wi=>∃j:Nat,j<=A3.length/\vi=Zi (j:Int)/\Hid (Zb w7 wi)) (λvi _=>A3.length-(intOf vi).toNat)
    case atStart=>exact⟨0,XA _,rfl,Aa (XE _ _)⟩
    case round=>
     obtain⟨j,hj,rfl,ag⟩:=hrel
     by_cases hjl:j<A3.length
     ·obtain⟨s,hs⟩:∃s,A3[j]? = some s:=⟨_,XB hjl⟩
      obtain⟨sb,so,g9,es,_,_,ai⟩:=(c0.o wr (Ap bn.o ag.o)).cons (by omega);injection es with c7 _ c8;subst c7 c8;have c3:=ai j s hs 3 _ rfl;have g2:(j:Int)<(A3.length:Int):=by omega
      have h9:(0:Int)<=(j:Int):=by omega
      have HF:=Aa (Ap ae.o (Ap bn.o ag.o));clear ai hs;obtain⟨P,sk,sm,st⟩:=s;simp only at c3
      by_cases h100:(st.size:Int) > 100
      ·go_wp2_with fail
       go_ret;exact⟨rfl,HF.o⟩
      go_wp2;exact⟨⟨j+1,by omega,by go_num,ag⟩,by simp[intOf];omega⟩
     have g2:¬(j:Int)<(A3.length:Int):=by omega
     have co:=Aa (Ap bn.o ag.o);have ey:=Aa (Dl.up eu.o ag.o);have c6:=Aa ((ag.o.block _ (Ac c5.o)).trans c5.o);have en:=Aa (bs.o.up ag.o);have b9:=Aa (cp.o wr co.o);clear bn eu c5 bs ag hj;go_wp2_with fail;refine b9.o.mono ?_;rintro e w9⟨v,rfl,dh,bj⟩;have bo:=Aa (Ap co.o bj);have ew:=Aa (Dl.up ey.o bj);have fa:=Aa ((bj.block _ (Ac c6.o)).trans c6.o);have em:=Aa (en.o.up bj);have ec:=Aa dh;have ay:=Aa (e5.o w9 bo.o);have d4:=Aa (ANW fg w2 w2.heap.size m D fs mv fv H (nms i) zB xs T A3 pa pn pc sa sc w9 ay.o (by omega) HT.o dh.ok ar.o.2 (ANV (c0.o w9 bo.o) h5 ar.o.2 (λV hV=>cp.o V (Ap bo.o hV))));clear bj dh b9 co ey c6 en e5 cp;go_wp2_with fail;refine d4.o.mono ?_;rintro e dp⟨er,rfl,HP⟩;obtain⟨n',D',fc,dm,fd,H',ys,a0,b0,da,hy,fj,an,de⟩:=HP.o;have hm:Mv 0 w2.heap.size mv mv w9 dp:=Mv.put b0 ⟨λ_ e=>.inl e,B.St.refl _⟩;have ba:=Aa (hm.slO ay.o.base.bu em.o);have cg:=Aa (hm.snap ay.o.base.bu ew.o);have au:=Aa (Ut ay.o.base.bu b0 fa.o (by decide));have ce:=Aa (AD0 ay.o.base.bu b0 ec.o);have h3:=Aa a0;have av:=Aa (ABH w2.heap.size n' D' dm H' (-1) H'.length ys dp a0.ground (N.o.2.2.2.1.below a0.low) (N.o.2.2.2.2.below a0.low) da.Lm da.past (by omega) (XC _) (.inl ⟨by omega,rfl⟩) fj);rw[an] at av;have a6:=Aa (Ap ac.o a0.low);clear d4 HP a0 b0 da fj hm em ew fa ec bo
     rcases de with⟨ty,y,e,ab⟩|⟨e,ap,fq,ts,f3,b3⟩
     ·injection e with e
      subst e;rw[ab,cx.o] at av;clear ab an;go_wp2_with fail;refine av.o.mono ?_;rintro e L⟨ha,rfl,O,b⟩;obtain⟨na,nc,rfl,_⟩:=O.slr.slice;have ct:=Aa (ACk (Zs ra R.length rc) (Zs na R.length nc) R L (ba.o.slr.up b) O.slr (by omega) (λr hr=>by have:=cu.o r hr;omega));have HF:=Aa (Ap a6.o b);clear b O av;go_wp2_with fail;refine ct.o.mono ?_;rintro e d⟨rfl,I⟩;have d6:=Aa (Ap HF.o I);clear I;go_wp2;go_ret;exact⟨rfl,d6.o⟩
     injection e with e;subst e;rw[cx.o] at b3;have gh:=Aa b3;have bt:=Aa f3;have g5:(Fc (Ae H H.length).cols ys).length=R.length:=by rw[b3.length_eq,Y']
     have gg:Hid (∀r∈Fc (Ae H H.length).cols ys,r.length<=1000):=Aa (λr hr=>by rw[sW] at hr;obtain⟨z,hz,rfl⟩:=List.mem_map.1 hr;obtain⟨x,_,dl⟩:=List.mem_flatMap.1 hz;have:=ADa dl;omega)
     obtain⟨ff,f4⟩:=gP fq;have dq:=Aa (And.intro ff f4)
     have dy:Hid (∃g,a1=some (Zd g 0)/\n1=(Ae H H.length).cols.length/\∀W,Zb dp W->I1 W g 0 (Ae H H.length).cols):=Aa (by
      obtain⟨b1,d1,b2,d2,Ls,ev,hV⟩:=cg.o;simp only[Value.agg.injEq,Array.mk.injEq,List.cons.injEq,Value.int.injEq,Value.slice.injEq] at ev;obtain⟨-,⟨e1,e2,e3⟩,-⟩:=ev
      rcases hV.cols.2 with⟨_,h0⟩|⟨g,bw,gn,ev,_⟩
      ·exact absurd (Yai.1 h0) ap
      injection ev with c9 _ gu;subst c9 gu;exact⟨g,e1,e2,λW o=>I1.Fz (hV.up o).cols rfl⟩)
     have gv:1<=(Ae H H.length).cols.length:=by
      rcases Yw (Ae H H.length).cols.length with h0|h0
      ·exact absurd (Yai.1 h0) ap
      exact h0
     generalize Fc (Ae H H.length).cols ys=Y at *;clear ff f4 fq ap b3 f3 cg an cx ay HT;generalize Ae H H.length=P at *;obtain⟨g,go,gs,fx⟩:=dy.o;subst go gs;have ez:=Aa fx;clear fx dy;go_wp2_with fail;refine av.o.mono ?_;rintro e L⟨ha,rfl,O,b⟩;obtain⟨na,nc,rfl,_⟩:=O.slr.slice;have hv:=Aa b;have ek:=Aa (Sc.base O (XA _));have e9:=Aa (ba.o.up b);have HZ:Hid (∀W,Zb L W->W.cell? (Zd w5.heap.size 1)=some (Zs (some (Zd g 0)) P.cols.length c1)):=Aa (λW o=>by rw[S.cell_of_heap (((Ap b o).block _ (Ac au.o)).trans au.o)];rfl);have gf:=Aa (Ya (Ac au.o) b.size);have gk:Hid (∀W,Zb L W->F7 4 Wu W (Zs sa A3.length sc) A3):=Aa (λW o=>ar.o.1.up (Ap a6.o (Ap b o)));have eb:=Aa (ce.o.up b);have d5:=Aa (Ap a6.o b);have bf:Hid (∀W,Zb L W->I1 W g 0 P.cols):=Aa (λW o=>ez.o W (Ap b o));clear b O av ba au ce ez c0;obtain⟨iC,f5,f6,f7,f8⟩:=info_parts eI;have af:=Zy f5 f6 f7 f8;clear f5 f6 f7 f8;have ic:∀(fn:Fn)(first bw:Array Tv)(w:Tw),(Instr.makeFunc fn first bw).run prog w=.ok (.func fn first bw) w:=λ_ _ _ _=>rfl
     go_wp2_with fail
     go_loopw [16,17] (λg8 dn wi=>∃(q:Nat)(wa:To)(wc:Nat),q<=R.length/\dn=Zi (q:Int)/\g8=Zs wa q wc/\Hid (Sc L.heap.size wi (Zs wa q wc) ((R.take q).map (ALP P.cols T ts (A3.map (·.2)))))/\Hid (Zb L wi)) (λ_ dn _=>R.length-(intOf dn).toNat)
     case atStart=>exact⟨0,none,0,XA _,rfl,rfl,Aa (ABG _ _),Aa (XE _ _)⟩
     case round=>
      obtain⟨q,wa,wc,hq,rfl,rfl,HO,HK⟩:=hrel
      by_cases hql:q<R.length
      ·obtain⟨r,hr⟩:∃r,R[q]? = some r:=⟨_,XB hql⟩
       obtain⟨vs,o1,o2,o3⟩:=e9.o;obtain⟨x,hx⟩:∃x,vs[q]? = some x:=⟨_,XB (by omega)⟩;have dj:=o3 q x r hx hr;obtain⟨xa,xc,ex,_⟩:=Au dj;subst ex;have ab:=E.Ad o2 HK.o
       obtain⟨rb,g7,f0⟩:∃rb,ra=some (Zd rb 0)/\wr.cell? (Zd rb q)=some (Zs xa r.length xc):=by
        rcases ab.2 with⟨_,h0⟩|⟨fb,bw,gn,ev,_,hh,_,_,_⟩
        ·omega
        injection ev with c9 _ _;subst c9;have hc:=ab.cells (g:=fb) rfl;simp only[E.addr_add] at hc;have:=hc q _ hx;exact⟨fb,rfl,by simpa using this⟩
       subst g7;have ax:=Aa (cu.o r (XJ hr));have dx:=Aa (ALz 0 (Zs xa r.length xc) r.length r wr (E.Ad dj HK.o) (by have:=ax.o;omega));have bv:=Aa (show (R.take (q+1)).map (ALP P.cols T ts (A3.map (·.2)))=(R.take q).map (ALP P.cols T ts (A3.map (·.2)))++[ALP P.cols T ts (A3.map (·.2)) r] from by rw[S.Cs hr,XG];rfl);have g6:(q:Int)<(R.length:Int):=by omega
       have ie:(0:Int)<=(q:Int):=by omega
       clear hr o1 o2 o3 hx dj ab;go_wp2_with fail;refine dx.o.mono ?_;rintro e d⟨a3,c3,rfl,bl,I⟩;have bk:Zb d (d.alloc (Zk #[Zs a3 r.length c3] 54)):=Zal;have am:=Aa (Yae d (Zk #[Zs a3 r.length c3] 54));have b7:=Aa (Ap I bk);have bb:=Aa (E.Ad bl bk);have X:=Aa (Ap HK.o (Ap I bk));have h2:=I.size;have ea:=Aa (AMj P.cols r g 0 c1 d.heap.size w5.heap.size (Zs a3 r.length c3) T v _ h8 (bf.o _ X.o) ax.o gv (E.Cy bb.o) (HZ.o _ X.o) (AKl am.o).1 (Ya gf.o X.o.size) (Ac am.o) (eb.o.up X.o) dq.o.1 dq.o.2);have dr:=Aa I;have ed:=Aa (Ap HK.o I);have ga:=Aa bk;clear bl I bk dx f0;go_wp2_with fail;refine ea.o.mono ?_;rintro e aj⟨rfl,aa⟩;have a5:=Aa (Ap b7.o aa);have a7:=Aa (Ap X.o aa);have dz:=Aa (Ap ga.o aa);have ah:=Aa ((aa.block _ (Ac am.o)).trans am.o);have bc:=Aa (E.Ad bb.o aa);have kK:=AKl ah.o;clear aa ea am b7 bb X;have di:((R.take q).map (ALP P.cols T ts (A3.map (·.2)))).length=q:=by rw[Y',XH];omega
       obtain⟨us,u1,u2,u3⟩:=HO.o;rw[di] at u1 u2;have e7:=Aa u1;have az:=Aa u2;have e8:=Aa u3;have aw:=Aa di;clear u1 u2 u3 di
       by_cases hp:evR P.cols r T=1
       ·have hF:ALP P.cols T ts (A3.map (·.2)) r=tU (Ly ts (A3.map (·.2))) r:=by unfold ALP;rw[Yag hp]
        rw[hF] at bv;clear hF;generalize evR P.cols r T=ev at *;subst hp;have dv:=Aa (ALz wr.heap.size (Zs a3 r.length c3) r.length r aj bc.o (by have:=ax.o;omega));go_wp2_with fail;refine dv.o.mono ?_;rintro e b5⟨a4,c4,rfl,aq,bg⟩
        obtain⟨J,gp,g0⟩:∃J,a4=some (Zd J 0)/\aj.heap.size<=J:=by
         rcases Di aq with⟨_,e0⟩|⟨J,c,e1,g1,_⟩
         ·have:=ax.o;omega
         injection e1 with e1 _ _;exact⟨J,e1,g1⟩
        subst gp;have ci:=Aa ((bg.block _ (Ac ah.o)).trans ah.o);have f9:=AKl ci.o;have a9:Hid (d.heap.size<J):=Aa (by have:=Ac ah.o;omega);have cb:Hid (Zb d (b5.setCell (Zd d.heap.size 0) (Zs (some (Zd J 0)) r.length c4))):=Aa ((Ap dz.o bg).setCell (p:=Zd d.heap.size 0) (XC _) _)
        have cf:Hid ((b5.setCell (Zd d.heap.size 0) (Zs (some (Zd J 0)) r.length c4)).ownsRow aj.heap.size 48 3 (Zs (some (Zd J 0)) r.length c4) r.length (E.A1 (tU (Ly (ts.take 0) ((A3.map (·.2)).take 0)) r))):=Aa (by
         rw[X',X',AM2]
         exact Az aq (Aq _ _ _ _) (λq hq e=>by injection e with e;simp[Value.ownBlock] at hq;have:=a9.o;omega))
        have ee:Hid ((b5.setCell (Zd d.heap.size 0) (Zs (some (Zd J 0)) r.length c4)).cell? (Zd d.heap.size 0)=some (Zs (some (Zd J 0)) r.length c4)):=Aa (World.cell?_setCell_same' _ _ _ (by rw[f9.1];rfl));clear aq bg dv g0 kK ah bc ci;go_wp2_with fail
        go_loopw [19] (λvi wi=>∃k:Nat,k<=A3.length/\vi=Zi (k:Int)/\Hid (wi.cell? (Zd d.heap.size 0)=some (Zs (some (Zd J 0)) r.length c4))/\Hid (wi.ownsRow aj.heap.size 48 3 (Zs (some (Zd J 0)) r.length c4) r.length (E.A1 (tU (Ly (ts.take k) ((A3.map (·.2)).take k)) r)))/\Hid (Zb d wi)) (λvi _=>A3.length-(intOf vi).toNat)
        case atStart=>exact⟨0,XA _,rfl,ee,cf,cb⟩
        case round=>
         obtain⟨k,hk,rfl,HC,br,cq⟩:=hrel;have al:Hid (Zb L wr):=Aa (Ap ed.o cq.o);clear ee cf cb f9
         by_cases bz:k<A3.length
         ·obtain⟨s,hs⟩:∃s,A3[k]? = some s:=⟨_,XB bz⟩
          obtain⟨t,ht⟩:∃t,ts[k]? = some t:=⟨_,XB (by rw[bt.o.len];exact bz)⟩;obtain⟨df,b4⟩:=bt.o.find k t s ht hs;obtain⟨sb,so,g9,es,_,_,ai⟩:=(gk.o wr al.o).cons (by omega);injection es with c7 _ c8;subst c7 c8;have e4:=Aa (AM0 (vs:=A3.map (·.2)) bt.o.once ht (by rw[XV,hs];rfl) r);obtain⟨nm,vk,vn,vt⟩:=s;have s0:=ai k _ hs 0 _ rfl;have s1:=ai k _ hs 1 _ rfl;have s2:=ai k _ hs 2 _ rfl;have s3:=ai k _ hs 3 _ rfl;simp only[XU] at s0;simp only at e4 df s0 s1 s2 s3;have cr:=Aa (λW(o:Zb wr W)=>E8 g 0 c1 P.cols nm W (bf.o W (Ap al.o o)) h8);simp only[df] at cr;have sZ:=HZ.o wr al.o;have bd:Hid (∀W,Zb wr W->W.cell? (Zd sb (so+k*4))=some (Zt nm)):=Aa (λW o=>Ag o s0);have g3:(k:Int)<(A3.length:Int):=by omega
          have ia:(0:Int)<=(k:Int):=by omega
          have ij:(t:Int)<(r.length:Int):=by have:=ax.o;omega
          have ih:(0:Int)<=(t:Int):=by omega
          have ii:¬(t:Int)<0:=by omega
          have gm:Hid (t<r.length):=Aa (by have:=ax.o;omega);clear ai hs ht df b4;have ad:=Aa ((XE wr.heap.size wr).drew);have bp:Hid (∀W,Zb wr W->W.cell? (Zd w5.heap.size 1)=some (Zs (some (Zd g 0)) P.cols.length c1)/\W.cell? (Zd sb (so+k*4))=some (Zt nm)):=Aa (λW o=>⟨HZ.o W (Ap al.o o),bd.o W o⟩);obtain⟨y0,y1⟩:=bp.o _ ad.o;clear s0 sZ bd;go_wp2_with fail
          go_region_held3 (λW=>W.cell? (Zd w5.heap.size 1)=some (Zs (some (Zd g 0)) P.cols.length c1)/\W.cell? (Zd sb (so+k*4))=some (Zt nm))
           (first
             | exact bp.o _ ad.o
             | exact bp.o _ f
             | (go_keep;done)
             | fail)
           (first
             | (go_at_call 15
                refine(cr.o _ ad.o).mono ?_;rintro e b6⟨rfl,bh⟩;have f:=Ap ad.o bh;clear bh)
             | fail)
          clear y0 y1 bp;have d1:=Ag f s1;have d2:=Ag f s2;have d3:=Ag f s3;have kB:=Ag f HC.o;have q1:=E.Ad br.o f;have gz:(E.A1 (tU (Ly (ts.take k) ((A3.map (·.2)).take k)) r)).length=r.length*3:=by rw[E.K3];unfold tU;rw[YN]
          have b4:=gm.o;obtain⟨z0,ik⟩:∃z,b6.cell? (Zd J (t*3))=some z:=by rw[q1.cellAt (t*3) (by omega)];exact⟨_,XB (by omega)⟩
          obtain⟨z1,il⟩:∃z,b6.cell? (Zd J (t*3+1))=some z:=by rw[q1.cellAt (t*3+1) (by omega)];exact⟨_,XB (by omega)⟩
          obtain⟨z2,im⟩:∃z,b6.cell? (Zd J (t*3+2))=some z:=by rw[q1.cellAt (t*3+2) (by omega)];exact⟨_,XB (by omega)⟩
          have f0:=q1.frozenAt (t*3);have f1:=q1.frozenAt (t*3+1);have f2:=q1.frozenAt (t*3+2);have eo:=Aa (AF9 (E.Ad br.o f.drew) (by unfold tU;rw[YN]) b4 vk vn vt);rw[e4.o] at eo;have gb:=Aa (((Ap cq.o f.drew).setCell (p:=Zd J (t*3)) (XW a9.o) (Zi vk)).setCell (p:=Zd J (t*3+1)) (XW a9.o) (Zi vn) |>.setCell (p:=Zd J (t*3+2)) (XW a9.o) (Zt vt))
          have am:Hid ((aL b6.drew J (t*3) (Zi vk) (Zi vn) (Zt vt)).cell? (Zd d.heap.size 0)=some (Zs (some (Zd J 0)) r.length c4)):=Aa (by
           have ap:∀i,((Zd J i):Addr)≠(Zd d.heap.size 0):=λi e=>by have:=congrArg Addr.block e;have h4:=a9.o;simp only at this;omega
           unfold aL;rw[Yy _ _ _ _ (ap _),Yy _ _ _ _ (ap _),Yy _ _ _ _ (ap _)];exact Ag f.drew HC.o)
          clear q1 gz b4 f s1 s2 s3 cr ad;go_wp2_with fail
          go_region
          go_wp2
          go_roundw
          case rel=>exact⟨k+1,by omega,by go_num,am,eo,gb⟩
          case measure=>simp[intOf];omega
         have g3:¬(k:Int)<(A3.length:Int):=by omega
         have ft:k=A3.length:=by omega
         have bs:Hid (wr.ownsRow aj.heap.size 48 3 (Zs (some (Zd J 0)) r.length c4) r.length (E.A1 (tU (Ly ts (A3.map (·.2))) r))):=Aa (by have h:=br.o;rw[ft,Yd (Wb bt.o.len),Yd (Wb (Y' _))] at h;exact h)
         have ak:=Aa (Ap dr.o cq.o);have n:Hid (Zb wr (wr.alloc (Zk #[Zs (some (Zd J 0)) r.length c4] 54))):=Aa (Zal);have bm:=al.o.size;have kB:=HC.o;clear br ft
         go_wp2_with (first
          | (at_builtin;refine wpList_append_own _ rfl _ _ 36 rfl L.heap.size 54 iC (.slice none 0 0) 1 24 underlying36 af.o.1 af.o.2.1 af.o.2.2.1 af.o.2.2.2 rfl (by decide) (.slice wa q wc) _ us rfl (E.Ad az.o (Ap ak.o n.o)) (Zd wr.heap.size 0) 1 1 [.slice (some (Zd J 0)) r.length c4] rfl rfl (λj u hj=>XK (Yae _ _) j u hj) (by intro u hu;simp at hu;subst hu;rfl) (by unfold maxLen;omega) (by omega) (XF bm n.o.size) ?_
             intro v5 ip G ao _;obtain⟨a',c',rfl,_⟩:=Au G;have bq:=Aa G;have cs:=Aa ao;have dt:=Aa ((Ap al.o n.o).grown ao (Ap al.o n.o).size (λj hj=>Fu az.o hj));clear G ao))
         go_roundw
         case rel=>
          refine⟨q+1,a',c',by omega,by go_num,rfl,Aa ?_,dt⟩;rw[bv.o];have fu:(tU (Ly ts (A3.map (·.2))) r).length=r.length:=by unfold tU;rw[YN]
          exact Sc.snoc (by rw[e7.o,aw.o]) (by rw[aw.o];exact E.Ad az.o (Ap ak.o n.o)) (λj x q hx hq=>E.Ad (e8.o j x q hx hq) (Ap ak.o n.o)) (by rw[fu];exact E.Ai (E.Ad bs.o n.o) (XA _)) cs.o (by rw[aw.o];first|exact bq.o|(rw[fu];exact bq.o))
         case measure=>simp[intOf];omega
       have hF:ALP P.cols T ts (A3.map (·.2)) r=r:=by unfold ALP;rw[Yaf hp]
       rw[hF] at bv;clear hF;generalize evR P.cols r T=ev at *;have n:Hid (Zb aj (aj.alloc (Zk #[Zs a3 r.length c3] 54))):=Aa (Zal);have bm:=a7.o.size
       go_wp2_with (first
        | (at_builtin;refine wpList_append_own _ rfl _ _ 36 rfl L.heap.size 54 iC (.slice none 0 0) 1 24 underlying36 af.o.1 af.o.2.1 af.o.2.2.1 af.o.2.2.2 rfl (by decide) (.slice wa q wc) _ us rfl (E.Ad az.o (Ap a5.o n.o)) (Zd aj.heap.size 0) 1 1 [.slice a3 r.length c3] rfl rfl (λj u hj=>XK (Yae _ _) j u hj) (by intro u hu;simp at hu;subst hu;rfl) (by unfold maxLen;omega) (by omega) (XF bm n.o.size) ?_
           intro v5 b5 G ao _;obtain⟨a',c',rfl,_⟩:=Au G;have bq:=Aa G;have cs:=Aa ao;have ds:=Aa ((Ap a7.o n.o).grown ao (Ap a7.o n.o).size (λj hj=>Fu az.o hj));clear G ao))
       refine⟨⟨q+1,a',c',by omega,by go_num,rfl,Aa ?_,ds⟩,by simp[intOf];omega⟩;rw[bv.o];exact Sc.snoc (by rw[e7.o,aw.o]) (by rw[aw.o];exact E.Ad az.o (Ap a5.o n.o)) (λj x q hx hq=>E.Ad (e8.o j x q hx hq) (Ap a5.o n.o)) (E.Ai (E.Ad bc.o n.o) (XA _)) cs.o (by rw[aw.o];exact bq.o)
      have g6:¬(q:Int)<(R.length:Int):=by omega
      have dk:q=R.length:=by omega
      have ej:Hid (Sc L.heap.size wr (Zs wa q wc) (R.map (ALP P.cols T ts (A3.map (·.2))))):=Aa (by have h:=HO.o;rw[dk,Ye] at h;rw[dk];exact h);have gl:=Aa (cU gh.o)
      have eh:Hid (∀r∈R.map (ALP P.cols T ts (A3.map (·.2))),r.length<=1000):=Aa (λr hr=>by
       obtain⟨z,hz,rfl⟩:=List.mem_map.1 hr;have:=cu.o z hz;unfold ALP;split
       ·unfold tU
        rw[YN];omega
       omega)
      have eg:Hid ((R.map (ALP P.cols T ts (A3.map (·.2)))).length<=1000000):=Aa (by rw[Y'];omega);have gi:=Aa (λW(o:Zb wr W)=>AL1 0 (Zs na R.length nc) Y W (by have h:=ek.o.up (Ap HK.o o);rw[g5] at h;exact h) (by omega) gg.o);have gj:=Aa (λW(o:Zb wr W)=>AL1 L.heap.size (Zs wa q wc) (R.map (ALP P.cols T ts (A3.map (·.2)))) W (ej.o.up o) eg.o eh.o);clear HO dk ej;generalize R.map (ALP P.cols T ts (A3.map (·.2)))=M at *;go_wp2_with fail;refine(gi.o _ (XE _ _)).mono ?_;rintro e iq⟨hd,rfl,cj,cl⟩;have ep:=Aa cj;have b8:=Aa cl;clear cj cl;go_wp2_with fail;refine(gj.o _ b8.o).mono ?_;rintro e hn⟨hf,rfl,ck,bi⟩;have ct:=Aa (ACk hd hf (Ir M) hn (by have h:=ep.o.up bi;rw[gl.o] at h;exact h) ck (by rw[Ml];exact eg.o) (λr hr=>eh.o r (AMl hr)));have HF:=Aa (Ap d5.o (Ap HK.o (Ap b8.o bi)));clear ck bi;go_wp2_with fail;refine ct.o.mono ?_;rintro e ir⟨rfl,cm⟩;have d7:=Aa (Ap HF.o cm);clear cm;go_wp2;go_ret;exact⟨rfl,d7.o⟩
def mO(e:Vc):Gx:=((2,e.1,0,[],[],0),(none,0,0),(none,0,0))
theorem sL(s:Ah)(v:Int)(a1:To)(n1 c1:Nat)(x2:Int)(V:To)(n2 c2:Nat)(w:Tw)(hS:Dl w s (K4 v a1 n1 c1 x2 V n2 c2))(O5:s.files.length<=1000)(hz:∀e∈s.files,e.1.size<=maxLen):
 Zc 81 #[Zs V n2 c2] w λe w'=>∃a c,e=Zr (Zs a s.files.length c)/\w'.ownsRow w.heap.size 145 6 (Zs a s.files.length c) s.files.length (Ci (s.files.map mO))/\Zb w w':=by
 obtain⟨b1,d1,b2,d2,Ls,x,X⟩:=hS;unfold K4 at x;simp only[Value.agg.injEq,Array.mk.injEq,List.cons.injEq,Value.int.injEq,Value.slice.injEq] at x;obtain⟨-,-,-,⟨e1,e2,e3⟩,-⟩:=x;subst e1 e3;have o:s.files.length=Ls.length:=by rw[X.files,Y']
 have r:=Aa o;have ac:n2=s.files.length:=by omega
 subst ac;have HV:=Aa X;obtain⟨iA,I,p⟩:=Option.map_eq_some_iff.1 gO;simp only[Prod.mk.injEq] at p;have h:=Aa (And.intro I p);have HZ:=Aa hz;clear X o I p hz e2;go_enter func81,ntmps81;go_wp2_with fail
 go_loopw [3,8] (λvo vi wr=>∃(k:Nat)(a:To)(c:Nat),k<=s.files.length/\vi=Zi (k:Int)/\vo=Zs a k c/\Hid (wr.ownsRow w.heap.size 145 6 (Zs a k c) k (Ci ((s.files.take k).map mO)))/\Hid (Zb w wr)) (λ_ vi _=>s.files.length-Ev vi)
 case atStart=>exact⟨0,none,0,XA _,rfl,rfl,Aa (XM _ _ _ _),Aa (XE _ _)⟩
 case round=>
  obtain⟨k,a,c,hk,rfl,rfl,R,L⟩:=hrel
  rcases Yc k s.files.length with ah|ag
  ·obtain⟨y,q⟩:∃y,Ls[k]? = some y:=⟨_,XB (by have:=r.o;omega)⟩
   have D:s.files[k]? = some y.1:=by rw[HV.o.files,XV,q];rfl
   obtain⟨⟨b,M,mask⟩,ma,mn,mc⟩:=y;have f:=Bc HV.o.row L.o
   obtain⟨fb,Y,o,e0,e1,af⟩:∃fb,V=some (Zd fb 0)/\fb<wr.heap.size/\wr.cell? (Zd fb (k*3))=some (Zt b)/\wr.cell? (Zd fb (k*3+1))=some (Zi M)/\wr.cell? (Zd fb (k*3+2))=some (Zs ma mn mc):=by
    rcases f.2 with⟨_,h0⟩|⟨fb,ad,ae,x,_,hh,_,_,_⟩
    ·have:=r.o;omega
    injection x with W _ _;subst W;have hc:=f.cells (g:=fb) rfl;simp only[E.addr_add] at hc
    have n:∀(i:Nat)u,(Lv ((b,M,mask),ma,mn,mc))[i]? = some u->wr.cell? (Zd fb (k*3+i))=some u:=λi u N=>by have:=hc (k*3+i) u (Hi (k:=3) (enc:=Lv) (λ_=>rfl) q N);simpa using this
    exact⟨fb,rfl,E.Ac hh,n 0 _ rfl,n 1 _ rfl,n 2 _ rfl⟩
   subst Y;have ab:(k:Int)<(s.files.length:Int):=by omega
   have U:Hid ((s.files.take (k+1)).map mO=(s.files.take k).map mO++[mO (b,M,mask)]):=Aa (by rw[S.Cs D];simp);obtain⟨t0,t1,t2,t3⟩:=C1 wr (Zk #[Zt b,Zi M,Zs ma mn mc] 119) (Zk #[Zi 2,Zt b,Zi 0,Zs none 0 0,Zs none 0 0,Zi 0] 145);have l:=Aa t3;have P:=Aa t2;have J:=L.o.size;clear f q D t0 t1 t2 t3
   go_wp2_with (first
    | (at_builtin;refine wpList_append_own _ rfl _ _ 76 rfl w.heap.size 145 iA Mi 6 88 underlying76 h.o.1 h.o.2.1 h.o.2.2.1 h.o.2.2.2 rfl (by decide) (.slice a k c) k _ rfl (Bc R.o l.o) (Zd (wr.heap.size+1) 0) 1 1 [Zi 2,.string b,Zi 0,.slice none 0 0,.slice none 0 0,Zi 0] rfl rfl (λj u hj=>XK P.o j u hj) (by intro u N;simp only[XS,XN,or_false] at N;rcases N with rfl|rfl|rfl|rfl|rfl|rfl <;> rfl) (by unfold maxLen;omega) (by omega) (XF J l.o.size) ?_
       intro v5 w5 d G _;have t:=Aa d;have O:=Aa G;clear d G))
   obtain⟨a',c',rfl,_⟩:=Au t.o;have z:=Ap L.o l.o;refine⟨⟨k+1,a',c',by omega,by simp,rfl,Aa ?_,Aa (z.grown O.o z.size (λj hj=>Fu R.o hj))⟩,by simp only[Ev];omega⟩;rw[U.o];simpa[Ci,nU,mO,sv] using t.o
  have ab:¬((k:Int)<(s.files.length:Int)):=by omega
  have aa:k=s.files.length:=by omega
  subst aa;have m:=R.o;rw[Ye] at m;have T:=Aa m;clear m;go_wp2;go_ret;exact⟨_,_,rfl,T.o,L.o⟩
def Uj(x:Ef):Bool:=decide (0<x.2.2.1)
theorem AES(w:Tw):PredBelow prog 127 #[] (λx:Ef=>Zg (Lv x).toArray) Uj w:=λW c hb=>by
 obtain⟨⟨p,r,m⟩,b,a,d⟩:=c;show Zc 127 #[Zg #[Zt p,Zi r,Zs b a d]] W _;have e:Hid (Uj ((p,r,m),b,a,d)=decide (0<a)):=rfl;generalize Uj ((p,r,m),b,a,d)=q at *
 by_cases hq:0<a
 ·have f:(0:Int)<(a:Int):=by omega
  go_enter func127,ntmps127;go_wp2
  all_goals (go_ret;exact⟨(by rw[e.o];simp[hq]),hb.alloc hb.size _⟩)
 have f:¬(0:Int)<(a:Int):=by omega
 go_enter func127,ntmps127;go_wp2
 all_goals (go_ret;exact⟨(by rw[e.o];simp[hq]),hb.alloc hb.size _⟩)
theorem dO(a:To)(c:Nat)(b:Tv)(w:Tw):Zc 185 #[Zs a 0 c,b] w λe d=>e=Zr (Zi (-1))/\d=w:=by go_enter func185,ntmps185;go_wp2_with fail;refine wp_loop_rounds 1 ?_;rw[rounds_succ];go_wp2;go_ret;exact⟨rfl,rfl⟩
theorem AF2(a:To)(c:Nat)(b:Tv)(w:Tw):Zc 126 #[Zs a 0 c,b] w λe d=>e=Zr (Zo false)/\d=w:=by go_enter func126,ntmps126;go_wp2_with fail;refine(dO a c _ _).mono ?_;rintro e f⟨rfl,rfl⟩;go_wp2;go_ret;exact⟨rfl,rfl⟩
theorem AGc(a:To)(c:Nat)(b:List Ef)(w:Tw)(h:w.ownsRow 0 119 3 (Zs a b.length c) b.length (A8 b))(y:b.length<=1000):
 Zc 126 #[Zs a b.length c,.func (.func 127) #[] #[]] w λe o=>e=Zr (Zo (b.any Uj))/\Zb w o:=by
 rcases h.2 with⟨e0,t⟩|⟨g,p,q,s,_,u,_,_,_⟩
 ·have:b=[]:=Yai.1 t
  subst this;refine(AF2 a c _ w).mono ?_;rintro e o⟨rfl,rfl⟩;exact⟨rfl,XE _ _⟩
 injection s with l _ _;subst l;have r:∀args w,(callFunc 127 args).run prog w=.ok (.enter 127 args) w:=enters_of func127 (by kernel_rfl) rfl
 have f:∀j,j<b.length->∀i v,(Lv b[j]!)[i]? = some v->w.cell? (Zd g (0+j*3+i))=some v:=λj n i v x=>by have m:=h.cells (g:=g) rfl;simp only[E.addr_add] at m;have:=m (j*3+i) v (Hi (k:=3) (enc:=Lv) (λ_=>rfl) (by rw[XB n,<-getElem!_pos b j n]) x);simpa using this
 have d:=AnyQ.slices_ContainsFunc layConE 3 isAgg119 sizeOf119 Lv (λ_=>rfl) Uj 127 #[] r g 0 b.length c b w (AES w) (XC _) (by omega) (E.Ac u) f;rw[Ye] at d;exact d
theorem AGE{w:Tw}{s:Ah}{v u:Tv}{d:List Ef}(h:X8 w s v u d):d.any Uj=!decide (∀e∈s.files,e.2.2=[]):=by
 have g:∀x∈d,x.2.2.1=x.1.2.2.length:=λx b=>by obtain⟨a,c,e,_⟩:=Au (h.Cl x b);obtain⟨_,m,n,o⟩:=x;unfold sv at e;injection e with _ e _
 rw[Y2];simp only[List.any_eq_true,Bool.not_eq_true',decide_eq_false_iff_not,Uj,decide_eq_true_eq,h.files,List.mem_map];constructor
 ·rintro⟨x,b,f⟩j
  have i:=j _ ⟨x,b,rfl⟩;rw[g x b,i] at f;simp at f
 intro l;refine Classical.byContradiction λk=>l ?_
 rintro e⟨x,b,rfl⟩;refine Yai.1 (Classical.byContradiction λf=>k ⟨x,b,?_⟩);rw[g x b];omega
theorem nW(s:Ah)(v:Int)(o:To)(n1 c1:Nat)(D:Int)(i:To)(n2 j:Nat)(n:Nat)(w:Tw)(u:Dl w s (K4 v o n1 c1 D i n2 j))(O5:s.files.length<=1000)(N:n<=100000):
 Zc 78 #[Zs i n2 j,Zi (n:Int)] w λe y=>∃q,e=Zr (Zo q)/\(q=true↔Tog s n)/\Zb w y:=by
 obtain⟨I,L,J,M,c,k,g⟩:=u;unfold K4 at k;simp only[Value.agg.injEq,Array.mk.injEq,List.cons.injEq,Value.int.injEq,Value.slice.injEq] at k;obtain⟨-,-,-,⟨p,r,t⟩,-⟩:=k;subst p t;have f:s.files.length=c.length:=by rw[g.files,Y']
 have l:n2=c.length:=by omega
 subst l;have m:=AGE g;have a:=AGc i j c w g.row (by omega)
 have h:Hid ((!c.any Uj && decide (c.length<=(n+59) / 60))=true↔Tog s n):=Aa (by rw[m];unfold Tog n60;rw[f];simp)
 clear g f m r;generalize c.any Uj=z at *
 have x:(((n:Int)+60-1).tdiv 60)=(((n+59) / 60:Nat):Int):=by rw[Int.tdiv_eq_ediv_of_nonneg (by omega)];omega
 have G:=Aa x;go_enter func78,ntmps78;go_wp2_with fail;refine a.mono ?_;rintro e O⟨rfl,d⟩;have b:=Aa d;clear d a;cases z with
 | true=>go_wp2;go_ret;exact⟨_,rfl,h.o,b.o⟩
 | false=>
   by_cases hle:c.length<=(n+59) / 60
   ·go_wp2
    go_ret;exact⟨true,(by simp;omega),(by simpa[hle] using h.o),b.o⟩
   go_wp2;go_ret;exact⟨false,(by simp;omega),(by simpa[hle] using h.o),b.o⟩
theorem cH:∀l:List Gx,(Ci l).length=l.length*6
 | []=>rfl
 | c :: l=>by simp only[Ci,List.flatMap_cons,XT,XI];have:=cH l;simp only[Ci] at this;rw[this];simp[nU];omega
theorem yB(l:List Gx):∀u∈Ci l,u.oneCell'=true:=by
 intro u b;simp only[Ci,List.mem_flatMap] at b;obtain⟨c,_,a⟩:=b;simp only[nU,XS,XN,or_false] at a
 rcases a with rfl|rfl|rfl|rfl|rfl|rfl <;> rfl
theorem iQ(a b:List Gx):Ci (a++b)=Ci a++Ci b:=by simp[Ci]
theorem pL(n:Nat):(Builtin.zeroCells Mi.cells n).size=n*6:=by simp[Builtin.zeroCells,show Mi.cells.size=6 from rfl]
theorem AB8(n:Nat)(w:Tw)(o:1<=n)(p:n<=1000):
 Zc 129 #[Zs none 0 0,Zi n] w λe i=>∃k j,e=Zr (Zs (some (Zd k 0)) 0 j)/\i.ownsRow w.heap.size 145 6 (Zs (some (Zd k 0)) 0 j) 0 (Ci [])/\Zb w i:=by
 obtain⟨m,f,b⟩:=Option.map_eq_some_iff.1 gO;simp only[Prod.mk.injEq] at b;obtain⟨g,l,h⟩:=b;refine(Any8.slices_Grow_grow layGroA m Mi f g (by omega) none 0 0 n [] w (XC _) (by omega) (by rw[h];omega) (by omega) (by simp) (λ_=>rfl) (λa ha=>by cases ha)).mono ?_;rintro e i⟨rfl,rfl⟩;have d:0+n<=grownCap w (0+n) 0 145:=grownCap_ge w _ _ _;have c:grownCap w (0+n) 0 145<=maxLen:=grownCap_le_maxLen w (0+n) 0 145 (by unfold maxLen;omega);refine⟨_,_,rfl,?_,((XE _ _).drew).alloc (XC _) _⟩
 change (w.drew.alloc (Zk (#[]++Builtin.zeroCells Mi.cells (0+n-0)++Builtin.zeroCells Mi.cells (grownCap w (0+n) 0 145-(0+n))) 145)).ownsRow w.heap.size 145 6 (Zs (some (Zd w.heap.size 0)) 0 (grownCap w (0+n) 0 145)) 0 []
 generalize grownCap w (0+n) 0 145=G at d c;exact YS (w:=w.drew) _ G (XC _) c (by simp only[Array.size_append,pL,Array.size_empty];omega)
theorem Oa{n:Array Oper}{rest:List Oper}{o:Oper}{a:Act}{Q:Exit->Act->Tw->Prop}{W:Tw}(i:o.guard=none)(s x:Operand)(z:o.op=.call { callee:=.builtin .append,args:=#[s,x],argTypes:=#[76,76] })(base g c:Nat)(l:List Gx)(D:a.eval s=Zs (some (Zd g 0)) l.length c)(b:W.ownsRow base 145 6 (Zs (some (Zd g 0)) l.length c) l.length (Ci l))(L:Nat)(J:Tv)(m:List Gx)(G:a.eval x=J)(y:W.ownsRow L 145 6 J m.length (Ci m))(U:l.length+m.length<=1000)(e:base<=W.heap.size)(h:∀q f p,Hid (p.ownsRow base 145 6 (Zs (some (Zd q 0)) (l.length+m.length) f) (l.length+m.length) (Ci (l++m))/\W.grownBy p (some g))->wpList prog n Q rest (a.put o.dst (Zs (some (Zd q 0)) (l.length+m.length) f)) p):wpList prog n Q (o :: rest) a W:=by
 obtain⟨I,j,k⟩:=Option.map_eq_some_iff.1 gO;simp only[Prod.mk.injEq] at k;obtain⟨r,t,u⟩:=k
 rcases Di y with⟨d,O⟩|⟨v,N,d,-,-,-,-⟩
 ·have:m=[]:=Yai.1 O
  subst this d;refine wpList_append_own_none i s x 76 z base 145 I 6 underlying76 j _ _ _ D b G ?_;exact h g c W ⟨by simpa using b,World.grownBy.refl _ _⟩
 subst d;have T:=y.cells (g:=v) rfl;refine wpList_append_own W i s x 76 z base 145 I Mi 6 88 underlying76 j r t u rfl (by omega) _ _ _ D b (Zd v 0) m.length N (Ci m) G (cH m) T (yB m) (by unfold maxLen;omega) (by omega) e ?_;intro v' p w P R
 rcases Di w with⟨d,_⟩|⟨q,M,d,-,-,-,-⟩
 ·exact absurd (R.1 d).1 (by simp)
 subst d;exact h q M p ⟨by rw[iQ];exact w,P⟩
theorem uO(p:Nat)(n o:To)(c1 q:Nat)(a b:List Gx)(u v:Nat)(w:Tw)(s:w.cell? (Zd p 0)=some (Zs n a.length c1))(t:w.cell? (Zd p 1)=some (Zs o b.length q))(J:p<w.heap.size)(G:w.ownsRow u 145 6 (Zs n a.length c1) a.length (Ci a))(I:w.ownsRow v 145 6 (Zs o b.length q) b.length (Ci b))(V:1<=a.length+b.length)(X:a.length+b.length<=1000):
 Zc 80 #[Zs (some (Zd p 0)) 2 2] w λe m=>∃i h,e=Zr (Zs (some (Zd i 0)) (a.length+b.length) h)/\m.ownsRow w.heap.size 145 6 (Zs (some (Zd i 0)) (a.length+b.length) h) (a.length+b.length) (Ci (a++b))/\Zb w m:=by
 have O:Hid (Zc 129 #[Zs none 0 0,Zi ((a.length:Int)+(b.length:Int))] w λe m=>∃i h,e=Zr (Zs (some (Zd i 0)) 0 h)/\m.ownsRow w.heap.size 145 6 (Zs (some (Zd i 0)) 0 h) 0 (Ci [])/\Zb w m):=by have:=AB8 (a.length+b.length) w V X;rwa[show ((a.length+b.length:Nat):Int)=(a.length:Int)+(b.length:Int) by omega] at this
 have M:=Aa G;have N:=Aa I;have x:Hid (∀W,Zb w W->W.cell? (Zd p 0)=some (Zs n a.length c1)/\W.cell? (Zd p 1)=some (Zs o b.length q)):=λW D=>⟨(D.cell (p:=Zd p 0) J).trans s,(D.cell (p:=Zd p 1) J).trans t⟩
 clear G I;have n1:¬(a.length:Int)<0:=by omega
 have n2:¬(a.length:Int)+(b.length:Int)<0:=by omega
 have Y:IntKind.i64.wrap ((a.length:Int)+(b.length:Int))=(a.length:Int)+(b.length:Int):=by rw[IntKind.wrap_i64];omega
 have n4:IntKind.i64.wrap (a.length:Int)=(a.length:Int):=by rw[IntKind.wrap_i64];omega
 go_enter func80,ntmps80;go_wp2;refine wp_loop_rounds 3 ?_;rw[rounds_succ];go_wp2;rw[rounds_succ];go_wp2;rw[rounds_succ]
 go_wp2_with (first
  | (go_at_call 129;refine O.o.mono ?_;rintro e w1⟨T,P,rfl,k,c⟩;obtain⟨r0,r1⟩:=x.o _ c))
 refine wp_loop_rounds 3 ?_;rw[rounds_succ];go_wp2_with (at_builtin;refine Oa rfl _ _ rfl w.heap.size T P [] rfl k u _ a rfl (Bc M.o c) (by simp;omega) c.size ?_;intro z y L f;have d:Zb w L:=c.grown f.o.2 c.size (λj hj=>by cases hj;exact(k.lt _ rfl).1);obtain⟨s0,s1⟩:=x.o _ d;have g:Hid (L.ownsRow w.heap.size 145 6 (Zs (some (Zd z 0)) a.length y) a.length (Ci a)):=Aa (by have:=f.o.1;simpa using this);clear f);rw[rounds_succ];go_wp2_with (at_builtin;refine Oa rfl _ _ rfl w.heap.size z y a rfl g.o v _ b rfl (Bc N.o d) (by omega) d.size ?_;intro U R w5 l;have r:Zb w w5:=d.grown l.o.2 d.size (λj hj=>by cases hj;exact(g.o.lt _ rfl).1));rw[rounds_succ];go_wp2;go_ret;exact⟨U,R,rfl,l.o.1,r⟩
attribute [local go_sem] Oper.semAt_some
theorem qS(b:To)(len a:Nat)(w:Tw):
 Zc 79 #[Zs b len a,Zi 60] w λe c=>e=Zr (.func (.func 128) #[] #[Zp (some (Zd w.heap.size 0)),Zp (some (Zd (w.heap.size+1) 0))])/\c=(w.alloc (Zk #[Zs b len a] 36)).alloc (Zk #[Zi 60] 3):=by
 go_enter func79,ntmps79;go_wp2;go_ret;exact⟨rfl,rfl⟩
abbrev CK6(n:Nat):={ k:Nat // 60*k<n }
def AG1{n:Nat}(x:CK6 n):Nat:=x.1
def nE(n k:Nat):Nat:=if n-60*k<60 then n-60*k else 60
def ACt(b off n:Nat)(k:CK6 n):Value:=.slice (some ⟨b,off+60*k.1,none⟩) (nE n k.1) (nE n k.1)
theorem xD(n:Nat)(_hn:1<=n)(l h g b off len a:Nat)(r:To)(d:0<len->r=some (Zd b off))(hlen:len<=100000)(N:len<=a)(J I:List (CK6 len)->Tw->Prop)(y:∀pre W,J pre W->J pre W.drew)(hY:∀pre x W,J pre W->pre.length<n60 len->YieldAt Fence.wide (n-1) prog l #[ACt b off len x] W λe f=>
   (e=Zr (Zo true)/\J (pre++[x]) f/\KpC h g W f)\/(e=Zr (Zo false)/\I (pre++[x]) f))(W:Tw)(u:W.cell? (Zd h 0)=some (Zs r len a))(t:W.cell? (Zd g 0)=some (Zi 60))(h0:J [] W):
 CallsIn Fence.wide n prog 128 #[.func (.yield l) #[] #[],Zp (some (Zd h 0)),Zp (some (Zd g 0))] W λe f=>(∃v,e=Zr v) /\
  ((∃T:List (CK6 len),T.map AG1=List.range (n60 len)/\J T f)\/(∃pre:List (CK6 len),True/\I pre f)):=by
 refine callsIn_of_wp func128 rfl trivial ?_ rfl;simp only[ntmps128,XX,XI,X4,Nat.reduceAdd,Nat.reduceSub,XO,XP,XY,XR,X6,XZ];gi_wp2
 gi_loopw [4] (λi wr=>∃(k:Nat)(pre:List (CK6 len)),k<=n60 len/\i=Zi ((60*k:Nat):Int)/\pre.map AG1=List.range k/\J pre wr/\wr.cell? (Zd h 0)=some (Zs r len a)/\wr.cell? (Zd g 0)=some (Zi 60))
  (λi _=>len+60-(intOf i).toNat)
 case atStart=>exact⟨0,[],XA _,rfl,rfl,h0,u,t⟩
 case round=>
  obtain⟨k,pre,hk,rfl,c,j,R,q1⟩:=hrel;have D:pre.length=k:=by have:=congrArg List.length c;simpa using this
  by_cases hlt:60*k<len
  ·obtain⟨fn,tmps,assign,body,G,hR⟩:=hY pre ⟨k,hlt⟩ wr.drew (y _ _ j) (by rw[D];unfold n60;omega)
   have s:Hid (60*k<len):=Aa hlt;have z:k<n60 len:=by unfold n60;omega
   obtain⟨m,q⟩:∃m,60*k=m:=⟨_,rfl⟩;have M:nE len k=(((m:Int)+min 60 ((len-m:Nat):Int)).toNat-m):=by unfold nE;rw[q];split <;> omega
   unfold ACt at G;dsimp only at G;rw[M,q] at G;rw[q] at hlt ⊢;have O:(m:Int)<(len:Int):=by omega
   have P:(m:Int)<=(len:Int):=by omega
   have ac:(0:Int)<=(m:Int):=by omega
   have aa:¬a=m:=by omega
   have ad:m<=a:=by omega
   have U:=Aa q;have X:=Aa R;rw[d (by omega)] at R;have V:=Aa d;clear d;clear M q;gi_wp2;refine wpIn_wide.2 ?_
   go_region
   all_goals gi_wp2
   refine hR.mono ?_;rintro e L (⟨rfl,w,p⟩|⟨rfl,o⟩)
   ·have p0:L.cell? (Zd h 0)=some (Zs r len a):=p.1.trans X.o
    have p1:L.cell? (Zd g 0)=some (Zi 60):=p.2.trans q1;gi_wp2
    go_roundw
    case rel=>
     refine⟨k+1,pre++[⟨k,s.o⟩],z,?_,?_,w,p0,p1⟩
     ·have:=U.o
      congr 1;omega
     rw[XG,c,List.range_succ];rfl
    case measure=>simp[intOf];omega
   gi_wp2;refine bodyPost_ret (results_none rfl _ _ _) rfl ?_;exact⟨⟨_,rfl⟩,.inr ⟨_,trivial,o⟩⟩
  have ab:¬((60*k:Nat):Int)<(len:Int):=by omega
  have Y:k=n60 len:=by unfold n60 at hk ⊢;omega
  gi_wp2
  go_end0
  exact⟨⟨_,rfl⟩,.inl ⟨pre,by rw[c,Y],j⟩⟩
theorem jC(n:Nat)(o:1<=n)(d c b off len a:Nat)(k:To)(j:0<len->k=some (Zd b off))(hlen:len<=100000)(f:len<=a)(w:Tw)(i:d<w.heap.size)(g:c<w.heap.size)(q:w.cell? (Zd d 0)=some (Zs k len a))(m:w.cell? (Zd c 0)=some (Zi 60)):
 SeqStopsK Fence.wide n prog 128 #[Zp (some (Zd d 0)),Zp (some (Zd c 0))] (λx:CK6 len=>#[ACt b off len x]) (KpC d c) (λys=>ys.map AG1=List.range (n60 len)) (λ_=>True) (n60 len) w:=λl J Jx W hW hJ _ hY h0=>
 xD n o l d c b off len a k j hlen f J Jx (λpre W h=>hJ pre W _ none h ⟨rfl,rfl,rfl,XC _,λ_ _ _=>rfl⟩ (λr e=>by cases e)) hY W ((hW.cell (p:=Zd d 0) i).trans q) ((hW.cell (p:=Zd c 0) g).trans m) h0
variable{W w:Tw}{u v:Tv}{i:Nat}{s:Ah}{L:List Gx}{D:Td}{x:Int}{R:List (List V)}
theorem qF{b off n c:Nat}{rows:List (List V)}(h:iJ w (Zs (some (Zd b off)) n c) rows)(I:n=rows.length)(k:CK6 rows.length):iJ w (ACt b off rows.length k) (Gg rows k.1):=by
 obtain⟨vs,p,q,s⟩:=h;have G:=k.2;obtain⟨y,l,z,e,D,t,a⟩:=p.cons (by omega);injection e with g _ _;injection g with g;injection g with m o _;subst m o;have v:(Gg rows k.1).length=nE rows.length k.1:=by simp only[Gg,XH,X2,nE];split <;> omega
 have d:((vs.drop (60*k.1)).take 60).length=nE rows.length k.1:=by simp only[XH,X2,nE,q];split <;> omega
 refine⟨(vs.drop (60*k.1)).take 60,⟨_,nE rows.length k.1,by rw[d];rfl,by rw[d];exact XC _,λ_=>⟨b,off+60*k.1,rfl,t,λj x hx i u hu=>?_⟩⟩,by rw[v,d],λj x r hx hr=>?_⟩
 ·have f:j<60:=by have:=Ax hx;rw[XH] at this;omega
  rw[Ym f,XL] at hx;have:=a (60*k.1+j) x hx i u hu;rwa[show off+(60*k.1+j)*1+i=off+60*k.1+j*1+i by omega] at this
 have f:j<60:=by have:=Ax hx;rw[XH] at this;omega
 rw[Ym f,XL] at hx;unfold Gg at hr;rw[Ym f,XL] at hr;exact s _ x r hx hr
theorem jX(b:Tb)(l:List Aj)(p:List (List V)):∀(a:List (List (List V)))(k:Nat)(D:Td),Km b l k (a++[p]) D=(Km b l k a D).put (B.lit (Eh (Bw b (k+a.length)))) (Pa l p)
 | [],k,D=>by simp[Km]
 | q :: a,k,D=>by show Km b l (k+1) (a++[p]) _=_;rw[jX b l p a (k+1)];simp only[Km,XI];rw[show k+1+a.length=k+(a.length+1) by omega]
theorem ACh(b:Tb)(k:Nat)(a:List (List (List V)))(p:List (List V)):N5 b k (a++[p])=N5 b k a++[(1,Bw b (k+a.length),(p.length:Int),[],[],0)]:=by unfold N5;rw[List.zipIdx_append];simp
theorem eQ(b:Tb)(k:Nat)(a:List (List (List V))):(N5 b k a).length=a.length:=by simp[N5]
theorem V4{b e z n:Nat}{xs:List Tv}{row:Option Nat}(h:w.ownsRow b e z v n xs)(m:w.grownBy W row)(p:∀r,row=some r->∃o:Obj,w.heap[r]? = some o/\o.isCells=false):W.ownsRow b e z v n xs:=by
 refine⟨h.1,?_⟩
 rcases h.2 with k|⟨g,c,a,q,d,f,i⟩
 ·exact .inl k
 refine .inr ⟨g,c,a,q,d,(m.block g (Ac f) (λe=>?_)).trans f,i⟩;obtain⟨o,j,l⟩:=p g e.symm;rw[f] at j;cases j;cases l
theorem vX{cs:Array Tv}{t:TypeId}{row:Option Nat}(h:w.heap[i]? = some (Zk cs t (0,0)))(c:w.grownBy W row)(d:∀r,row=some r->∃o:Obj,w.heap[r]? = some o/\o.isCells=false):W.heap[i]? = some (Zk cs t (0,0)):=by refine(c.block i (Ac h) (λe=>?_)).trans h;obtain⟨o,a,b⟩:=d i e.symm;rw[h] at a;cases a;cases b
theorem Dv.no{base:Nat}{n:Nat}{v:Int}{d:To}{n1 c1:Nat}{y:Int}{f:To}{n2 k:Nat}{t:Tb}{l:Bool}{g:To}{rows:Int}{row:Option Nat}(h:Dv base w n s v d n1 c1 y f n2 k t l g i L rows)(a:w.grownBy W row)(b:∀r,row=some r->∃o:Obj,w.heap[r]? = some o/\o.isCells=false):Dv base W n s v d n1 c1 y f n2 k t l g i L rows:=by refine⟨vX h.box a b,?_,V4 h.row a b,λq j=>⟨V4 (h.own q j).1 a b,V4 (h.own q j).2 a b⟩,h.Vv,h.low⟩;obtain⟨p,z,u,D,m,e,c⟩:=h.snap;exact⟨p,z,u,D,m,e,V4 c.cols a b,c.files,V4 c.row a b,λx G=>V4 (c.Cl x G) a b⟩
theorem bF{w0 w W:Tw}{j bb n d:Nat}{fs:List Int}{row:Option Nat}{B0:Nat}(h:Ey w0 w j bb n D fs (.map (some d)) v)(s:d<B0)(u:w0.heap.size<=B0)(a:w.grownBy W row)(f:∀r,row=some r->B0<=r/\∃o:Obj,w.heap[r]? = some o/\o.isCells=false):Ey w0 W j bb n D fs (.map (some d)) v:=by
 have l:B.A0 (λi=>row=some i) w W:=⟨a.os,a.tape,a.output,a.size,λk s hn=>a.block k s (λe=>hn e.symm)⟩;refine⟨h.bu.only l (λe=>?_) (λm e q=>?_) (λp x b q=>?_),l.below h.low h.low.size (λi q=>XF u (f i q).1),h.hb,h.hm,h.er,h.nc,h.tb,h.hf⟩
 ·obtain⟨_,o,c,b⟩:=f bb e
  have g:w.heap[bb]? = _:=h.bu.1;rw[g] at c;cases c;cases b
 ·cases e
  have:=(f _ q).1;omega
 obtain⟨_,o,c,t⟩:=f _ q;unfold World.cell? at b;rw[c] at b;cases o <;> simp_all [Obj.isCells]
def CmI(w0:World)(e bb n:Nat)(D:DataW Unit)(c base l:Nat)(s:Ah)(v:Int)(f:Option Addr)(n1 c1:Nat)(m:Int)(g:Option Addr)(n2 j:Nat)(d:ByteArray)(rows:Int)(R:List (List V))(W8:World)(pre:List (CK6 R.length))(W:World):Prop :=
 ∃n' a b h i L,Ey w0 W e bb n' (Km d s.cols 0 (pre.map λk=>Gg R k.1) D) a (.map (some c)) b/\n'<=n+pre.length/\Dv base W l s v f n1 c1 m g n2 j d true h i L rows /\
  L.map (·.1)=N5 d 0 (pre.map λk=>Gg R k.1)/\(∀k∈pre,De s.cols (Gg R k.1)=true)/\Mv base bb (.map (some c)) (.map (some c)) W8 W
theorem CmI.own{w0:Tw}{k bb n:Nat}{i base j:Nat}{v:Int}{l:To}{n1 c1:Nat}{p:To}{n2 d:Nat}{t:Tb}{rows:Int}{W8:Tw}{B0:Nat}(J:i<B0)(N:w0.heap.size<=B0)(O:W8.heap.size<=B0):OwnFrom B0 (CmI w0 k bb n D i base j s v l n1 c1 x p n2 d t rows R W8):=λpre A C row M f g=>by
 obtain⟨n',a,b,q,u,L,w,y,z,G,I,c⟩:=M;have h:∀r,row=some r->∃o:Obj,A.heap[r]? = some o/\o.isCells=false:=λr e=>(g r e).2
 exact⟨n',a,b,q,u,L,bF w J N f g,y,z.no f h,G,I,⟨c.only.grown f (λm e P=>by have:=(g m e).1;omega),c.link,c.stay⟩⟩
theorem CmI.keeps{w0:Tw}{i bb n:Nat}{fs:List Int}{j base:Nat}{B0:Nat}(h:Ey w0 W i bb n D fs (.map (some j)) v)(l:j<B0)(d:Mv base bb (.map (some j)) (.map (some j)) W w):KeepsFrom B0 W w:=by
 refine⟨d.only.size,λk o g a c=>(d.only.block k (Array.getElem?_eq_some_iff.1 a).1 ?_).trans a⟩;rintro((e|e)|⟨_,cs,T,f,_⟩)
 ·subst e
  have b:W.heap[k]? = _:=h.bu.1;rw[b] at a;cases a;cases c
 ·cases e
  omega
 rw[f] at a;cases a;cases c
theorem CmI.step{w0:Tw}{i bb n:Nat}{j base m:Nat}{v:Int}{b:To}{n1 c1:Nat}{c:To}{n2 d:Nat}{t:Tb}{rows:Int}{W8 W w:Tw}{pre:List (CK6 R.length)}{k:CK6 R.length}{n' p:Nat}{z:List Int}{e:To}{g:Nat}(J:n'<=n+pre.length)(f:L.map (·.1)=N5 t 0 (pre.map λk=>Gg R k.1))(l:∀k∈pre,De s.cols (Gg R k.1)=true)(o:Mv base bb (.map (some j)) (.map (some j)) W8 W)(r:Ey w0 w i bb p ((Km t s.cols 0 (pre.map λk=>Gg R k.1) D).put (B.lit (Eh (Bw t L.length))) (Pa s.cols (Gg R k.1))) z (.map (some j)) u)(M:p<=n'+1)(y:Mv base bb (.map (some j)) (.map (some j)) W w)(I:De s.cols (Gg R k.1)=true)(G:Dv base w m s v b n1 c1 x c n2 d t true e g (L++[noA (Bw t L.length) (Gg R k.1).length]) rows):CmI w0 i bb n D j base m s v b n1 c1 x c n2 d t rows R W8 (pre++[k]) w:=by
 have h:L.length=pre.length:=by have:=congrArg List.length f;rw[Y',eQ,Y'] at this;exact this
 refine⟨p,z,u,e,g,_,?_,by rw[XT];simp;omega,G,?_,?_,o.trans y⟩
 ·rw[XG,Y8,jX,Y',WA,<-h]
  exact r
 ·rw[XG,XG,Y8,Y8,ACh,f,Y',WA,h]
  rfl
 intro q a
 rcases List.mem_append.1 a with a|a
 ·exact l q a
 simp at a;subst a;exact I
theorem lC(a:Tb)(c:Plain a)(l:List Aj):∀(b:List (List (List V)))(k:Nat)(D:Td)(j:Nat),k+b.length<=j->j<=1000000->Maps.has D (B.lit (Eh (Bw a j)))=false->Maps.has (Km a l k b D) (B.lit (Eh (Bw a j)))=false
 | [],_,_,_,_,_,h=>h
 | p :: b,k,D,j,hk,hj,h=>by
   simp at hk;refine lC a c l b (k+1) _ j (by omega) hj ?_;rw[Maps.has_put_other (λe=>?_)]
   ·exact h
   have:=(S5 c c (Uw (B.Jr e))).2 (by omega) (by omega);omega
theorem Xo(a:Tb)(f:Plain a)(l:List Aj)(D:Td):∀(c:List (List (List V)))(k:Nat)(b:Td),k+c.length<=1000->Grown a D b->(∀j,k<=j->j<=1000->Maps.has b (B.lit (Eh (Bw a j)))=false)->Grown a D (Km a l k c b)
 | [],_,_,_,h,_=>h
 | p :: c,k,b,hk,h,hf=>by
   simp at hk;refine Xo a f l D c (k+1) _ (by omega) (.put k _ h (hf k (XC _) (by omega))) (λj g d=>?_);rw[Maps.has_put_other (λe=>?_)]
   ·exact hf j (by omega) d
   have:=(S5 f f (Uw (B.Jr e))).2 (by omega) (by omega);omega
theorem fM(a:Tb)(d:Plain a)(l:List Aj)(D:Td)(c:∀k,Maps.has D (B.lit (Eh (Bw a k)))=false)(b:List (List (List V)))(h:b.length<=100):Grown a D (Km a l 0 b D) :=
 Xo a d l D b 0 D (by omega) .refl λj _ _=>c j
theorem AGz{w0 w:Tw}{k bb n:Nat}{fs:List Int}{mv v:Tv}{H:List (Dn×Ah)}{U:List Tb}{s:Tb}(h:iK w0 w k bb n D fs mv v H U s)(c:(Ae H H.length).cols≠[]):∃a,mv=.map (some a)/\a<w.heap.size:=by
 have f:B.Th w mv n D:=h.base.bu.2.1
 rcases f with⟨g,b⟩|⟨m,e,d⟩
 ·exfalso
  cases H with
  | nil=>exact c rfl
  | cons x H=>have:=((h.inv.Lm.2 0 (by omega)).1 x.1 rfl).1;rw[b] at this;exact absurd this (by simp[Maps.has])
 exact⟨m,e,B.Th.lt (.inr ⟨m,e,d⟩) e⟩
theorem Uu{w0 W:Tw}{j bb n d b:Nat}{fs:List Int}{x:Tv}{t:TypeId}(h:Ey w0 W j bb n D fs (.map (some d)) u)(l:W.heap[b]? = some (Zk #[x] t))(r:∀i,x≠Zi i)(f:b≠bb)(g:b≠d)(o:w0.heap.size<=b)(v:Tv):Ey w0 (W.setCell (Zd b 0) v) j bb n D fs (.map (some d)) u:=by
 have a:=E.Ar W b 0 v;have c:B.A0 (λi=>i=b) W (W.setCell (Zd b 0) v):=⟨a.os,a.tape,a.output,a.size,λk hk hn=>a.block k hk (λe=>hn (Yu e))⟩;refine⟨h.bu.only c (λe=>f e.symm) (λm e q=>?_) (λp y hc q=>?_),c.below h.low h.low.size (λi q=>by rw[q];exact o),h.hb,h.hm,h.er,h.nc,h.tb,h.hf⟩
 ·cases e
  exact g q.symm
 obtain⟨s,off,st⟩:=p;simp only at q;subst q;unfold World.cell? at hc;simp only[l] at hc
 rcases off with _|off
 ·cases st <;> simp at hc
  exact r _ hc
 cases st <;> simp at hc
variable{W w:Tw}{n:Nat}{u v:Tv}
attribute [local go_sem] Oper.semAt_some
theorem one_cell{b:Nat}{x:Tv}{T:TypeId}(h:W.heap[b]? = some (Zk #[x] T)):W.cell? (Zd b 0)=some x:=by simp[World.cell?,h]
theorem Dv.far{base:Nat}{w:Tw}{n:Nat}{s:Ah}{v:Int}{f:To}{n1 c1:Nat}{y:Int}{g:To}{n2 k:Nat}{p:Tb}{D:Bool}{j:To}{i:Nat}{L:List Gx}{rows:Int}{W:Tw}{b:Nat}{cs:Array Tv}{t:TypeId}(h:Dv base w n s v f n1 c1 y g n2 k p D j i L rows)(a:w.heap[b]? = some (Zk cs t (0,0)))(o:w.grownBy W (some b))(O:t≠111)(P:t≠145)(R:t≠64)(U:t≠119)(V:t≠3):Dv base W n s v f n1 c1 y g n2 k p D j i L rows:=by
 have c:∀{l z m:Nat}{T:TypeId}{u:Tv}{xs:List Tv},w.ownsRow l T z u m xs->t≠T->W.ownsRow l T z u m xs:=λY X=>Mk Y a X o
 refine⟨(o.block n (Ac h.box) ?_).trans h.box,?_,c h.row P,λq r=>⟨c (h.own q r).1 (by assumption),c (h.own q r).2 (by assumption)⟩,h.Vv,h.low⟩
 ·intro e
  injection e with e;subst e;rw[h.box] at a;injection a with a;injection a with _ a;exact O a.symm
 obtain⟨I,M,J,N,G,e,d⟩:=h.snap;exact⟨I,M,J,N,G,e,c d.cols R,d.files,c d.row U,λx hx=>c (d.Cl x hx) V⟩
theorem AGq{P:Program}{c:Code}{K:Act->Tw->Prop}{Q:Exit->Act->Tw->Prop}{a:Act}(h:c.wp P (Exit.then K (λ_ _ _=>False)) a w):c.wp P (Exit.then K Q) a w :=
 wp_mono h λe _ _ q=>by
  cases e with
  | normal=>exact q
  | _=>exact q.elim
theorem AKh{b:Nat}{u f a e c d j g:Tv}{t:TypeId}(h:W.heap[b]? = some (Zk #[u,f,a,e,c,d,j,g] t (0,0)))(v:Tv):(W.setCell (Zd b 6) v).heap[b]? = some (Zk #[u,f,a,e,c,d,v,g] t (0,0)):=by have i:=As W b 6 _ _ v h;simpa using i
theorem Dv.Bz{base:Nat}{s:Ah}{v:Int}{l:To}{n1 c1:Nat}{y:Int}{o:To}{n2 k:Nat}{t:Tb}{r:Bool}{G:To}{i:Nat}{L:List Gx}{rows:Int}{g m c:Nat}{a:List Gx}(h:Dv base w n s v l n1 c1 y o n2 k t r G i L rows)(V:w.ownsRow base 145 6 (Zs (some (Zd g 0)) m c) m (Ci a))(U:m=a.length)(p:∀q∈a,pC 0 w q)(P:∀q∈a,pM q.1):Dv base (w.setCell (Zd n 6) (Zs (some (Zd g 0)) m c)) n s v l n1 c1 y o n2 k t r (some (Zd g 0)) c a rows:=by
 subst U;have R:=E.Ar w n 6 (Zs (some (Zd g 0)) a.length c);have d:∀{b z m:Nat}{T:TypeId}{u:Tv}{xs:List Tv},w.ownsRow b T z u m xs->T≠111->(w.setCell (Zd n 6) (Zs (some (Zd g 0)) a.length c)).ownsRow b T z u m xs:=λW O=>Mk W h.box (λe=>O e.symm) R
 refine⟨AKh h.box _,?_,d V (by decide),λq f=>⟨d (p q f).1 (by decide),d (p q f).2 (by decide)⟩,P,h.low⟩;obtain⟨I,M,J,N,D,e,j⟩:=h.snap;exact⟨I,M,J,N,D,e,d j.cols (by decide),j.files,d j.row (by decide),λx X=>d (j.Cl x X) (by decide)⟩
theorem AEx(h:w.cell? (Zd n 3)=some u):(w.setCell (Zd n 6) v).cell? (Zd n 3)=some u:=by rw[Yy _ _ _ _ (by simp)];exact h
theorem Ei{n b:Nat}(a:b≠n)(h:w.cell? (Zd b 0)=some u):(w.setCell (Zd n 6) v).cell? (Zd b 0)=some u:=by rw[World.cell?_setCell_far _ _ _ _ (Ne.symm a)];exact h
def ldA:Oper:={ dst:=some 52,op:=Op.load 76 (Operand.tmp 51),type:=76,pos := "rows.go:83",after:=#[{ on:=10,ground:=Ground.data }],guard:=none }
theorem AGS:ldA={ dst:=some 52,op:=Op.load 76 (Operand.tmp 51),type:=76,pos := "rows.go:83",after:=#[{ on:=10,ground:=Ground.data }],guard:=none }:=rfl
theorem rK(w0:Tw)(NF bb n:Nat)(D:Td)(fs:List Int)(mv fv:Tv)(H:List (Dn×Ah))(U:List Tb)(tx:Tb)(xs:List A6)(w:Tw)(h:iK w0 w NF bb n D fs mv fv H U tx)(hT:C7 D (Ae H H.length) xs):
 Zc 43 #[Zp (some (Zd bb 0)),Zt tx] w (Kd w0 w NF bb n D mv H tx (AMN (Ae H H.length) NF) (AEz D (Ae H H.length) xs tx)):=by
 have O:=Aa h;have HT:=Aa hT;obtain⟨es,hX,hY,hZ,bp⟩:=Jl w (Zk #[Zp (some (Zd bb 0))] 27) (Zk #[Zp none] 68) (Zk #[Zn] 33);have h3:=h.up bp;have a6:=Aa (Wo bb n D mv H tx xs .nil (Zp none) _ h3.base.ground (h3.et.below h3.base.low) (h3.Pw.below h3.base.low) h3.inv.Lm h3.inv.past h3.O5 h3.name h3.short hT.Lz rfl);have bh:=aN hT h.Of .nil;have ed:=h.Of.Iz;have a5:=Aa bp;have HX:=Aa (And.intro hX (And.intro hY hZ));have ag:=Aa h3;clear h hT h3 hX hY hZ bp;unfold tK at a6;generalize de:Ae H H.length=l at *;have ao:=Aa de;clear de;refine(callsIn_wide (n:=5)).1 ?_;refine callsIn_of_wp_marks func43 rfl trivial ?_ rfl;simp only[ntmps43,XX,XI,X4,Nat.reduceAdd,Nat.reduceSub,XO,XP,XY,XR,X6,XZ];refine wpIn_wide.2 ?_;go_wp2_with fail;generalize ((w.alloc (Zk #[Zp (some (Zd bb 0))] 27)).alloc (Zk #[Zp none] 68)).alloc (Zk #[Zn] 33)=W3 at *;refine a6.o.mono ?_;rintro e w1⟨ap,⟨hc,rfl⟩|⟨hc,d5,rfl⟩|⟨hc,hz,g,v1,a1,n1,c1,x2,a2,n2,c2,rfl,hP,hF⟩⟩
 ·have r1:=(ap.block (w.heap.size+1) (by omega)).trans HX.o.2.1
  have r2:=(ap.block (w.heap.size+2) (by omega)).trans HX.o.2.2;have b9:=Aa (Ap a5.o ap);have hA:Zb w1 (w1.alloc (Zk #[Zp none] 68)):=Zal;have HA:=Aa hA;have dh:=(hA.block _ (Ac r1)).trans r1;have bg:=(hA.block _ (Ac r2)).trans r2;have f1:=one_cell dh;have f2:=one_cell bg;have g1:=Yah _ (w.heap.size+1) 0 _ _ dh;have g2:=Yah _ (w.heap.size+2) 0 _ _ bg;have dk:=Aa hc;clear hc ap a6 hA r1 r2;go_wp2;refine⟨Zu #[Zp none,Zf 82 (Zi 6)],by simp[results,results43,go_sem,f1,f2],?_⟩;have a0:=((Ap b9.o HA.o).setCell (p:=Zd (w.heap.size+1) 0) (WB _) (Zp none)).setCell (p:=Zd (w.heap.size+2) 0) (by show w.heap.size<=w.heap.size+2;omega) (Zf 82 (Zi 6));exact⟨n,D,fs,mv,fv,O.o.base.up a0,by omega,B.A0.Ba a0,λ_ e=>.inl e,.refl,.inr ⟨_,_,.inl ⟨dk.o,rfl⟩,rfl⟩⟩
 ·exact absurd (dB _) d5
 have b9:=Aa ap;have HC:=Aa hc;have HP:=Aa hP;have HF:=Aa hF
 obtain⟨fa,fc,rfl,_⟩:∃a c,v1=Zs a (Bo l.cols .nil xs).1.length c/\(Bo l.cols .nil xs).1.length<=c:=by obtain⟨zs,_,e2,_⟩:=hF;exact Au e2
 have hA:Zb w1 (w1.alloc (Zk #[Zp (some (Zd g 0))] 68)):=Zal;have HA:=Aa hA;have b0:=Yae w1 (Zk #[Zp (some (Zd g 0))] 68);have N:=Aa b0;have p0:=one_cell b0;have cp:=Aa (hP.up hA);obtain⟨y0,y1,y2,y3,y4,y5,y6,y7,yf⟩:=F2 (hP.up hA).box;have a8:=Aa (nW l (H.length:Int) a1 n1 c1 x2 a2 n2 c2 (Bo l.cols .nil xs).1.length _ (hP.up hA).snap (by omega) (by omega));have ds:Hid (Zb W3 (w1.alloc (Zk #[Zp (some (Zd g 0))] 68))):=Aa (Ap ap hA);clear ap hc hz hP hF a6 hA b0;generalize c9:(Bo l.cols .nil xs).1.length=m at *;have aw:=Aa c9;clear c9;go_wp2_with fail;refine a8.o.mono ?_;rintro e w6⟨q,rfl,hq,bd⟩;have HQ:=Aa hq;have M:=Aa bd;have ax:=Aa (Ap ds.o bd);have p6:=Ag bd p0;clear bd hq a8 y0 y1 y2 y3 y4 y5 y6 y7 yf p0;cases q with
 | true=>have a8:=Aa (HQ.o.1 rfl);clear HQ;have r1:=(ax.o.block (w.heap.size+1) (by omega)).trans HX.o.2.1;have r2:=(ax.o.block (w.heap.size+2) (by omega)).trans HX.o.2.2;have f1:=one_cell r1;have f2:=one_cell r2;have g1:=Yah w6 (w.heap.size+1) 0 _ _ r1;have g2:=Yah w6 (w.heap.size+2) 0 _ _ r2;go_wp2;refine⟨Zu #[Zp (some (Zd g 0)),Zn],by simp[results,results43,go_sem,f1,f2],?_⟩;have a0:Zb w ((w6.setCell (Zd (w.heap.size+1) 0) (Zp (some (Zd g 0)))).setCell (Zd (w.heap.size+2) 0) Zn):=((Ap a5.o ax.o).setCell (p:=Zd (w.heap.size+1) 0) (WB _) _).setCell (p:=Zd (w.heap.size+2) 0) (by show w.heap.size<=w.heap.size+2;omega) _;have q1:=(cp.o.up M.o).far r1 (E.Ar w6 (w.heap.size+1) 0 (Zp (some (Zd g 0)))) (by decide) (by decide) (by decide) (by decide) (by decide);have bg:=((E.Ar w6 (w.heap.size+1) 0 (Zp (some (Zd g 0)))).block (w.heap.size+2) (Ac r2) (by simp)).trans r2;have q2:=q1.far bg (E.Ar _ (w.heap.size+2) 0 Zn) (by decide) (by decide) (by decide) (by decide) (by decide);exact⟨n,D,fs,mv,fv,O.o.base.up a0,by omega,B.A0.Ba a0,λ_ e=>.inl e,.refl,.inl ⟨g,[],true,(m:Int),a1,n1,c1,x2,a2,n2,c2,none,0,rfl,by rw[ao.o];exact⟨q2.box,q2.snap,E.Ai q2.row (by omega),q2.own,q2.Vv,by have:=q2.low;omega⟩,HC.o,rfl,(by rw[aw.o]),.inl ⟨(by rw[aw.o];exact a8.o),rfl,rfl⟩⟩⟩
 | false=>
   have ck:Hid (¬Tog l m):=Aa (λh=>by cases HQ.o.2 h);clear HQ;obtain⟨R,hR⟩:∃R,R=Fc l.cols xs:=⟨_,rfl⟩
   have dn:Hid (∀k,k<n60 R.length->De l.cols (Gg R k)=true):=Aa (λk hk=>by have ae:=O.o.Of;have d7:=O.o.inv.next H.length (XC _);have O5:=O.o.O5;rw[ao.o] at ae d7;refine ALD (ALu (ae.cols.resolve_left HC.o) (by show _<=(1099511627777:Int);omega)) (λr hr=>?_) (List.mem_map.2 ⟨k,List.mem_range.2 hk,rfl⟩);rw[hR] at hr;exact HT.o.right (sM ae) r hr)
   have dw:R.length=m:=by rw[hR];unfold Fc;rw[Y'];exact aw.o
   have cr:=Aa (X7 W3.heap.size W3.heap.size (Zs fa m fc) (Bo l.cols .nil xs).1 w6 ((HF.o.up HA.o).up M.o) (by rw[aw.o];omega));have HR:=Aa hR;clear hR;subst dw;go_wp2_with fail;refine cr.o.mono ?_;rintro e w7⟨v7,rfl,hJ,c6⟩;have bw:Sc w6.heap.size w7 v7 R:=by rw[HR.o];exact hJ.o
   have c3:=bw.slr;obtain⟨ra,rc,rfl,d8⟩:=c3.slice;have cn:=Aa bw;have av:=Aa c6;have cc:=Aa (qS ra R.length rc w7);clear cr hJ c6 bw c3;go_wp2_with fail;refine cc.o.mono ?_;rintro e w8⟨rfl,rfl⟩;clear cc;obtain⟨ew,c4,cy,bx⟩:=Kt w7 (Zk #[Zs ra R.length rc] 36) (Zk #[Zi 60] 3);have u:=Aa (Ap (Ap ax.o av.o) bx);go_wp2_with fail;generalize (w7.alloc (Zk #[Zs ra R.length rc] 36)).alloc (Zk #[Zi 60] 3)=W9 at *
   have cs:Hid (∀r∈R,∀v∈r,Ks v/\v.2.2.size<=40):=Aa (λr hr v hv=>by rw[HR.o] at hr;obtain⟨z,hz,rfl⟩:=List.mem_map.1 hr;exact No HT.o (by rw[<-ao.o];exact O.o.Of) (by rw[<-ao.o];exact Mq O.o.inv.past (XC _)) z hz v hv)
   obtain⟨k0,d2,el⟩:=AGz O.o (by rw[ao.o];exact HC.o);subst d2;have ev:=av.o.size;have eu:=ax.o.size;have ai:=Aa bx;have d1:W9.cell? (Zd w7.heap.size 0)=some (Zs ra R.length rc):=one_cell c4;have dz:W9.cell? (Zd (w7.heap.size+1) 0)=some (Zi 60):=one_cell cy
   obtain⟨rb,ro,dd⟩:∃rb ro,0<R.length->ra=some (Zd rb ro):=by
    by_cases h0:0<R.length
    ·obtain⟨vs,ea,ex,ey⟩:=cn.o.slr
     obtain⟨rb,ro,e3,er,_,_,_⟩:=ea.cons (by omega);injection er with du _ _;exact⟨rb,ro,λ_=>du⟩
    exact⟨0,0,λh=>absurd h h0⟩
   have dr:=Aa (((cp.o.up M.o).up av.o).up ai.o);have b:=Aa (ag.o.base.up u.o);clear bx;refine(wpIn_wide (n:=5)).1 ?_
   refine wpIn_rangeFunc_ownG (w0:=W9) rfl (by decide) (gf:=128) (lb:=#[Zp (some (Zd w7.heap.size 0)),Zp (some (Zd (w7.heap.size+1) 0))]) (by rfl) trivial (enters_of func128 (by kernel_rfl) rfl)
    (jC _ (by decide) w7.heap.size (w7.heap.size+1) rb ro R.length rc ra dd (by omega) d8 W9 (by omega) (by omega) d1 dz) KpC.t ?hKb (XE _ _) (λ_=>rfl) (CmI w0 NF bb n D k0 W3.heap.size g l (H.length:Int) a1 n1 c1 x2 a2 n2 c2 tx (R.length:Int) R W9) (λc _ W=>c=.ret/\NF≠0/\∃T x n' D' ah al,Ey w0 W NF bb n' D' ah (.map (some k0)) al/\n'<=n+50/\Grown tx D D'/\B.A0 (B.Own bb (.map (some k0))) w W/\W.heap[w.heap.size+1]? = some (Zk #[Zp none] 68)/\W.heap[w.heap.size+2]? = some (Zk #[Zf T x] 33)) (CmI.own (by omega) (XF ag.o.base.low.size u.o.size) (XC _)) ?ownX ⟨n,fs,fv,none,0,[],b.o,XC _,dr.o,rfl,(λk hk=>by cases hk),Mv.refl⟩ ?a1 ?assign ?body ?done ?stop
   case hKb=>
    intro W q o1 o2 hq ep _ _;constructor
    ·unfold World.cell?;rw[XD (by show w7.heap.size≠q;omega)]
    unfold World.cell?;rw[XD (by show w7.heap.size+1≠q;omega)]
   case ownX=>
    intro c s A C row hs hg hr;obtain⟨e,bv,T,x,n',D',ah,al,h1,h2,h3,h4,h5,h6⟩:=hs;have dc:∀r,row=some r->∃o:Obj,A.heap[r]? = some o/\o.isCells=false:=λr e=>(hr r e).2
    exact⟨e,bv,T,x,n',D',ah,al,bF h1 (by omega) (XF ag.o.base.low.size u.o.size) hg hr,h2,h3,h4.grown hg (λm e hm=>by have:=(hr m e).1;omega),vX h5 hg dc,vX h6 hg dc⟩
   case assign=>intro q x W K hK;gi_wp2;exact hK
   case stop=>rintro D1 c pre W bq _⟨rfl,bv,T,x,n',D',ah,al,h1,h2,h3,h4,h5,h6⟩hK;gi_wp2;have b5:=(XD (w:=W) (r:=D1) (k:=w.heap.size+1) (o:=.deferred none) (by omega)).trans h5;have b6:=(XD (w:=W) (r:=D1) (k:=w.heap.size+2) (o:=.deferred none) (by omega)).trans h6;have f1:=one_cell b5;have f2:=one_cell b6;refine⟨by simp,.inl ⟨_,_,rfl,run_takeDeferred hK,?_⟩⟩;refine⟨Zu #[Zp none,Zf T x],by simp[results,results43,go_sem,f1,f2],?_⟩;have ae:=grownBy_putObj' W D1 (.deferred none);exact⟨n',D',ah,_,al,bF (B0:=W9.heap.size) h1 (by omega) (XF ag.o.base.low.size u.o.size) ae (λr e=>by cases e;exact⟨bq,_,hK,rfl⟩),h2,h4.grown ae (λm e hm=>by cases e;omega),λ_ e=>.inl e,h3,.inr ⟨T,x,.inr bv,rfl⟩⟩
   case body=>
    rintro q pre k W⟨n',ah,al,aa,ac,L,ab,an,G,hL,am,d⟩eo;have em:=k.2;have c8:k.1<n60 R.length:=by unfold n60;omega
    have a3:n60 R.length<=40:=nH bh
    have bt:L.length=pre.length:=by have:=congrArg List.length hL;rw[Y',eQ,Y'] at this;exact this
    have bz:=d.zG b.o.bu ((u.o.block w.heap.size (by omega)).trans HX.o.1) (by decide) (by decide) (by decide);have X:=d.zG b.o.bu ((ai.o.block w1.heap.size (by have:=Ac N.o;have:=M.o.size;omega)).trans ((av.o.block w1.heap.size (by have:=Ac N.o;have:=M.o.size;omega)).trans ((M.o.block w1.heap.size (Ac N.o)).trans N.o))) (by decide) (by decide) (by decide);have c0:=one_cell bz;have ej:=one_cell X;have b7:=(d.slO b.o.bu (cn.o.up ai.o)).slr;rw[dd (by omega)] at b7;have c7:=qF b7 rfl k;have dx:=d.only.size;have en:=bU c8
    have a7:=Aa (bK w0 NF W3.heap.size bb n' _ ah (.map (some k0)) al g l (H.length:Int) a1 n1 c1 x2 a2 n2 c2 tx true aa ac L (R.length:Int) (ACt rb ro R.length k) (Gg R k.1) W ab ag.o.nf ag.o.base.low.size (by have:=O.o.Iz;omega) (uX _ _ _ _ _ O.o.inv.Lm.1) G (by omega) (by rw[<-ao.o];exact O.o.Of) O.o.et c7 (by omega) (λr hr v hv=>by have:=cs.o r (XQ (Yl hr)) v hv;unfold maxLen;omega) (λr hr v hv=>(cs.o r (XQ (Yl hr)) v hv).1) O.o.short (by omega) (lC tx O.o.plain _ _ _ _ _ (by rw[Y'];omega) (by omega) (O.o.free _)))
    have cj:Hid (ah.headD 0=1->NF≠0):=Aa (λh1 e0=>by subst e0;rw[bJ ab] at h1;exact absurd h1 (by decide))
    have ci:=Aa (dn.o k.1 c8);unfold AIr at a7;have HI:=Aa (And.intro ab (And.intro an (And.intro G (And.intro hL (And.intro am d)))));have dj:=Aa (And.intro bz X);clear ab an G hL am d bz X b7 c7;generalize ek:ACt rb ro R.length k=cv at *;gi_wp2_with fail;refine⟨trivial,(CallsIn.inRound q (callsIn_wide.2 a7.o)).mono ?_⟩;rintro e W'⟨ec,eg,ct,ef,cu,bc,da,ad,h⟩;have dt:=ad.stay k0 rfl;subst dt;have HM:=Aa ad;have di:=Aa bc
    rcases h with⟨rfl,db,_,rfl,rfl,eh,ei,cz⟩|⟨T,x,rfl,rfl,bk⟩
    ·have bi:=CmI.step (W8:=W9) (n:=n) HI.o.2.1 HI.o.2.2.2.1 HI.o.2.2.2.2.1 HI.o.2.2.2.2.2 bc da ad db cz
     have cd:=Aa bi;have bm:=Aa (CmI.keeps (B0:=W9.heap.size) HI.o.1 (by omega) ad)
     have dl:Hid (KpC w7.heap.size (w7.heap.size+1) W W'):=Aa (by have e1:=HI.o.2.2.2.2.2.zG b.o.bu c4 (by decide) (by decide) (by decide);have e2:=HI.o.2.2.2.2.2.zG b.o.bu cy (by decide) (by decide) (by decide);exact⟨by rw[one_cell e1,one_cell (ad.zG HI.o.1.bu e1 (by decide) (by decide) (by decide))],by rw[one_cell e2,one_cell (ad.zG HI.o.1.bu e2 (by decide) (by decide) (by decide))]⟩)
     clear bi bc ad cz db a7;gi_wp2;exact⟨bm.o,dl.o,cd.o⟩
    have dq:Hid (NF≠0):=Aa (by
     rcases bk with⟨h1,_⟩|⟨_,h1,_⟩
     ·rw[ci.o] at h1;cases h1
     exact cj.o h1)
    clear bk cj ci;have bf:=HI.o.2.2.2.2.2.trans ad;have r1:=bf.zG b.o.bu ((u.o.block (w.heap.size+1) (by omega)).trans HX.o.2.1) (by decide) (by decide) (by decide);have r2:=bf.zG b.o.bu ((u.o.block (w.heap.size+2) (by omega)).trans HX.o.2.2) (by decide) (by decide) (by decide);have f1:=one_cell r1;have f2:=one_cell r2;have g1:=Yah W' (w.heap.size+1) 0 _ _ r1;have g2:=Yah W' (w.heap.size+2) 0 _ _ r2;have dm:=Aa bf;have bm:=Aa (CmI.keeps (B0:=W9.heap.size) HI.o.1 (by omega) ad);have Y:=Aa (And.intro r1 r2);clear bc ad a7 bf r1 r2;gi_wp2;have dy:bb<w.heap.size:=Ac O.o.base.bu.1;have eb:=O.o.base.low.size;have b1:=Uu di.o Y.o.1 (λi e=>by cases e) (by omega) (by omega) (by omega) (Zp none);have y:=((E.Ar W' (w.heap.size+1) 0 (Zp none)).block (w.heap.size+2) (Ac Y.o.2) (by simp)).trans Y.o.2;have b2:=Uu b1 y (λi e=>by cases e) (by omega) (by omega) (by omega) (Zf T x);have I:=heap_setCell_same W' (w.heap.size+1) 0 _ _ (Zp none) Y.o.1;have b3:=((E.Ar (W'.setCell (Zd (w.heap.size+1) 0) (Zp none)) (w.heap.size+2) 0 (Zf T x)).block (w.heap.size+1) (Ac I) (by simp)).trans I;have b4:=heap_setCell_same _ (w.heap.size+2) 0 _ _ (Zf T x) y;have hO:B.A0 (B.Own bb (.map (some k0))) w W':=(B.A0.Ba (Ap a5.o u.o)).trans dm.o.only (λi hi e=>e.elim id λe=>by have:=e.1;omega);refine⟨(bm.o.trans (KeepsFrom.of_grownBy (E.Ar W' (w.heap.size+1) 0 (Zp none)) (λj e=>by cases e;omega))).trans (KeepsFrom.of_grownBy (E.Ar _ (w.heap.size+2) 0 (Zf T x)) (λj e=>by cases e;omega)),rfl,dq.o,T,x,ec,_,ct,cu,b2,by have:=HI.o.2.1;omega,fM tx O.o.plain _ _ O.o.free _ (by rw[Y'];omega),?_,b3,b4⟩;exact(hO.grown (E.Ar W' (w.heap.size+1) 0 (Zp none)) (λm e hm=>by cases e;omega)).grown (E.Ar _ (w.heap.size+2) 0 (Zf T x)) (λm e hm=>by cases e;omega)
   case done=>
    rintro D1 ys W bq b8⟨n',ah,al,aa,ac,L,ab,an,G,hL,am,d⟩hK;have dx:=d.only.size;have br:=E.Ac hK;have a3:n60 R.length<=40:=nH bh;have df:ys.length=n60 R.length:=by have:=congrArg List.length b8;simpa using this
    have dg:(ys.map λk=>Gg R k.1)=Gd R:=by unfold Gd;rw[<-b8];simp[AG1]
    have bt:L.length=ys.length:=by have:=congrArg List.length hL;rw[Y',eQ,Y'] at this;exact this
    have X:=d.zG b.o.bu ((ai.o.block w1.heap.size (by have:=Ac N.o;have:=M.o.size;omega)).trans ((av.o.block w1.heap.size (by have:=Ac N.o;have:=M.o.size;omega)).trans ((M.o.block w1.heap.size (Ac N.o)).trans N.o))) (by decide) (by decide) (by decide);have I:=d.zG b.o.bu ((u.o.block (w.heap.size+1) (by omega)).trans HX.o.2.1) (by decide) (by decide) (by decide);have y:=d.zG b.o.bu ((u.o.block (w.heap.size+2) (by omega)).trans HX.o.2.2) (by decide) (by decide) (by decide);have p0:=one_cell X;obtain⟨y0,y1,y2,y3,y4,y5,y6,y7,yf⟩:=F2 G.box;have hd:=(XE W.heap.size W).drew
    have ce:Hid (∀e∈l.files,e.1.size<=maxLen):=Aa (λe he=>by have c5:=HT.o;rw[<-c5.Lz.files] at he;obtain⟨x,hx,rfl⟩:=List.mem_map.1 he;have:=(c5.Lz.each x hx).name;unfold maxLen;omega)
    have ee:1<=l.files.length:=by
     rcases Yw l.files.length with h0|h0
     ·refine absurd (show Tog l R.length from⟨λe he=>?_,by omega⟩) ck.o
      rw[Yai.1 h0] at he;cases he
     exact h0
    have cq:=Aa (sL l (H.length:Int) a1 n1 c1 x2 a2 n2 c2 W.drew (G.snap.up hd) (by omega) ce.o);have HI:=Aa (And.intro ab (And.intro an (And.intro G (And.intro hL (And.intro am d)))));have dj:=Aa (And.intro X (And.intro I y));have cf:=Aa hK;have bo:=Aa dg;have ch:=Aa (And.intro bt (And.intro df a3));have bl:=Aa hd
    have dp:Hid (w1.heap.size≠g):=Aa (λe=>by have:=G.box;rw[<-e,X] at this;injection this with this;injection this with _ this;exact absurd this (by decide))
    have d0:W.drew.cell? (Zd w1.heap.size 0)=some (Zp (some (Zd g 0))):=p0;have d3:W.drew.cell? (Zd g 3)=some (Zs a2 n2 c2):=y3;have d6:W.drew.cell? (Zd g 6)=some (Zs aa L.length ac):=y6;have aj:Hid (∀W',Zb W W'->(W'.cell? (Zd w1.heap.size 0)=some (Zp (some (Zd g 0)))/\W'.cell? (Zd g 3)=some (Zs a2 n2 c2))/\W'.cell? (Zd g 6)=some (Zs aa L.length ac)):=Aa λW' hb=>⟨⟨Ag hb p0,Ag hb y3⟩,Ag hb y6⟩
    have cb:Hid (∀(af:Tw)(qa:To)(qc:Nat),Zb W af->af.ownsRow W.heap.size 145 6 (Zs qa l.files.length qc) l.files.length (Ci (l.files.map mO))->Zc 80 #[Zs (some (Zd af.heap.size 0)) 2 2] (af.alloc (Zk #[Zs qa l.files.length qc,Zs aa L.length ac] 76)) λe w'=>∃g' c',e=Zr (Zs (some (Zd g' 0)) (l.files.length+L.length) c')/\Hid (w'.ownsRow W.heap.size 145 6 (Zs (some (Zd g' 0)) (l.files.length+L.length) c') (l.files.length+L.length) (Ci (l.files.map mO++L)))/\Zb W w'):=Aa (λaf qa qc J au=>by have bj:=Yae af (Zk #[Zs qa l.files.length qc,Zs aa L.length ac] 76);have ar:Zb af (af.alloc (Zk #[Zs qa l.files.length qc,Zs aa L.length ac] 76)):=Zal;have hc:=uO af.heap.size qa aa qc ac (l.files.map mO) L W.heap.size w.heap.size _ (by rw[Y'];exact(Hg bj).1) (Hg bj).2 (by simp) (by rw[Y'];exact Bc au ar) (E.Ai (Bc (Bc G.row J) ar) (by omega)) (by rw[Y'];omega) (by rw[Y'];omega);rw[Y'] at hc;refine hc.mono ?_;rintro e w'⟨g',c',rfl,h1,h2⟩;exact⟨g',c',rfl,Aa (E.Ai h1 (Ap J ar).size),Ap (Ap J ar) h2⟩)
    clear ab an G hL am d X I y hK b8 dg y0 y1 y2 y3 y4 y5 y6 y7 yf p0 bt df a3 hd;gi_wp2;go_wp2_with fail;refine AGq ?_;rw[<-AGS];have d4:=AGS
    go_region_held3 (λw'=>w'.cell? (Zd w1.heap.size 0)=some (Zp (some (Zd g 0)))/\w'.cell? (Zd g 3)=some (Zs a2 n2 c2))
     (first
       | (go_keep;done)
       | exact(aj.o _ bl.o).1
       | exact(aj.o _ J).1
       | exact(aj.o _ (Ap J (Zal))).1
       | exact(aj.o _ f).1
       | exact⟨Ei dp.o (aj.o _ f).1.1,AEx (aj.o _ f).1.2⟩
       | fail)
     (first
       | (go_at_call 81
          refine cq.o.mono ?_;rintro e af⟨qa,qc,rfl,au,az⟩;have J:=Ap bl.o az;have cl:=Aa au;have e6:=(aj.o _ J).2;clear au az)
       | (go_at_call 80
          refine(cb.o _ _ _ J cl.o).mono ?_;rintro e a4⟨g',c',rfl,cm,f⟩;obtain⟨t0,t1,t2,t3,t4,t5,t6,t7,tf⟩:=F2 (HI.o.2.2.1.up f).box;have t8:=tf 6;clear t0 t1 t2 t3 t4 t5 t7 tf)
       | fail)
    all_goals
     obtain⟨ab,an,G,hL,am,d⟩:=HI.o;have P:=G.up f;have V:=E.Ar a4 g 6 (Zs (some (Zd g' 0)) (l.files.length+L.length) c');have ay:B.A0 (PA a4 W3.heap.size) a4 (a4.setCell (Zd g 6) (Zs (some (Zd g' 0)) (l.files.length+L.length) c')):=⟨V.os,V.tape,V.output,V.size,λk hk hn=>V.block k hk (λe=>hn (by cases e;exact⟨P.low,_,_,P.box,.inl rfl⟩))⟩;have ca:=Aa (Kv (ab.up f) ag.o.nf ag.o.base.low.size ay);have aq:=Aa ((d.trans (Mv.below f)).trans (Mv.ACV ay))
     have co:=Aa (P.Bz (E.Ai cm.o (by omega)) (by simp) (λq hq=>by
      rcases List.mem_append.1 hq with hq|hq
      ·obtain⟨e,_,rfl⟩:=List.mem_map.1 hq
       exact⟨XM _ _ _ _,XM _ _ _ _⟩
      ·exact P.own q hq) (λq hq=>by
      rcases List.mem_append.1 hq with hq|hq
      ·obtain⟨e,he,rfl⟩:=List.mem_map.1 hq
       exact⟨ce.o e he,XA _,λx hx=>by cases hx⟩
      exact P.Vv q hq))
     have I:=aq.o.zG b.o.bu ((u.o.block (w.heap.size+1) (by omega)).trans HX.o.2.1) (by decide) (by decide) (by decide);have y:=aq.o.zG b.o.bu ((u.o.block (w.heap.size+2) (by omega)).trans HX.o.2.2) (by decide) (by decide) (by decide);have X:=aq.o.zG b.o.bu ((ai.o.block w1.heap.size (by have:=Ac N.o;have:=M.o.size;omega)).trans ((av.o.block w1.heap.size (by have:=Ac N.o;have:=M.o.size;omega)).trans ((M.o.block w1.heap.size (Ac N.o)).trans N.o))) (by decide) (by decide) (by decide)
     have cx:=(V.block D1 (Ya br f.size) (λe=>by
      cases e;have:=(f.block _ br).trans cf.o;rw[P.box] at this;cases this)).trans ((f.block D1 br).trans cf.o)
     have bn:=Aa (And.intro an (And.intro hL am));have Y:=Aa (And.intro I y);have cg:=Aa cx;clear ab an G hL am d P ay V t6 t8 d4 cq cb aj bl;generalize a4.setCell (Zd g 6) (Zs (some (Zd g' 0)) (l.files.length+L.length) c')=ak at *;have f1:=one_cell I;have f2:=one_cell y;have ez:=one_cell X;have g1:=Yah ak (w.heap.size+1) 0 _ _ I;have g2:=Yah ak (w.heap.size+2) 0 _ _ y;clear I y X cx;go_wp2;have dy:bb<w.heap.size:=Ac O.o.base.bu.1;have eb:=O.o.base.low.size;have b1:=Uu ca.o Y.o.1 (λi e=>by cases e) (by omega) (by omega) (by omega) (Zp (some (Zd g 0)));have a9:=E.Ar ak (w.heap.size+1) 0 (Zp (some (Zd g 0)));have y:=(a9.block (w.heap.size+2) (Ac Y.o.2) (by simp)).trans Y.o.2;have b2:=Uu b1 y (λi e=>by cases e) (by omega) (by omega) (by omega) Zn;have I:=heap_setCell_same ak (w.heap.size+1) 0 _ _ (Zp (some (Zd g 0))) Y.o.1;have ba:=E.Ar (ak.setCell (Zd (w.heap.size+1) 0) (Zp (some (Zd g 0)))) (w.heap.size+2) 0 Zn;have b3:=(ba.block (w.heap.size+1) (Ac I) (by simp)).trans I;have b4:=heap_setCell_same _ (w.heap.size+2) 0 _ _ Zn y;have q1:=co.o.far Y.o.1 a9 (by decide) (by decide) (by decide) (by decide) (by decide);have q2:=q1.far y ba (by decide) (by decide) (by decide) (by decide) (by decide);have cw:=(a9.block D1 (E.Ac cg.o) (λe=>by have:=Yu e;omega)).trans cg.o;have bs:=(ba.block D1 (E.Ac cw) (λe=>by have:=Yu e;omega)).trans cw;have hO:B.A0 (B.Own bb (.map (some k0))) w ak:=(B.A0.Ba (Ap a5.o u.o)).trans aq.o.only (λi hi e=>e.elim id λe=>by have:=e.1;omega);have dv:=(hO.grown a9 (λm e hm=>by cases e;omega)).grown ba (λm e hm=>by cases e;omega);have b5:=(XD (r:=D1) (k:=w.heap.size+1) (o:=.deferred none) (by omega)).trans b3;have b6:=(XD (r:=D1) (k:=w.heap.size+2) (o:=.deferred none) (by omega)).trans b4;have k1:=one_cell b5;have k2:=one_cell b6;refine⟨by simp,.inl ⟨_,_,rfl,run_takeDeferred bs,?_⟩⟩;refine⟨Zu #[Zp (some (Zd g 0)),Zn],by simp[results,results43,go_sem,k1,k2],?_⟩;have ae:=grownBy_putObj' ((ak.setCell (Zd (w.heap.size+1) 0) (Zp (some (Zd g 0)))).setCell (Zd (w.heap.size+2) 0) Zn) D1 (.deferred none);have d9:∀r,some D1=some r->∃o:Obj,((ak.setCell (Zd (w.heap.size+1) 0) (Zp (some (Zd g 0)))).setCell (Zd (w.heap.size+2) 0) Zn).heap[r]? = some o/\o.isCells=false:=λr e=>by cases e;exact⟨_,bs,rfl⟩
     have q3:=q2.no ae d9;refine⟨_,_,_,_,_,bF (B0:=W9.heap.size) b2 (by omega) (XF ag.o.base.low.size u.o.size) ae (λr e=>by cases e;exact⟨bq,_,bs,rfl⟩),?_,dv.grown ae (λm e hm=>by cases e;omega),λ_ e=>.inl e,?_,.inl ⟨g,_,true,(R.length:Int),a1,n1,c1,x2,a2,n2,c2,_,_,rfl,by rw[ao.o];exact⟨q3.box,q3.snap,E.Ai q3.row (by omega),q3.own,q3.Vv,by have:=q3.low;omega⟩,HC.o,rfl,by rw[aw.o],.inr ⟨by rw[aw.o];exact ck.o,?_,?_,?_⟩⟩⟩
     ·have:=bn.o.1
      have:=ch.o;omega
     ·exact fM tx O.o.plain _ _ O.o.free _ (by rw[Y'];have:=ch.o;omega)
     ·rw[<-HR.o,<-bo.o]
      intro p hp;obtain⟨k,hk,rfl⟩:=List.mem_map.1 hp;exact bn.o.2.2 k hk
     ·rw[<-HR.o,<-bo.o]
     rw[<-HR.o,<-bo.o,XG,bn.o.2.1,List.map_map];rfl
end F
namespace S
theorem AE9(b:Nat)(c f g:Int)(Bl d:Tb)(w:Tw)(p:1<=c/\c<=6)(t:d.size<=100)(s:E.A9 f g d=true)(h:w.heap[b]? = some (Zk #[Zi c,Zt Bl,Zi f,Zi g,Zt d] 67)):
 Zc 10 #[Zs (some (Zd b 0)) 1 1] w λe n=>∃v,e=Zr v/\Gy n (.node 0 0 ⟨c,Bl,f,g,d⟩ .nil .nil) v/\Zb w n:=by
 have m:b<w.heap.size:=by
  rcases Yc b w.heap.size with l|l
  ·exact l
  rw[Array.getElem?_eq_none l] at h;cases h
 have k:∀j i:Nat,j<1->w.cell? (Zd b (0+j*5+i))=#[Value.int .i64 c,Zt Bl,Zi f,Zi g,Zt d][i]? := λj i a=>by
  obtain rfl:j=0:=by omega
  have:=cell_of_heap h i;simpa using this
 have q:ALg 1 (λ_=>c) (λ_=>f) (λ_=>g) (λ_=>Bl) (λ_=>d)=.node 0 0 ⟨c,Bl,f,g,d⟩ .nil .nil:=by show ALj (stp c Bl f g d [])=_;rw[AMJ p.1 p.2 (by omega) s];rfl
 refine(AMG b 0 1 1 (λ_=>c) (λ_=>f) (λ_=>g) (λ_=>Bl) (λ_=>d) w (XC _) (by decide) (λ_=>by unfold maxLen;omega) m (λj a=>k j 0 a) (λj a=>k j 1 a) (λj a=>k j 2 a) (λj a=>k j 3 a) λj a=>k j 4 a).mono ?_;rintro e n⟨v,rfl,o,_,r⟩;rw[q] at o;exact⟨v,rfl,o,r⟩
end S
namespace F
variable{W:Tw}{T:TypeId}{g:Nat}
theorem Qf:Mw:=rK
theorem Sy(n:Int)(w:Tw):
 Zc 19 #[Zi n] w λe a=>e=Zr (Zg #[Zi 1,Zi n,Zt ⟨#[]⟩])/\Zb w a:=by
 go_enter func19,ntmps19;go_wp2;exact bodyPost_ret (v:=Zg #[Zi 1,Zi n,Zt ⟨#[]⟩]) (by simp[results,results19,go_sem]) rfl ⟨rfl,Zal⟩
theorem AAo{α:Type}{k:Nat}{en:α->List Tv}{b:Nat}{cs:Array Tv}{x:α}(h:W.heap[b]? = some (Zk cs T (0,0)))(a:en x=cs.toList):F7 k en W (Zs (some (Zd b 0)) 1 1) [x]:=by
 refine⟨some (Zd b 0),1,rfl,XC _,λ_=>⟨b,0,rfl,Ac h,λj y hj i u hu=>?_⟩⟩
 have c:j=0:=by
  rcases Yw j with d|d
  ·exact d
  rw[Yb (by simp;omega)] at hj;cases hj
 subst c;have e:x=y:=by simpa using hj
 subst e;rw[show 0+0*k+i=i by omega,S.cell_of_heap h i];rw[a] at hu;simpa using hu
theorem AH9{α:Type}{en:α->List Tv}{b:Nat}{f a:Tv}{x y:α}(h:W.heap[b]? = some (Zk #[f,a] T (0,0)))(l:en x=[f])(m:en y=[a]):F7 1 en W (Zs (some (Zd b 0)) 2 2) [x,y]:=by
 refine⟨some (Zd b 0),2,rfl,XC _,λ_=>⟨b,0,rfl,Ac h,λj z hj i u hu=>?_⟩⟩
 have n:j<2:=by
  rcases Yc j 2 with c|c
  ·exact c
  rw[Yb (by simp;omega)] at hj;cases hj
 have d:∀v,en z=[v]->i=0/\v=u:=λv e=>by
  rw[e] at hu
  rcases Yw i with c|c
  ·subst c;exact⟨rfl,by simpa using hu⟩
  rw[Yb (by simp;omega)] at hu;cases hu
 rcases Yw j with g|o
 ·subst g
  have k:x=z:=by simpa using hj
  subst k;obtain⟨rfl,rfl⟩:=d _ l;rw[S.cell_of_heap h];rfl
 obtain rfl:j=1:=by omega
 have k:y=z:=by simpa using hj
 subst k;obtain⟨rfl,rfl⟩:=d _ m;rw[S.cell_of_heap h];rfl
theorem AKC{x y:Nat}(n:W.heap[g]? = some (Zk #[Zs (some (Zd x 0)) 1 1,Zs (some (Zd y 0)) 1 1] 54 (0,0)))(q:W.heap[x]? = some (Zk #[Zi 1,Zi 1,Zt ⟨#[]⟩] 48 (0,0)))(t:W.heap[y]? = some (Zk #[Zi 1,Zi 2,Zt ⟨#[]⟩] 48 (0,0))):K8 W dU none 0 (some (Zd g 0)) 2 none 0 0 none 0:=by
 refine⟨.inl ⟨⟨_,_,rfl⟩,rfl⟩,(λc f=>by cases f),⟨[Zs (some (Zd x 0)) 1 1,Zs (some (Zd y 0)) 1 1],AH9 n rfl rfl,rfl,λj v r hv hr=>?_⟩,λr hr v hv=>?_,⟨_,_,rfl,XA _,λh=>absurd rfl h⟩,XA _,(λs hs=>by cases hs),λV hV=>?_,XA _,⟨(λc f=>by cases f),XA _,AEL,by decide,λs hs=>by cases hs⟩⟩
 ·have o:j<2:=by
   rcases Yc j 2 with k|k
   ·exact k
   rw[Yb (by simp;omega)] at hv;cases hv
  rcases Yw j with i|p
  ·subst i
   have b:Value.slice (some (Zd x 0)) 1 1=v:=by simpa using hv
   have d:[(1,1,⟨#[]⟩)]=r:=by simpa[dU,R2] using hr
   subst b d;exact mW (AAo q rfl)
  obtain rfl:j=1:=by omega
  have b:Value.slice (some (Zd y 0)) 1 1=v:=by simpa using hv
  have d:[(1,2,⟨#[]⟩)]=r:=by simpa[dU,R2] using hr
  subst b d;exact mW (AAo t rfl)
 ·have a:r∈R2:=hr
  simp only[R2,XS,XN,or_false] at a
  rcases a with rfl|rfl <;> (simp at hv;subst hv;decide)
 refine(S.V8 none 0 V).mono ?_;rintro e u⟨v,rfl,l,m⟩;exact⟨v,_,rfl,l,trivial,m⟩
theorem AJp(b:W.heap[g]? = some (Zk #[Zi 1,Zt ⟨#[97]⟩,Zi 1,Zi 1,Zt ⟨#[]⟩] 67 (0,0))):K8 W dV none 0 none 0 (some (Zd g 0)) 1 1 none 0:=by refine⟨.inl ⟨⟨_,_,rfl⟩,rfl⟩,(λc a=>by cases a),⟨[],⟨_,_,rfl,XA _,λh=>absurd rfl h⟩,rfl,λj x r hx _=>by simp at hx⟩,(λr hr=>by cases hr),⟨_,_,rfl,XA _,λh=>absurd rfl h⟩,XA _,(λs hs=>by cases hs),λV hV=>?_,XA _,⟨(λc a=>by cases a),XA _,(λr hr=>by cases hr),XA _,λs hs=>by cases hs⟩⟩;refine(S.AE9 g 1 1 1 ⟨#[97]⟩ ⟨#[]⟩ V ⟨by decide,by decide⟩ (by decide) (by kernel_rfl) ((hV.block _ (Ac b)).trans b)).mono ?_;rintro e i⟨v,rfl,d,f⟩;exact⟨v,tV,rfl,d,rfl,f⟩
theorem AJi:Plain iL:=λx a=>by simp[iL] at a;subst a;decide
theorem AJh:Plain Pz:=λx a=>by simp[Pz] at a;subst a;decide
theorem AGr:Plain txV:=λx a=>by simp[txV] at a;subst a;decide
theorem AKG{i k x y:Int}{s t:Tb}{mu:Bool}(h:W.heap[g]? = some (Zk #[Zi i,Zt s,Zi k,Zo mu,Zi x,Zi y,Zt t] 64 (0,0))):bH W (Zs (some (Zd g 0)) 1 1) [(i,s,k,mu,x,y,t)]:=by
 refine .inr ⟨g,0,1,rfl,XC _,Ac h,λj c n v d=>?_⟩;have a:j=0:=by have:j<1:=c;omega
 subst a;rw[show 0+0*7+n=n by omega,S.cell_of_heap h n];have b:[Value.int .i64 i,Zt s,Zi k,Zo mu,Zi x,Zi y,Zt t][n]? = some v:=d;simpa using b
theorem AJ7(h:W.heap[g]? = some (Zk #[Zi 0,Zt ⟨#[97]⟩,Zi 1,Zo false,Zi 0,Zi 0,Zt ⟨#[]⟩] 64 (0,0))):K8 W dT (some (Zd g 0)) 1 none 0 none 0 0 none 0:=by
 refine⟨AKG h,λc a=>?_,⟨[],⟨_,_,rfl,XA _,λh=>absurd rfl h⟩,rfl,λj x r hx _=>by simp at hx⟩,(λr hr=>by cases hr),⟨_,_,rfl,XA _,λh=>absurd rfl h⟩,XA _,(λs hs=>by cases hs),λV hV=>?_,XA _,⟨λc a=>?_,by decide,(λr hr=>by cases hr),XA _,λs hs=>by cases hs⟩⟩
 ·have:c=(0,⟨#[97]⟩,1,false,0,0,⟨#[]⟩):=by simpa[dT] using a
  subst this;exact⟨by decide,by decide⟩
 ·refine(S.V8 none 0 V).mono ?_
  rintro e f⟨v,rfl,b,d⟩;exact⟨v,_,rfl,b,trivial,d⟩
 have:c=(0,⟨#[97]⟩,1,false,0,0,⟨#[]⟩):=by simpa[dT] using a
 subst this;exact⟨⟨by decide,by decide⟩,⟨by decide,by decide⟩,⟨by decide,by decide⟩⟩
theorem AAS(w:Tw)(he:Ik w)(hw:Lw w)(ht:Jp w)(hg:B.Ob w)(ho:S.Lp w):Zc 5 #[] w λe w'=>e=Zr (Zo true)/\Zb w w':=by
 have z:=Aa ((uF w he hw ht).up ((XE _ _).alloc (XC _) (Zk #[Zi 0,Zt ⟨#[97]⟩,Zi 1,Zo false,Zi 0,Zi 0,Zt ⟨#[]⟩] 64)));have ag:=Yae (w.alloc (Zk #[.map none,Zs none 0 0] 31)) (Zk #[Zi 0,Zt ⟨#[97]⟩,Zi 1,Zo false,Zi 0,Zi 0,Zt ⟨#[]⟩] 64);have D:Hid (Zc 6 #[Zp (some (Zd w.heap.size 0)),Zg #[Zi 0,Zs (some (Zd (w.heap.size+1) 0)) 1 1,Zs none 0 0,Zs none 0 0,Zs none 0 0,Zi 0,Zt ⟨#[]⟩,Zt ⟨#[]⟩],Zt ⟨#[116]⟩] _ _):=Aa (V1 Qf w 0 w.heap.size 0 (.map []) [] _ _ [] [] iL [] dT (some (Zd (w.heap.size+1) 0)) 1 none 0 none 0 0 none 0 _ ⟨z.o,Inv.nil,hg,ho,XA _,by decide,by decide,by kernel_rfl,by decide,AJi,λh=>by cases h⟩ (by decide) (vA _) (AJ7 (by simpa using ag)));have u:=Aa (And.intro hg ho);clear he hw ht hg ho ag;go_enter func5,ntmps5;go_wp2_with fail;refine D.o.mono ?_;intro e w2 ah;obtain⟨rfl,n2,D2,M,an,O,R,a1,au,_,U⟩:=AJW ah;have H2:=Aa (And.intro R U);clear ah R au U D z;go_wp2_with fail;refine(Sy 1 w2).mono ?_;rintro e w3⟨rfl,ad⟩;have ak:=Yae w3 (Zk #[Zi 1,Zi 1,Zt ⟨#[]⟩] 48);have x:=Aa (Ap ad ((XE _ w3).alloc (XC _) (Zk #[Zi 1,Zi 1,Zt ⟨#[]⟩] 48)));have o:=Aa ak;clear ad ak;go_wp2_with fail;refine(Sy 2 _).mono ?_;rintro e v⟨rfl,q⟩;obtain⟨ax,Y,X,s⟩:=Kt v (Zk #[Zi 1,Zi 2,Zt ⟨#[]⟩] 48) (Zk #[Zs (some (Zd w3.heap.size 0)) 1 1,Zs (some (Zd v.heap.size 0)) 1 1] 54);have L:=Aa ((Ap q s).block _ (Ac o.o) |>.trans o.o);have ap:=Aa (Ap x.o (Ap q s));have n:Hid (iK w ((v.alloc (Zk #[Zi 1,Zi 2,Zt ⟨#[]⟩] 48)).alloc (Zk #[Zs (some (Zd w3.heap.size 0)) 1 1,Zs (some (Zd v.heap.size 0)) 1 1] 54)) 0 w.heap.size n2 D2 M an O H1 [iL] Pz):=Aa ⟨H2.o.1.up ap.o,H2.o.2,u.o.1,u.o.2,XA _,by omega,by decide,by kernel_rfl,by decide,AJh,λh=>by simp[Pz,iL] at h⟩;have G:Hid (Zc 6 #[Zp (some (Zd w.heap.size 0)),Zg #[Zi 2,Zs none 0 0,Zs (some (Zd (v.heap.size+1) 0)) 2 2,Zs none 0 0,Zs none 0 0,Zi 0,Zt ⟨#[]⟩,Zt ⟨#[]⟩],Zt ⟨#[117]⟩] _ _):=Aa (V1 Qf w 0 w.heap.size n2 D2 M an O H1 [iL] Pz [] dU none 0 (some (Zd (v.heap.size+1) 0)) 2 none 0 0 none 0 _ n.o (by decide) (AKO _) (AKC X L.o Y));clear ax Y X s q o L x;go_wp2_with fail;refine G.o.mono ?_;intro e w6 ai;obtain⟨rfl,n6,D6,N,ao,P,T,a2,av,_,V,ab⟩:=AI4 (bJ H2.o.1) H2.o.2 (n.o.free 0) ai;have t:=Aa (And.intro T (And.intro V ab));clear ai T av V ab G n H2;go_wp2_with fail;refine(Sy 1 w6).mono ?_;rintro e w7⟨rfl,ae⟩;have al:=Yae w7 (Zk #[Zi 1,Zt ⟨#[97]⟩,Zi 1,Zi 1,Zt ⟨#[]⟩] 67);have y:=Aa (Ap ae ((XE _ w7).alloc (XC _) (Zk #[Zi 1,Zt ⟨#[97]⟩,Zi 1,Zi 1,Zt ⟨#[]⟩] 67)));have J:Hid (iK w (w7.alloc (Zk #[Zi 1,Zt ⟨#[97]⟩,Zi 1,Zi 1,Zt ⟨#[]⟩] 67)) 0 w.heap.size n6 D6 N ao P H2 [Pz,iL] txV):=Aa ⟨t.o.1.up y.o,t.o.2.1,u.o.1,u.o.2,XA _,by omega,by decide,by kernel_rfl,by decide,AGr,λh=>by simp[Pz,iL,txV] at h⟩;have I:Hid (Zc 6 #[Zp (some (Zd w.heap.size 0)),Zg #[Zi 3,Zs none 0 0,Zs none 0 0,Zs (some (Zd w7.heap.size 0)) 1 1,Zs none 0 0,Zi 0,Zt ⟨#[]⟩,Zt ⟨#[]⟩],Zt ⟨#[118]⟩] _ _):=Aa (V1 Qf w 0 w.heap.size n6 D6 N ao P H2 [Pz,iL] txV xU dV none 0 none 0 (some (Zd w7.heap.size 0)) 1 1 none 0 _ J.o (by decide) t.o.2.2 (AJp al));clear al ae;go_wp2_with fail;refine I.o.mono ?_;intro e w8 aj;obtain⟨rfl,n8,D8,az,ay,a0,c,a3,aw,_,p,ac⟩:=AI9 t.o.2.1 t.o.2.2 aj;have m:=Aa (ABH w.heap.size n8 D8 ay H3 (-1) 3 xV w8 c.ground (u.o.1.below c.low) (u.o.2.below c.low) p.Lm p.past (by decide) (by decide) (.inl ⟨by decide,rfl⟩) ac.Lz);have H8:=Aa c.low;clear aj c aw p ac I J t y;rw[show (Ae H3 3).cols=[cA] from rfl,AKF] at m;go_wp2_with fail;refine m.o.mono ?_;rintro e w9⟨v9,rfl,aa,af⟩;obtain⟨rb,ro,rc,xv,er,a4,a,ar⟩:=aa.slr.at (k:=0) (r:=[(1,2,⟨#[]⟩)]) rfl;obtain⟨xa,xc,rfl,a6,am⟩:=ar;obtain⟨i,j,rfl,a5,b⟩:=am (by simp);obtain⟨y0,y1,y2⟩:=b 0 _ rfl;simp only[Nat.zero_mul,XU] at a y0 y1 y2;subst er;have f:Hid (∀W,Zb w9 W->W.cell? (Zd rb ro)=some (Zs (some (Zd i j)) 1 xc)/\W.cell? (Zd i j)=some (Zi 1)/\W.cell? (Zd i (j+1))=some (Zi 2)/\W.cell? (Zd i (j+2))=some (Zt ⟨#[]⟩)):=Aa λW hb=>⟨Ag hb a,Ag hb y0,Ag hb y1,Ag hb y2⟩
 have l:=Aa ((XE w9.heap.size w9).drew);have aq:=Aa (Ap H8.o af);clear aa am b af m a y0 y1 y2;obtain⟨a,y0,y1,y2⟩:=f.o _ l.o;go_wp2_with fail
 go_region_held3 (λW=>W.cell? (Zd rb ro)=some (Zs (some (Zd i j)) 1 xc)/\W.cell? (Zd i j)=some (Zi 1)/\W.cell? (Zd i (j+1))=some (Zi 2)/\W.cell? (Zd i (j+2))=some (Zt ⟨#[]⟩))
  (first
    | exact f.o _ l.o
    | exact f.o _ g
    | (go_keep;done)
    | fail)
  (first
    | (go_at_call 19
       refine(Sy 2 _).mono ?_;rintro e a7⟨rfl,d⟩;have g:=Ap l.o d;clear d)
    | fail)
 all_goals
  clear a y0 y1 y2 f;go_wp2;go_ret;exact⟨rfl,Ap aq.o g⟩
end F
namespace tableUpdates
theorem k10:(Rows.tableUpdatesRow.inPlace==prog.inPlace 3)=true:=by kernel_rfl
theorem k11:(Rows.tableUpdatesRow.unfollowed==prog.unfollowed 3)=true:=by kernel_rfl
theorem k12:(Rows.tableUpdatesRow.recurses==prog.recurses 3)=true:=by kernel_rfl
theorem k13:(Rows.tableUpdatesRow.named==prog.varsNamed 3)=true:=by kernel_rfl
theorem closed:joinedFacts prog 3 f3 (OpenSpec.ofChange Rows.tableUpdatesSpec).bare Rows.tableUpdatesRow=true:=by
 unfold joinedFacts;rw[k10,k11,k12,k13]
 kernel_rfl
