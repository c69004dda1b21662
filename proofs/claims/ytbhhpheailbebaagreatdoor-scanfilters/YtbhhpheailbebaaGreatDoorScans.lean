/- WHAT IS LOOKED FOR IS WHAT IS FOUND, proved: at every list of deeds and every list of parts millpondkeep.ScanFilters returns true and leaves its arguments as they were, over this commit's program; its condition: the program's list of words that are no names, its list of opposites, the library's tables, the two errors of its package strconv and the package errors' own handle of the type error start as the program's own text lays them. -/
import Derived.Test.YtbhhpheailbebaaGreatDoorZOas
import Derived.Test.YtbhhpheailbebaaGreatDoorCards
import Derived.Test.YtbhhpheailbebaaGreatDoorTie
import Derived.Deep.DeepHandedRow
import Derived.LaidMore
import Derived.Lay
import Derived.Stop.LaidErr
set_option maxHeartbeats 40000000
set_option maxRecDepth 100000
open Nat renaming le_refl->Y9,zero_le->XA,le_trans->XF,add_zero->XP,zero_add->Wb,le_succ->WA
open List renaming length_map->Y',getElem?_eq_getElem->XB,mem_of_getElem?->XE,length_take->XG,map_append->XH,getElem?_drop->XI,not_mem_nil->XK,length_cons->XL,length_append->XN,mem_cons->XO,mem_of_mem_drop->XS,append_toArray->XU,filter_append->XV,getElem?_map->XW,size_toArray->XX,push_toArray->XY,cons_append->XZ,length_drop->X2,append_nil->X4,length_nil->X6,nil_append->X'
open Go.RowKit.Below renaming refl->XC,trod->WB
open Go.World renaming putObj_heap_other->XD,ownsRow_nil->XJ,var?_cell->XM,news_of_block->XT
open Array renaming replicate_succ->XQ,replicate_zero->XR
namespace Go.Proofs.YtbhhpheailbebaaGreatDoor
open _root_.Go.Proofs.Tryz RowKit Shelf Joins Lib Deep ChangeShapes WideShapes ChangeAt
open Go.Sort (grow)
open ChangeMaps (open_string shut_string)
namespace F
variable{p:Px->Bool}{i:Nat}{r:Px}{s:Ah}{a:Bool}{u v:Tv}{w:Tw}{A:List A5}{D:Td}{e:Ending}
theorem Py(lv:Tv)(l:List DdS)(w:Tw)(hl:F7 8 AGa w lv l)(T:∀q∈l,Nf w q):
 Zc 5 #[lv] w (Pb (l.length<=30/\∀q∈l,U8 q) w):=by
 have HL:=Aa hl;obtain⟨la,lc,rfl,_⟩:=hl.slice;have HR:=Aa T;clear hl T
 by_cases h30:l.length<=30
 ·have I:¬(30:Int)<(l.length:Int):=by omega
  go_enter func5,ntmps5;go_wp2
  go_loopw [3] (λy wr=>∃k:Nat,k<=l.length/\y=Zi k/\Hid (∀q∈l.take k,U8 q)/\Hid (Zb w wr)) (λy _=>l.length-(intOf y).toNat)
  case atStart=>exact⟨0,XA _,rfl,Aa (by simp),Aa (XC _ _)⟩
  case round=>
   obtain⟨k,hk,rfl,M,u⟩:=hrel
   by_cases hlt:k<l.length
   ·obtain⟨q,f⟩:∃q,l[k]? = some q:=⟨_,XB hlt⟩
    obtain⟨lb,lo,ap,el,_,an,a⟩:=(HL.o.up u.o).cons (by omega);injection el with ah _ ai;subst ah ai;have q0:=a k q f 0 _ rfl;have q1:=a k q f 1 _ rfl;have q2:=a k q f 2 _ rfl;have q3:=a k q f 3 _ rfl;have q4:=a k q f 4 _ rfl;have q5:=a k q f 5 _ rfl;have q6:=a k q f 6 _ rfl;have q7:=a k q f 7 _ rfl;simp only[XP] at q0;have d:=Aa (HR.o q (XE f));have HQ:=Aa f;have am:(k:Int)<(l.length:Int):=by omega
    clear a f;obtain⟨⟨wh,cols,rows,A3,ch,nm,z,tr⟩,ca,cc,ra,rc,pa,R,pc,sa,sc⟩:=q;simp only at q0 q1 q2 q3 q4 q5 q6 q7;have J:Zb wr (wr.alloc (Zk #[Zi wh,Zs ca cols.length cc,Zs ra rows.length rc,Zs pa R pc,Zs sa A3.length sc,Zi ch,Zt nm,Zt z] 38)):=Zal;have G:=Aa (heap_alloc_new wr (Zk #[Zi wh,Zs ca cols.length cc,Zs ra rows.length rc,Zs pa R pc,Zs sa A3.length sc,Zi ch,Zt nm,Zt z] 38));have D:=Aa (Ap u.o J);have m1:nm.size<=maxLen:=d.o.nm;have m2:z.size<=maxLen:=d.o.tw;have i:=Aa (pS (Zs ca cols.length cc) cols _ (d.o.cols.up D.o) d.o.ACl);have o:=Aa (λW(hW:Zb w W)=>oH (Zs ra rows.length rc) rows W (d.o.rows.up hW) (λr T v g=>(d.o.ACg r T v g).2));unfold Pb at i o;clear J;go_wp2_with fail;refine i.o.mono ?_;rintro e w2⟨b2,rfl,N,p⟩;have X:=Aa N;have h:=Aa (Ap D.o p);have m:=Aa ((p.block _ (Ac G.o)).trans G.o);clear N p i;obtain⟨y0,y1,y2,y3,y4,y5,y6,y7,yf⟩:=F2 m.o;clear q0 q1 q2 q3 q4 q5 q6 q7;cases b2 with
    | false=>go_wp2_with fail;go_ret;exact⟨_,rfl,by simp,h.o⟩
    | true=>
      go_wp2_with fail;refine(o.o _ h.o).mono ?_;rintro e w3⟨b3,rfl,O,t⟩;have Y:=Aa O;have c:=Aa (Ap h.o t);have V:=Aa ((t.block _ (Ac m.o)).trans m.o);clear O t o y0 y1 y2 y3 y4 y5 y6 y7 yf;obtain⟨y0,y1,y2,y3,y4,y5,y6,y7,yf⟩:=F2 V.o;cases b3 with
      | false=>go_wp2_with fail;go_ret;exact⟨_,rfl,by simp,c.o⟩
      | true=>
        by_cases a1:R<=20
        ·have ac:¬(20:Int)<(R:Int):=by omega
         by_cases a2:A3.length<=10
         ·have ad:¬(10:Int)<(A3.length:Int):=by omega
          by_cases a3:nm.size<=60
          ·have ae:¬(60:Int)<(nm.size:Int):=by omega
           by_cases a4:z.size<=60
           ·have af:¬(60:Int)<(z.size:Int):=by omega
            have ab:=Aa d.o.wX;have aa:=Aa (d.o.A3.up c.o);go_wp2_with fail
            go_loopw [5] (λy wi=>∃j:Nat,j<=A3.length/\y=Zi j/\Hid (∀s∈A3.take j,s.2.2.2.size<=100)/\wi=w3) (λy _=>A3.length-(intOf y).toNat)
            case atStart=>exact⟨0,XA _,rfl,Aa (by simp),rfl⟩
            case round=>
             obtain⟨j,hj,rfl,L,rfl⟩:=hrel
             by_cases hjl:j<A3.length
             ·obtain⟨⟨sn,vk,vn,U⟩,g⟩:∃x,A3[j]? = some x:=⟨_,XB hjl⟩
              obtain⟨sb,so,aq,es,_,ao,b⟩:=aa.o.cons (by omega);injection es with aj _ ak;subst aj ak;have s0:=b j _ g 0 _ rfl;have s1:=b j _ g 1 _ rfl;have s2:=b j _ g 2 _ rfl;have s3:=b j _ g 3 _ rfl;simp only[XP] at s0;have m3:U.size<=maxLen:=(ab.o _ (XE g)).2;have al:(j:Int)<(A3.length:Int):=by omega
              have HV:=Aa g;clear b g
              by_cases a5:U.size<=100
              ·have ag:¬(100:Int)<(U.size:Int):=by omega
               have n:=Aa (My (P:=λv:Vi=>v.2.2.2.size<=100) L.o HV.o a5);go_wp2;exact⟨⟨j+1,by omega,by go_num,n,trivial⟩,by simp[intOf];omega⟩
              have ag:(100:Int)<(U.size:Int):=by omega
              go_wp2;go_ret;exact⟨_,rfl,by simp,c.o⟩
             have al:¬(j:Int)<(A3.length:Int):=by omega
             have n:=Aa (My (P:=λq:DdS=>U8 q) M.o HQ.o ⟨X.o trivial,Y.o trivial,a1,a2,O1 (P:=λv:Vi=>v.2.2.2.size<=100) L.o (show A3.length<=j by omega)⟩);go_wp2;exact⟨⟨k+1,by omega,by go_num,n,c⟩,by simp[intOf];omega⟩
           have af:(60:Int)<(z.size:Int):=by omega
           go_wp2_with fail;go_ret;exact⟨_,rfl,by simp,c.o⟩
          have ae:(60:Int)<(nm.size:Int):=by omega
          go_wp2_with fail;go_ret;exact⟨_,rfl,by simp,c.o⟩
         have ad:(10:Int)<(A3.length:Int):=by omega
         go_wp2_with fail;go_ret;exact⟨_,rfl,by simp,c.o⟩
        have ac:(20:Int)<(R:Int):=by omega
        go_wp2_with fail;go_ret;exact⟨_,rfl,by simp,c.o⟩
   have am:¬(k:Int)<(l.length:Int):=by omega
   have HF:=Aa (O1 (P:=λq:DdS=>U8 q) M.o (by omega));go_wp2;go_ret;exact⟨_,rfl,λ_=>HF.o,u.o⟩
 have I:(30:Int)<(l.length:Int):=by omega
 go_enter func5,ntmps5;go_wp2;go_ret;exact⟨_,rfl,by simp,XC _ _⟩
def AGA:Prop:=∀w:World,Ik w->Lw w->Jp w->B.Ob w->S.Lp w->Zc 6 #[] w λe a=>e=.returned (.bool true)/\Zb w a
theorem AIW(l:List Aj)(r:List V)(g o G D z a b q:Nat)(s:Tb)(w:Tw)(h8:l.length<=8)(hs:I1 w g o l)(N:r.length=l.length)(h:Rf l s)(t:w.cell? ⟨z,1,none⟩=some (Zs (some ⟨g,o,none⟩) l.length G))(i:w.cell? ⟨D,2,none⟩=some (Zs (some ⟨a,b,none⟩) l.length q))(hc:∀j x,r[j]? = some x->w.cell? ⟨a,b+j*3,none⟩=some (Zi x.1)/\w.cell? ⟨a,b+j*3+1,none⟩=some (Zi x.2.1)/\w.cell? ⟨a,b+j*3+2,none⟩=some (Zt x.2.2))(q1:z<w.heap.size)(q4:D<w.heap.size)(O:a<w.heap.size):
 Zc 14 #[Zt s,Zp (some ⟨D,0,none⟩),Zp (some ⟨z,0,none⟩)] w λe w'=>e=Zr (Zg #[Zi (Uk l r s).1,Zi (Uk l r s).2.1,Zt (Uk l r s).2.2])/\Zb w w':=by
 obtain⟨j,hj,n⟩:∃j:Nat,j<l.length/\Ce l s=j:=by
  rcases Gz l s with⟨n,_⟩|⟨j,hj,n,_⟩
  ·unfold Rf at h;omega
  exact⟨j,hj,n⟩
 have X:=Aa (λW(c:Zb w W)=>E8 g o G l s W (hs.below c) h8);simp only[n] at X;obtain⟨⟨P,R,T⟩,y⟩:∃v,Uk l r s=v:=⟨_,rfl⟩
 have u:r[j]? = some (P,R,T):=by unfold Uk at y;rw[n,Int.toNat_natCast,XB (by omega)] at y;rw[XB (by omega)];simpa using y
 rw[y];obtain⟨x0,x1,x2⟩:=hc j _ u;have ab:(j:Int)<(l.length:Int):=by omega
 have aa:(0:Int)<=(j:Int):=by omega
 have L:Hid (∀args w,(callFunc 15 args).run prog w=.ok (.enter 15 args) w):=Aa (enters_of func15 (by kernel_rfl) rfl);clear y u hc hs h n N;go_enter func14,ntmps14;go_wp2_with fail;have m:Zb w (w.alloc (Zk #[Zi 0,Zi 0,Zt ⟨#[]⟩] 56)):=Zal;have M:=heap_alloc_new w (Zk #[Zi 0,Zi 0,Zt ⟨#[]⟩] 56)
 have Y:Hid (∀W,Zb w W->W.cell? ⟨z,1,none⟩=some (Zs (some ⟨g,o,none⟩) l.length G)/\W.cell? ⟨D,2,none⟩=some (Zs (some ⟨a,b,none⟩) l.length q)/\W.cell? ⟨a,b+j*3,none⟩=some (Zi P)/\W.cell? ⟨a,b+j*3+1,none⟩=some (Zi R)/\W.cell? ⟨a,b+j*3+2,none⟩=some (Zt T)):=Aa (λW c=>⟨(c.cell (p:=⟨z,1,none⟩) q1).trans t,(c.cell (p:=⟨D,2,none⟩) q4).trans i,(c.cell (p:=⟨a,b+j*3,none⟩) O).trans x0,(c.cell (p:=⟨a,b+j*3+1,none⟩) O).trans x1,(c.cell (p:=⟨a,b+j*3+2,none⟩) O).trans x2⟩)
 generalize w.alloc (Zk #[Zi 0,Zi 0,Zt ⟨#[]⟩] 56)=I at *;obtain⟨p0,p3,p4,p5,p6⟩:=Y.o I m;have HZ:Hid (∀W,Zb I W->W.heap[w.heap.size]? = some (Zk #[Zi 0,Zi 0,Zt ⟨#[]⟩] 56)):=Aa (λW c=>(c.block _ (E.Ac M)).trans M);have k:=Aa m;clear t i x0 x1 x2 m M
 go_region_law
  (first
    | (refine Gc (by rfl) 15 (.tmp 8) (.tmp 9) 34 9 (by rfl) (Zs (some ⟨g,o,none⟩) l.length G) (Zt s) (by rfl) (by rfl) L.o _ (X.o I.drew k.o.drew) ?_
       rintro e U⟨rfl,f⟩;have d:Zb I U:=Ap (XC _ _).drew f;obtain⟨r0,r3,r4,r5,r6⟩:=Y.o U (Ap k.o d);obtain⟨z0,z1,z2,t0,t1,t2⟩:=J5 (HZ.o U d);refine⟨_,rfl,?_⟩)
    | fail)
 all_goals
  have J:=Aa (Ap k.o d);clear d f;go_wp2;exact bodyPost_ret (v:=Zg #[Zi P,Zi R,Zt T]) (by simp[results,results14,go_sem,z0,z1,z2]) rfl ⟨rfl,((J.o.setCell (p:=⟨w.heap.size,0,none⟩) (Y9 _) _).setCell (p:=⟨w.heap.size,1,none⟩) (Y9 _) _).setCell (p:=⟨w.heap.size,2,none⟩) (Y9 _) _⟩
theorem AGk(pa i:Tv)(g h:Tb->Int)(gt:Tb->Tb)(P:Tb->Prop)(s:Tb)(w:Tw)(r:P s)(l:∀(W:Tw)(s:Tb),P s->Zb w W->Zc 14 #[Zt s,pa,i] W λe d=>e=Zr (Zg #[Zi (g s),Zi (h s),Zt (gt s)])/\Zb W d):
 Zc 57 #[.func (.func 14) #[] #[pa,i],Zt s] w λe d=>e=Zr (Zg #[Zi (g s),Zi (h s),Zt (gt s)])/\Zb w d:=by
 have o:Hid (∀W,Zb w W->Zc 14 #[Zt s,pa,i] W λe d=>e=Zr (Zg #[Zi (g s),Zi (h s),Zt (gt s)])/\Zb W d):=λW hb=>l W s r hb
 clear l;have u:∀(j:Fn)(first c:Array Tv)(w:Tw),(Instr.makeFunc j first c).run prog w=.ok (.func j first c) w:=λ_ _ _ _=>rfl
 generalize g s=k,h s=n,gt s=t at *
 go_enter_defers func57,ntmps57
 go_wp2_with fail;refine(o.o _ (Zal)).mono ?_;rintro e b⟨rfl,a⟩;have c0:b.cell? ⟨w.heap.size,0,none⟩=some (Zi 0):=(a.cell (p:=⟨w.heap.size,0,none⟩) (by simp)).trans (by go_simp);have c1:b.cell? ⟨w.heap.size,1,none⟩=some (Zi 0):=(a.cell (p:=⟨w.heap.size,1,none⟩) (by simp)).trans (by go_simp);have q:b.cell? ⟨w.heap.size,2,none⟩=some (Zt ⟨#[]⟩):=(a.cell (p:=⟨w.heap.size,2,none⟩) (by simp)).trans (by go_simp);have x:b.frozen? ⟨w.heap.size,0,none⟩=false:=(a.frozen (p:=⟨w.heap.size,0,none⟩) (by simp)).trans (by go_simp);have y:b.frozen? ⟨w.heap.size,1,none⟩=false:=(a.frozen (p:=⟨w.heap.size,1,none⟩) (by simp)).trans (by go_simp);have z:b.frozen? ⟨w.heap.size,2,none⟩=false:=(a.frozen (p:=⟨w.heap.size,2,none⟩) (by simp)).trans (by go_simp);have m:Hid (Zb w b):=((XC _ w).alloc (Y9 _) _).trans (a.mono (by simp));clear a;go_wp2;refine leaves_cons (f:=100) (args:=#[Zp (some ⟨w.heap.size,0,none⟩)]) (by simp) (by simp[go_sem]) ?_;refine(S.AEX ⟨w.heap.size,0,none⟩ _).mono ?_;rintro e D v⟨rfl,rfl,rfl⟩;simp[Leaves,settle,results,results57,go_sem,c0,c1,q];exact((m.o.setCell (Y9 _) _).setCell (Y9 _) _).setCell (Y9 _) _
def AKk(a b:Nat):Value:=.func (.func 14) #[] #[.pointer (some ⟨a,0,none⟩),.pointer (some ⟨b,0,none⟩)]
theorem AGi(l:List Aj)(r:List V)(g o p a b:Nat)(q:Tv)(T:S.CT)(v:Tv)(w:Tw)(u:l.length<=8)(M:I1 w g o l)(f:r.length=l.length)(X:1<=l.length)(O:E.Sl w q r)(J:a<w.heap.size)(L:b<w.heap.size)(k:w.cell? ⟨a,2,none⟩=some q)(m:w.cell? ⟨b,1,none⟩=some (Zs (some ⟨g,o,none⟩) l.length p))(I:S.Gy w T v)(y:S.Kg (Rf l) T)(G:S.C9 T 24=true):
 Zc 13 #[v,AKk a b] w λe R=>e=Zr (Zi (evR l r T))/\Zb w R:=by
 refine S.AAk (Rf l) (AKk a b) _ _ _ T v w I y (λW s x z=>?_) G;refine AGk (Zp (some ⟨a,0,none⟩)) (Zp (some ⟨b,0,none⟩)) (λs=>(Uk l r s).1) (λs=>(Uk l r s).2.1) (λs=>(Uk l r s).2.2) (Rf l) s W x (λW2 s2 hP2 hb2=>?_);have d:=Ap z hb2;have j:=Ag d k;have i:=Ag d m;have N:=d.size;obtain⟨U,c,rfl,_,D⟩:=O.up d;obtain⟨t,P,rfl,n,h⟩:=D (by intro e;rw[e] at f;simp at f;omega);rw[f] at j;exact AIW l r g o p a b t P c s2 W2 u (M.below d) f hP2 i j h (by omega) (by omega) n
theorem ALI(w:Tw)(o:Obj):Zb w (w.alloc o):=Zal
theorem AAx{rs:List Px}(h:rs[i]? = some r):(rs.take (i+1)).filter p=(rs.take i).filter p++(if p r=true then [r] else []):=by rw[S.Cs h,XV];cases hp:p r <;> simp[hp]
theorem AGh{rs:List Px}(h:rs[i]? = some r)(a:p r=true):(rs.filter p)[((rs.take i).filter p).length]? = some r:=by
 have e:rs.filter p=(rs.take (i+1)).filter p++(rs.drop (i+1)).filter p:=by rw[<-XV,YM]
 rw[e,AAx h,if_pos a,List.append_assoc,List.getElem?_append_right (Y9 _),YV];rfl
theorem filter_le(rs:List Px)(i:Nat):((rs.take i).filter p).length<=rs.length:=XF (YN _ _) (by rw[XG];omega)
theorem AHk{L:List Ef}{a:To}{c1:Nat}{T:S.CT}(d:X8 w s (Zs a s.cols.length c1) u L)(l:s.cols.length<=8)(f:S.Gy w T v):
 Zc 12 #[Zs a s.cols.length c1,v] w (EPost (Ex s.cols T) w):=by
 rcases d.cols.2 with⟨_,k⟩|⟨g,h,i,j,_⟩
 ·have e:s.cols=[]:=List.length_eq_zero_iff.1 k
  rw[e];exact ABl a c1 T v w f
 injection j with b _ c;subst b c;exact ADv g 0 c1 s.cols l T v w f (I1.Fz d.cols rfl)
theorem AH8(dk:Mw)(dl:AGA)(lv:Tv)(pa:To)(pn pc:Nat)(l:List DdS)(w:Tw)(hl:F7 8 AGa w lv l)(hr:∀q∈l,Nf w q)(cs:∀W,Zb w W->Zc 10 #[Zs pa pn pc] W λe w'=>∃v T,e=Zr v/\S.Gy w' T v/\Zb W w')(he:Ik w)(hw:Lw w)(ht:Jp w)(hg:B.Ob w)(ho:S.Lp w):
 Zc 3 #[lv,Zs pa pn pc] w λe w'=>e=Zr (Zo true)/\Zb w w':=by
 have bj:=Aa (Py lv l w hl hr);unfold Pb at bj;have HL:=Aa hl;have HR:=Aa hr;have bt:=Aa cs;have HV:=Aa (And.intro he (And.intro hw (And.intro ht (And.intro hg ho))));obtain⟨la,lc,rfl,_⟩:=hl.slice;clear hl hr he hw ht hg ho cs;go_enter func3,ntmps3;go_wp2_with fail;refine bj.o.mono ?_;rintro e w1⟨b1,rfl,cz,co⟩;have I:=Aa co;have bh:=Aa cz;clear co cz bj;cases b1 with
 | false=>go_wp2_with fail;go_ret;exact⟨rfl,I.o⟩
 | true=>
   by_cases h20:pn<=20
   rotate_left
   ·have cl:(pn:Int) > 20:=by omega
    go_wp2_with fail;go_ret;exact⟨rfl,I.o⟩
   have cl:¬(pn:Int) > 20:=by omega
   have d3:=(bh.o rfl).1;have b0:=Aa (bh.o rfl).2;have ci:=Aa (dl w1 (HV.o.1.below I.o) (HV.o.2.1.below I.o) (HV.o.2.2.1.below I.o) (HV.o.2.2.2.1.below I.o) (HV.o.2.2.2.2.below I.o));clear bh;go_wp2_with fail;refine ci.o.mono ?_;rintro e w2⟨rfl,cp⟩;have N:=Aa (Ap I.o cp);have P:Hid (Ik w2/\Lw w2/\Jp w2/\B.Ob w2/\S.Lp w2):=Aa ⟨HV.o.1.below N.o,HV.o.2.1.below N.o,HV.o.2.2.1.below N.o,HV.o.2.2.2.1.below N.o,HV.o.2.2.2.2.below N.o⟩;have ce:=Aa (LwT.start w2 P.o.1 P.o.2.1 P.o.2.2.1);clear cp ci I HV;go_wp2_with fail
   go_loopw [6] (λvi wr=>∃(i m:Nat)(D:Td)(fs:List Int)(mv fv:Tv)(H:List (Dn×Ah)),i<=l.length/\vi=Zi i/\Hid (LwT w2 wr w2.heap.size i m D fs mv fv H)) (λvi _=>l.length-(intOf vi).toNat)
   case atStart=>exact⟨0,0,_,_,_,_,[],XA _,rfl,ce⟩
   case round=>
    obtain⟨i,m,D,fs,mv,fv,H,hi,rfl,HI⟩:=hrel;clear ce
    by_cases hlt:i<l.length
    ·obtain⟨q,hq⟩:∃q,l[i]? = some q:=⟨_,XB hlt⟩
     have O:=Aa (Ap N.o HI.o.base.low);obtain⟨lb,R,ec,el,_,d7,a⟩:=HL.o.cons (by omega);injection el with de _ df;subst de df;have c8:=Aa ((HR.o q (XE hq)).at (b0.o q (XE hq)));have q0:=a i q hq 0 _ rfl;have q1:=a i q hq 1 _ rfl;have q2:=a i q hq 2 _ rfl;have q3:=a i q hq 3 _ rfl;have q4:=a i q hq 4 _ rfl;have q5:=a i q hq 5 _ rfl;have q6:=a i q hq 6 _ rfl;have q7:=a i q hq 7 _ rfl;simp only[XP] at q0;have ds:(i:Int)<(l.length:Int):=by omega
     clear a hq;obtain⟨⟨wh,cols,rows,A3,ch,nm,tw,tr⟩,ca,cc,ra,rc,pa,pn,pc,sa,sc⟩:=q;simp only at q0 q1 q2 q3 q4 q5 q6 q7;have b8:=Aa (λW=>ADi i (by omega) W);have bv:=Aa (λW(b:Zb wr W)=>AHq dk w2 w2.heap.size i m D fs mv fv H ⟨wh,cols,rows,A3,ch,nm,tw,tr⟩ ca cc ra rc pa pn pc sa sc W (HI.o.up b) (by omega) P.o.2.2.2.1 P.o.2.2.2.2 (c8.o.up (Ap O.o b)));have ag:Hid (∀W,Zb w W->W.cell? ⟨lb,R+i*8,none⟩=some (Zi wh)/\W.cell? ⟨lb,R+i*8+1,none⟩=some (Zs ca cols.length cc)/\W.cell? ⟨lb,R+i*8+2,none⟩=some (Zs ra rows.length rc)/\W.cell? ⟨lb,R+i*8+3,none⟩=some (Zs pa pn pc)/\W.cell? ⟨lb,R+i*8+4,none⟩=some (Zs sa A3.length sc)/\W.cell? ⟨lb,R+i*8+5,none⟩=some (Zi ch)/\W.cell? ⟨lb,R+i*8+6,none⟩=some (Zt nm)/\W.cell? ⟨lb,R+i*8+7,none⟩=some (Zt tw)):=Aa λW hb=>⟨Ag hb q0,Ag hb q1,Ag hb q2,Ag hb q3,Ag hb q4,Ag hb q5,Ag hb q6,Ag hb q7⟩
     have bf:=Aa ((XC wr.heap.size wr).drew);clear q0 q1 q2 q3 q4 q5 q6 q7;obtain⟨q0,q1,q2,q3,q4,q5,q6,q7⟩:=ag.o _ (Ap O.o bf.o);go_wp2_with fail
     go_region_held3 (λW=>W.cell? ⟨lb,R+i*8,none⟩=some (Zi wh)/\W.cell? ⟨lb,R+i*8+1,none⟩=some (Zs ca cols.length cc)/\W.cell? ⟨lb,R+i*8+2,none⟩=some (Zs ra rows.length rc)/\W.cell? ⟨lb,R+i*8+3,none⟩=some (Zs pa pn pc)/\W.cell? ⟨lb,R+i*8+4,none⟩=some (Zs sa A3.length sc)/\W.cell? ⟨lb,R+i*8+5,none⟩=some (Zi ch)/\W.cell? ⟨lb,R+i*8+6,none⟩=some (Zt nm)/\W.cell? ⟨lb,R+i*8+7,none⟩=some (Zt tw))
      (first
        | exact ag.o _ (Ap O.o bf.o)
        | exact ag.o _ (Ap O.o cq)
        | exact ag.o _ (Ap N.o dm)
        | (go_keep;done)
        | fail)
      (first
        | (go_at_call 8
           refine(b8.o _).mono ?_;rintro e w3⟨rfl,a8⟩;have cq:=Ap bf.o a8;clear a8)
        | (go_at_call 7
           refine(bv.o _ cq).mono ?_;rintro e w4⟨er,rfl,m',D',di,dw,dj,H',bk⟩;have dm:=bk.base.low;have da:=Aa bk;clear bk)
        | fail)
     clear q0 q1 q2 q3 q4 q5 q6 q7 ag bv b8;go_wp2;exact⟨⟨i+1,m',D',di,dw,dj,H',by omega,by go_num,da⟩,by simp[intOf];omega⟩
    have ds:¬(i:Int)<(l.length:Int):=by omega
    have d4:H.length<=30:=by have:=HI.o.Iz;omega
    have O:=Aa (Ap N.o HI.o.base.low);obtain⟨xs,hT⟩:=HI.o.inv.wU H.length (Y9 _);have a0:Good Bv Cm (Ae H H.length):=(Jb HI.o.inv.past (i:=H.length) (Y9 _)).1;have b4:=Aa (Ua w2.heap.size m D mv H (-1) H.length wr HI.o.base.ground HI.o.inv.Lm HI.o.inv.past (by omega) (Y9 _) (.inl ⟨by omega,rfl⟩));have bb:=Aa (λ(T:S.CT)(v sv:Tv)W(b:Zb wr W)(hS:Dl W (Ae H H.length) sv)(hi:S.Gy W T v)=>oS w2.heap.size m D mv (Ae H H.length) sv xs T v W (HI.o.base.ground.up b) ((P.o.2.2.2.1.below HI.o.base.low).below b) ((P.o.2.2.2.2.below HI.o.base.low).below b) hS hT.Lz hi);have bz:=Aa (λ(T:S.CT)(ho:S.okT T)(hc:Ex (Ae H H.length).cols T=0)=>all_filter (Ae H H.length).cols T (uI a0) ho hc xs hT.Lz.each);have a9:=aN hT a0 .nil;have cv:=(L0 (Ae H H.length).cols .nil xs hT.Lz.each).1;have d0:xs.length<=1000:=hT.Lz.Iz
    have b6:Hid (∀z∈(Bo (Ae H H.length).cols .nil xs).1,z.2.2.length=(Ae H H.length).cols.length):=Aa (λz hz=>by rw[H9] at hz;obtain⟨x,_,dv⟩:=List.mem_flatMap.1 hz;exact ADa dv)
    have b9:Hid ((Bo (Ae H H.length).cols .nil xs).1≠[]->1<=(Ae H H.length).cols.length):=Aa (λdt=>by
     rcases Ys (Ae H H.length).cols.length with h0|h0
     ·have hx:xs=[]:=by have:=hT.Lz.files;rw[hT.Lz.bare (List.length_eq_zero_iff.1 h0)] at this;simpa using this
      exact absurd (by rw[hx];rfl) dt
     exact h0)
    have h8:=M9 a0;have bu:=Aa (λW(b:Zb wr W)=>bt.o W (Ap O.o b));clear hT a0 HI bt HL HR b0 P;generalize Ae H H.length=c at *;go_wp2_with fail;refine b4.o.mono ?_;rintro e w5⟨a1,n1,c1,x2,a2,n2,c2,rfl,cn,cr⟩;have bs:=Aa cr;have bi:=Aa cn;clear cr cn b4;unfold K4 at bi;unfold K4;have bm:Zb w5 (w5.alloc (Zk #[Zi (H.length:Int),Zs a1 n1 c1,Zi x2,Zs a2 n2 c2] 42)):=Zal;have ax:=Aa (heap_alloc_new w5 (Zk #[Zi (H.length:Int),Zs a1 n1 c1,Zi x2,Zs a2 n2 c2] 42));have bc:=Aa (Ap bs.o bm);have cf:=Aa (Dl.up bi.o bm);clear bm bi bs;go_wp2_with fail;refine(bu.o _ bc.o).mono ?_;rintro e w7⟨v,T,rfl,cw,an⟩;have ar:=Aa (Ap bc.o an);have ay:=Aa (Dl.up cf.o an);have db:=Aa ((an.block _ (Ac ax.o)).trans ax.o);have av:=Aa cw;have b7:=Aa (Ya (Ac ax.o) an.size);clear an cw bc cf ax bu
    have HZ:Hid (∀W,Zb w7 W->W.cell? ⟨w5.heap.size,0,none⟩=some (Zi (H.length:Int))/\W.cell? ⟨w5.heap.size,1,none⟩=some (Zs a1 n1 c1)/\W.cell? ⟨w5.heap.size,2,none⟩=some (Zi x2)/\W.cell? ⟨w5.heap.size,3,none⟩=some (Zs a2 n2 c2)):=Aa (λW b=>by refine⟨?_,?_,?_,?_⟩ <;> (rw[S.cell_of_heap ((b.block _ b7.o).trans db.o)];rfl))
    have c7:Hid (1<=c.cols.length->∃g,a1=some ⟨g,0,none⟩/\n1=c.cols.length/\∀W,Zb w7 W->I1 W g 0 c.cols):=Aa (λh1=>by
     obtain⟨b1,d1,b2,d2,Ls,X,hV⟩:=ay.o;simp only[Value.agg.injEq,Array.mk.injEq,List.cons.injEq,Value.int.injEq,Value.slice.injEq] at X;obtain⟨-,⟨e1,e2,e3⟩,-⟩:=X
     rcases hV.cols.2 with⟨_,h0⟩|⟨g,aj,cj,X,_⟩
     ·omega
     injection X with ak _ dh;subst ak dh;exact⟨g,e1,e2,λW b=>I1.Fz (hV.up b).cols rfl⟩)
    obtain⟨z0,z1,z2,z3⟩:=HZ.o w7 (XC _ _);have ap:=Aa (bb.o .nil (Zp none) _ w7 ar.o ay.o rfl);unfold qP at ap;simp only[dB] at ap;go_wp2_with fail;refine ap.o.mono ?_;rintro e w8⟨ao,⟨q,_⟩|⟨_,v8,rfl,dn⟩⟩
    ·exact absurd rfl q
    obtain⟨zs,e1,e2,e3⟩:=dn;obtain⟨fa,fc,rfl,_⟩:=Au e2;have HE:=Aa (And.intro e1 (And.intro e2 e3));have bd:=Aa ao;have aq:=Aa (bb.o T v _ w8 (Ap ar.o ao) (Dl.up ay.o ao) (av.o.up ao));have cb:=Aa av.o.ok
    have ae:Hid (∀W,Zb w7 W->Zc 12 #[Zs a1 n1 c1,v] W (EPost (Ex c.cols T) W)):=Aa (λW b=>by obtain⟨b1,d1,b2,d2,Ls,X,hV⟩:=Dl.up ay.o b;simp only[Value.agg.injEq,Array.mk.injEq,List.cons.injEq,Value.int.injEq,Value.slice.injEq] at X;obtain⟨-,⟨e1,e2,e3⟩,-⟩:=X;rw[e1,e2,e3];exact AHk hV h8 (av.o.up b))
    clear e1 e2 e3 ao ap bb z0 z1 z2 z3;obtain⟨z0,z1,z2,z3⟩:=HZ.o w8 bd.o;unfold qP at aq;unfold EPost at ae;have bx:=Aa (bz.o T cb.o);clear bz cb;go_wp2_with fail;refine aq.o.mono ?_;rintro e w9⟨ac,⟨aa,rfl⟩|⟨aa,v9,rfl,ct⟩⟩
    ·have h:=Aa (Ap bd.o ac)
     have o:=Aa (λW(b:Zb w9 W)=>ae.o W (Ap h.o b));rw[Et aa] at o ⊢;clear aa ac aq ae z0 z1 z2 z3;generalize (Bo c.cols .nil xs)=AR at *;obtain⟨rs,nr⟩:=AR;simp only at a9 cv ⊢;have cy:¬(0:Int) > (nr:Int):=by omega
     have L:Hid (∀W,Zb w9 W->W.cell? ⟨w5.heap.size,1,none⟩=some (Zs a1 n1 c1)):=Aa λW b=>(HZ.o W (Ap h.o b)).2.1
     have J:=Aa ((XC w9.heap.size w9).drew);have s1:=L.o _ J.o;go_wp2_with fail
     go_region_held3 (λW=>W.cell? ⟨w5.heap.size,1,none⟩=some (Zs a1 n1 c1))
      (first
        | exact L.o _ J.o
        | exact L.o _ d
        | (go_keep;done)
        | fail)
      (first
        | (go_at_call 12
           refine(o.o _ J.o).mono ?_;rintro e c6⟨rfl,s⟩;have d:=Ap J.o s;clear s)
        | fail)
     have HF:=Aa (Ap (Ap O.o ar.o) (Ap h.o d));clear d o s1 L;go_wp2_with fail
     go_loopw [16,17] (λvn vi wi=>vn=Zi 0/\vi=Zi 0/\Hid (Zb w wi)) (λ_ _ _=>0)
     case atStart=>exact⟨rfl,rfl,HF⟩
     case round=>
      obtain⟨rfl,rfl,HF⟩:=hrel
      by_cases h0:(0:Int)<(rs.length:Int)
      ·go_wp2
       go_ret;exact⟨rfl,HF.o⟩
      go_wp2;go_ret;exact⟨rfl,HF.o⟩
    have h:=Aa (Ap bd.o ac);have o:=Aa (λW(b:Zb w9 W)=>ae.o W (Ap h.o b));obtain⟨ad,cu⟩:=bx.o aa;obtain⟨cm,c3⟩:=gP aa;rw[ad] at ct;rw[aa,N7] at o;obtain⟨ys,y1,y2,y3⟩:=ct;obtain⟨ga,gc,rfl,_⟩:=Au y2;have HY:=Aa (And.intro y1 (And.intro y2 y3));have br:=Aa (And.intro cm c3);have af:Hid (zs.length=(Bo c.cols .nil xs).1.length/\w9.ownsRow w7.heap.size 53 3 (Zs fa (Bo c.cols .nil xs).1.length fc) (Bo c.cols .nil xs).1.length (zs.flatMap Og)/\∀(j:Nat)x r,zs[j]? = some x->(Bo c.cols .nil xs).1[j]? = some r->x.1=r.1/\x.2.1=r.2.1/\w9.ownsRow w7.heap.size 56 3 x.2.2 r.2.2.length (E.A1 r.2.2)):=Aa ⟨HE.o.1,E.Ad HE.o.2.1 ac,λj x r h1 h2=>⟨(HE.o.2.2 j x r h1 h2).1,(HE.o.2.2 j x r h1 h2).2.1,E.Ad (HE.o.2.2 j x r h1 h2).2.2 ac⟩⟩;clear cm c3 y1 y2 y3 ad aa bx HE ac aq ae z0 z1 z2 z3;generalize (Bo c.cols T xs).2=lk at *;generalize (Bo c.cols .nil xs)=AR at *;obtain⟨rs,nr⟩:=AR;simp only at a9 cv cu b6 b9 af HY ⊢;have cy:¬(lk:Int) > (nr:Int):=by omega
    have d5:(rs.filter (Q9 c.cols T)).length<=rs.length:=YN _ _;have d8:∀(fn:Fn)(first aj:Array Tv)(w:Tw),(Instr.makeFunc fn first aj).run prog w=.ok (.func fn first aj) w:=λ_ _ _ _=>rfl
    have L:Hid (∀W,Zb w9 W->W.cell? ⟨w5.heap.size,1,none⟩=some (Zs a1 n1 c1)):=Aa λW b=>(HZ.o W (Ap h.o b)).2.1
    have J:=Aa ((XC w9.heap.size w9).drew);have s1:=L.o _ J.o;go_wp2_with fail
    go_region_held3 (λW=>W.cell? ⟨w5.heap.size,1,none⟩=some (Zs a1 n1 c1))
     (first
       | exact L.o _ J.o
       | exact L.o _ d
       | (go_keep;done)
       | fail)
     (first
       | (go_at_call 12
          refine(o.o _ J.o).mono ?_;rintro e c6⟨rfl,s⟩;have d:=Ap J.o s;clear s)
       | fail)
    have ba:decide (nr<lk)=false:=decide_eq_false (by omega);have a6:=Aa d;have bw:=Aa (Ap (Ap O.o ar.o) (Ap h.o d));clear d o s1 L;go_wp2_with fail;simp only[ba];clear cy cu ba
    go_loopw [16,17] (λvn vi wi=>∃i:Nat,i<=rs.length/\vi=Zi (i:Int)/\vn=Zi ((((rs.take i).filter (Q9 c.cols T)).length:Nat):Int)/\Hid (Zb c6 wi)) (λ_ vi _=>rs.length-(intOf vi).toNat)
    case atStart=>exact⟨0,XA _,rfl,rfl,Aa (XC _ _)⟩
    case round=>
     obtain⟨i,hi,rfl,rfl,ai⟩:=hrel;have ea:((rs.take i).filter (Q9 c.cols T)).length<=rs.length:=filter_le rs i
     by_cases hil:i<rs.length
     ·obtain⟨r,a3⟩:∃r,rs[i]? = some r:=⟨_,XB hil⟩
      obtain⟨z,bq⟩:∃z,zs[i]? = some z:=⟨_,XB (by have:=af.o.1;omega)⟩;obtain⟨c4,c5,a5⟩:=af.o.2.2 i z r bq a3;obtain⟨V,U,zv⟩:=z;obtain⟨rp,ri,f⟩:=r;simp only at c4 c5 a5;subst c4 c5;have hm:=XE a3;have b5:=Aa (b6.o _ hm);have ck:1<=c.cols.length:=b9.o (by intro e;rw[e] at hm;cases hm);obtain⟨g,dd,dg,c0⟩:=c7.o ck;have t:=Ap a6.o ai.o;have G:=E.Ad af.o.2.1 t
      obtain⟨fb,dp,f0,f1,f2⟩:∃fb,fa=some ⟨fb,0,none⟩/\wr.cell? ⟨fb,i*3,none⟩=some (Zt V)/\wr.cell? ⟨fb,i*3+1,none⟩=some (Zi U)/\wr.cell? ⟨fb,i*3+2,none⟩=some zv:=by
       rcases G.2 with⟨_,h0⟩|⟨fb,aj,cj,X,_,hh,_,_,_⟩
       ·omega
       injection X with ak _ _;subst ak;have hc:=G.cells (g:=fb) rfl;simp only[E.addr_add] at hc
       have Y:∀(k:Nat)u,(Og (V,U,zv))[k]? = some u->wr.cell? ⟨fb,i*3+k,none⟩=some u:=λk u hu=>by have:=hc (i*3+k) u (Hi (k:=3) (enc:=Og) (λ_=>rfl) bq hu);simpa using this
       exact⟨fb,rfl,Y 0 _ rfl,Y 1 _ rfl,Y 2 _ rfl⟩
      subst dp dd dg;have cg:=Aa (E.Cy (E.Ad a5 t));obtain⟨va,vc,X,_⟩:=Au a5;subst X;have HA:=Aa (ALI wr (Zk #[Zt V,Zi U,Zs va f.length vc] 53));have aw:=Aa (heap_alloc_new wr (Zk #[Zt V,Zi U,Zs va f.length vc] 53))
      have HX:Hid (∀W,Below (wr.alloc (Zk #[Zt V,Zi U,Zs va f.length vc] 53)).heap.size (wr.alloc (Zk #[Zt V,Zi U,Zs va f.length vc] 53)) W->W.cell? ⟨wr.heap.size,0,none⟩=some (Zt V)/\W.cell? ⟨wr.heap.size,1,none⟩=some (Zi U)/\W.cell? ⟨wr.heap.size,2,none⟩=some (Zs va f.length vc)):=Aa (λW b=>by refine⟨?_,?_,?_⟩ <;> (rw[S.cell_of_heap ((b.block _ (Ac aw.o)).trans aw.o)];rfl))
      have b3:=Aa (λW(b:Below (wr.alloc (Zk #[Zt V,Zi U,Zs va f.length vc] 53)).heap.size (wr.alloc (Zk #[Zt V,Zi U,Zs va f.length vc] 53)) W)=>AGi c.cols f g 0 c1 wr.heap.size w5.heap.size (Zs va f.length vc) T v W h8 (c0 W (Ap h.o (Ap t (Ap HA.o b)))) b5.o ck (cg.o.up (Ap HA.o b)) (Ya (Ac aw.o) b.size) (Ya b7.o (Ap h.o (Ap t (Ap HA.o b))).size) (HX.o W b).2.2 (HZ.o W (Ap h.o (Ap t (Ap HA.o b)))).2.1 (av.o.up (Ap h.o (Ap t (Ap HA.o b)))) br.o.1 br.o.2);have dr:(i:Int)<(rs.length:Int):=by omega
      have d6:(0:Int)<=(i:Int):=by omega
      have cd:=Aa a3;clear hm G bq a5 c0 a3 t af;go_wp2_with fail;refine(b3.o _ (XC _ _)).mono ?_;rintro e M⟨rfl,al⟩;have ab:=Aa (Ap HA.o al);obtain⟨x0,x1,x2⟩:=HX.o M al;clear al b3 aw HA f0 f1 f2;have az:Q9 c.cols T (V,U,f)=decide (evR c.cols f T=1):=rfl;generalize evR c.cols f T=X at *;have ah:=Aa (AAx (p:=Q9 c.cols T) cd.o)
      by_cases hp:X=1
      rotate_left
      ·rw[az,decide_eq_false hp,if_neg (by simp),X4] at ah
       clear x0 x1 x2 az;go_wp2
       go_roundw
       case rel=>exact⟨i+1,by omega,by go_num,by rw[ah.o],Aa (Ap ai.o ab.o)⟩
       case measure=>simp[intOf];omega
      have bl:Q9 c.cols T (V,U,f)=true:=by rw[az,hp];rfl
      rw[bl,if_pos rfl] at ah;have ad:=AGh (p:=Q9 c.cols T) cd.o bl;have dc:Hid (((rs.take (i+1)).filter (Q9 c.cols T)).length=((rs.take i).filter (Q9 c.cols T)).length+1):=Aa (by rw[ah.o,XN];rfl);generalize ((rs.take i).filter (Q9 c.cols T)).length=n at *;have dx:n<(rs.filter (Q9 c.cols T)).length:=(List.getElem?_eq_some_iff.1 ad).1;obtain⟨y,bp⟩:∃y,ys[n]? = some y:=⟨_,XB (by have:=HY.o.1;omega)⟩;obtain⟨bn,bo,a4⟩:=HY.o.2.2 n y _ bp ad;obtain⟨yp,yi,yv⟩:=y;simp only at bn bo a4;have t:=Ap a6.o (Ap ai.o ab.o);have G:=E.Ad HY.o.2.1 t
      obtain⟨gb,dq,g0,g1,g2⟩:∃gb,ga=some ⟨gb,0,none⟩/\M.cell? ⟨gb,n*3,none⟩=some (Zt V)/\M.cell? ⟨gb,n*3+1,none⟩=some (Zi U)/\M.cell? ⟨gb,n*3+2,none⟩=some yv:=by
       rw[<-bn,<-bo]
       rcases G.2 with⟨_,h0⟩|⟨fb,aj,cj,X,_,hh,_,_,_⟩
       ·omega
       injection X with ak _ _;subst ak;have hc:=G.cells (g:=fb) rfl;simp only[E.addr_add] at hc
       have Y:∀(k:Nat)u,(Og (yp,yi,yv))[k]? = some u->M.cell? ⟨fb,n*3+k,none⟩=some u:=λk u hu=>by have:=hc (n*3+k) u (Hi (k:=3) (enc:=Og) (λ_=>rfl) bp hu);simpa using this
       exact⟨fb,rfl,Y 0 _ rfl,Y 1 _ rfl,Y 2 _ rfl⟩
      subst dq;obtain⟨ua,uc,eu,_⟩:=Au a4;subst eu
      have c9:Hid (∀W,Zb M W->Zc 16 #[Zs ua f.length uc,Zs va f.length vc] W λe w'=>e=Zr (Zo true)/\Zb W w'):=Aa (λW b=>by
       have cx:f.length<=1000:=by have:=b5.o;omega
       have:=E.AGg (Zs ua f.length uc) (Zs va f.length vc) f f W (E.Cy (E.Ad a4 (Ap t b))) (cg.o.up (Ap ab.o b)) cx cx;rw[decide_eq_true rfl] at this;exact this)
      have bg:Hid (∀W,Zb M W->W.cell? ⟨gb,n*3,none⟩=some (Zt V)/\W.cell? ⟨gb,n*3+1,none⟩=some (Zi U)/\W.cell? ⟨gb,n*3+2,none⟩=some (Zs ua f.length uc)/\W.cell? ⟨wr.heap.size,0,none⟩=some (Zt V)/\W.cell? ⟨wr.heap.size,1,none⟩=some (Zi U)/\W.cell? ⟨wr.heap.size,2,none⟩=some (Zs va f.length vc)):=Aa λW hb=>⟨Ag hb g0,Ag hb g1,Ag hb g2,Ag hb x0,Ag hb x1,Ag hb x2⟩
      have au:=Aa ((XC M.heap.size M).drew);have eb:(n:Int)<((rs.filter (Q9 c.cols T)).length:Int):=by omega
      have dy:decide ((rs.filter (Q9 c.cols T)).length<=n)=false:=decide_eq_false (by omega);have dz:¬(rs.filter (Q9 c.cols T)).length<=n:=by omega
      have d9:(0:Int)<=(n:Int):=by omega
      clear g0 g1 g2 x0 x1 x2 G bp a4 ad bl ah az bn bo HY t;obtain⟨g0,g1,g2,x0,x1,x2⟩:=bg.o _ au.o;go_wp2_with fail
      go_region_held3 (λW=>W.cell? ⟨gb,n*3,none⟩=some (Zt V)/\W.cell? ⟨gb,n*3+1,none⟩=some (Zi U)/\W.cell? ⟨gb,n*3+2,none⟩=some (Zs ua f.length uc)/\W.cell? ⟨wr.heap.size,0,none⟩=some (Zt V)/\W.cell? ⟨wr.heap.size,1,none⟩=some (Zi U)/\W.cell? ⟨wr.heap.size,2,none⟩=some (Zs va f.length vc))
       (first
         | exact bg.o _ au.o
         | exact bg.o _ a7
         | (go_keep;done)
         | fail)
       (first
         | (go_at_call 16
            refine(c9.o _ au.o).mono ?_;rintro e ed⟨rfl,am⟩;have a7:=Ap au.o am;clear am)
         | fail)
      all_goals
       clear g0 g1 g2 x0 x1 x2;go_wp2;exact⟨⟨i+1,by omega,by go_num,by rw[dc.o];go_num,Aa (Ap ai.o (Ap ab.o a7))⟩,by simp[intOf];omega⟩
     have dr:¬(i:Int)<(rs.length:Int):=by omega
     have du:rs.take i=rs:=Yd (by omega);rw[du];have HF:=Aa (Ap bw.o ai.o);go_wp2;go_ret;exact⟨rfl,HF.o⟩
def cA:Aj:=(1,⟨#[97]⟩,1,false,0,0,⟨#[]⟩)
def iL:ByteArray:=⟨#[116]⟩
def Pz:ByteArray:=⟨#[117]⟩
def txV:ByteArray:=⟨#[118]⟩
def aT:List A5:=[(4,⟨#[]⟩,0,[],[cA],2)]
def sT:Ah:=⟨1,[cA],2,[]⟩
def R2:List (List V):=[[(1,1,⟨#[]⟩)],[(1,2,⟨#[]⟩)]]
def aU:List A5:=[(1,Bw Pz 0,2,[],[],0)]
def sU:Ah:=⟨2,[cA],2,[(Bw Pz 0,2,[])]⟩
def xU:List A6:=[((Bw Pz 0,2,[]),[cA],R2)]
def tV:S.CT:=.node 0 0 ⟨1,⟨#[97]⟩,1,1,⟨#[]⟩⟩ .nil .nil
def aV:List A5:=[(3,Bw Pz 0,0,[0],[],0)]
def sV:Ah:=⟨3,[cA],2,[(Bw Pz 0,2,[0])]⟩
def xV:List A6:=[((Bw Pz 0,2,[0]),[cA],R2)]
def H1:List (Dn×Ah):=[((iL,false,aT),sT)]
def H2:List (Dn×Ah):=[((iL,false,aT),sT),((Pz,false,aU),sU)]
def H3:List (Dn×Ah):=[((iL,false,aT),sT),((Pz,false,aU),sU),((txV,true,aV),sV)]
theorem AJd:Go.Proofs.YtbhhpheailbebaaGreatDoor.Be [cA] 2=true:=by kernel_rfl
theorem AIh:De [cA] R2=true:=by kernel_rfl
theorem AJ4:Ex [cA] tV=0:=by kernel_rfl
theorem ABN:Ct [cA] tV ((Bw Pz 0,2,[]),[cA],R2)=[0]:=by kernel_rfl
theorem AFC:(E4 [cA] ((Bw Pz 0,2,[]),[cA],R2)).length=2:=by kernel_rfl
theorem goV:xU.flatMap (Vm [cA] tV)=aV:=by show Vm [cA] tV ((Bw Pz 0,2,[]),[cA],R2)++[]=aV;unfold Vm;rw[ABN,AFC];rfl
theorem AKR:xU.filterMap (pO [cA] tV)=xV:=by
 have h:pO [cA] tV ((Bw Pz 0,2,[]),[cA],R2)=some ((Bw Pz 0,2,[0]),[cA],R2):=by unfold pO;rw[ABN,AFC];simp[N6,Ir]
 unfold xU xV;rw[YQ,h];rfl
theorem AKF:Fc [cA] xV=[[(1,2,⟨#[]⟩)]]:=by kernel_rfl
theorem okT:Cv (iL,false,aT)=true:=by kernel_rfl
theorem okU:Cv (Pz,false,aU)=true:=by kernel_rfl
theorem okV:Cv (txV,true,aV)=true:=by kernel_rfl
theorem apT:Bi F6 (iL,false,aT) sT:=⟨by kernel_rfl,sT,.inr (.inr (.inr ⟨rfl,⟨(I9 _ _).1 (by kernel_rfl),by decide⟩,rfl⟩)),rfl⟩
theorem nX{s:Tb}{H:List (Dn×Ah)}{fs:List Int}{t:Ah}(g:Cv (s,a,A)=true)(e:Bi (Ae H H.length) (s,a,A) t)(f:fs=[])(h:AD8 (s,a,A) H fs H.length v):False:=by
 rcases h with h|⟨i,b,j,_,h⟩|⟨i,c,b,d,_⟩|⟨_,h⟩
 ·rw[g] at h;cases h
 ·have:i=H.length:=by omega
  subst this;exact h t e
 ·rw[Yb b] at d;cases d
 subst f;cases h
theorem apU:Bi sT (Pz,false,aU) sU:=⟨by kernel_rfl,sU,.inl ⟨rfl,⟨by kernel_rfl,by decide,by decide,by decide +kernel,(λe=>by cases e),by decide⟩,rfl⟩,rfl⟩
theorem AJN:Bt (bump sU).files (Bw Pz 0)=0:=by kernel_rfl
theorem AKq:sV=gJ (bump sU) (3,Bw Pz 0,0,[0],[],0):=by unfold gJ;simp only[AJN];simp[N6,Ir,sV,bump,sU]
theorem apV:Bi sU (txV,true,aV) sV:=⟨by kernel_rfl,sV,.inr (.inr (.inl ⟨rfl,⟨by decide +kernel,by kernel_rfl,by kernel_rfl⟩,AKq⟩)),rfl⟩
def dT:J4:=⟨0,[(0,⟨#[97]⟩,1,false,0,0,⟨#[]⟩)],[],[],0,⟨#[]⟩,⟨#[]⟩,λ_=>True⟩
def dU:J4:=⟨2,[],R2,[],0,⟨#[]⟩,⟨#[]⟩,λ_=>True⟩
def dV:J4:=⟨3,[],[],[],0,⟨#[]⟩,⟨#[]⟩,λT=>T=tV⟩
theorem mkT{D b:Td}{xs:List A6}{t:Tb}{rows:Int}(h:V7 D s xs t dT b a A rows):a=false/\A=aT:=by
 rcases h with⟨_,_,_,_,rfl,rfl,_⟩|⟨e,_⟩|⟨e,_⟩|⟨e,_⟩|⟨e,_⟩|⟨e,_⟩
 ·exact⟨rfl,rfl⟩
 all_goals exact absurd e (by decide)
theorem mkU{a:Td}{xs:List A6}{b:Bool}{rows:Int}(c:s.cols=[cA])(h:V7 D s xs Pz dU a b A rows):b=false/\A=aU/\a=D.put (B.lit (Eh (Bw Pz 0))) (Pa [cA] R2):=by
 rcases h with⟨e,_⟩|⟨e,_⟩|⟨_,_,_,rfl,rfl,rfl,_⟩|⟨e,_⟩|⟨e,_⟩|⟨e,_⟩
 rotate_left 2
 ·exact⟨rfl,rfl,by rw[c];rfl⟩
 all_goals exact absurd e (by decide)
theorem mkV{D b:Td}{t:Tb}{c:Bool}{rows:Int}(f:s.cols=[cA])(h:V7 D s xU t dV b c A rows):c=true/\A=aV/\b=D:=by
 rcases h with⟨e,_⟩|⟨e,_⟩|⟨e,_⟩|⟨_,T,d,_,_,rfl,rfl,rfl,_⟩|⟨e,_⟩|⟨e,_⟩
 rotate_left 3
 ·have a:T=tV:=d
  subst a;exact⟨rfl,by rw[f,goV],rfl⟩
 all_goals exact absurd e (by decide)
theorem AJW{w0 w W:Tw}{bb n:Nat}{fs:List Int}{mv:Tv}(h:Xt w0 w 0 bb n (.map []) fs mv [] [] iL [] dT e W):e=Zr Zn/\∃n' d b a c,Ey w0 W 0 bb n' d b a c/\n'<=n+100/\B.A0 (B.Own bb mv) w W/\(∀k,a=.map (some k)->mv=.map (some k)\/w.heap.size<=k)/\Inv d H1 [iL]:=by
 obtain⟨n',d,b,a,c,z,o,s,u,r,p,⟨rfl,j,x,A,rows,g,h⟩|⟨T,y,rfl,rfl,h⟩⟩:=h
 ·obtain⟨rfl,rfl⟩:=mkT g
  rcases h with⟨e,_⟩|⟨_,_,t,q,rfl,rfl⟩
  ·cases e
  obtain⟨rfl,_⟩:=Ry q;exact⟨rfl,n',_,b,a,c,o,s,u,r,p⟩
 exfalso
 rcases h with h|⟨j,x,A,rows,l,G,n1,v,m,g,D,f,i⟩
 ·rcases h.1 rfl with h|h
  ·have:=AJd
   rw[show Go.Proofs.YtbhhpheailbebaaGreatDoor.Be [cA] 2=false from h] at this;cases this
  exact h rfl
 obtain⟨rfl,rfl⟩:=mkT g;exact nX (H:=[]) okT apT (bJ f) i
theorem AKO(D:Td):C7 D sT []:=⟨⟨rfl,(λx a=>by cases a),XA _,by decide,λe=>by cases e⟩,(λx a=>by cases a),(λx a=>by cases a),(λx a=>by cases a)⟩
theorem AEL:K9 R2:=λr a v b=>by
 simp only[R2,XO,XK,or_false] at a
 rcases a with rfl|rfl <;> (simp at b;subst b;exact⟨by decide,by decide⟩)
theorem AI4{w0 w W:Tw}{bb n:Nat}{fs:List Int}{mv:Tv}(G:fs=[])(j:Inv D H1 [iL])(f:Maps.has D (B.lit (Eh (Bw Pz 0)))=false)(h:Xt w0 w 0 bb n D fs mv H1 [iL] Pz [] dU e W):e=.returned .nilIface/\∃n' g b a c,Ey w0 W 0 bb n' g b a c/\n'<=n+100/\B.A0 (B.Own bb mv) w W/\(∀k,a=.map (some k)->mv=.map (some k)\/w.heap.size<=k)/\Inv g H2 [Pz,iL]/\C7 g sU xU:=by
 obtain⟨n',g,b,a,c,P,u,J,L,I,v,⟨rfl,q,O,A,rows,o,h⟩|⟨T,y,rfl,rfl,h⟩⟩:=h
 ·obtain⟨rfl,rfl,rfl⟩:=mkU rfl o
  rcases h with⟨e,_⟩|⟨_,l,t,x,rfl,rfl⟩
  ·cases e
  have M:=eH x;subst M
  have m:C7 (D.put (B.lit (Eh (Bw Pz 0))) (Pa [cA] R2)) sU xU:=((AKO D).put f _).add (bD j.Lm.1 AIh AEL (by decide +kernel)) (λd z=>by
   have:d=cA:=by simpa[sT] using z
   subst this;decide) (by decide) 2
  exact⟨rfl,n',_,b,a,c,u,J,L,I,v,m.put ((l.Lm.2 1 (by decide)).2 (Y9 _)) _⟩
 exfalso
 rcases h with h|⟨q,O,A,rows,r,U,n1,N,s,o,R,i,p⟩
 ·rcases h.2.1 rfl with h|h|h
  ·cases h
  ·have:=AIh
   rw[show De [cA] R2=false from h] at this;cases this
  subst G;cases h
 obtain⟨rfl,rfl,_⟩:=mkU rfl o;exact nX (H:=H1) okU apU (bJ i) p
theorem AI9{w0 w W:Tw}{bb n:Nat}{fs:List Int}{mv:Tv}(g:Inv D H2 [Pz,iL])(x:C7 D sU xU)(h:Xt w0 w 0 bb n D fs mv H2 [Pz,iL] txV xU dV e W):e=Zr Zn/\∃n' d b a c,Ey w0 W 0 bb n' d b a c/\n'<=n+100/\B.A0 (B.Own bb mv) w W/\(∀k,a=.map (some k)->mv=.map (some k)\/w.heap.size<=k)/\Inv d H3 [txV,Pz,iL]/\C7 d sV xV:=by
 obtain⟨n',d,b,a,c,P,u,J,L,I,v,⟨rfl,q,O,A,rows,o,h⟩|⟨T,y,rfl,rfl,h⟩⟩:=h
 ·obtain⟨rfl,rfl,rfl⟩:=mkV rfl o
  rcases h with⟨e,_⟩|⟨_,j,t,z,rfl,rfl⟩
  ·cases e
  have M:=K6 z.2 apV.2;subst M;have G:Good Bv Cm sU:=(Jb g.past (i:=2) (Y9 _)).1
  have m:C7 q sV xV:=by have:=x.go G tV 3;rw[show sU.cols=[cA] from rfl,AKR] at this;exact this
  exact⟨rfl,n',_,b,a,c,u,J,L,I,v,m.put ((j.Lm.2 2 (by decide)).2 (Y9 _)) _⟩
 exfalso
 rcases h with h|⟨q,O,A,rows,r,U,n1,N,s,o,R,f,p⟩
 ·obtain⟨T,l,h⟩:=h.2.2 rfl
  have e:T=tV:=l;subst e
  rcases h with h|h
  ·cases h
  exact h AJ4
 obtain⟨rfl,rfl,_⟩:=mkV rfl o;exact nX (H:=H2) okV apV (bJ f) p
def mO(e:Vc):Gx:=((2,e.1,0,[],[],0),(none,0,0),(none,0,0))
theorem sL(s:Ah)(v:Int)(a1:To)(n1 c1:Nat)(x2:Int)(V:To)(n2 c2:Nat)(w:Tw)(hS:Dl w s (K4 v a1 n1 c1 x2 V n2 c2))(O5:s.files.length<=1000)(hz:∀e∈s.files,e.1.size<=maxLen):
 Zc 76 #[Zs V n2 c2] w λe w'=>∃a c,e=Zr (Zs a s.files.length c)/\w'.ownsRow w.heap.size 144 6 (Zs a s.files.length c) s.files.length (Ci (s.files.map mO))/\Zb w w':=by
 obtain⟨b1,d1,b2,d2,Ls,x,X⟩:=hS;unfold K4 at x;simp only[Value.agg.injEq,Array.mk.injEq,List.cons.injEq,Value.int.injEq,Value.slice.injEq] at x;obtain⟨-,-,-,⟨e1,e2,e3⟩,-⟩:=x;subst e1 e3;have o:s.files.length=Ls.length:=by rw[X.files,Y']
 have r:=Aa o;have ac:n2=s.files.length:=by omega
 subst ac;have HV:=Aa X;obtain⟨iA,I,p⟩:=Option.map_eq_some_iff.1 gO;simp only[Prod.mk.injEq] at p;have h:=Aa (And.intro I p);have HZ:=Aa hz;clear X o I p hz e2;go_enter func76,ntmps76;go_wp2_with fail
 go_loopw [3,8] (λvo vi wr=>∃(k:Nat)(a:To)(c:Nat),k<=s.files.length/\vi=Zi (k:Int)/\vo=Zs a k c/\Hid (wr.ownsRow w.heap.size 144 6 (Zs a k c) k (Ci ((s.files.take k).map mO)))/\Hid (Zb w wr)) (λ_ vi _=>s.files.length-Ev vi)
 case atStart=>exact⟨0,none,0,XA _,rfl,rfl,Aa (XJ _ _ _ _),Aa (XC _ _)⟩
 case round=>
  obtain⟨k,a,c,hk,rfl,rfl,R,L⟩:=hrel
  rcases Yc k s.files.length with ah|ag
  ·obtain⟨y,q⟩:∃y,Ls[k]? = some y:=⟨_,XB (by have:=r.o;omega)⟩
   have D:s.files[k]? = some y.1:=by rw[HV.o.files,XW,q];rfl
   obtain⟨⟨b,M,mask⟩,ma,mn,mc⟩:=y;have f:=Bc HV.o.row L.o
   obtain⟨fb,Y,o,e0,e1,af⟩:∃fb,V=some ⟨fb,0,none⟩/\fb<wr.heap.size/\wr.cell? ⟨fb,k*3,none⟩=some (Zt b)/\wr.cell? ⟨fb,k*3+1,none⟩=some (Zi M)/\wr.cell? ⟨fb,k*3+2,none⟩=some (Zs ma mn mc):=by
    rcases f.2 with⟨_,h0⟩|⟨fb,ad,ae,x,_,hh,_,_,_⟩
    ·have:=r.o;omega
    injection x with W _ _;subst W;have hc:=f.cells (g:=fb) rfl;simp only[E.addr_add] at hc
    have n:∀(i:Nat)u,(Lv ((b,M,mask),ma,mn,mc))[i]? = some u->wr.cell? ⟨fb,k*3+i,none⟩=some u:=λi u N=>by have:=hc (k*3+i) u (Hi (k:=3) (enc:=Lv) (λ_=>rfl) q N);simpa using this
    exact⟨fb,rfl,E.Ac hh,n 0 _ rfl,n 1 _ rfl,n 2 _ rfl⟩
   subst Y;have ab:(k:Int)<(s.files.length:Int):=by omega
   have U:Hid ((s.files.take (k+1)).map mO=(s.files.take k).map mO++[mO (b,M,mask)]):=Aa (by rw[S.Cs D];simp);obtain⟨t0,t1,t2,t3⟩:=C1 wr (Zk #[Zt b,Zi M,Zs ma mn mc] 65) (Zk #[Zi 2,Zt b,Zi 0,Zs none 0 0,Zs none 0 0,Zi 0] 144);have l:=Aa t3;have P:=Aa t2;have J:=L.o.size;clear f q D t0 t1 t2 t3
   go_wp2_with (first
    | (at_builtin;refine wpList_append_own _ rfl _ _ 84 rfl w.heap.size 144 iA Mi 6 88 underlying84 h.o.1 h.o.2.1 h.o.2.2.1 h.o.2.2.2 rfl (by decide) (.slice a k c) k _ rfl (Bc R.o l.o) ⟨wr.heap.size+1,0,none⟩ 1 1 [Zi 2,.string b,Zi 0,.slice none 0 0,.slice none 0 0,Zi 0] rfl rfl (λj u hj=>XT P.o j u hj) (by intro u N;simp only[XO,XK,or_false] at N;rcases N with rfl|rfl|rfl|rfl|rfl|rfl <;> rfl) (by unfold maxLen;omega) (by omega) (XF J l.o.size) ?_
       intro v5 w5 d G _;have t:=Aa d;have O:=Aa G;clear d G))
   obtain⟨a',c',rfl,_⟩:=Au t.o;have z:=Ap L.o l.o;refine⟨⟨k+1,a',c',by omega,by simp,rfl,Aa ?_,Aa (z.grown O.o z.size (λj hj=>Fu R.o hj))⟩,by simp only[Ev];omega⟩;rw[U.o];simpa[Ci,nU,mO,sv] using t.o
  have ab:¬((k:Int)<(s.files.length:Int)):=by omega
  have aa:k=s.files.length:=by omega
  subst aa;have m:=R.o;rw[Ye] at m;have T:=Aa m;clear m;go_wp2;go_ret;exact⟨_,_,rfl,T.o,L.o⟩
def Uj(x:Ef):Bool:=decide (0<x.2.2.1)
theorem AES(w:Tw):PredBelow prog 113 #[] (λx:Ef=>Zg (Lv x).toArray) Uj w:=λW c hb=>by
 obtain⟨⟨p,r,m⟩,b,a,d⟩:=c;show Zc 113 #[Zg #[Zt p,Zi r,Zs b a d]] W _;have e:Hid (Uj ((p,r,m),b,a,d)=decide (0<a)):=rfl;generalize Uj ((p,r,m),b,a,d)=q at *
 by_cases hq:0<a
 ·have f:(0:Int)<(a:Int):=by omega
  go_enter func113,ntmps113;go_wp2
  all_goals (go_ret;exact⟨(by rw[e.o];simp[hq]),hb.alloc hb.size _⟩)
 have f:¬(0:Int)<(a:Int):=by omega
 go_enter func113,ntmps113;go_wp2
 all_goals (go_ret;exact⟨(by rw[e.o];simp[hq]),hb.alloc hb.size _⟩)
theorem dO(a:To)(c:Nat)(b:Tv)(w:Tw):Zc 166 #[Zs a 0 c,b] w λe d=>e=Zr (Zi (-1))/\d=w:=by go_enter func166,ntmps166;go_wp2_with fail;refine wp_loop_rounds 1 ?_;rw[rounds_succ];go_wp2;go_ret;exact⟨rfl,rfl⟩
theorem AF2(a:To)(c:Nat)(b:Tv)(w:Tw):Zc 112 #[Zs a 0 c,b] w λe d=>e=Zr (Zo false)/\d=w:=by go_enter func112,ntmps112;go_wp2_with fail;refine(dO a c _ _).mono ?_;rintro e f⟨rfl,rfl⟩;go_wp2;go_ret;exact⟨rfl,rfl⟩
theorem AGc(a:To)(c:Nat)(b:List Ef)(w:Tw)(h:w.ownsRow 0 65 3 (Zs a b.length c) b.length (A8 b))(y:b.length<=1000):
 Zc 112 #[Zs a b.length c,.func (.func 113) #[] #[]] w λe o=>e=Zr (Zo (b.any Uj))/\Zb w o:=by
 rcases h.2 with⟨e0,t⟩|⟨g,p,q,s,_,u,_,_,_⟩
 ·have:b=[]:=List.length_eq_zero_iff.1 t
  subst this;refine(AF2 a c _ w).mono ?_;rintro e o⟨rfl,rfl⟩;exact⟨rfl,XC _ _⟩
 injection s with l _ _;subst l;have r:∀args w,(callFunc 113 args).run prog w=.ok (.enter 113 args) w:=enters_of func113 (by kernel_rfl) rfl
 have f:∀j,j<b.length->∀i v,(Lv b[j]!)[i]? = some v->w.cell? ⟨g,0+j*3+i,none⟩=some v:=λj n i v x=>by have m:=h.cells (g:=g) rfl;simp only[E.addr_add] at m;have:=m (j*3+i) v (Hi (k:=3) (enc:=Lv) (λ_=>rfl) (by rw[XB n,<-getElem!_pos b j n]) x);simpa using this
 have d:=AnyQ.slices_ContainsFunc layConE 3 isAgg65 sizeOf65 Lv (λ_=>rfl) Uj 113 #[] r g 0 b.length c b w (AES w) (Y9 _) (by omega) (E.Ac u) f;rw[Ye] at d;exact d
theorem AGE{d:List Ef}(h:X8 w s v u d):d.any Uj=!decide (∀e∈s.files,e.2.2=[]):=by
 have g:∀x∈d,x.2.2.1=x.1.2.2.length:=λx b=>by obtain⟨a,c,e,_⟩:=Au (h.Cl x b);obtain⟨_,m,n,o⟩:=x;unfold sv at e;injection e with _ e _
 rw[Bool.eq_iff_iff];simp only[List.any_eq_true,Bool.not_eq_true',decide_eq_false_iff_not,Uj,decide_eq_true_eq,h.files,List.mem_map];constructor
 ·rintro⟨x,b,f⟩j
  have i:=j _ ⟨x,b,rfl⟩;rw[g x b,i] at f;simp at f
 intro l;refine Classical.byContradiction λk=>l ?_
 rintro e⟨x,b,rfl⟩;refine List.length_eq_zero_iff.1 (Classical.byContradiction λf=>k ⟨x,b,?_⟩);rw[g x b];omega
theorem nW(s:Ah)(v:Int)(o:To)(n1 c1:Nat)(D:Int)(i:To)(n2 j:Nat)(n:Nat)(w:Tw)(u:Dl w s (K4 v o n1 c1 D i n2 j))(O5:s.files.length<=1000)(N:n<=100000):
 Zc 73 #[Zs i n2 j,Zi (n:Int)] w λe y=>∃q,e=Zr (Zo q)/\(q=true↔Tog s n)/\Zb w y:=by
 obtain⟨I,L,J,M,c,k,g⟩:=u;unfold K4 at k;simp only[Value.agg.injEq,Array.mk.injEq,List.cons.injEq,Value.int.injEq,Value.slice.injEq] at k;obtain⟨-,-,-,⟨p,r,t⟩,-⟩:=k;subst p t;have f:s.files.length=c.length:=by rw[g.files,Y']
 have l:n2=c.length:=by omega
 subst l;have m:=AGE g;have a:=AGc i j c w g.row (by omega)
 have h:Hid ((!c.any Uj && decide (c.length<=(n+59) / 60))=true↔Tog s n):=Aa (by rw[m];unfold Tog n60;rw[f];simp)
 clear g f m r;generalize c.any Uj=z at *
 have x:(((n:Int)+60-1).tdiv 60)=(((n+59) / 60:Nat):Int):=by rw[Int.tdiv_eq_ediv_of_nonneg (by omega)];omega
 have G:=Aa x;go_enter func73,ntmps73;go_wp2_with fail;refine a.mono ?_;rintro e O⟨rfl,d⟩;have b:=Aa d;clear d a;cases z with
 | true=>go_wp2;go_ret;exact⟨_,rfl,h.o,b.o⟩
 | false=>
   by_cases hle:c.length<=(n+59) / 60
   ·go_wp2
    go_ret;exact⟨true,(by simp;omega),(by simpa[hle] using h.o),b.o⟩
   go_wp2;go_ret;exact⟨false,(by simp;omega),(by simpa[hle] using h.o),b.o⟩
theorem cH:∀l:List Gx,(Ci l).length=l.length*6
 | []=>rfl
 | c :: l=>by simp only[Ci,List.flatMap_cons,XN,XL];have:=cH l;simp only[Ci] at this;rw[this];simp[nU];omega
theorem yB(l:List Gx):∀u∈Ci l,u.oneCell'=true:=by
 intro u b;simp only[Ci,List.mem_flatMap] at b;obtain⟨c,_,a⟩:=b;simp only[nU,XO,XK,or_false] at a
 rcases a with rfl|rfl|rfl|rfl|rfl|rfl <;> rfl
theorem iQ(a b:List Gx):Ci (a++b)=Ci a++Ci b:=by simp[Ci]
theorem pL(n:Nat):(Builtin.zeroCells Mi.cells n).size=n*6:=by simp[Builtin.zeroCells,show Mi.cells.size=6 from rfl]
theorem AB8(n:Nat)(w:Tw)(o:1<=n)(p:n<=1000):
 Zc 115 #[Zs none 0 0,Zi n] w λe i=>∃k j,e=Zr (Zs (some ⟨k,0,none⟩) 0 j)/\i.ownsRow w.heap.size 144 6 (Zs (some ⟨k,0,none⟩) 0 j) 0 (Ci [])/\Zb w i:=by
 obtain⟨m,f,b⟩:=Option.map_eq_some_iff.1 gO;simp only[Prod.mk.injEq] at b;obtain⟨g,l,h⟩:=b;refine(Any8.slices_Grow_grow layGroA m Mi f g (by omega) none 0 0 n [] w (Y9 _) (by omega) (by rw[h];omega) (by omega) (by simp) (λ_=>rfl) (λa ha=>by cases ha)).mono ?_;rintro e i⟨rfl,rfl⟩;have d:0+n<=grownCap w (0+n) 0 144:=grownCap_ge w _ _ _;have c:grownCap w (0+n) 0 144<=maxLen:=grownCap_le_maxLen w (0+n) 0 144 (by unfold maxLen;omega);refine⟨_,_,rfl,?_,((XC _ _).drew).alloc (Y9 _) _⟩
 change (w.drew.alloc (Zk (#[]++Builtin.zeroCells Mi.cells (0+n-0)++Builtin.zeroCells Mi.cells (grownCap w (0+n) 0 144-(0+n))) 144)).ownsRow w.heap.size 144 6 (Zs (some ⟨w.heap.size,0,none⟩) 0 (grownCap w (0+n) 0 144)) 0 []
 generalize grownCap w (0+n) 0 144=G at d c;exact YS (w:=w.drew) _ G (Y9 _) c (by simp only[Array.size_append,pL,Array.size_empty];omega)
theorem Oa{n:Array Oper}{rest:List Oper}{o:Oper}{a:Act}{Q:Exit->Act->Tw->Prop}{W:Tw}(i:o.guard=none)(s x:Operand)(z:o.op=.call { callee:=.builtin .append,args:=#[s,x],argTypes:=#[84,84] })(base g c:Nat)(l:List Gx)(D:a.eval s=Zs (some ⟨g,0,none⟩) l.length c)(b:W.ownsRow base 144 6 (Zs (some ⟨g,0,none⟩) l.length c) l.length (Ci l))(L:Nat)(J:Tv)(m:List Gx)(G:a.eval x=J)(y:W.ownsRow L 144 6 J m.length (Ci m))(U:l.length+m.length<=1000)(e:base<=W.heap.size)(h:∀q f p,Hid (p.ownsRow base 144 6 (Zs (some ⟨q,0,none⟩) (l.length+m.length) f) (l.length+m.length) (Ci (l++m))/\W.grownBy p (some g))->wpList prog n Q rest (a.put o.dst (Zs (some ⟨q,0,none⟩) (l.length+m.length) f)) p):wpList prog n Q (o :: rest) a W:=by
 obtain⟨I,j,k⟩:=Option.map_eq_some_iff.1 gO;simp only[Prod.mk.injEq] at k;obtain⟨r,t,u⟩:=k
 rcases Di y with⟨d,O⟩|⟨v,N,d,-,-,-,-⟩
 ·have:m=[]:=List.length_eq_zero_iff.1 O
  subst this d;refine wpList_append_own_none i s x 84 z base 144 I 6 underlying84 j _ _ _ D b G ?_;exact h g c W ⟨by simpa using b,World.grownBy.refl _ _⟩
 subst d;have T:=y.cells (g:=v) rfl;refine wpList_append_own W i s x 84 z base 144 I Mi 6 88 underlying84 j r t u rfl (by omega) _ _ _ D b ⟨v,0,none⟩ m.length N (Ci m) G (cH m) T (yB m) (by unfold maxLen;omega) (by omega) e ?_;intro v' p w P R
 rcases Di w with⟨d,_⟩|⟨q,M,d,-,-,-,-⟩
 ·exact absurd (R.1 d).1 (by simp)
 subst d;exact h q M p ⟨by rw[iQ];exact w,P⟩
theorem uO(p:Nat)(n o:To)(c1 q:Nat)(a b:List Gx)(u v:Nat)(w:Tw)(s:w.cell? ⟨p,0,none⟩=some (Zs n a.length c1))(t:w.cell? ⟨p,1,none⟩=some (Zs o b.length q))(J:p<w.heap.size)(G:w.ownsRow u 144 6 (Zs n a.length c1) a.length (Ci a))(I:w.ownsRow v 144 6 (Zs o b.length q) b.length (Ci b))(V:1<=a.length+b.length)(X:a.length+b.length<=1000):
 Zc 75 #[Zs (some ⟨p,0,none⟩) 2 2] w λe m=>∃i h,e=Zr (Zs (some ⟨i,0,none⟩) (a.length+b.length) h)/\m.ownsRow w.heap.size 144 6 (Zs (some ⟨i,0,none⟩) (a.length+b.length) h) (a.length+b.length) (Ci (a++b))/\Zb w m:=by
 have O:Hid (Zc 115 #[Zs none 0 0,Zi ((a.length:Int)+(b.length:Int))] w λe m=>∃i h,e=Zr (Zs (some ⟨i,0,none⟩) 0 h)/\m.ownsRow w.heap.size 144 6 (Zs (some ⟨i,0,none⟩) 0 h) 0 (Ci [])/\Zb w m):=by have:=AB8 (a.length+b.length) w V X;rwa[show ((a.length+b.length:Nat):Int)=(a.length:Int)+(b.length:Int) by omega] at this
 have M:=Aa G;have N:=Aa I;have x:Hid (∀W,Zb w W->W.cell? ⟨p,0,none⟩=some (Zs n a.length c1)/\W.cell? ⟨p,1,none⟩=some (Zs o b.length q)):=λW D=>⟨(D.cell (p:=⟨p,0,none⟩) J).trans s,(D.cell (p:=⟨p,1,none⟩) J).trans t⟩
 clear G I;have n1:¬(a.length:Int)<0:=by omega
 have n2:¬(a.length:Int)+(b.length:Int)<0:=by omega
 have Y:IntKind.i64.wrap ((a.length:Int)+(b.length:Int))=(a.length:Int)+(b.length:Int):=by rw[IntKind.wrap_i64];omega
 have n4:IntKind.i64.wrap (a.length:Int)=(a.length:Int):=by rw[IntKind.wrap_i64];omega
 go_enter func75,ntmps75;go_wp2;refine wp_loop_rounds 3 ?_;rw[rounds_succ];go_wp2;rw[rounds_succ];go_wp2;rw[rounds_succ]
 go_wp2_with (first
  | (go_at_call 115;refine O.o.mono ?_;rintro e w1⟨T,P,rfl,k,c⟩;obtain⟨r0,r1⟩:=x.o _ c))
 refine wp_loop_rounds 3 ?_;rw[rounds_succ];go_wp2_with (at_builtin;refine Oa rfl _ _ rfl w.heap.size T P [] rfl k u _ a rfl (Bc M.o c) (by simp;omega) c.size ?_;intro z y L f;have d:Zb w L:=c.grown f.o.2 c.size (λj hj=>by cases hj;exact(k.lt _ rfl).1);obtain⟨s0,s1⟩:=x.o _ d;have g:Hid (L.ownsRow w.heap.size 144 6 (Zs (some ⟨z,0,none⟩) a.length y) a.length (Ci a)):=Aa (by have:=f.o.1;simpa using this);clear f);rw[rounds_succ];go_wp2_with (at_builtin;refine Oa rfl _ _ rfl w.heap.size z y a rfl g.o v _ b rfl (Bc N.o d) (by omega) d.size ?_;intro U R w5 l;have r:Zb w w5:=d.grown l.o.2 d.size (λj hj=>by cases hj;exact(g.o.lt _ rfl).1));rw[rounds_succ];go_wp2;go_ret;exact⟨U,R,rfl,l.o.1,r⟩
attribute [local go_sem] Oper.semAt_some
theorem qS(b:To)(len a:Nat)(w:Tw):
 Zc 74 #[Zs b len a,Zi 60] w λe c=>e=Zr (.func (.func 114) #[] #[Zp (some ⟨w.heap.size,0,none⟩),Zp (some ⟨w.heap.size+1,0,none⟩)])/\c=(w.alloc (Zk #[Zs b len a] 35)).alloc (Zk #[Zi 60] 3):=by
 go_enter func74,ntmps74;go_wp2;go_ret;exact⟨rfl,rfl⟩
abbrev CK6(n:Nat):={ k:Nat // 60*k<n }
def AG1{n:Nat}(x:CK6 n):Nat:=x.1
def nE(n k:Nat):Nat:=if n-60*k<60 then n-60*k else 60
def ACt(b off n:Nat)(k:CK6 n):Value:=.slice (some ⟨b,off+60*k.1,none⟩) (nE n k.1) (nE n k.1)
theorem xD(n:Nat)(_hn:1<=n)(l h g b off len a:Nat)(r:To)(d:0<len->r=some ⟨b,off,none⟩)(hlen:len<=100000)(N:len<=a)(J I:List (CK6 len)->Tw->Prop)(y:∀pre W,J pre W->J pre W.drew)(hY:∀pre x W,J pre W->pre.length<n60 len->YieldAt Fence.wide (n-1) prog l #[ACt b off len x] W λe f=>
   (e=Zr (Zo true)/\J (pre++[x]) f/\KpC h g W f)\/(e=Zr (Zo false)/\I (pre++[x]) f))(W:Tw)(u:W.cell? ⟨h,0,none⟩=some (Zs r len a))(t:W.cell? ⟨g,0,none⟩=some (Zi 60))(h0:J [] W):
 CallsIn Fence.wide n prog 114 #[.func (.yield l) #[] #[],Zp (some ⟨h,0,none⟩),Zp (some ⟨g,0,none⟩)] W λe f=>(∃v,e=Zr v) /\
  ((∃T:List (CK6 len),T.map AG1=List.range (n60 len)/\J T f)\/(∃pre:List (CK6 len),True/\I pre f)):=by
 refine callsIn_of_wp func114 rfl trivial ?_ rfl;simp only[ntmps114,XX,XL,X6,Nat.reduceAdd,Nat.reduceSub,XQ,XR,XY,XU,X',XZ];gi_wp2
 gi_loopw [4] (λi wr=>∃(k:Nat)(pre:List (CK6 len)),k<=n60 len/\i=Zi ((60*k:Nat):Int)/\pre.map AG1=List.range k/\J pre wr/\wr.cell? ⟨h,0,none⟩=some (Zs r len a)/\wr.cell? ⟨g,0,none⟩=some (Zi 60))
  (λi _=>len+60-(intOf i).toNat)
 case atStart=>exact⟨0,[],XA _,rfl,rfl,h0,u,t⟩
 case round=>
  obtain⟨k,pre,hk,rfl,c,j,R,q1⟩:=hrel;have D:pre.length=k:=by have:=congrArg List.length c;simpa using this
  by_cases hlt:60*k<len
  ·obtain⟨fn,tmps,assign,body,G,hR⟩:=hY pre ⟨k,hlt⟩ wr.drew (y _ _ j) (by rw[D];unfold n60;omega)
   have s:Hid (60*k<len):=Aa hlt;have z:k<n60 len:=by unfold n60;omega
   obtain⟨m,q⟩:∃m,60*k=m:=⟨_,rfl⟩;have M:nE len k=(((m:Int)+min 60 ((len-m:Nat):Int)).toNat-m):=by unfold nE;rw[q];split <;> omega
   unfold ACt at G;dsimp only at G;rw[M,q] at G;rw[q] at hlt ⊢;have O:(m:Int)<(len:Int):=by omega
   have P:(m:Int)<=(len:Int):=by omega
   have ac:(0:Int)<=(m:Int):=by omega
   have aa:¬a=m:=by omega
   have ad:m<=a:=by omega
   have U:=Aa q;have X:=Aa R;rw[d (by omega)] at R;have V:=Aa d;clear d;clear M q;gi_wp2;refine wpIn_wide.2 ?_
   go_region
   all_goals gi_wp2
   refine hR.mono ?_;rintro e L (⟨rfl,w,p⟩|⟨rfl,o⟩)
   ·have p0:L.cell? ⟨h,0,none⟩=some (Zs r len a):=p.1.trans X.o
    have p1:L.cell? ⟨g,0,none⟩=some (Zi 60):=p.2.trans q1;gi_wp2
    go_roundw
    case rel=>
     refine⟨k+1,pre++[⟨k,s.o⟩],z,?_,?_,w,p0,p1⟩
     ·have:=U.o
      congr 1;omega
     rw[XH,c,List.range_succ];rfl
    case measure=>simp[intOf];omega
   gi_wp2;refine bodyPost_ret (results_none rfl _ _ _) rfl ?_;exact⟨⟨_,rfl⟩,.inr ⟨_,trivial,o⟩⟩
  have ab:¬((60*k:Nat):Int)<(len:Int):=by omega
  have Y:k=n60 len:=by unfold n60 at hk ⊢;omega
  gi_wp2
  go_end0
  exact⟨⟨_,rfl⟩,.inl ⟨pre,by rw[c,Y],j⟩⟩
theorem jC(n:Nat)(o:1<=n)(d c b off len a:Nat)(k:To)(j:0<len->k=some ⟨b,off,none⟩)(hlen:len<=100000)(f:len<=a)(w:Tw)(i:d<w.heap.size)(g:c<w.heap.size)(q:w.cell? ⟨d,0,none⟩=some (Zs k len a))(m:w.cell? ⟨c,0,none⟩=some (Zi 60)):
 SeqStopsK Fence.wide n prog 114 #[Zp (some ⟨d,0,none⟩),Zp (some ⟨c,0,none⟩)] (λx:CK6 len=>#[ACt b off len x]) (KpC d c) (λys=>ys.map AG1=List.range (n60 len)) (λ_=>True) (n60 len) w:=λl J Jx W hW hJ _ hY h0=>
 xD n o l d c b off len a k j hlen f J Jx (λpre W h=>hJ pre W _ none h ⟨rfl,rfl,rfl,Y9 _,λ_ _ _=>rfl⟩ (λr e=>by cases e)) hY W ((hW.cell (p:=⟨d,0,none⟩) i).trans q) ((hW.cell (p:=⟨c,0,none⟩) g).trans m) h0
variable{W w:Tw}{u v:Tv}{i:Nat}{s:Ah}{L:List Gx}{D:Td}{x:Int}{R:List (List V)}
theorem qF{b off n c:Nat}{rows:List (List V)}(h:iJ w (Zs (some ⟨b,off,none⟩) n c) rows)(J:n=rows.length)(k:CK6 rows.length):iJ w (ACt b off rows.length k) (Gg rows k.1):=by
 obtain⟨m,q,s,t⟩:=h;have I:=k.2;obtain⟨z,l,D,e,G,v,a⟩:=q.cons (by omega);injection e with g _ _;injection g with g;injection g with o p _;subst o p;have y:(Gg rows k.1).length=nE rows.length k.1:=by simp only[Gg,XG,X2,nE];split <;> omega
 have d:((m.drop (60*k.1)).take 60).length=nE rows.length k.1:=by simp only[XG,X2,nE,s];split <;> omega
 refine⟨(m.drop (60*k.1)).take 60,⟨_,nE rows.length k.1,by rw[d];rfl,by rw[d];exact Y9 _,λ_=>⟨b,off+60*k.1,rfl,v,λj x hx i u hu=>?_⟩⟩,by rw[y,d],λj x r hx hr=>?_⟩
 ·have f:j<60:=by have:=Ax hx;rw[XG] at this;omega
  rw[Yl f,XI] at hx;have:=a (60*k.1+j) x hx i u hu;rwa[show off+(60*k.1+j)*1+i=off+60*k.1+j*1+i by omega] at this
 have f:j<60:=by have:=Ax hx;rw[XG] at this;omega
 rw[Yl f,XI] at hx;unfold Gg at hr;rw[Yl f,XI] at hr;exact t _ x r hx hr
theorem jX(b:Tb)(l:List Aj)(p:List (List V)):∀(a:List (List (List V)))(k:Nat)(D:Td),Km b l k (a++[p]) D=(Km b l k a D).put (B.lit (Eh (Bw b (k+a.length)))) (Pa l p)
 | [],k,D=>by simp[Km]
 | q :: a,k,D=>by show Km b l (k+1) (a++[p]) _=_;rw[jX b l p a (k+1)];simp only[Km,XL];rw[show k+1+a.length=k+(a.length+1) by omega]
theorem ACh(b:Tb)(k:Nat)(a:List (List (List V)))(p:List (List V)):N5 b k (a++[p])=N5 b k a++[(1,Bw b (k+a.length),(p.length:Int),[],[],0)]:=by unfold N5;rw[List.zipIdx_append];simp
theorem eQ(b:Tb)(k:Nat)(a:List (List (List V))):(N5 b k a).length=a.length:=by simp[N5]
theorem V4{b e z n:Nat}{xs:List Tv}{row:Option Nat}(h:w.ownsRow b e z v n xs)(m:w.grownBy W row)(p:∀r,row=some r->∃o:Obj,w.heap[r]? = some o/\o.isCells=false):W.ownsRow b e z v n xs:=by
 refine⟨h.1,?_⟩
 rcases h.2 with k|⟨g,c,a,q,d,f,i⟩
 ·exact .inl k
 refine .inr ⟨g,c,a,q,d,(m.block g (Ac f) (λe=>?_)).trans f,i⟩;obtain⟨o,j,l⟩:=p g e.symm;rw[f] at j;cases j;cases l
theorem vX{cs:Array Tv}{t:TypeId}{row:Option Nat}(h:w.heap[i]? = some (Zk cs t (0,0)))(c:w.grownBy W row)(d:∀r,row=some r->∃o:Obj,w.heap[r]? = some o/\o.isCells=false):W.heap[i]? = some (Zk cs t (0,0)):=by refine(c.block i (Ac h) (λe=>?_)).trans h;obtain⟨o,a,b⟩:=d i e.symm;rw[h] at a;cases a;cases b
theorem Dv.no{base:Nat}{n:Nat}{v:Int}{d:To}{n1 c1:Nat}{y:Int}{f:To}{n2 k:Nat}{t:Tb}{l:Bool}{g:To}{rows:Int}{row:Option Nat}(h:Dv base w n s v d n1 c1 y f n2 k t l g i L rows)(a:w.grownBy W row)(b:∀r,row=some r->∃o:Obj,w.heap[r]? = some o/\o.isCells=false):Dv base W n s v d n1 c1 y f n2 k t l g i L rows:=by refine⟨vX h.box a b,?_,V4 h.row a b,λq j=>⟨V4 (h.own q j).1 a b,V4 (h.own q j).2 a b⟩,h.Vv,h.low⟩;obtain⟨p,z,u,D,m,e,c⟩:=h.snap;exact⟨p,z,u,D,m,e,V4 c.cols a b,c.files,V4 c.row a b,λx G=>V4 (c.Cl x G) a b⟩
theorem bF{w0 w W:Tw}{j bb n d:Nat}{fs:List Int}{row:Option Nat}{B0:Nat}(h:Ey w0 w j bb n D fs (.map (some d)) v)(s:d<B0)(u:w0.heap.size<=B0)(a:w.grownBy W row)(f:∀r,row=some r->B0<=r/\∃o:Obj,w.heap[r]? = some o/\o.isCells=false):Ey w0 W j bb n D fs (.map (some d)) v:=by
 have l:B.A0 (λi=>row=some i) w W:=⟨a.os,a.tape,a.output,a.size,λk s hn=>a.block k s (λe=>hn e.symm)⟩;refine⟨h.bu.only l (λe=>?_) (λm e q=>?_) (λp x b q=>?_),l.below h.low h.low.size (λi q=>XF u (f i q).1),h.hb,h.hm,h.er,h.nc,h.tb,h.hf⟩
 ·obtain⟨_,o,c,b⟩:=f bb e
  have g:w.heap[bb]? = _:=h.bu.1;rw[g] at c;cases c;cases b
 ·cases e
  have:=(f _ q).1;omega
 obtain⟨_,o,c,t⟩:=f _ q;unfold World.cell? at b;rw[c] at b;cases o <;> simp_all [Obj.isCells]
def CmI(w0:World)(e bb n:Nat)(D:DataW Unit)(c base l:Nat)(s:Ah)(v:Int)(f:Option Addr)(n1 c1:Nat)(m:Int)(g:Option Addr)(n2 j:Nat)(d:ByteArray)(rows:Int)(R:List (List V))(W8:World)(pre:List (CK6 R.length))(W:World):Prop :=
 ∃n' a b h i L,Ey w0 W e bb n' (Km d s.cols 0 (pre.map λk=>Gg R k.1) D) a (.map (some c)) b/\n'<=n+pre.length/\Dv base W l s v f n1 c1 m g n2 j d true h i L rows /\
  L.map (·.1)=N5 d 0 (pre.map λk=>Gg R k.1)/\(∀k∈pre,De s.cols (Gg R k.1)=true)/\Mv base bb (.map (some c)) (.map (some c)) W8 W
theorem CmI.own{w0:Tw}{k bb n:Nat}{i base j:Nat}{v:Int}{l:To}{n1 c1:Nat}{p:To}{n2 d:Nat}{t:Tb}{rows:Int}{W8:Tw}{B0:Nat}(J:i<B0)(N:w0.heap.size<=B0)(O:W8.heap.size<=B0):OwnFrom B0 (CmI w0 k bb n D i base j s v l n1 c1 x p n2 d t rows R W8):=λpre A C row M f g=>by
 obtain⟨n',a,b,q,u,L,w,y,z,G,I,c⟩:=M;have h:∀r,row=some r->∃o:Obj,A.heap[r]? = some o/\o.isCells=false:=λr e=>(g r e).2
 exact⟨n',a,b,q,u,L,bF w J N f g,y,z.no f h,G,I,⟨c.only.grown f (λm e P=>by have:=(g m e).1;omega),c.link,c.stay⟩⟩
theorem CmI.keeps{w0:Tw}{i bb n:Nat}{fs:List Int}{j base:Nat}{B0:Nat}(h:Ey w0 W i bb n D fs (.map (some j)) v)(l:j<B0)(d:Mv base bb (.map (some j)) (.map (some j)) W w):KeepsFrom B0 W w:=by
 refine⟨d.only.size,λk o g a c=>(d.only.block k (Array.getElem?_eq_some_iff.1 a).1 ?_).trans a⟩;rintro((e|e)|⟨_,cs,T,f,_⟩)
 ·subst e
  have b:W.heap[k]? = _:=h.bu.1;rw[b] at a;cases a;cases c
 ·cases e
  omega
 rw[f] at a;cases a;cases c
theorem CmI.step{w0:Tw}{i bb n:Nat}{j base m:Nat}{v:Int}{b:To}{n1 c1:Nat}{c:To}{n2 d:Nat}{t:Tb}{rows:Int}{W8 W w:Tw}{pre:List (CK6 R.length)}{k:CK6 R.length}{n' p:Nat}{z:List Int}{e:To}{g:Nat}(J:n'<=n+pre.length)(f:L.map (·.1)=N5 t 0 (pre.map λk=>Gg R k.1))(l:∀k∈pre,De s.cols (Gg R k.1)=true)(o:Mv base bb (.map (some j)) (.map (some j)) W8 W)(r:Ey w0 w i bb p ((Km t s.cols 0 (pre.map λk=>Gg R k.1) D).put (B.lit (Eh (Bw t L.length))) (Pa s.cols (Gg R k.1))) z (.map (some j)) u)(M:p<=n'+1)(y:Mv base bb (.map (some j)) (.map (some j)) W w)(I:De s.cols (Gg R k.1)=true)(G:Dv base w m s v b n1 c1 x c n2 d t true e g (L++[noA (Bw t L.length) (Gg R k.1).length]) rows):CmI w0 i bb n D j base m s v b n1 c1 x c n2 d t rows R W8 (pre++[k]) w:=by
 have h:L.length=pre.length:=by have:=congrArg List.length f;rw[Y',eQ,Y'] at this;exact this
 refine⟨p,z,u,e,g,_,?_,by rw[XN];simp;omega,G,?_,?_,o.trans y⟩
 ·rw[XH,Y3,jX,Y',Wb,<-h]
  exact r
 ·rw[XH,XH,Y3,Y3,ACh,f,Y',Wb,h]
  rfl
 intro q a
 rcases List.mem_append.1 a with a|a
 ·exact l q a
 simp at a;subst a;exact I
theorem lC(a:Tb)(c:Plain a)(l:List Aj):∀(b:List (List (List V)))(k:Nat)(D:Td)(j:Nat),k+b.length<=j->j<=1000000->Maps.has D (B.lit (Eh (Bw a j)))=false->Maps.has (Km a l k b D) (B.lit (Eh (Bw a j)))=false
 | [],_,_,_,_,_,h=>h
 | p :: b,k,D,j,hk,hj,h=>by
   simp at hk;refine lC a c l b (k+1) _ j (by omega) hj ?_;rw[Maps.has_put_other (λe=>?_)]
   ·exact h
   have:=(S5 c c (Uw (B.Jr e))).2 (by omega) (by omega);omega
theorem Xo(a:Tb)(f:Plain a)(l:List Aj)(D:Td):∀(c:List (List (List V)))(k:Nat)(b:Td),k+c.length<=1000->Grown a D b->(∀j,k<=j->j<=1000->Maps.has b (B.lit (Eh (Bw a j)))=false)->Grown a D (Km a l k c b)
 | [],_,_,_,h,_=>h
 | p :: c,k,b,hk,h,hf=>by
   simp at hk;refine Xo a f l D c (k+1) _ (by omega) (.put k _ h (hf k (Y9 _) (by omega))) (λj g d=>?_);rw[Maps.has_put_other (λe=>?_)]
   ·exact hf j (by omega) d
   have:=(S5 f f (Uw (B.Jr e))).2 (by omega) (by omega);omega
theorem fM(a:Tb)(d:Plain a)(l:List Aj)(D:Td)(c:∀k,Maps.has D (B.lit (Eh (Bw a k)))=false)(b:List (List (List V)))(h:b.length<=100):Grown a D (Km a l 0 b D) :=
 Xo a d l D b 0 D (by omega) .refl λj _ _=>c j
theorem AGz{w0 w:Tw}{k bb n:Nat}{fs:List Int}{mv v:Tv}{H:List (Dn×Ah)}{U:List Tb}{s:Tb}(h:iK w0 w k bb n D fs mv v H U s)(c:(Ae H H.length).cols≠[]):∃a,mv=.map (some a)/\a<w.heap.size:=by
 have f:B.Th w mv n D:=h.base.bu.2.1
 rcases f with⟨g,b⟩|⟨m,e,d⟩
 ·exfalso
  cases H with
  | nil=>exact c rfl
  | cons x H=>have:=((h.inv.Lm.2 0 (by omega)).1 x.1 rfl).1;rw[b] at this;exact absurd this (by simp[Maps.has])
 exact⟨m,e,B.Th.lt (.inr ⟨m,e,d⟩) e⟩
theorem Uu{w0 W:Tw}{j bb n d b:Nat}{fs:List Int}{x:Tv}{t:TypeId}(h:Ey w0 W j bb n D fs (.map (some d)) u)(l:W.heap[b]? = some (Zk #[x] t))(r:∀i,x≠Zi i)(f:b≠bb)(g:b≠d)(o:w0.heap.size<=b)(v:Tv):Ey w0 (W.setCell ⟨b,0,none⟩ v) j bb n D fs (.map (some d)) u:=by
 have a:=E.Ar W b 0 v;have c:B.A0 (λi=>i=b) W (W.setCell ⟨b,0,none⟩ v):=⟨a.os,a.tape,a.output,a.size,λk hk hn=>a.block k hk (λe=>hn (Yu e))⟩;refine⟨h.bu.only c (λe=>f e.symm) (λm e q=>?_) (λp y hc q=>?_),c.below h.low h.low.size (λi q=>by rw[q];exact o),h.hb,h.hm,h.er,h.nc,h.tb,h.hf⟩
 ·cases e
  exact g q.symm
 obtain⟨s,off,st⟩:=p;simp only at q;subst q;unfold World.cell? at hc;simp only[l] at hc
 rcases off with _|off
 ·cases st <;> simp at hc
  exact r _ hc
 cases st <;> simp at hc
variable{W w:Tw}{n:Nat}{u v:Tv}
attribute [local go_sem] Oper.semAt_some
theorem one_cell{b:Nat}{x:Tv}{T:TypeId}(h:W.heap[b]? = some (Zk #[x] T)):W.cell? ⟨b,0,none⟩=some x:=by simp[World.cell?,h]
theorem Dv.far{base:Nat}{w:Tw}{n:Nat}{s:Ah}{v:Int}{f:To}{n1 c1:Nat}{y:Int}{g:To}{n2 k:Nat}{p:Tb}{D:Bool}{j:To}{i:Nat}{L:List Gx}{rows:Int}{W:Tw}{b:Nat}{cs:Array Tv}{t:TypeId}(h:Dv base w n s v f n1 c1 y g n2 k p D j i L rows)(a:w.heap[b]? = some (Zk cs t (0,0)))(o:w.grownBy W (some b))(O:t≠116)(P:t≠144)(R:t≠72)(U:t≠65)(V:t≠3):Dv base W n s v f n1 c1 y g n2 k p D j i L rows:=by
 have c:∀{l z m:Nat}{T:TypeId}{u:Tv}{xs:List Tv},w.ownsRow l T z u m xs->t≠T->W.ownsRow l T z u m xs:=λY X=>Mk Y a X o
 refine⟨(o.block n (Ac h.box) ?_).trans h.box,?_,c h.row P,λq r=>⟨c (h.own q r).1 (by assumption),c (h.own q r).2 (by assumption)⟩,h.Vv,h.low⟩
 ·intro e
  injection e with e;subst e;rw[h.box] at a;injection a with a;injection a with _ a;exact O a.symm
 obtain⟨I,M,J,N,G,e,d⟩:=h.snap;exact⟨I,M,J,N,G,e,c d.cols R,d.files,c d.row U,λx hx=>c (d.Cl x hx) V⟩
theorem AGq{P:Program}{c:Code}{K:Act->Tw->Prop}{Q:Exit->Act->Tw->Prop}{a:Act}(h:c.wp P (Exit.then K (λ_ _ _=>False)) a w):c.wp P (Exit.then K Q) a w :=
 wp_mono h λe _ _ q=>by
  cases e with
  | normal=>exact q
  | _=>exact q.elim
theorem AKh{b:Nat}{u f a e c d j g:Tv}{t:TypeId}(h:W.heap[b]? = some (Zk #[u,f,a,e,c,d,j,g] t (0,0)))(v:Tv):(W.setCell ⟨b,6,none⟩ v).heap[b]? = some (Zk #[u,f,a,e,c,d,v,g] t (0,0)):=by have i:=As W b 6 _ _ v h;simpa using i
theorem Dv.Bz{base:Nat}{s:Ah}{v:Int}{l:To}{n1 c1:Nat}{y:Int}{o:To}{n2 k:Nat}{t:Tb}{r:Bool}{G:To}{i:Nat}{L:List Gx}{rows:Int}{g m c:Nat}{a:List Gx}(h:Dv base w n s v l n1 c1 y o n2 k t r G i L rows)(V:w.ownsRow base 144 6 (Zs (some ⟨g,0,none⟩) m c) m (Ci a))(U:m=a.length)(p:∀q∈a,pC 0 w q)(P:∀q∈a,pM q.1):Dv base (w.setCell ⟨n,6,none⟩ (Zs (some ⟨g,0,none⟩) m c)) n s v l n1 c1 y o n2 k t r (some ⟨g,0,none⟩) c a rows:=by
 subst U;have R:=E.Ar w n 6 (Zs (some ⟨g,0,none⟩) a.length c);have d:∀{b z m:Nat}{T:TypeId}{u:Tv}{xs:List Tv},w.ownsRow b T z u m xs->T≠116->(w.setCell ⟨n,6,none⟩ (Zs (some ⟨g,0,none⟩) a.length c)).ownsRow b T z u m xs:=λW O=>Mk W h.box (λe=>O e.symm) R
 refine⟨AKh h.box _,?_,d V (by decide),λq f=>⟨d (p q f).1 (by decide),d (p q f).2 (by decide)⟩,P,h.low⟩;obtain⟨I,M,J,N,D,e,j⟩:=h.snap;exact⟨I,M,J,N,D,e,d j.cols (by decide),j.files,d j.row (by decide),λx X=>d (j.Cl x X) (by decide)⟩
theorem AEx(h:w.cell? ⟨n,3,none⟩=some u):(w.setCell ⟨n,6,none⟩ v).cell? ⟨n,3,none⟩=some u:=by rw[YP _ _ _ _ (by simp)];exact h
theorem Ei{n b:Nat}(a:b≠n)(h:w.cell? ⟨b,0,none⟩=some u):(w.setCell ⟨n,6,none⟩ v).cell? ⟨b,0,none⟩=some u:=by rw[World.cell?_setCell_far _ _ _ _ (Ne.symm a)];exact h
def ldA:Oper:={ dst:=some 52,op:=Op.load 84 (Operand.tmp 51),type:=84,pos := "rows.go:83",after:=#[{ on:=10,ground:=Ground.data }],guard:=none }
theorem AGS:ldA={ dst:=some 52,op:=Op.load 84 (Operand.tmp 51),type:=84,pos := "rows.go:83",after:=#[{ on:=10,ground:=Ground.data }],guard:=none }:=rfl
theorem rK(w0:Tw)(NF bb n:Nat)(D:Td)(fs:List Int)(mv fv:Tv)(H:List (Dn×Ah))(U:List Tb)(tx:Tb)(xs:List A6)(w:Tw)(h:iK w0 w NF bb n D fs mv fv H U tx)(hT:C7 D (Ae H H.length) xs):
 Zc 41 #[Zp (some ⟨bb,0,none⟩),Zt tx] w (Kd w0 w NF bb n D mv H tx True (AEz D (Ae H H.length) xs tx)):=by
 have HS:=Aa h;have HT:=Aa hT;obtain⟨eh,hX,hY,hZ,bn⟩:=Jl w (Zk #[Zp (some ⟨bb,0,none⟩)] 26) (Zk #[Zp none] 76) (Zk #[Zn] 32);have h3:=h.up bn;have a5:=Aa (Wo bb n D mv H tx xs .nil (Zp none) _ h3.base.ground (h3.et.below h3.base.low) (h3.Pw.below h3.base.low) h3.inv.Lm h3.inv.past h3.O5 h3.name h3.short hT.Lz rfl);have bg:=aN hT h.Of .nil;have d2:=h.Of.Iz;have a4:=Aa bn;have HX:=Aa (And.intro hX (And.intro hY hZ));have ad:=Aa h3;clear h hT h3 hX hY hZ bn;unfold tK at a5;generalize c8:Ae H H.length=y at *;have au:=Aa c8;clear c8;refine(callsIn_wide (n:=5)).1 ?_;refine callsIn_of_wp_marks func41 rfl trivial ?_ rfl;simp only[ntmps41,XX,XL,X6,Nat.reduceAdd,Nat.reduceSub,XQ,XR,XY,XU,X',XZ];refine wpIn_wide.2 ?_;go_wp2_with fail;generalize ((w.alloc (Zk #[Zp (some ⟨bb,0,none⟩)] 26)).alloc (Zk #[Zp none] 76)).alloc (Zk #[Zn] 32)=W3 at *;refine a5.o.mono ?_;rintro e w1⟨am,⟨hc,rfl⟩|⟨hc,dv,rfl⟩|⟨hc,hz,g,v1,a1,n1,c1,x2,a2,n2,c2,rfl,hP,hF⟩⟩
 ·have r1:=(am.block (w.heap.size+1) (by omega)).trans HX.o.2.1
  have r2:=(am.block (w.heap.size+2) (by omega)).trans HX.o.2.2;have b6:=Aa (Ap a4.o am);have hA:Zb w1 (w1.alloc (Zk #[Zp none] 76)):=Zal;have HA:=Aa hA;have db:=(hA.block _ (Ac r1)).trans r1;have bf:=(hA.block _ (Ac r2)).trans r2;have f1:=one_cell db;have f2:=one_cell bf;have g1:=frozen_of_row _ (w.heap.size+1) 0 _ _ db;have g2:=frozen_of_row _ (w.heap.size+2) 0 _ _ bf;clear hc am a5 hA r1 r2;go_wp2;refine⟨Zu #[Zp none,Zf 90 (Zi 6)],by simp[results,results41,go_sem,f1,f2],?_⟩;have az:=((Ap b6.o HA.o).setCell (p:=⟨w.heap.size+1,0,none⟩) (WA _) (Zp none)).setCell (p:=⟨w.heap.size+2,0,none⟩) (by show w.heap.size<=w.heap.size+2;omega) (Zf 90 (Zi 6));exact⟨n,D,fs,mv,fv,HS.o.base.up az,by omega,B.A0.Ba az,λ_ e=>.inl e,.refl,.inr ⟨trivial,_,_,rfl⟩⟩
 ·exact absurd (dB _) dv
 have b6:=Aa am;have HC:=Aa hc;have HP:=Aa hP;have HF:=Aa hF
 obtain⟨fa,fc,rfl,_⟩:∃a c,v1=Zs a (Bo y.cols .nil xs).1.length c/\(Bo y.cols .nil xs).1.length<=c:=by obtain⟨zs,_,e2,_⟩:=hF;exact Au e2
 have hA:Zb w1 (w1.alloc (Zk #[Zp (some ⟨g,0,none⟩)] 76)):=Zal;have HA:=Aa hA;have bw:=heap_alloc_new w1 (Zk #[Zp (some ⟨g,0,none⟩)] 76);have N:=Aa bw;have p0:=one_cell bw;have ck:=Aa (hP.up hA);obtain⟨y0,y1,y2,y3,y4,y5,y6,y7,yf⟩:=F2 (hP.up hA).box;have a7:=Aa (nW y (H.length:Int) a1 n1 c1 x2 a2 n2 c2 (Bo y.cols .nil xs).1.length _ (hP.up hA).snap (by omega) (by omega));have di:Hid (Zb W3 (w1.alloc (Zk #[Zp (some ⟨g,0,none⟩)] 76))):=Aa (Ap am hA);clear am hc hz hP hF a5 hA bw;generalize c3:(Bo y.cols .nil xs).1.length=m at *;have ar:=Aa c3;clear c3;go_wp2_with fail;refine a7.o.mono ?_;rintro e w6⟨q,rfl,hq,bc⟩;have HQ:=Aa hq;have M:=Aa bc;have aw:=Aa (Ap di.o bc);have p6:=Ag bc p0;clear bc hq a7 y0 y1 y2 y3 y4 y5 y6 y7 yf p0;cases q with
 | true=>have a7:=Aa (HQ.o.1 rfl);clear HQ;have r1:=(aw.o.block (w.heap.size+1) (by omega)).trans HX.o.2.1;have r2:=(aw.o.block (w.heap.size+2) (by omega)).trans HX.o.2.2;have f1:=one_cell r1;have f2:=one_cell r2;have g1:=frozen_of_row w6 (w.heap.size+1) 0 _ _ r1;have g2:=frozen_of_row w6 (w.heap.size+2) 0 _ _ r2;go_wp2;refine⟨Zu #[Zp (some ⟨g,0,none⟩),Zn],by simp[results,results41,go_sem,f1,f2],?_⟩;have az:Zb w ((w6.setCell ⟨w.heap.size+1,0,none⟩ (Zp (some ⟨g,0,none⟩))).setCell ⟨w.heap.size+2,0,none⟩ Zn):=((Ap a4.o aw.o).setCell (p:=⟨w.heap.size+1,0,none⟩) (WA _) _).setCell (p:=⟨w.heap.size+2,0,none⟩) (by show w.heap.size<=w.heap.size+2;omega) _;have q1:=(ck.o.up M.o).far r1 (E.Ar w6 (w.heap.size+1) 0 (Zp (some ⟨g,0,none⟩))) (by decide) (by decide) (by decide) (by decide) (by decide);have bf:=((E.Ar w6 (w.heap.size+1) 0 (Zp (some ⟨g,0,none⟩))).block (w.heap.size+2) (Ac r2) (by simp)).trans r2;have q2:=q1.far bf (E.Ar _ (w.heap.size+2) 0 Zn) (by decide) (by decide) (by decide) (by decide) (by decide);exact⟨n,D,fs,mv,fv,HS.o.base.up az,by omega,B.A0.Ba az,λ_ e=>.inl e,.refl,.inl ⟨g,[],true,(m:Int),a1,n1,c1,x2,a2,n2,c2,none,0,rfl,by rw[au.o];exact⟨q2.box,q2.snap,E.Ai q2.row (by omega),q2.own,q2.Vv,by have:=q2.low;omega⟩,HC.o,rfl,(by rw[ar.o]),.inl ⟨(by rw[ar.o];exact a7.o),rfl,rfl⟩⟩⟩
 | false=>
   have cf:Hid (¬Tog y m):=Aa (λh=>by cases HQ.o.2 h);clear HQ;obtain⟨R,hR⟩:∃R,R=Fc y.cols xs:=⟨_,rfl⟩;have dm:R.length=m:=by rw[hR];unfold Fc;rw[Y'];exact ar.o
   have cm:=Aa (X7 W3.heap.size W3.heap.size (Zs fa m fc) (Bo y.cols .nil xs).1 w6 ((HF.o.up HA.o).up M.o) (by rw[ar.o];omega));have HR:=Aa hR;clear hR;subst dm;go_wp2_with fail;refine cm.o.mono ?_;rintro e w7⟨v7,rfl,hJ,cy⟩;have bs:Sc w6.heap.size w7 v7 R:=by rw[HR.o];exact hJ.o
   have cu:=bs.slr;obtain⟨ra,rc,rfl,dw⟩:=cu.slice;have ci:=Aa bs;have aq:=Aa cy;have b9:=Aa (qS ra R.length rc w7);clear cm hJ cy bs cu;go_wp2_with fail;refine b9.o.mono ?_;rintro e w8⟨rfl,rfl⟩;clear b9;obtain⟨ek,cw,cs,bt⟩:=Kt w7 (Zk #[Zs ra R.length rc] 35) (Zk #[Zi 60] 3);have l:=Aa (Ap (Ap aw.o aq.o) bt);go_wp2_with fail;generalize (w7.alloc (Zk #[Zs ra R.length rc] 35)).alloc (Zk #[Zi 60] 3)=W9 at *
   have cn:Hid (∀r∈R,∀v∈r,Ks v/\v.2.2.size<=40):=Aa (λr hr v hv=>by rw[HR.o] at hr;obtain⟨z,hz,rfl⟩:=List.mem_map.1 hr;exact No HT.o (by rw[<-au.o];exact HS.o.Of) (by rw[<-au.o];exact Mq HS.o.inv.past (Y9 _)) z hz v hv)
   obtain⟨k0,ds,ec⟩:=AGz HS.o (by rw[au.o];exact HC.o);subst ds;have ej:=aq.o.size;have ei:=aw.o.size;have af:=Aa bt;have dr:W9.cell? ⟨w7.heap.size,0,none⟩=some (Zs ra R.length rc):=one_cell cw;have dq:W9.cell? ⟨w7.heap.size+1,0,none⟩=some (Zi 60):=one_cell cs
   obtain⟨rb,ro,c7⟩:∃rb ro,0<R.length->ra=some ⟨rb,ro,none⟩:=by
    by_cases h0:0<R.length
    ·obtain⟨vs,dy,el,em⟩:=ci.o.slr
     obtain⟨rb,ro,eo,er,_,_,_⟩:=dy.cons (by omega);injection er with dk _ _;exact⟨rb,ro,λ_=>dk⟩
    exact⟨0,0,λh=>absurd h h0⟩
   have dh:=Aa (((ck.o.up M.o).up aq.o).up af.o);have b:=Aa (ad.o.base.up l.o);clear bt;refine(wpIn_wide (n:=5)).1 ?_
   refine wpIn_rangeFunc_ownG (w0:=W9) rfl (by decide) (gf:=114) (lb:=#[Zp (some ⟨w7.heap.size,0,none⟩),Zp (some ⟨w7.heap.size+1,0,none⟩)]) (by rfl) trivial (enters_of func114 (by kernel_rfl) rfl)
    (jC _ (by decide) w7.heap.size (w7.heap.size+1) rb ro R.length rc ra c7 (by omega) dw W9 (by omega) (by omega) dr dq) KpC.t ?hKb (XC _ _) (λ_=>rfl) (CmI w0 NF bb n D k0 W3.heap.size g y (H.length:Int) a1 n1 c1 x2 a2 n2 c2 tx (R.length:Int) R W9) (λc _ W=>c=.ret/\∃T x n' D' ai aj,Ey w0 W NF bb n' D' ai (.map (some k0)) aj/\n'<=n+50/\Grown tx D D'/\B.A0 (B.Own bb (.map (some k0))) w W/\W.heap[w.heap.size+1]? = some (Zk #[Zp none] 76)/\W.heap[w.heap.size+2]? = some (Zk #[Zf T x] 32)) (CmI.own (by omega) (XF ad.o.base.low.size l.o.size) (Y9 _)) ?ownX ⟨n,fs,fv,none,0,[],b.o,Y9 _,dh.o,rfl,(λk hk=>by cases hk),Mv.refl⟩ ?a1 ?assign ?body ?done ?stop
   case hKb=>
    intro W q o1 o2 hq eg _ _;constructor
    ·unfold World.cell?;rw[XD (by show w7.heap.size≠q;omega)]
    unfold World.cell?;rw[XD (by show w7.heap.size+1≠q;omega)]
   case ownX=>
    intro c s A C row hs hg hr;obtain⟨e,T,x,n',D',ai,aj,h1,h2,h3,h4,h5,h6⟩:=hs;have c6:∀r,row=some r->∃o:Obj,A.heap[r]? = some o/\o.isCells=false:=λr e=>(hr r e).2
    exact⟨e,T,x,n',D',ai,aj,bF h1 (by omega) (XF ad.o.base.low.size l.o.size) hg hr,h2,h3,h4.grown hg (λm e hm=>by have:=(hr m e).1;omega),vX h5 hg c6,vX h6 hg c6⟩
   case assign=>intro q x W K hK;gi_wp2;exact hK
   case stop=>rintro D1 c pre W bo _⟨rfl,T,x,n',D',ai,aj,h1,h2,h3,h4,h5,h6⟩hK;gi_wp2;have b0:=(XD (w:=W) (r:=D1) (k:=w.heap.size+1) (o:=.deferred none) (by omega)).trans h5;have b3:=(XD (w:=W) (r:=D1) (k:=w.heap.size+2) (o:=.deferred none) (by omega)).trans h6;have f1:=one_cell b0;have f2:=one_cell b3;refine⟨by simp,.inl ⟨_,_,rfl,run_takeDeferred hK,?_⟩⟩;refine⟨Zu #[Zp none,Zf T x],by simp[results,results41,go_sem,f1,f2],?_⟩;have av:=grownBy_putObj' W D1 (.deferred none);exact⟨n',D',ai,_,aj,bF (B0:=W9.heap.size) h1 (by omega) (XF ad.o.base.low.size l.o.size) av (λr e=>by cases e;exact⟨bo,_,hK,rfl⟩),h2,h4.grown av (λm e hm=>by cases e;omega),λ_ e=>.inl e,h3,.inr ⟨trivial,T,x,rfl⟩⟩
   case body=>
    rintro q pre k W⟨n',ai,aj,aa,ac,L,ae,al,G,hL,ak,d⟩ef;have ed:=k.2;have dt:k.1<n60 R.length:=by unfold n60;omega
    have a0:n60 R.length<=40:=nH bg
    have br:L.length=pre.length:=by have:=congrArg List.length hL;rw[Y',eQ,Y'] at this;exact this
    have bv:=d.zG b.o.bu ((l.o.block w.heap.size (by omega)).trans HX.o.1) (by decide) (by decide) (by decide);have V:=d.zG b.o.bu ((af.o.block w1.heap.size (by have:=Ac N.o;have:=M.o.size;omega)).trans ((aq.o.block w1.heap.size (by have:=Ac N.o;have:=M.o.size;omega)).trans ((M.o.block w1.heap.size (Ac N.o)).trans N.o))) (by decide) (by decide) (by decide);have c0:=one_cell bv;have ea:=one_cell V;have b4:=(d.slO b.o.bu (ci.o.up af.o)).slr;rw[c7 (by omega)] at b4;have cz:=qF b4 rfl k;have dn:=d.only.size;have ee:=bU dt
    have a6:=Aa (bK w0 NF W3.heap.size bb n' _ ai (.map (some k0)) aj g y (H.length:Int) a1 n1 c1 x2 a2 n2 c2 tx true aa ac L (R.length:Int) (ACt rb ro R.length k) (Gg R k.1) W ae ad.o.nf ad.o.base.low.size (by have:=HS.o.Iz;omega) (uX _ _ _ _ _ HS.o.inv.Lm.1) G (by omega) (by rw[<-au.o];exact HS.o.Of) HS.o.et cz (by omega) (λr hr v hv=>by have:=cn.o r (XS (Yk hr)) v hv;unfold maxLen;omega) (λr hr v hv=>(cn.o r (XS (Yk hr)) v hv).1) HS.o.short (by omega) (lC tx HS.o.plain _ _ _ _ _ (by rw[Y'];omega) (by omega) (HS.o.free _)))
    unfold AIr at a6;have HI:=Aa (And.intro ae (And.intro al (And.intro G (And.intro hL (And.intro ak d)))));have dd:=Aa (And.intro bv V);clear ae al G hL ak d bv V b4 cz;generalize eb:ACt rb ro R.length k=cv at *;gi_wp2_with fail;refine⟨trivial,(CallsIn.inRound q (callsIn_wide.2 a6.o)).mono ?_⟩;rintro e W'⟨d1,d7,co,d5,cp,ba,c4,Y,h⟩;have dj:=Y.stay k0 rfl;subst dj;have HM:=Aa Y;have dc:=Aa ba
    rcases h with⟨rfl,c5,_,rfl,rfl,d8,d9,ct⟩|⟨T,x,rfl,rfl,_⟩
    ·have bh:=CmI.step (W8:=W9) (n:=n) HI.o.2.1 HI.o.2.2.2.1 HI.o.2.2.2.2.1 HI.o.2.2.2.2.2 ba c4 Y c5 ct
     have ca:=Aa bh;have bk:=Aa (CmI.keeps (B0:=W9.heap.size) HI.o.1 (by omega) Y)
     have de:Hid (KpC w7.heap.size (w7.heap.size+1) W W'):=Aa (by have e1:=HI.o.2.2.2.2.2.zG b.o.bu cw (by decide) (by decide) (by decide);have e2:=HI.o.2.2.2.2.2.zG b.o.bu cs (by decide) (by decide) (by decide);exact⟨by rw[one_cell e1,one_cell (Y.zG HI.o.1.bu e1 (by decide) (by decide) (by decide))],by rw[one_cell e2,one_cell (Y.zG HI.o.1.bu e2 (by decide) (by decide) (by decide))]⟩)
     clear bh ba Y ct c5 a6;gi_wp2;exact⟨bk.o,de.o,ca.o⟩
    have bd:=HI.o.2.2.2.2.2.trans Y;have r1:=bd.zG b.o.bu ((l.o.block (w.heap.size+1) (by omega)).trans HX.o.2.1) (by decide) (by decide) (by decide);have r2:=bd.zG b.o.bu ((l.o.block (w.heap.size+2) (by omega)).trans HX.o.2.2) (by decide) (by decide) (by decide);have f1:=one_cell r1;have f2:=one_cell r2;have g1:=frozen_of_row W' (w.heap.size+1) 0 _ _ r1;have g2:=frozen_of_row W' (w.heap.size+2) 0 _ _ r2;have df:=Aa bd;have bk:=Aa (CmI.keeps (B0:=W9.heap.size) HI.o.1 (by omega) Y);have X:=Aa (And.intro r1 r2);clear ba Y a6 bd r1 r2;gi_wp2;have dp:bb<w.heap.size:=Ac HS.o.base.bu.1;have dz:=HS.o.base.low.size;have b1:=Uu dc.o X.o.1 (λi e=>by cases e) (by omega) (by omega) (by omega) (Zp none);have u:=((E.Ar W' (w.heap.size+1) 0 (Zp none)).block (w.heap.size+2) (Ac X.o.2) (by simp)).trans X.o.2;have b2:=Uu b1 u (λi e=>by cases e) (by omega) (by omega) (by omega) (Zf T x);have I:=heap_setCell_same W' (w.heap.size+1) 0 _ _ (Zp none) X.o.1;have bx:=((E.Ar (W'.setCell ⟨w.heap.size+1,0,none⟩ (Zp none)) (w.heap.size+2) 0 (Zf T x)).block (w.heap.size+1) (Ac I) (by simp)).trans I;have bz:=heap_setCell_same _ (w.heap.size+2) 0 _ _ (Zf T x) u;have hO:B.A0 (B.Own bb (.map (some k0))) w W':=(B.A0.Ba (Ap a4.o l.o)).trans df.o.only (λi hi e=>e.elim id λe=>by have:=e.1;omega);refine⟨(bk.o.trans (KeepsFrom.of_grownBy (E.Ar W' (w.heap.size+1) 0 (Zp none)) (λj e=>by cases e;omega))).trans (KeepsFrom.of_grownBy (E.Ar _ (w.heap.size+2) 0 (Zf T x)) (λj e=>by cases e;omega)),rfl,T,x,d1,_,co,cp,b2,by have:=HI.o.2.1;omega,fM tx HS.o.plain _ _ HS.o.free _ (by rw[Y'];omega),?_,bx,bz⟩;exact(hO.grown (E.Ar W' (w.heap.size+1) 0 (Zp none)) (λm e hm=>by cases e;omega)).grown (E.Ar _ (w.heap.size+2) 0 (Zf T x)) (λm e hm=>by cases e;omega)
   case done=>
    rintro D1 ys W bo b5⟨n',ai,aj,aa,ac,L,ae,al,G,hL,ak,d⟩hK;have dn:=d.only.size;have bp:=E.Ac hK;have a0:n60 R.length<=40:=nH bg;have c9:ys.length=n60 R.length:=by have:=congrArg List.length b5;simpa using this
    have da:(ys.map λk=>Gg R k.1)=Gd R:=by unfold Gd;rw[<-b5];simp[AG1]
    have br:L.length=ys.length:=by have:=congrArg List.length hL;rw[Y',eQ,Y'] at this;exact this
    have V:=d.zG b.o.bu ((af.o.block w1.heap.size (by have:=Ac N.o;have:=M.o.size;omega)).trans ((aq.o.block w1.heap.size (by have:=Ac N.o;have:=M.o.size;omega)).trans ((M.o.block w1.heap.size (Ac N.o)).trans N.o))) (by decide) (by decide) (by decide);have I:=d.zG b.o.bu ((l.o.block (w.heap.size+1) (by omega)).trans HX.o.2.1) (by decide) (by decide) (by decide);have u:=d.zG b.o.bu ((l.o.block (w.heap.size+2) (by omega)).trans HX.o.2.2) (by decide) (by decide) (by decide);have p0:=one_cell V;obtain⟨y0,y1,y2,y3,y4,y5,y6,y7,yf⟩:=F2 G.box;have hd:=(XC W.heap.size W).drew
    have cb:Hid (∀e∈y.files,e.1.size<=maxLen):=Aa (λe he=>by have cx:=HT.o;rw[<-cx.Lz.files] at he;obtain⟨x,hx,rfl⟩:=List.mem_map.1 he;have:=(cx.Lz.each x hx).name;unfold maxLen;omega)
    have d4:1<=y.files.length:=by
     rcases Ys y.files.length with h0|h0
     ·refine absurd (show Tog y R.length from⟨λe he=>?_,by omega⟩) cf.o
      rw[List.length_eq_zero_iff.1 h0] at he;cases he
     exact h0
    have cl:=Aa (sL y (H.length:Int) a1 n1 c1 x2 a2 n2 c2 W.drew (G.snap.up hd) (by omega) cb.o);have HI:=Aa (And.intro ae (And.intro al (And.intro G (And.intro hL (And.intro ak d)))));have dd:=Aa (And.intro V (And.intro I u));have cc:=Aa hK;have bm:=Aa da;have ce:=Aa (And.intro br (And.intro c9 a0));have bj:=Aa hd
    have dg:Hid (w1.heap.size≠g):=Aa (λe=>by have:=G.box;rw[<-e,V] at this;injection this with this;injection this with _ this;exact absurd this (by decide))
    have d0:W.drew.cell? ⟨w1.heap.size,0,none⟩=some (Zp (some ⟨g,0,none⟩)):=p0;have d3:W.drew.cell? ⟨g,3,none⟩=some (Zs a2 n2 c2):=y3;have d6:W.drew.cell? ⟨g,6,none⟩=some (Zs aa L.length ac):=y6;have ag:Hid (∀W',Zb W W'->(W'.cell? ⟨w1.heap.size,0,none⟩=some (Zp (some ⟨g,0,none⟩))/\W'.cell? ⟨g,3,none⟩=some (Zs a2 n2 c2))/\W'.cell? ⟨g,6,none⟩=some (Zs aa L.length ac)):=Aa λW' hb=>⟨⟨Ag hb p0,Ag hb y3⟩,Ag hb y6⟩
    have b8:Hid (∀(ab:Tw)(qa:To)(qc:Nat),Zb W ab->ab.ownsRow W.heap.size 144 6 (Zs qa y.files.length qc) y.files.length (Ci (y.files.map mO))->Zc 75 #[Zs (some ⟨ab.heap.size,0,none⟩) 2 2] (ab.alloc (Zk #[Zs qa y.files.length qc,Zs aa L.length ac] 84)) λe w'=>∃g' c',e=Zr (Zs (some ⟨g',0,none⟩) (y.files.length+L.length) c')/\Hid (w'.ownsRow W.heap.size 144 6 (Zs (some ⟨g',0,none⟩) (y.files.length+L.length) c') (y.files.length+L.length) (Ci (y.files.map mO++L)))/\Zb W w'):=Aa (λab qa qc J ap=>by have bi:=heap_alloc_new ab (Zk #[Zs qa y.files.length qc,Zs aa L.length ac] 84);have ao:Zb ab (ab.alloc (Zk #[Zs qa y.files.length qc,Zs aa L.length ac] 84)):=Zal;have hc:=uO ab.heap.size qa aa qc ac (y.files.map mO) L W.heap.size w.heap.size _ (by rw[Y'];exact(Hg bi).1) (Hg bi).2 (by simp) (by rw[Y'];exact Bc ap ao) (E.Ai (Bc (Bc G.row J) ao) (by omega)) (by rw[Y'];omega) (by rw[Y'];omega);rw[Y'] at hc;refine hc.mono ?_;rintro e w'⟨g',c',rfl,h1,h2⟩;exact⟨g',c',rfl,Aa (E.Ai h1 (Ap J ao).size),Ap (Ap J ao) h2⟩)
    clear ae al G hL ak d V I u hK b5 da y0 y1 y2 y3 y4 y5 y6 y7 yf p0 br c9 a0 hd;gi_wp2;go_wp2_with fail;refine AGq ?_;rw[<-AGS];have du:=AGS
    go_region_held3 (λw'=>w'.cell? ⟨w1.heap.size,0,none⟩=some (Zp (some ⟨g,0,none⟩))/\w'.cell? ⟨g,3,none⟩=some (Zs a2 n2 c2))
     (first
       | (go_keep;done)
       | exact(ag.o _ bj.o).1
       | exact(ag.o _ J).1
       | exact(ag.o _ (Ap J (Zal))).1
       | exact(ag.o _ f).1
       | exact⟨Ei dg.o (ag.o _ f).1.1,AEx (ag.o _ f).1.2⟩
       | fail)
     (first
       | (go_at_call 76
          refine cl.o.mono ?_;rintro e ab⟨qa,qc,rfl,ap,ay⟩;have J:=Ap bj.o ay;have cg:=Aa ap;have e6:=(ag.o _ J).2;clear ap ay)
       | (go_at_call 75
          refine(b8.o _ _ _ J cg.o).mono ?_;rintro e a3⟨g',c',rfl,ch,f⟩;obtain⟨t0,t1,t2,t3,t4,t5,t6,t7,tf⟩:=F2 (HI.o.2.2.1.up f).box;have t8:=tf 6;clear t0 t1 t2 t3 t4 t5 t7 tf)
       | fail)
    all_goals
     obtain⟨ae,al,G,hL,ak,d⟩:=HI.o;have O:=G.up f;have P:=E.Ar a3 g 6 (Zs (some ⟨g',0,none⟩) (y.files.length+L.length) c');have ax:B.A0 (PA a3 W3.heap.size) a3 (a3.setCell ⟨g,6,none⟩ (Zs (some ⟨g',0,none⟩) (y.files.length+L.length) c')):=⟨P.os,P.tape,P.output,P.size,λk hk hn=>P.block k hk (λe=>hn (by cases e;exact⟨O.low,_,_,O.box,.inl rfl⟩))⟩;have b7:=Aa (Kv (ae.up f) ad.o.nf ad.o.base.low.size ax);have an:=Aa ((d.trans (Mv.below f)).trans (Mv.ACV ax))
     have cj:=Aa (O.Bz (E.Ai ch.o (by omega)) (by simp) (λq hq=>by
      rcases List.mem_append.1 hq with hq|hq
      ·obtain⟨e,_,rfl⟩:=List.mem_map.1 hq
       exact⟨XJ _ _ _ _,XJ _ _ _ _⟩
      ·exact O.own q hq) (λq hq=>by
      rcases List.mem_append.1 hq with hq|hq
      ·obtain⟨e,he,rfl⟩:=List.mem_map.1 hq
       exact⟨cb.o e he,XA _,λx hx=>by cases hx⟩
      exact O.Vv q hq))
     have I:=an.o.zG b.o.bu ((l.o.block (w.heap.size+1) (by omega)).trans HX.o.2.1) (by decide) (by decide) (by decide);have u:=an.o.zG b.o.bu ((l.o.block (w.heap.size+2) (by omega)).trans HX.o.2.2) (by decide) (by decide) (by decide);have V:=an.o.zG b.o.bu ((af.o.block w1.heap.size (by have:=Ac N.o;have:=M.o.size;omega)).trans ((aq.o.block w1.heap.size (by have:=Ac N.o;have:=M.o.size;omega)).trans ((M.o.block w1.heap.size (Ac N.o)).trans N.o))) (by decide) (by decide) (by decide)
     have cr:=(P.block D1 (Ya bp f.size) (λe=>by
      cases e;have:=(f.block _ bp).trans cc.o;rw[O.box] at this;cases this)).trans ((f.block D1 bp).trans cc.o)
     have bl:=Aa (And.intro al (And.intro hL ak));have X:=Aa (And.intro I u);have cd:=Aa cr;clear ae al G hL ak d O ax P t6 t8 du cl b8 ag bj;generalize a3.setCell ⟨g,6,none⟩ (Zs (some ⟨g',0,none⟩) (y.files.length+L.length) c')=ah at *;have f1:=one_cell I;have f2:=one_cell u;have en:=one_cell V;have g1:=frozen_of_row ah (w.heap.size+1) 0 _ _ I;have g2:=frozen_of_row ah (w.heap.size+2) 0 _ _ u;clear I u V cr;go_wp2;have dp:bb<w.heap.size:=Ac HS.o.base.bu.1;have dz:=HS.o.base.low.size;have b1:=Uu b7.o X.o.1 (λi e=>by cases e) (by omega) (by omega) (by omega) (Zp (some ⟨g,0,none⟩));have a8:=E.Ar ah (w.heap.size+1) 0 (Zp (some ⟨g,0,none⟩));have u:=(a8.block (w.heap.size+2) (Ac X.o.2) (by simp)).trans X.o.2;have b2:=Uu b1 u (λi e=>by cases e) (by omega) (by omega) (by omega) Zn;have I:=heap_setCell_same ah (w.heap.size+1) 0 _ _ (Zp (some ⟨g,0,none⟩)) X.o.1;have a9:=E.Ar (ah.setCell ⟨w.heap.size+1,0,none⟩ (Zp (some ⟨g,0,none⟩))) (w.heap.size+2) 0 Zn;have bx:=(a9.block (w.heap.size+1) (Ac I) (by simp)).trans I;have bz:=heap_setCell_same _ (w.heap.size+2) 0 _ _ Zn u;have q1:=cj.o.far X.o.1 a8 (by decide) (by decide) (by decide) (by decide) (by decide);have q2:=q1.far u a9 (by decide) (by decide) (by decide) (by decide) (by decide);have cq:=(a8.block D1 (E.Ac cd.o) (λe=>by have:=Yu e;omega)).trans cd.o;have bq:=(a9.block D1 (E.Ac cq) (λe=>by have:=Yu e;omega)).trans cq;have hO:B.A0 (B.Own bb (.map (some k0))) w ah:=(B.A0.Ba (Ap a4.o l.o)).trans an.o.only (λi hi e=>e.elim id λe=>by have:=e.1;omega);have dl:=(hO.grown a8 (λm e hm=>by cases e;omega)).grown a9 (λm e hm=>by cases e;omega);have b0:=(XD (r:=D1) (k:=w.heap.size+1) (o:=.deferred none) (by omega)).trans bx;have b3:=(XD (r:=D1) (k:=w.heap.size+2) (o:=.deferred none) (by omega)).trans bz;have k1:=one_cell b0;have k2:=one_cell b3;refine⟨by simp,.inl ⟨_,_,rfl,run_takeDeferred bq,?_⟩⟩;refine⟨Zu #[Zp (some ⟨g,0,none⟩),Zn],by simp[results,results41,go_sem,k1,k2],?_⟩;have av:=grownBy_putObj' ((ah.setCell ⟨w.heap.size+1,0,none⟩ (Zp (some ⟨g,0,none⟩))).setCell ⟨w.heap.size+2,0,none⟩ Zn) D1 (.deferred none);have dx:∀r,some D1=some r->∃o:Obj,((ah.setCell ⟨w.heap.size+1,0,none⟩ (Zp (some ⟨g,0,none⟩))).setCell ⟨w.heap.size+2,0,none⟩ Zn).heap[r]? = some o/\o.isCells=false:=λr e=>by cases e;exact⟨_,bq,rfl⟩
     have q3:=q2.no av dx;refine⟨_,_,_,_,_,bF (B0:=W9.heap.size) b2 (by omega) (XF ad.o.base.low.size l.o.size) av (λr e=>by cases e;exact⟨bo,_,bq,rfl⟩),?_,dl.grown av (λm e hm=>by cases e;omega),λ_ e=>.inl e,?_,.inl ⟨g,_,true,(R.length:Int),a1,n1,c1,x2,a2,n2,c2,_,_,rfl,by rw[au.o];exact⟨q3.box,q3.snap,E.Ai q3.row (by omega),q3.own,q3.Vv,by have:=q3.low;omega⟩,HC.o,rfl,by rw[ar.o],.inr ⟨by rw[ar.o];exact cf.o,?_,?_,?_⟩⟩⟩
     ·have:=bl.o.1
      have:=ce.o;omega
     ·exact fM tx HS.o.plain _ _ HS.o.free _ (by rw[Y'];have:=ce.o;omega)
     ·rw[<-HR.o,<-bm.o]
      intro p hp;obtain⟨k,hk,rfl⟩:=List.mem_map.1 hp;exact bl.o.2.2 k hk
     ·rw[<-HR.o,<-bm.o]
     rw[<-HR.o,<-bm.o,XH,bl.o.2.1,List.map_map];rfl
end F
namespace S
theorem AE9(b:Nat)(c q r:Int)(Bl d:Tb)(w:Tw)(hc:1<=c/\c<=6)(ht:d.size<=100)(hr:E.A9 q r d=true)(h:w.heap[b]? = some (Zk #[Zi c,Zt Bl,Zi q,Zi r,Zt d] 75)):
 Zc 10 #[Zs (some ⟨b,0,none⟩) 1 1] w λe O=>∃v,e=Zr v/\Gy O (.node 0 0 ⟨c,Bl,q,r,d⟩ .nil .nil) v/\Zb w O:=by
 obtain⟨L,z,G,I,J⟩:=info_parts Ip;have M:Hid (prog.info? 45=some L/\L.zero=some (Zp none)/\L.size=1/\L.bytes=8):=⟨z,G,I,J⟩
 have n:b<w.heap.size:=by
  rcases Yc b w.heap.size with U|U
  ·exact U
  rw[Array.getElem?_eq_none U] at h;cases h
 have y:Hid (∀i,w.cell? ⟨b,i,none⟩=#[Value.int .i64 c,Zt Bl,Zi q,Zi r,Zt d][i]?):=Ab (cell_of_heap h);clear z G I J h;have al:(d.size:Int)<=100:=by omega
 obtain⟨h1,h6⟩:=hc;have ae:(c==11)=false:=by simp;omega
 have b9:(c==9)=false:=by simp;omega
 have ad:(c==10)=false:=by simp;omega
 have b7:(c==7)=false:=by simp;omega
 have b8:(c==8)=false:=by simp;omega
 have ab:d.size<=maxLen:=by unfold maxLen;omega
 go_enter func10,ntmps10;go_wp2
 go_loopw [3,4] (λo i wr=>∃(k:Nat)(vs:List Tv)(N:List CT),k<=1/\i=Zi k/\Hid (Stack w wr k o k vs N/\(k=1->N=[.node 0 0 ⟨c,Bl,q,r,d⟩ .nil .nil]))) (λ_ i _=>1-(intOf i).toNat)
 case atStart=>exact⟨0,[],[],by omega,rfl,⟨⟨XJ _ _ _ _,rfl,λj T u h=>by simp at h,by simp,XC _ _⟩,λe=>by cases e⟩⟩
 case round=>
  obtain⟨k,vs,N,hk,rfl,l⟩:=hrel;obtain⟨ao,cp,rfl,ac,aa⟩:=Ak l.o.1.own;unfold maxLen at aa
  rcases Ys k with rfl|aj
  ·have x:=l.o.1.xL
   have c0:wr.cell? ⟨b,0,none⟩=some (Zi c):=(x.cell (p:=⟨b,0,none⟩) n).trans (y.o 0);have c1:wr.cell? ⟨b,1,none⟩=some (Zt Bl):=(x.cell (p:=⟨b,1,none⟩) n).trans (y.o 1);have c2:wr.cell? ⟨b,2,none⟩=some (Zi q):=(x.cell (p:=⟨b,2,none⟩) n).trans (y.o 2);have c3:wr.cell? ⟨b,3,none⟩=some (Zi r):=(x.cell (p:=⟨b,3,none⟩) n).trans (y.o 3);have c4:wr.cell? ⟨b,4,none⟩=some (Zt d):=(x.cell (p:=⟨b,4,none⟩) n).trans (y.o 4);have m:N=[]:=List.length_eq_zero_iff.1 l.o.1.len;subst m;clear x;have P:Hid (∀X,Zb wr (wr.alloc X)):=λX=>Zal
   have HR:Hid (∀W,Zc 27 #[Zg #[Zi q,Zi r,Zt d]] W λe O=>e=Zr (Zo (E.A9 q r d))/\Zb W O):=λW=>E.Ln q r d W ab
   rw[hr] at HR;go_wp2_with fail;refine(HR.o _).mono ?_;rintro e f⟨rfl,a⟩;have x0:f.cell? ⟨wr.heap.size,0,none⟩=some (Zi c):=(a.cell (p:=⟨wr.heap.size,0,none⟩) (by simp)).trans (by go_simp);have x1:f.cell? ⟨wr.heap.size,1,none⟩=some (Zt Bl):=(a.cell (p:=⟨wr.heap.size,1,none⟩) (by simp)).trans (by go_simp);have x2:f.cell? ⟨wr.heap.size,2,none⟩=some (Zi q):=(a.cell (p:=⟨wr.heap.size,2,none⟩) (by simp)).trans (by go_simp);have x3:f.cell? ⟨wr.heap.size,3,none⟩=some (Zi r):=(a.cell (p:=⟨wr.heap.size,3,none⟩) (by simp)).trans (by go_simp);have x4:f.cell? ⟨wr.heap.size,4,none⟩=some (Zt d):=(a.cell (p:=⟨wr.heap.size,4,none⟩) (by simp)).trans (by go_simp);have R:Hid (Zb wr f):=Below.up (P.o _) a;clear a;go_wp2_with (at_builtin;refine wpList_append_lies _ rfl (.tmp 104) (.tmp 113) 92 rfl w.heap.size 45 L (.pointer none) 1 8 underlying92 M.o.1 M.o.2.1 M.o.2.2.1 M.o.2.2.2 rfl (by omega) (.slice ao 0 cp) 0 vs rfl (Ad l.o.1.own (Below.up R.o (M4 f _ _))) ⟨f.heap.size+1,0,none⟩ 1 1 [.pointer (some ⟨f.heap.size,0,none⟩)] rfl rfl (XT (cs:=#[.pointer (some ⟨f.heap.size,0,none⟩)]) (t:=45) (fr:=(0,0)) (bG f _ _ _ (by simp))) (by simp[Value.oneCell']) (by omega) (by unfold maxLen;omega) (by omega) (XF l.o.1.xL.size (Below.up R.o (M4 f _ _)).size) (f.heap.size+1+1) (by simp) ?_;intro gg af w2 D s ag ak)
   go_roundw
   case rel=>exact⟨1,_,_,by omega,by go_num,Ab ⟨l.o.1.leaf (by omega) R.o (by simp) s D,λ_=>rfl⟩⟩
   case measure=>simp[intOf]
  obtain rfl:k=1:=by omega
  obtain⟨g,rfl,ah,ai⟩:=l.o.1.Hc (by omega);obtain⟨u,T,hu,m,V,_⟩:=l.o.1.last (j:=0) (by omega);rw[l.o.2 rfl] at m;have Y:T=.node 0 0 ⟨c,Bl,q,r,d⟩ .nil .nil:=by simpa using m.symm
  subst Y;obtain⟨pu,rfl⟩:=V.ptr;have cu:=l.o.1.cells hu;have HT:=Ab V;have P:=Ab l.o.1.xL;clear V hu m l;go_wp2
  go_loopw [7,8] (λcv iv w2=>cv=Zp pu/\iv=Zi 1/\w2=wr) (λ_ _ _=>0)
  case atStart=>exact⟨rfl,rfl,rfl⟩
  case round=>obtain⟨rfl,rfl,rfl⟩:=hrel;go_wp2;go_ret;exact⟨_,rfl,HT.o,P.o⟩
end S
namespace F
variable{W:Tw}{T:TypeId}{g:Nat}
theorem Qf:Mw:=rK
theorem Sy(n:Int)(w:Tw):
 Zc 22 #[Zi n] w λe a=>e=Zr (Zg #[Zi 1,Zi n,Zt ⟨#[]⟩])/\Zb w a:=by
 go_enter func22,ntmps22;go_wp2;exact bodyPost_ret (v:=Zg #[Zi 1,Zi n,Zt ⟨#[]⟩]) (by simp[results,results22,go_sem]) rfl ⟨rfl,Zal⟩
theorem AAo{α:Type}{k:Nat}{en:α->List Tv}{b:Nat}{cs:Array Tv}{x:α}(h:W.heap[b]? = some (Zk cs T (0,0)))(a:en x=cs.toList):F7 k en W (Zs (some ⟨b,0,none⟩) 1 1) [x]:=by
 refine⟨some ⟨b,0,none⟩,1,rfl,Y9 _,λ_=>⟨b,0,rfl,Ac h,λj y hj i u hu=>?_⟩⟩
 have c:j=0:=by
  rcases Ys j with d|d
  ·exact d
  rw[Yb (by simp;omega)] at hj;cases hj
 subst c;have e:x=y:=by simpa using hj
 subst e;rw[show 0+0*k+i=i by omega,S.cell_of_heap h i];rw[a] at hu;simpa using hu
theorem AH9{α:Type}{en:α->List Tv}{b:Nat}{f a:Tv}{x y:α}(h:W.heap[b]? = some (Zk #[f,a] T (0,0)))(l:en x=[f])(m:en y=[a]):F7 1 en W (Zs (some ⟨b,0,none⟩) 2 2) [x,y]:=by
 refine⟨some ⟨b,0,none⟩,2,rfl,Y9 _,λ_=>⟨b,0,rfl,Ac h,λj z hj i u hu=>?_⟩⟩
 have n:j<2:=by
  rcases Yc j 2 with c|c
  ·exact c
  rw[Yb (by simp;omega)] at hj;cases hj
 have d:∀v,en z=[v]->i=0/\v=u:=λv e=>by
  rw[e] at hu
  rcases Ys i with c|c
  ·subst c;exact⟨rfl,by simpa using hu⟩
  rw[Yb (by simp;omega)] at hu;cases hu
 rcases Ys j with g|o
 ·subst g
  have k:x=z:=by simpa using hj
  subst k;obtain⟨rfl,rfl⟩:=d _ l;rw[S.cell_of_heap h];rfl
 obtain rfl:j=1:=by omega
 have k:y=z:=by simpa using hj
 subst k;obtain⟨rfl,rfl⟩:=d _ m;rw[S.cell_of_heap h];rfl
theorem AKC{x y:Nat}(n:W.heap[g]? = some (Zk #[Zs (some ⟨x,0,none⟩) 1 1,Zs (some ⟨y,0,none⟩) 1 1] 51 (0,0)))(q:W.heap[x]? = some (Zk #[Zi 1,Zi 1,Zt ⟨#[]⟩] 56 (0,0)))(t:W.heap[y]? = some (Zk #[Zi 1,Zi 2,Zt ⟨#[]⟩] 56 (0,0))):K8 W dU none 0 (some ⟨g,0,none⟩) 2 none 0 0 none 0:=by
 refine⟨.inl ⟨⟨_,_,rfl⟩,rfl⟩,(λc f=>by cases f),⟨[Zs (some ⟨x,0,none⟩) 1 1,Zs (some ⟨y,0,none⟩) 1 1],AH9 n rfl rfl,rfl,λj v r hv hr=>?_⟩,λr hr v hv=>?_,⟨_,_,rfl,XA _,λh=>absurd rfl h⟩,XA _,(λs hs=>by cases hs),λV hV=>?_,XA _,⟨(λc f=>by cases f),XA _,AEL,by decide,λs hs=>by cases hs⟩⟩
 ·have o:j<2:=by
   rcases Yc j 2 with k|k
   ·exact k
   rw[Yb (by simp;omega)] at hv;cases hv
  rcases Ys j with i|p
  ·subst i
   have b:Value.slice (some ⟨x,0,none⟩) 1 1=v:=by simpa using hv
   have d:[(1,1,⟨#[]⟩)]=r:=by simpa[dU,R2] using hr
   subst b d;exact mW (AAo q rfl)
  obtain rfl:j=1:=by omega
  have b:Value.slice (some ⟨y,0,none⟩) 1 1=v:=by simpa using hv
  have d:[(1,2,⟨#[]⟩)]=r:=by simpa[dU,R2] using hr
  subst b d;exact mW (AAo t rfl)
 ·have a:r∈R2:=hr
  simp only[R2,XO,XK,or_false] at a
  rcases a with rfl|rfl <;> (simp at hv;subst hv;decide)
 refine(S.V8 none 0 V).mono ?_;rintro e u⟨v,T,rfl,l,_,m⟩;exact⟨v,T,rfl,l,trivial,m⟩
theorem AJp(b:W.heap[g]? = some (Zk #[Zi 1,Zt ⟨#[97]⟩,Zi 1,Zi 1,Zt ⟨#[]⟩] 75 (0,0))):K8 W dV none 0 none 0 (some ⟨g,0,none⟩) 1 1 none 0:=by refine⟨.inl ⟨⟨_,_,rfl⟩,rfl⟩,(λc a=>by cases a),⟨[],⟨_,_,rfl,XA _,λh=>absurd rfl h⟩,rfl,λj x r hx _=>by simp at hx⟩,(λr hr=>by cases hr),⟨_,_,rfl,XA _,λh=>absurd rfl h⟩,XA _,(λs hs=>by cases hs),λV hV=>?_,XA _,⟨(λc a=>by cases a),XA _,(λr hr=>by cases hr),XA _,λs hs=>by cases hs⟩⟩;refine(S.AE9 g 1 1 1 ⟨#[97]⟩ ⟨#[]⟩ V ⟨by decide,by decide⟩ (by decide) (by kernel_rfl) ((hV.block _ (Ac b)).trans b)).mono ?_;rintro e i⟨v,rfl,d,f⟩;exact⟨v,tV,rfl,d,rfl,f⟩
theorem AJi:Plain iL:=λx a=>by simp[iL] at a;subst a;decide
theorem AJh:Plain Pz:=λx a=>by simp[Pz] at a;subst a;decide
theorem AGr:Plain txV:=λx a=>by simp[txV] at a;subst a;decide
theorem AKG{i k x y:Int}{s t:Tb}{mu:Bool}(h:W.heap[g]? = some (Zk #[Zi i,Zt s,Zi k,Zo mu,Zi x,Zi y,Zt t] 72 (0,0))):bH W (Zs (some ⟨g,0,none⟩) 1 1) [(i,s,k,mu,x,y,t)]:=by
 refine .inr ⟨g,0,1,rfl,Y9 _,Ac h,λj c n v d=>?_⟩;have a:j=0:=by have:j<1:=c;omega
 subst a;rw[show 0+0*7+n=n by omega,S.cell_of_heap h n];have b:[Value.int .i64 i,Zt s,Zi k,Zo mu,Zi x,Zi y,Zt t][n]? = some v:=d;simpa using b
theorem AJ7(h:W.heap[g]? = some (Zk #[Zi 0,Zt ⟨#[97]⟩,Zi 1,Zo false,Zi 0,Zi 0,Zt ⟨#[]⟩] 72 (0,0))):K8 W dT (some ⟨g,0,none⟩) 1 none 0 none 0 0 none 0:=by
 refine⟨AKG h,λc a=>?_,⟨[],⟨_,_,rfl,XA _,λh=>absurd rfl h⟩,rfl,λj x r hx _=>by simp at hx⟩,(λr hr=>by cases hr),⟨_,_,rfl,XA _,λh=>absurd rfl h⟩,XA _,(λs hs=>by cases hs),λV hV=>?_,XA _,⟨λc a=>?_,by decide,(λr hr=>by cases hr),XA _,λs hs=>by cases hs⟩⟩
 ·have:c=(0,⟨#[97]⟩,1,false,0,0,⟨#[]⟩):=by simpa[dT] using a
  subst this;exact⟨by decide,by decide⟩
 ·refine(S.V8 none 0 V).mono ?_
  rintro e f⟨v,T,rfl,b,_,d⟩;exact⟨v,T,rfl,b,trivial,d⟩
 have:c=(0,⟨#[97]⟩,1,false,0,0,⟨#[]⟩):=by simpa[dT] using a
 subst this;exact⟨⟨by decide,by decide⟩,⟨by decide,by decide⟩,⟨by decide,by decide⟩⟩
theorem AAS(w:Tw)(he:Ik w)(hw:Lw w)(ht:Jp w)(hg:B.Ob w)(ho:S.Lp w):Zc 6 #[] w λe w'=>e=Zr (Zo true)/\Zb w w':=by
 have z:=Aa ((uF w he hw ht).up ((XC _ _).alloc (Y9 _) (Zk #[Zi 0,Zt ⟨#[97]⟩,Zi 1,Zo false,Zi 0,Zi 0,Zt ⟨#[]⟩] 72)));have ag:=heap_alloc_new (w.alloc (Zk #[.map none,Zs none 0 0] 30)) (Zk #[Zi 0,Zt ⟨#[97]⟩,Zi 1,Zo false,Zi 0,Zi 0,Zt ⟨#[]⟩] 72);have D:Hid (Zc 7 #[Zp (some ⟨w.heap.size,0,none⟩),Zg #[Zi 0,Zs (some ⟨w.heap.size+1,0,none⟩) 1 1,Zs none 0 0,Zs none 0 0,Zs none 0 0,Zi 0,Zt ⟨#[]⟩,Zt ⟨#[]⟩],Zt ⟨#[116]⟩] _ _):=Aa (V1 Qf w 0 w.heap.size 0 (.map []) [] _ _ [] [] iL [] dT (some ⟨w.heap.size+1,0,none⟩) 1 none 0 none 0 0 none 0 _ ⟨z.o,Inv.nil,hg,ho,XA _,by decide,by decide,by kernel_rfl,by decide,AJi,λh=>by cases h⟩ (by decide) (vA _) (AJ7 (by simpa using ag)));have u:=Aa (And.intro hg ho);clear he hw ht hg ho ag;go_enter func6,ntmps6;go_wp2_with fail;refine D.o.mono ?_;intro e w2 ah;obtain⟨rfl,n2,D2,M,an,O,R,a1,au,_,U⟩:=AJW ah;have H2:=Aa (And.intro R U);clear ah R au U D z;go_wp2_with fail;refine(Sy 1 w2).mono ?_;rintro e w3⟨rfl,ad⟩;have ak:=heap_alloc_new w3 (Zk #[Zi 1,Zi 1,Zt ⟨#[]⟩] 56);have x:=Aa (Ap ad ((XC _ w3).alloc (Y9 _) (Zk #[Zi 1,Zi 1,Zt ⟨#[]⟩] 56)));have o:=Aa ak;clear ad ak;go_wp2_with fail;refine(Sy 2 _).mono ?_;rintro e v⟨rfl,q⟩;obtain⟨ax,Y,X,s⟩:=Kt v (Zk #[Zi 1,Zi 2,Zt ⟨#[]⟩] 56) (Zk #[Zs (some ⟨w3.heap.size,0,none⟩) 1 1,Zs (some ⟨v.heap.size,0,none⟩) 1 1] 51);have L:=Aa ((Ap q s).block _ (Ac o.o) |>.trans o.o);have ap:=Aa (Ap x.o (Ap q s));have n:Hid (iK w ((v.alloc (Zk #[Zi 1,Zi 2,Zt ⟨#[]⟩] 56)).alloc (Zk #[Zs (some ⟨w3.heap.size,0,none⟩) 1 1,Zs (some ⟨v.heap.size,0,none⟩) 1 1] 51)) 0 w.heap.size n2 D2 M an O H1 [iL] Pz):=Aa ⟨H2.o.1.up ap.o,H2.o.2,u.o.1,u.o.2,XA _,by omega,by decide,by kernel_rfl,by decide,AJh,λh=>by simp[Pz,iL] at h⟩;have G:Hid (Zc 7 #[Zp (some ⟨w.heap.size,0,none⟩),Zg #[Zi 2,Zs none 0 0,Zs (some ⟨v.heap.size+1,0,none⟩) 2 2,Zs none 0 0,Zs none 0 0,Zi 0,Zt ⟨#[]⟩,Zt ⟨#[]⟩],Zt ⟨#[117]⟩] _ _):=Aa (V1 Qf w 0 w.heap.size n2 D2 M an O H1 [iL] Pz [] dU none 0 (some ⟨v.heap.size+1,0,none⟩) 2 none 0 0 none 0 _ n.o (by decide) (AKO _) (AKC X L.o Y));clear ax Y X s q o L x;go_wp2_with fail;refine G.o.mono ?_;intro e w6 ai;obtain⟨rfl,n6,D6,N,ao,P,T,a2,av,_,V,ab⟩:=AI4 (bJ H2.o.1) H2.o.2 (n.o.free 0) ai;have t:=Aa (And.intro T (And.intro V ab));clear ai T av V ab G n H2;go_wp2_with fail;refine(Sy 1 w6).mono ?_;rintro e w7⟨rfl,ae⟩;have al:=heap_alloc_new w7 (Zk #[Zi 1,Zt ⟨#[97]⟩,Zi 1,Zi 1,Zt ⟨#[]⟩] 75);have y:=Aa (Ap ae ((XC _ w7).alloc (Y9 _) (Zk #[Zi 1,Zt ⟨#[97]⟩,Zi 1,Zi 1,Zt ⟨#[]⟩] 75)));have J:Hid (iK w (w7.alloc (Zk #[Zi 1,Zt ⟨#[97]⟩,Zi 1,Zi 1,Zt ⟨#[]⟩] 75)) 0 w.heap.size n6 D6 N ao P H2 [Pz,iL] txV):=Aa ⟨t.o.1.up y.o,t.o.2.1,u.o.1,u.o.2,XA _,by omega,by decide,by kernel_rfl,by decide,AGr,λh=>by simp[Pz,iL,txV] at h⟩;have I:Hid (Zc 7 #[Zp (some ⟨w.heap.size,0,none⟩),Zg #[Zi 3,Zs none 0 0,Zs none 0 0,Zs (some ⟨w7.heap.size,0,none⟩) 1 1,Zs none 0 0,Zi 0,Zt ⟨#[]⟩,Zt ⟨#[]⟩],Zt ⟨#[118]⟩] _ _):=Aa (V1 Qf w 0 w.heap.size n6 D6 N ao P H2 [Pz,iL] txV xU dV none 0 none 0 (some ⟨w7.heap.size,0,none⟩) 1 1 none 0 _ J.o (by decide) t.o.2.2 (AJp al));clear al ae;go_wp2_with fail;refine I.o.mono ?_;intro e w8 aj;obtain⟨rfl,n8,D8,az,ay,a0,c,a3,aw,_,p,ac⟩:=AI9 t.o.2.1 t.o.2.2 aj;have m:=Aa (ABH w.heap.size n8 D8 ay H3 (-1) 3 xV w8 c.ground (u.o.1.below c.low) (u.o.2.below c.low) p.Lm p.past (by decide) (by decide) (.inl ⟨by decide,rfl⟩) ac.Lz);have H8:=Aa c.low;clear aj c aw p ac I J t y;rw[show (Ae H3 3).cols=[cA] from rfl,AKF] at m;go_wp2_with fail;refine m.o.mono ?_;rintro e w9⟨v9,rfl,aa,af⟩;obtain⟨rb,ro,rc,xv,er,a4,a,ar⟩:=aa.slr.at (k:=0) (r:=[(1,2,⟨#[]⟩)]) rfl;obtain⟨xa,xc,rfl,a6,am⟩:=ar;obtain⟨i,j,rfl,a5,b⟩:=am (by simp);obtain⟨y0,y1,y2⟩:=b 0 _ rfl;simp only[Nat.zero_mul,XP] at a y0 y1 y2;subst er;have f:Hid (∀W,Zb w9 W->W.cell? ⟨rb,ro,none⟩=some (Zs (some ⟨i,j,none⟩) 1 xc)/\W.cell? ⟨i,j,none⟩=some (Zi 1)/\W.cell? ⟨i,j+1,none⟩=some (Zi 2)/\W.cell? ⟨i,j+2,none⟩=some (Zt ⟨#[]⟩)):=Aa λW hb=>⟨Ag hb a,Ag hb y0,Ag hb y1,Ag hb y2⟩
 have l:=Aa ((XC w9.heap.size w9).drew);have aq:=Aa (Ap H8.o af);clear aa am b af m a y0 y1 y2;obtain⟨a,y0,y1,y2⟩:=f.o _ l.o;go_wp2_with fail
 go_region_held3 (λW=>W.cell? ⟨rb,ro,none⟩=some (Zs (some ⟨i,j,none⟩) 1 xc)/\W.cell? ⟨i,j,none⟩=some (Zi 1)/\W.cell? ⟨i,j+1,none⟩=some (Zi 2)/\W.cell? ⟨i,j+2,none⟩=some (Zt ⟨#[]⟩))
  (first
    | exact f.o _ l.o
    | exact f.o _ g
    | (go_keep;done)
    | fail)
  (first
    | (go_at_call 22
       refine(Sy 2 _).mono ?_;rintro e a7⟨rfl,d⟩;have g:=Ap l.o d;clear d)
    | fail)
 all_goals
  clear a y0 y1 y2 f;go_wp2;go_ret;exact⟨rfl,Ap aq.o g⟩
end F
namespace scanFilters
theorem k10:(Rows.scanFiltersRow.inPlace==prog.inPlace 3)=true:=by kernel_rfl
theorem k11:(Rows.scanFiltersRow.unfollowed==prog.unfollowed 3)=true:=by kernel_rfl
theorem k12:(Rows.scanFiltersRow.recurses==prog.recurses 3)=true:=by kernel_rfl
theorem k13:(Rows.scanFiltersRow.named==prog.varsNamed 3)=true:=by kernel_rfl
theorem closed:joinedFacts prog 3 f3 (OpenSpec.ofChange Rows.scanFiltersSpec).bare Rows.scanFiltersRow=true:=by
 unfold joinedFacts;rw[k10,k11,k12,k13]
 kernel_rfl
variable{W:Tw}{H:Type}{P:Program}
theorem own:ownKnob prog.godebug=none:=by kernel_rfl
theorem laidOut:laidOutB prog=true:=by kernel_rfl
theorem gNc:prog.globalNamed "millpond/schema.notColumns"=some 0:=by kernel_rfl
theorem AIH:(prog.globals[0]?).map (·.type)=some 293:=by kernel_rfl
theorem gPw:prog.globalNamed "internal/strconv.uint64pow10"=some 2:=by kernel_rfl
theorem AG3:(prog.globals[2]?).map (·.type)=some 342:=by kernel_rfl
theorem AIt:prog.cellsOf 293=5:=by kernel_rfl
theorem AIF:prog.cellsOf 342=20:=by kernel_rfl
theorem AJX:prog.cellsOf 241=1:=by kernel_rfl
def Pg:List (String×DataW Unit):=[("math/bits.deBruijn32tab",Rows.laid_math_bits_deBruijn32tab),("math/bits.deBruijn64tab",Rows.laid_math_bits_deBruijn64tab),("internal/strconv.uint64pow10",Rows.laid_internal_strconv_uint64pow10),("unicode/utf8.acceptRanges",Rows.laid_unicode_utf8_acceptRanges),("strconv.ErrRange",Rows.laid_strconv_ErrRange),("strconv.ErrSyntax",Rows.laid_strconv_ErrSyntax),("millpond/schema.notColumns",Rows.laid_millpond_schema_notColumns),("millpond/stats.opposites",Rows.laid_millpond_stats_opposites),("unicode/utf8.first",Rows.laid_unicode_utf8_first)]
theorem gEt:prog.globalNamed "errors.errorType"=some 1:=by kernel_rfl
theorem rt:(prog.cutTypes.find? (·.1 == "internal/reflectlite.rtype")).map (·.2)=some 369:=by kernel_rfl
theorem AKK:prog.types.size+100=543:=by kernel_rfl
theorem AJB:((List.range (543-100)).filter λt=>prog.rowNamed t [101,114,114,111,114])=[32]:=by kernel_rfl
theorem handle(h:laidMetH prog Rows.scanFiltersRow.laid W):B.Ob W:=by
 have f:laidMet prog Pg W/\handlesMet prog [("errors.errorType",Rows.laid_errors_errorType)] W:=h;obtain⟨name,u,i,c,d,j,e,a⟩:=f.2 _ (List.mem_singleton.2 rfl);have en:name=[101,114,114,111,114]:=(Yu c).symm;subst en;obtain rfl:=Yu (rt.symm.trans d);have b:i∈(List.range (543-100)).filter λt=>prog.rowNamed t [101,114,114,111,114]:=List.mem_filter.2 ⟨List.mem_range.2 (by have:=AKK;omega),e⟩
 rw[AJB] at b;obtain rfl:=List.mem_singleton.1 b;have g:typeHandle prog 32=Zp (some ⟨11,32,none⟩):=by kernel_rfl
 rw[g] at a;exact XM gEt a 0
theorem jD{enc:TypeId×Tv->H}{w:Tw}{base:Nat}{G:Nat->Bool}{held:Bool}{fuel:Nat}{t e:TypeId}{n:Nat}{cs:List Tv}{zs:List (List UInt8)}{p:List MemPlace}(v:P.underlying t=some (.array n e))(q:P.underlying e=some .string)(d:P.cellsOf e=1)(f:P.cellsOf t=n)(h:DataW.trod enc P w base G held fuel t cs=some (DataW.agg (zs.map λz=>DataW.lit (Lit.string z)),p)):∀(i:Nat)(z:List UInt8),zs[i]? = some z->cs[i]? = some (Value.string ⟨z.toArray⟩):=by
 cases fuel with
 | zero=>simp[DataW.trod] at h
 | succ fuel=>
   simp only[DataW.trod,v,d,f,Nat.mul_one] at h;split at h
   ·rename_i hl
    obtain⟨xs,k,x⟩:=Option.map_eq_some_iff.1 h
    have a:xs.map (·.1)=zs.map λz=>(DataW.lit (.string z):DataW H):=by have:=congrArg Prod.fst x;simpa using this
    have y:xs.length=n:=by simpa using Lib.mapM_length k
    have D:zs.length=n:=by have:=congrArg List.length a;simp at this;omega
    intro i z g
    have u:i<n:=by
     rcases Yc i n with j|j
     ·exact j
     rw[Yb (by omega)] at g;cases g
    obtain⟨b,m,r⟩:=Lib.mapM_at k i i (by simp[u]);obtain⟨s,o,rfl,_⟩:=DataW.trod_string q r
    have l:cs[i]? = some (Zt s):=by have:=congrArg (·[0]?) o;simpa[List.getElem?_take,XI] using this
    have c:(xs.map (·.1))[i]? = some (DataW.lit (.string s.data.toList):DataW H):=by simp[m]
    rw[a,XW,g] at c;simp only[Option.map_some,Option.some.injEq,DataW.lit.injEq,Lit.string.injEq] at c;rw[l,c]
   cases h
theorem words(h:laidMetH prog Rows.scanFiltersRow.laid W):Lw W:=by
 have e:laidMet prog Pg W:=(show laidMet prog Pg W/\handlesMet prog [("errors.errorType",Rows.laid_errors_errorType)] W from h).1;obtain⟨n,⟨m,t',cs,fuel,p,q,c,d,b,k,_,_⟩,_⟩:=laidMet.tail (laidMet.tail (laidMet.tail (laidMet.tail (laidMet.tail (laidMet.tail e)))));obtain rfl:=Yu (gNc.symm.trans c);obtain rfl:=Yu (AIH.symm.trans d);have j:=jD (zs:=[[97,110,100],[105,115],[110,111,116],[110,117,108,108],[111,114]]) underlying293 underlying9 AEW AIt k
 have a:∀(i:Nat)(z:List UInt8),([[97,110,100],[105,115],[110,111,116],[110,117,108,108],[111,114]]:List (List UInt8))[i]? = some z->W.cell? ⟨0,i,none⟩=some (Value.string ⟨z.toArray⟩):=λi z l=>by have f:=XM gNc b i;have g:=j i z l;rw[f];simpa using g
 exact⟨a 0 _ rfl,a 1 _ rfl,a 2 _ rfl,a 3 _ rfl,a 4 _ rfl⟩
theorem table(h:laidMetH prog Rows.scanFiltersRow.laid W):Jp W:=by have a:laidMet prog Pg W:=(show laidMet prog Pg W/\handlesMet prog [("errors.errorType",Rows.laid_errors_errorType)] W from h).1;exact Lib.tabIs_of_head (rest:=[("unicode/utf8.acceptRanges",Rows.laid_unicode_utf8_acceptRanges),("strconv.ErrRange",Rows.laid_strconv_ErrRange),("strconv.ErrSyntax",Rows.laid_strconv_ErrSyntax),("millpond/schema.notColumns",Rows.laid_millpond_schema_notColumns),("millpond/stats.opposites",Rows.laid_millpond_stats_opposites),("unicode/utf8.first",Rows.laid_unicode_utf8_first)]) (zs:=Lib.pow10Tab) gPw AG3 underlying342 underlying241 AJX AIF (laidMet.tail (laidMet.tail a))
theorem AEQ:(prog.globals[4]?).map (·.type)=some 364:=by kernel_rfl
theorem AHd:prog.cellsOf 364=9:=by kernel_rfl
theorem AIw:prog.cellsOf 3=1:=by kernel_rfl
theorem ADA(h:laidMetH prog Rows.scanFiltersRow.laid W):S.Lp W:=by have a:laidMet prog Pg W:=(show laidMet prog Pg W/\handlesMet prog [("errors.errorType",Rows.laid_errors_errorType)] W from h).1;exact Lib.tabIs_of_head (rest:=[("unicode/utf8.first",Rows.laid_unicode_utf8_first)]) (zs:=S.AE2) S.iO AEQ underlying364 underlying3 AIw AHd (laidMet.tail (laidMet.tail (laidMet.tail (laidMet.tail (laidMet.tail (laidMet.tail (laidMet.tail a)))))))
theorem gEr:prog.globalNamed "strconv.ErrRange"=some 6:=by kernel_rfl
theorem AH2:(prog.globals[6]?).map (·.type)=some 32:=by kernel_rfl
theorem gEs:prog.globalNamed "strconv.ErrSyntax"=some 5:=by kernel_rfl
theorem AHa:(prog.globals[5]?).map (·.type)=some 32:=by kernel_rfl
theorem star: "*" ++ "errors.errorString" = "*errors.errorString":=by decide
theorem AEh(u:TypeId)(h:prog.typeName? 3 u=some "*errors.errorString"):u=402 :=
 typeName_ptr_named (nm := "errors.errorString") (by rw[star];kernel_rfl) (by kernel_rfl) (by decide) u (by rw[star];exact h)
theorem ABp(h:laidMetH prog Rows.scanFiltersRow.laid W):Ik W:=by have d:laidMet prog Pg W:=(show laidMet prog Pg W/\handlesMet prog [("errors.errorType",Rows.laid_errors_errorType)] W from h).1;have c:=laidMet.tail (laidMet.tail (laidMet.tail (laidMet.tail d)));obtain⟨e,s1,a,_⟩:=laid_sentinel (tp:=402) (te:=404) (ts:=9) c gEr AH2 underlying32 AEh underlying402 underlying404 rfl rfl underlying9 (by kernel_rfl) (by kernel_rfl);obtain⟨f,s2,b,_⟩:=laid_sentinel (tp:=402) (te:=404) (ts:=9) (laidMet.tail c) gEs AHa underlying32 AEh underlying402 underlying404 rfl rfl underlying9 (by kernel_rfl) (by kernel_rfl);exact⟨⟨_,_,by simpa using XM gEs b 0⟩,_,_,by simpa using XM gEr a 0⟩
theorem AEr(H:Type)(enc:TypeId×Tv->H)(W:Tw)(base:Nat)(args:Array Tv)(m gs:List (DataW H))(before:List MemPlace)(a:∀(j:Nat)t v,f3.params[j]? = some t->args[j]? = some v->Value.okWide prog W .any base t v)(s:DataW.Whole enc prog f3.params.toList Rows.scanFiltersSpec.vars false W args.toList m gs before)(d:laidMetH prog Rows.scanFiltersRow.laid W):
 Zc 3 args W λe k=>∃v,e=Zr v/\Rows.scanFiltersSpec.post enc prog f3 false true false false W args v k:=by
 have b:=s;obtain⟨p,q,c,z,rfl,G,J⟩:=s;have r:DataW.TrodAll enc prog W 0 (λ_=>true) true f3.params.toList args.toList m p:=c;rw[params3] at r a;obtain⟨w,M,R,T,p0,u,rfl,rfl,rfl,n,o⟩:=trodAll_two r;obtain⟨rfl,rfl⟩:=trodVars_none z;clear c;simp only[X4] at b;have f:∀x∈p0++u,x.block<W.heap.size:=λx g=>b.lt x (by simpa using g)
 obtain⟨l,I,L⟩:=F.yI (a 0 22 w rfl rfl) n;obtain⟨N,P,O,rfl,_,_,y⟩:=F.ACk (a 1 23 M rfl rfl) o;refine(F.AH8 F.Qf F.AAS w N P O l W I L y (ABp d) (words d) (table d) (handle d) (ADA d)).mono λe k⟨D,i⟩=>?_
 subst D;refine⟨_,rfl,_,_,_,[],p0++u,[],b,?_,?_,rfl,i.frame _,λh=>by cases h⟩
 ·exact trodAll_mk1 (shut_bool underlying4 _)
 exact trodAll_mk2 (WB laidOut (by kernel_rfl) (of_decide_eq_true (by kernel_rfl)) n i (λx g=>f x (by simp[g]))) (WB laidOut (by kernel_rfl) (of_decide_eq_true (by kernel_rfl)) o i (λx g=>f x (by simp[g])))
theorem o6{w0:Tw}{laid:List (String×Td)}(args:Array Tv)(c:w0.layFits P laid []=true)(d:w0.layIfaces P laid (w0.layVars P laid)=true):laidMet P laid ((w0.layVars P laid).forCall (λ_ _=>0) ⟨#[],args,[]⟩).memory:=by
 have a:(laid.filter λx=>(laid.map (·.1)).contains x.1)=laid:=List.filter_eq_self.2 λx hx=>List.contains_iff_mem.2 (List.mem_map.2 ⟨x,hx,rfl⟩)
 have b:(laid.filter λx=>!(laid.map (·.1)).contains x.1)=[]:=List.filter_eq_nil_iff.2 λx hx=>by rw[List.contains_iff_mem.2 (List.mem_map.2 ⟨x,hx,rfl⟩)];simp
 have h:laidMet P laid (w0.layVars P laid):=laidMet_layVars (w0:=w0) (laid.map (·.1)) [] (by rw[a]) (by rw[a];exact c) (by rw[a];exact d) (by rw[b];exact LaidIn.none);exact h.of_heap (by simp[World.memory,World.forCall,Input.heap])
noncomputable def w00 (a:Os):World:=(World.holding prog a ⟨#[],#[],[]⟩).setCell ⟨1,0,none⟩ (.iface 369 (.agg #[.pointer (some ⟨11,32,none⟩)]))
noncomputable def wit (a:Os):World:=(w00 a).layVars prog Pg
theorem AIq(a:Os):(wit a).os=a:=World.layVars_os _ _ _
theorem AEH(a:Os):laidMetH prog Rows.scanFiltersRow.laid ((wit a).forCall (λ_ _=>0) ⟨#[],#[Zs none 0 0,Zs none 0 0],[]⟩).memory :=
 laidMetH_of_parts (o6 (w0:=w00 a) (laid:=Pg) _ (by kernel_rfl) (by kernel_rfl)) (by kernel_rfl)
theorem reads(b:Os)(enc:TypeId×Tv->H):∃a places,DataW.whole enc prog ((wit b).forCall (λ_ _=>0) ⟨#[],#[Zs none 0 0,Zs none 0 0],[]⟩).memory f3.params.toList Rows.scanFiltersSpec.vars false #[Value.slice none 0 0,Zs none 0 0].toList 8=some (a,[],places) :=
 ⟨[.nil,.nil],[],by kernel_rfl⟩
theorem lifted(a:Os)(started:a.Started)(H:Type)(enc:TypeId×Tv->H)(F:Stop.Interp):
 ReturnsInHanded {} checked a 3 .any ((OpenSpec.ofChange Rows.scanFiltersSpec).preRow enc prog f3 Rows.scanFiltersRow.domain false Rows.scanFiltersRow.laid) (((OpenSpec.ofChange Rows.scanFiltersSpec).at F).post enc prog f3 false true false false):=by
 obtain⟨c,places,g⟩:=reads a enc
 refine returnsInHanded_of_row (C:=checked) (s:=OpenSpec.ofChange Rows.scanFiltersSpec) own started (by kernel_rfl) func3
  (witness_row_at (enc:=enc) (C:=checked) false (wit a) #[Zs none 0 0,Zs none 0 0] (AIq a) (by kernel_rfl) (by kernel_rfl) (by kernel_rfl)
    (OpenSpec.preRow_of_cond 8 g (by kernel_rfl) (λk f=>by cases f) (by kernel_rfl) (AEH a))) ?_
 intro W base args c gs before b e _ _ _ d _ _;exact AEr H enc W base args c gs before b e d
theorem s1:Tryz.pinned.checked.prog.funcNamed Rows.scanFiltersRow.func=some 3:=by kernel_rfl
theorem s2:f3.isWrapper Tryz.pinned.checked.prog Rows.scanFiltersRow.wrapper Rows.scanFiltersRow.mainSum:=by
 unfold Func.isWrapper
 first|(rw[if_pos (by decide +kernel)];kernel_rfl)|(rw[if_neg (by decide +kernel)];exact⟨rfl,rfl⟩)
theorem s3:f3.isInstance Tryz.pinned.checked.prog Rows.scanFiltersRow.origin Rows.scanFiltersRow.targs:=of_decide_eq_true (by kernel_rfl)
theorem said:Rows.ScanFiltersSaid :=
 OpenClaim.holds_of_cond 3 f3 rfl rfl rfl rfl rfl rfl rfl ⟨rfl,rfl,rfl,rfl,rfl⟩ rfl rfl rfl rfl rfl s1 func3 closed s3 s2
  (λa started H enc _ F=>by rw[OpenClaim.pre_eq_preRow];exact lifted a started H enc F)
theorem plain(f:FuncId)(b:Func)(e:Tryz.pinned.checked.prog.funcNamed "millpond/millpondkeep.ScanFilters"=some f)(c:Tryz.pinned.checked.prog.funcs[f]? = some b):
 true=Tryz.pinned.checked.prog.looks []/\∀(j:Nat)t,b.params[j]? = some t->Tryz.pinned.checked.prog.wantsStandIn t=false:=by
 obtain rfl:f=3:=Yu ((show prog.funcNamed "millpond/millpondkeep.ScanFilters"=some 3 by kernel_rfl).symm.trans e) |>.symm;obtain rfl:b=f3:=(Yu (func3.symm.trans c)).symm;refine⟨by kernel_rfl,λj t d=>?_⟩;rw[params3] at d;have g:t∈[22,23]:=by simpa using Array.mem_of_getElem? d
 have a:([22,23].all λu=>!prog.wantsStandIn u)=true:=by kernel_rfl
 exact(show prog.wantsStandIn t=false by simpa using List.all_eq_true.1 a t g)
end scanFilters
theorem scanFilters_card:Rows.ScanFiltersCardSaid :=
 Claim7.holds_tied_plain_at .later [] _ _ _ _ scanFilters.said (λ_ h=>by cases h) (by kernel_rfl) (λ_ h=>by cases h) scanFilters_row_tie rfl ⟨rfl,rfl⟩ (by kernel_rfl) rfl scanFilters.plain (by kernel_rfl)
#print axioms scanFilters_card
