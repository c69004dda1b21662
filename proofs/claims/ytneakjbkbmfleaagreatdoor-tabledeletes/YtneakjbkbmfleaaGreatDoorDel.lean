/- WHAT IS TAKEN OUT IS GONE, AND NOTHING ELSE, proved: at every list of deeds and of parts millpondkeep.TableDeletes returns true and leaves its arguments as they were; its condition: the lists, the library's tables, the two errors of strconv and the handle of the type error that the row names start as the program's own text lays them. -/
import Derived.Test.YtneakjbkbmfleaaGreatDoorZOa
import Derived.Test.YtneakjbkbmfleaaGreatDoorCards
import Derived.Test.YtneakjbkbmfleaaGreatDoorTie
import Derived.Deep.DeepHandedRow
import Derived.LaidMore
import Derived.Lay
import Derived.Stop.LaidErr
set_option maxHeartbeats 40000000
set_option maxRecDepth 100000
open Nat renaming le_refl->Y',zero_le->XB,le_trans->XF,add_zero->XS,le_succ->Wb,zero_add->WG
open List renaming length_map->XA,getElem?_eq_getElem->XC,mem_of_getElem?->XG,map_append->XH,length_take->XI,length_append->XJ,getElem?_drop->XK,not_mem_nil->XM,length_cons->XN,mem_cons->XQ,mem_of_mem_drop->XV,append_toArray->XW,getElem?_map->XY,size_toArray->XZ,push_toArray->X2,cons_append->X6,length_drop->X',append_nil->WA,length_nil->WD,nil_append->WE
open Go.RowKit.Below renaming refl->XD,trod->WH
open Go.World renaming putObj_heap_other->XE,ownsRow_nil->XL,var?_cell->XO,news_of_block->XP
open Bool renaming and_eq_true->XR,not_eq_true'->XX
open Array renaming replicate_succ->XT,replicate_zero->XU
open Option renaming getD_some->X4
open Int renaming natCast_add->WB,natCast_one->WC
namespace Go.Proofs.YtneakjbkbmfleaaGreatDoor
open _root_.Go.Proofs.Tryz RowKit Shelf Joins Lib Deep ChangeShapes WideShapes ChangeAt
open Go.Sort (grow)
open ChangeMaps (open_string shut_string)
namespace F
variable{D:Td}{i:Nat}{H:List (Dn×Ah)}{a:Bool}{A:List A5}{v:Tv}{s:Ah}{e:Ending}{T:S.CT}
theorem Py(lv:Tv)(l:List DdS)(w:Tw)(hl:F7 8 AGa w lv l)(T:∀q∈l,Nf w q):
 Zc 4 #[lv] w (Pb (l.length<=30/\∀q∈l,U8 q) w):=by
 have HL:=Aa hl;obtain⟨la,lc,rfl,_⟩:=hl.slice;have HR:=Aa T;clear hl T
 by_cases h30:l.length<=30
 ·have I:¬(30:Int)<(l.length:Int):=by omega
  go_enter func4,ntmps4;go_wp2
  go_loopw [3] (λy wr=>∃k:Nat,k<=l.length/\y=Zi k/\Hid (∀q∈l.take k,U8 q)/\Hid (Zb w wr)) (λy _=>l.length-(intOf y).toNat)
  case atStart=>exact⟨0,XB _,rfl,Aa (by simp),Aa (XD _ _)⟩
  case round=>
   obtain⟨k,hk,rfl,M,u⟩:=hrel
   by_cases hlt:k<l.length
   ·obtain⟨q,f⟩:∃q,l[k]? = some q:=⟨_,XC hlt⟩
    obtain⟨lb,lo,ap,el,_,an,a⟩:=(HL.o.up u.o).cons (by omega);injection el with ah _ ai;subst ah ai;have q0:=a k q f 0 _ rfl;have q1:=a k q f 1 _ rfl;have q2:=a k q f 2 _ rfl;have q3:=a k q f 3 _ rfl;have q4:=a k q f 4 _ rfl;have q5:=a k q f 5 _ rfl;have q6:=a k q f 6 _ rfl;have q7:=a k q f 7 _ rfl;simp only[XS] at q0;have d:=Aa (HR.o q (XG f));have HQ:=Aa f;have am:(k:Int)<(l.length:Int):=by omega
    clear a f;obtain⟨⟨wh,cols,rows,A3,ch,nm,z,tr⟩,ca,cc,ra,rc,pa,R,pc,sa,sc⟩:=q;simp only at q0 q1 q2 q3 q4 q5 q6 q7;have J:Zb wr (wr.alloc (Zk #[Zi wh,Zs ca cols.length cc,Zs ra rows.length rc,Zs pa R pc,Zs sa A3.length sc,Zi ch,Zt nm,Zt z] 38)):=Zal;have G:=Aa (Yac wr (Zk #[Zi wh,Zs ca cols.length cc,Zs ra rows.length rc,Zs pa R pc,Zs sa A3.length sc,Zi ch,Zt nm,Zt z] 38));have D:=Aa (Ap u.o J);have m1:nm.size<=maxLen:=d.o.nm;have m2:z.size<=maxLen:=d.o.tw;have i:=Aa (pS (Zs ca cols.length cc) cols _ (d.o.cols.up D.o) d.o.ACl);have o:=Aa (λW(hW:Zb w W)=>oH (Zs ra rows.length rc) rows W (d.o.rows.up hW) (λr T v g=>(d.o.ACg r T v g).2));unfold Pb at i o;clear J;go_wp2_with fail;refine i.o.mono ?_;rintro e w2⟨b2,rfl,N,p⟩;have X:=Aa N;have h:=Aa (Ap D.o p);have m:=Aa ((p.block _ (Ac G.o)).trans G.o);clear N p i;obtain⟨y0,y1,y2,y3,y4,y5,y6,y7,yf⟩:=F2 m.o;clear q0 q1 q2 q3 q4 q5 q6 q7;cases b2 with
    | false=>go_wp2_with fail;go_ret;exact⟨_,rfl,by simp,h.o⟩
    | true=>
      go_wp2_with fail;refine(o.o _ h.o).mono ?_;rintro e w3⟨b3,rfl,O,t⟩;have Y:=Aa O;have c:=Aa (Ap h.o t);have V:=Aa ((t.block _ (Ac m.o)).trans m.o);clear O t o y0 y1 y2 y3 y4 y5 y6 y7 yf;obtain⟨y0,y1,y2,y3,y4,y5,y6,y7,yf⟩:=F2 V.o;cases b3 with
      | false=>go_wp2_with fail;go_ret;exact⟨_,rfl,by simp,c.o⟩
      | true=>
        by_cases a1:R<=20
        ·have ac:¬(20:Int)<(R:Int):=by omega
         by_cases a2:A3.length<=10
         ·have ad:¬(10:Int)<(A3.length:Int):=by omega
          by_cases a3:nm.size<=60
          ·have ae:¬(60:Int)<(nm.size:Int):=by omega
           by_cases a4:z.size<=60
           ·have af:¬(60:Int)<(z.size:Int):=by omega
            have ab:=Aa d.o.wX;have aa:=Aa (d.o.A3.up c.o);go_wp2_with fail
            go_loopw [5] (λy wi=>∃j:Nat,j<=A3.length/\y=Zi j/\Hid (∀s∈A3.take j,s.2.2.2.size<=100)/\wi=w3) (λy _=>A3.length-(intOf y).toNat)
            case atStart=>exact⟨0,XB _,rfl,Aa (by simp),rfl⟩
            case round=>
             obtain⟨j,hj,rfl,L,rfl⟩:=hrel
             by_cases hjl:j<A3.length
             ·obtain⟨⟨sn,vk,vn,U⟩,g⟩:∃x,A3[j]? = some x:=⟨_,XC hjl⟩
              obtain⟨sb,so,aq,es,_,ao,b⟩:=aa.o.cons (by omega);injection es with aj _ ak;subst aj ak;have s0:=b j _ g 0 _ rfl;have s1:=b j _ g 1 _ rfl;have s2:=b j _ g 2 _ rfl;have s3:=b j _ g 3 _ rfl;simp only[XS] at s0;have m3:U.size<=maxLen:=(ab.o _ (XG g)).2;have al:(j:Int)<(A3.length:Int):=by omega
              have HV:=Aa g;clear b g
              by_cases a5:U.size<=100
              ·have ag:¬(100:Int)<(U.size:Int):=by omega
               have n:=Aa (My (P:=λv:Vi=>v.2.2.2.size<=100) L.o HV.o a5);go_wp2;exact⟨⟨j+1,by omega,by go_num,n,trivial⟩,by simp[intOf];omega⟩
              have ag:(100:Int)<(U.size:Int):=by omega
              go_wp2;go_ret;exact⟨_,rfl,by simp,c.o⟩
             have al:¬(j:Int)<(A3.length:Int):=by omega
             have n:=Aa (My (P:=λq:DdS=>U8 q) M.o HQ.o ⟨X.o trivial,Y.o trivial,a1,a2,O1 (P:=λv:Vi=>v.2.2.2.size<=100) L.o (show A3.length<=j by omega)⟩);go_wp2;exact⟨⟨k+1,by omega,by go_num,n,c⟩,by simp[intOf];omega⟩
           have af:(60:Int)<(z.size:Int):=by omega
           go_wp2_with fail;go_ret;exact⟨_,rfl,by simp,c.o⟩
          have ae:(60:Int)<(nm.size:Int):=by omega
          go_wp2_with fail;go_ret;exact⟨_,rfl,by simp,c.o⟩
         have ad:(10:Int)<(A3.length:Int):=by omega
         go_wp2_with fail;go_ret;exact⟨_,rfl,by simp,c.o⟩
        have ac:(20:Int)<(R:Int):=by omega
        go_wp2_with fail;go_ret;exact⟨_,rfl,by simp,c.o⟩
   have am:¬(k:Int)<(l.length:Int):=by omega
   have HF:=Aa (O1 (P:=λq:DdS=>U8 q) M.o (by omega));go_wp2;go_ret;exact⟨_,rfl,λ_=>HF.o,u.o⟩
 have I:(30:Int)<(l.length:Int):=by omega
 go_enter func4,ntmps4;go_wp2;go_ret;exact⟨_,rfl,by simp,XD _ _⟩
theorem bJ{w0 w:Tw}{bb n:Nat}{fs:List Int}{mv v:Tv}(h:Ey w0 w 0 bb n D fs mv v):fs=[]:=by
 obtain⟨a,c,e,g,f⟩:=h.bu.2.2;cases fs with
 | nil=>rfl
 | cons x l=>obtain⟨b,off,d,_⟩:=f (by simp);exact absurd (h.hf b off l.length c (by rw[e,d];rfl)) (Ym _)
theorem AIz:(List.range 31).all (λi=>Bx (wK i))=true:=by kernel_rfl
theorem AGv(h:i<=30):Bx (wK i)=true:=List.all_eq_true.1 AIz i (List.mem_range.2 (by omega))
def nms:Nat->List ByteArray
 | 0=>[]
 | i+1=>wK i :: nms i
theorem AD3:∀(i k:Nat),i<=k->k<=600->¬wK k∈nms i
 | 0,_,_,_,h=>by cases h
 | i+1,k,h1,h2,h=>by
   rcases List.mem_cons.1 h with e|e
   ·have:=AHh (by omega) (by omega) e
    omega
   exact AD3 i k (by omega) h2 e
structure LwT(w0 w:World)(bb i m:Nat)(D:DataW Unit)(fs:List Int)(mv fv:Value)(H:List (Dn×Ah)):Prop where
 base:Ey w0 w 0 bb m D fs mv fv
 inv:Inv D H (nms i)
 Iz:H.length<=i
 AFx:m<=i*100
theorem LwT.sit{w0 w:Tw}{bb i m:Nat}{fs:List Int}{mv v:Tv}(h:LwT w0 w bb i m D fs mv v H)(b:i<=30)(a:B.Ob w0)(c:S.Lp w0):iK w0 w 0 bb m D fs mv v H (nms i) (wK i) :=
 ⟨h.base,h.inv,a,c,XB _,by have:=h.AFx;omega,by have:=h.Iz;omega,AGv b,by show 3<=12;decide,AFl i,AD3 i i (Y' _) (by omega)⟩
theorem LwT.up{w0 w W:Tw}{bb i m:Nat}{D:Td}{fs:List Int}{mv v:Tv}{H:List (Dn×Ah)}(h:LwT w0 w bb i m D fs mv v H)(a:Zb w W):LwT w0 W bb i m D fs mv v H:=⟨h.base.up a,h.inv,h.Iz,h.AFx⟩
theorem uF(w:Tw)(a:Ik w)(g:Lw w)(f:Jp w):Ey w (w.alloc (Zk #[.map none,Zs none 0 0] 30)) 0 w.heap.size 0 (.map []) [] (.map none) (Zs none 0 0) :=
 ⟨B.AJj w,Zal,Y' _,λk d=>(by cases d),a,g,f,λb off l c e=>(by cases e)⟩
theorem LwT.start(w:Tw)(a:Ik w)(c:Lw w)(b:Jp w):LwT w (w.alloc (Zk #[.map none,Zs none 0 0] 30)) w.heap.size 0 0 (.map []) [] (.map none) (Zs none 0 0) [] :=
 ⟨uF w a c b,Inv.nil,Y' _,Y' _⟩
theorem AHq(l:Mw)(w0:Tw)(bb i m:Nat)(D:Td)(fs:List Int)(mv t:Tv)(H:List (Dn×Ah))(x:J4)(g:To)(j:Nat)(p:To)(q:Nat)(pa:To)(o n:Nat)(r:To)(s:Nat)(w:Tw)(h:LwT w0 w bb i m D fs mv t H)(P:i<30)(I:B.Ob w0)(J:S.Lp w0)(L:K8 w x g j p q pa o n r s):
 Zc 6 #[Zp (some ⟨bb,0,none⟩),Zg #[Zi x.Qk,Zs g x.cols.length j,Zs p x.rows.length q,Zs pa o n,Zs r x.A3.length s,Zi x.change,Zt x.name,Zt x.tw],Zt (wK i)] w λe u=>∃k,e=Zr k/\∃M d a c b f,LwT w0 u bb (i+1) M d a c b f:=by
 obtain⟨xs,z⟩:=h.inv.wU H.length (Y' _);refine(V1 l w0 0 bb m D fs mv t H (nms i) (wK i) xs x g j p q pa o n r s w (h.sit (by omega) I J) (by have:=h.Iz;omega) z L).mono ?_;intro e u G;obtain⟨k,rfl,n',d,a,c,b,f,v,N,_,_,y,_,O⟩:=G.wU;exact⟨k,rfl,n',d,a,c,b,f,v,y,by have:=h.Iz;omega,by have:=h.AFx;omega⟩
def cA:Aj:=(1,⟨#[97]⟩,1,false,0,0,⟨#[]⟩)
def iL:ByteArray:=⟨#[116]⟩
def Pz:ByteArray:=⟨#[117]⟩
def txV:ByteArray:=⟨#[118]⟩
def aT:List A5:=[(4,⟨#[]⟩,0,[],[cA],2)]
def sT:Ah:=⟨1,[cA],2,[]⟩
def R2:List (List V):=[[(1,1,⟨#[]⟩)],[(1,2,⟨#[]⟩)]]
def aU:List A5:=[(1,Bw Pz 0,2,[],[],0)]
def sU:Ah:=⟨2,[cA],2,[(Bw Pz 0,2,[])]⟩
def xU:List A6:=[((Bw Pz 0,2,[]),[cA],R2)]
def tV:S.CT:=.node 0 0 ⟨1,⟨#[97]⟩,1,1,⟨#[]⟩⟩ .nil .nil
def aV:List A5:=[(3,Bw Pz 0,0,[0],[],0)]
def sV:Ah:=⟨3,[cA],2,[(Bw Pz 0,2,[0])]⟩
def xV:List A6:=[((Bw Pz 0,2,[0]),[cA],R2)]
def H1:List (Dn×Ah):=[((iL,false,aT),sT)]
def H2:List (Dn×Ah):=[((iL,false,aT),sT),((Pz,false,aU),sU)]
def H3:List (Dn×Ah):=[((iL,false,aT),sT),((Pz,false,aU),sU),((txV,true,aV),sV)]
theorem AJd:Go.Proofs.YtneakjbkbmfleaaGreatDoor.Be [cA] 2=true:=by kernel_rfl
theorem AIh:De [cA] R2=true:=by kernel_rfl
theorem AJ4:Ex [cA] tV=0:=by kernel_rfl
theorem ABN:Ct [cA] tV ((Bw Pz 0,2,[]),[cA],R2)=[0]:=by kernel_rfl
theorem AFC:(E4 [cA] ((Bw Pz 0,2,[]),[cA],R2)).length=2:=by kernel_rfl
theorem goV:xU.flatMap (Vm [cA] tV)=aV:=by show Vm [cA] tV ((Bw Pz 0,2,[]),[cA],R2)++[]=aV;unfold Vm;rw[ABN,AFC];rfl
theorem AKR:xU.filterMap (pO [cA] tV)=xV:=by
 have h:pO [cA] tV ((Bw Pz 0,2,[]),[cA],R2)=some ((Bw Pz 0,2,[0]),[cA],R2):=by unfold pO;rw[ABN,AFC];simp[N6,Ir]
 unfold xU xV;rw[YI,h];rfl
theorem AKF:Fc [cA] xV=[[(1,2,⟨#[]⟩)]]:=by kernel_rfl
theorem okT:Cv (iL,false,aT)=true:=by kernel_rfl
theorem okU:Cv (Pz,false,aU)=true:=by kernel_rfl
theorem okV:Cv (txV,true,aV)=true:=by kernel_rfl
theorem apT:Bi F6 (iL,false,aT) sT:=⟨by kernel_rfl,sT,.inr (.inr (.inr ⟨rfl,⟨(I9 _ _).1 (by kernel_rfl),by decide⟩,rfl⟩)),rfl⟩
theorem nX{tx:Tb}{fs:List Int}{t:Ah}(g:Cv (tx,a,A)=true)(e:Bi (Ae H H.length) (tx,a,A) t)(f:fs=[])(h:AD8 (tx,a,A) H fs H.length v):False:=by
 rcases h with h|⟨i,b,j,_,h⟩|⟨i,c,b,d,_⟩|⟨_,h⟩
 ·rw[g] at h;cases h
 ·have:i=H.length:=by omega
  subst this;exact h t e
 ·rw[Yb b] at d;cases d
 subst f;cases h
theorem apU:Bi sT (Pz,false,aU) sU:=⟨by kernel_rfl,sU,.inl ⟨rfl,⟨by kernel_rfl,by decide,by decide,by decide +kernel,(λe=>by cases e),by decide⟩,rfl⟩,rfl⟩
theorem AJN:Bt (bump sU).files (Bw Pz 0)=0:=by kernel_rfl
theorem AKq:sV=gJ (bump sU) (3,Bw Pz 0,0,[0],[],0):=by unfold gJ;simp only[AJN];simp[N6,Ir,sV,bump,sU]
theorem apV:Bi sU (txV,true,aV) sV:=⟨by kernel_rfl,sV,.inr (.inr (.inl ⟨rfl,⟨by decide +kernel,by kernel_rfl,by kernel_rfl⟩,AKq⟩)),rfl⟩
def dT:J4:=⟨0,[(0,⟨#[97]⟩,1,false,0,0,⟨#[]⟩)],[],[],0,⟨#[]⟩,⟨#[]⟩,λ_=>True⟩
def dU:J4:=⟨2,[],R2,[],0,⟨#[]⟩,⟨#[]⟩,λ_=>True⟩
def dV:J4:=⟨3,[],[],[],0,⟨#[]⟩,⟨#[]⟩,λT=>T=tV⟩
theorem mkT{D b:Td}{xs:List A6}{tx:Tb}{rows:Int}(h:V7 D s xs tx dT b a A rows):a=false/\A=aT:=by
 rcases h with⟨_,_,_,_,rfl,rfl,_⟩|⟨e,_⟩|⟨e,_⟩|⟨e,_⟩|⟨e,_⟩|⟨e,_⟩
 ·exact⟨rfl,rfl⟩
 all_goals exact absurd e (by decide)
theorem mkU{a:Td}{xs:List A6}{b:Bool}{rows:Int}(c:s.cols=[cA])(h:V7 D s xs Pz dU a b A rows):b=false/\A=aU/\a=D.put (B.lit (Eh (Bw Pz 0))) (Pa [cA] R2):=by
 rcases h with⟨e,_⟩|⟨e,_⟩|⟨_,_,_,rfl,rfl,rfl,_⟩|⟨e,_⟩|⟨e,_⟩|⟨e,_⟩
 rotate_left 2
 ·exact⟨rfl,rfl,by rw[c];rfl⟩
 all_goals exact absurd e (by decide)
theorem mkV{D b:Td}{tx:Tb}{c:Bool}{rows:Int}(f:s.cols=[cA])(h:V7 D s xU tx dV b c A rows):c=true/\A=aV/\b=D:=by
 rcases h with⟨e,_⟩|⟨e,_⟩|⟨e,_⟩|⟨_,T,d,_,_,rfl,rfl,rfl,_⟩|⟨e,_⟩|⟨e,_⟩
 rotate_left 3
 ·have a:T=tV:=d
  subst a;exact⟨rfl,by rw[f,goV],rfl⟩
 all_goals exact absurd e (by decide)
theorem AJW{w0 w W:Tw}{bb n:Nat}{fs:List Int}{mv:Tv}(h:Xt w0 w 0 bb n (.map []) fs mv [] [] iL [] dT e W):e=Zr Zn/\∃n' d b a c,Ey w0 W 0 bb n' d b a c/\n'<=n+100/\B.A0 (B.Own bb mv) w W/\(∀k,a=.map (some k)->mv=.map (some k)\/w.heap.size<=k)/\Inv d H1 [iL]:=by
 obtain⟨n',d,b,a,c,z,o,s,u,r,p,⟨rfl,j,x,A,rows,g,h⟩|⟨T,y,rfl,rfl,h⟩⟩:=h
 ·obtain⟨rfl,rfl⟩:=mkT g
  rcases h with⟨e,_⟩|⟨_,_,t,q,rfl,rfl⟩
  ·cases e
  obtain⟨rfl,_⟩:=Ry q;exact⟨rfl,n',_,b,a,c,o,s,u,r,p⟩
 exfalso
 rcases h with h|⟨j,x,A,rows,l,G,n1,v,m,g,D,f,i⟩
 ·rcases h.1 rfl with h|h
  ·have:=AJd
   rw[show Go.Proofs.YtneakjbkbmfleaaGreatDoor.Be [cA] 2=false from h] at this;cases this
  exact h rfl
 obtain⟨rfl,rfl⟩:=mkT g;exact nX (H:=[]) okT apT (bJ f) i
theorem AKO(D:Td):C7 D sT []:=⟨⟨rfl,(λx a=>by cases a),XB _,by decide,λe=>by cases e⟩,(λx a=>by cases a),(λx a=>by cases a),(λx a=>by cases a)⟩
theorem AEL:K9 R2:=λr a v b=>by
 simp only[R2,XQ,XM,or_false] at a
 rcases a with rfl|rfl <;> (simp at b;subst b;exact⟨by decide,by decide⟩)
theorem AI4{w0 w W:Tw}{bb n:Nat}{fs:List Int}{mv:Tv}(G:fs=[])(j:Inv D H1 [iL])(f:Maps.has D (B.lit (Eh (Bw Pz 0)))=false)(h:Xt w0 w 0 bb n D fs mv H1 [iL] Pz [] dU e W):e=.returned .nilIface/\∃n' g b a c,Ey w0 W 0 bb n' g b a c/\n'<=n+100/\B.A0 (B.Own bb mv) w W/\(∀k,a=.map (some k)->mv=.map (some k)\/w.heap.size<=k)/\Inv g H2 [Pz,iL]/\C7 g sU xU:=by
 obtain⟨n',g,b,a,c,P,u,J,L,I,v,⟨rfl,q,O,A,rows,o,h⟩|⟨T,y,rfl,rfl,h⟩⟩:=h
 ·obtain⟨rfl,rfl,rfl⟩:=mkU rfl o
  rcases h with⟨e,_⟩|⟨_,l,t,x,rfl,rfl⟩
  ·cases e
  have M:=eH x;subst M
  have m:C7 (D.put (B.lit (Eh (Bw Pz 0))) (Pa [cA] R2)) sU xU:=((AKO D).put f _).add (bD j.Lm.1 AIh AEL (by decide +kernel)) (λd z=>by
   have:d=cA:=by simpa[sT] using z
   subst this;decide) (by decide) 2
  exact⟨rfl,n',_,b,a,c,u,J,L,I,v,m.put ((l.Lm.2 1 (by decide)).2 (Y' _)) _⟩
 exfalso
 rcases h with h|⟨q,O,A,rows,r,U,n1,N,s,o,R,i,p⟩
 ·rcases h.2.1 rfl with h|h|h
  ·cases h
  ·have:=AIh
   rw[show De [cA] R2=false from h] at this;cases this
  subst G;cases h
 obtain⟨rfl,rfl,_⟩:=mkU rfl o;exact nX (H:=H1) okU apU (bJ i) p
theorem AI9{w0 w W:Tw}{bb n:Nat}{fs:List Int}{mv:Tv}(g:Inv D H2 [Pz,iL])(x:C7 D sU xU)(h:Xt w0 w 0 bb n D fs mv H2 [Pz,iL] txV xU dV e W):e=Zr Zn/\∃n' d b a c,Ey w0 W 0 bb n' d b a c/\n'<=n+100/\B.A0 (B.Own bb mv) w W/\(∀k,a=.map (some k)->mv=.map (some k)\/w.heap.size<=k)/\Inv d H3 [txV,Pz,iL]/\C7 d sV xV:=by
 obtain⟨n',d,b,a,c,P,u,J,L,I,v,⟨rfl,q,O,A,rows,o,h⟩|⟨T,y,rfl,rfl,h⟩⟩:=h
 ·obtain⟨rfl,rfl,rfl⟩:=mkV rfl o
  rcases h with⟨e,_⟩|⟨_,j,t,z,rfl,rfl⟩
  ·cases e
  have M:=K6 z.2 apV.2;subst M;have G:Good Bv Cm sU:=(Jb g.past (i:=2) (Y' _)).1
  have m:C7 q sV xV:=by have:=x.go G tV 3;rw[show sU.cols=[cA] from rfl,AKR] at this;exact this
  exact⟨rfl,n',_,b,a,c,u,J,L,I,v,m.put ((j.Lm.2 2 (by decide)).2 (Y' _)) _⟩
 exfalso
 rcases h with h|⟨q,O,A,rows,r,U,n1,N,s,o,R,f,p⟩
 ·obtain⟨T,l,h⟩:=h.2.2 rfl
  have e:T=tV:=l;subst e
  rcases h with h|h
  ·cases h
  exact h AJ4
 obtain⟨rfl,rfl,_⟩:=mkV rfl o;exact nX (H:=H2) okV apV (bJ f) p
def AAx(s:Ah):Prop:=∀p∈s.files.map (·.1),Bx p=true
theorem AGm{s t:Ah}{a:A5}(h:pQ Bx Bv Cm s a t)(g:AAx s):AAx t:=by
 rcases h with⟨_,h,rfl⟩|⟨_,_,rfl⟩|⟨_,h,rfl⟩|⟨_,_,rfl⟩
 ·intro p c
  simp only[oE,XH,List.mem_append,List.map_cons,List.map_nil,List.mem_singleton] at c
  rcases c with c|rfl
  ·exact g p c
  exact h.1
 ·intro p c
  obtain⟨e,b,rfl⟩:=List.mem_map.1 c;exact g _ (List.mem_map.2 ⟨e,Yy b,rfl⟩)
 ·intro p c
  obtain⟨e,b,rfl⟩:=List.mem_map.1 c
  rcases Yr b with b|rfl
  ·exact g _ (List.mem_map.2 ⟨e,b,rfl⟩)
  by_cases hk:(Bt s.files a.2.1).toNat<s.files.length
  ·exact g _ (List.mem_map.2 ⟨_,bB hk,rfl⟩)
  simp only[gJ] at b;rw[List.set_eq_of_length_le (by omega)] at b;exact g _ (List.mem_map.2 ⟨_,b,rfl⟩)
 exact g
theorem AD2:∀{l:List A5}{s t:Ah},Il Bx Bv Cm s l t->AAx s->AAx t
 | [],_,_,h,g=>by simp only[Il] at h;subst h;exact g
 | _ :: _,_,_,⟨_,h1,h2⟩,g=>AD2 h2 (AGm h1 g)
theorem AC0:∀{s:Ah}{H:List (Dn×Ah)},Xv s H->AAx s->∀i,i<=H.length->AAx (Ic s (H.take i))
 | _,_,_,g,0,_=>by simpa[Ic] using g
 | _,x :: l,h,g,k+1,hk=>by have:=AC0 (s:=x.2) (H:=l) h.2.2 (AD2 h.1.2 g) k (by simpa using hk);simpa[Ic] using this
theorem AHD(h:La H)(a:i<=H.length):AAx (Ae H i):=AC0 h (λp b=>by cases b) i a
theorem AGi{rows y:Int}(a:rows<=y):∀(l:List Int)(k:Int),F9 rows k l=true->F9 y k l=true
 | [],_,_=>rfl
 | x :: l,k,h=>by simp only[F9,XR,XX,Bool.or_eq_false_iff,decide_eq_false_iff_not] at h ⊢;exact⟨⟨h.1.1,by omega⟩,AGi a l x h.2⟩
theorem AJk{l:List Int}{rows x:Int}(a:rows<=x)(h:Dj l rows=true):Dj l x=true:=by unfold Dj at h ⊢;simp only[XR] at h ⊢;exact⟨h.1,AGi a l _ h.2⟩
theorem ALH:Mm ⟨#[]⟩ 0 0 0 0=true:=by kernel_rfl
theorem AI6{xs:List A6}{tx:Tb}(k:Bool)(T:S.CT)(e:C7 D s xs)(i:Good Bv Cm s)(h:AAx s)(j:Bx tx=true):Cv (tx,k,xs.flatMap (Vm s.cols T))=true:=by
 unfold Cv;simp only[XR,List.all_eq_true];refine⟨j,λa b=>?_⟩;obtain⟨x,g,b⟩:=List.mem_flatMap.1 b;have c:x.1∈s.files:=by rw[<-e.Lz.files];exact List.mem_map.2 ⟨x,g,rfl⟩
 have f:=h x.1.1 (List.mem_map.2 ⟨x.1,c,rfl⟩);have d:=i.rows x.1 c;unfold Vm at b;split at b
 ·cases b
 rename_i hne;split at b
 ·obtain rfl:=List.mem_singleton.1 b
  show (Bx x.1.1 && _)=true;rw[f];exact ALH
 obtain rfl:=List.mem_singleton.1 b;show ((Bx x.1.1 && Dj (Ct s.cols T x) 60) && _)=true;rw[f,AJk d (ADz (O6 s.cols T x (e.rows x g)).1 hne)];exact ALH
theorem AFq{xs:List A6}{tx:Tb}(e:Bool)(T:S.CT)(a:C7 D s xs)(c:Good Bv Cm s)(d:Bx tx=true):Bi s (tx,e,xs.flatMap (Vm s.cols T)) ⟨s.Eb+1,s.cols,s.next,(xs.filterMap (pO s.cols T)).map (·.1)⟩:=by refine⟨d,?_⟩;have b:=Sp (nb:=Bx) (cb:=Bv) (fb:=Cm) s.cols T xs [] [] (bump s) (by simp[bump,a.Lz.files]) c.once a.rows;simpa[bump] using b
theorem ALJ(l:List Aj)(T:S.CT)(F:List Px):(F.map (·.2.2)).filter (λr=>!decide (evR l r T=1))=(F.filter λz=>!Q9 l T z).map (·.2.2):=by rw[List.filter_map];rfl
theorem AKU(l:List Aj)(T:S.CT)(xs:List A6):Fc l (xs.filterMap (pO l T))=(Fc l xs).filter (λr=>!decide (evR l r T=1)):=by rw[sW,sW,AKW,ALJ]
theorem AKS{l:List Aj}{xs:List A6}(h:xs.flatMap (Vm l T)=[]):xs.filterMap (pO l T)=xs:=by
 have a:∀x∈xs,pO l T x=some x:=λx b=>by
  have:=List.flatMap_eq_nil_iff.1 h x b;unfold Vm at this;unfold pO;split at this
  ·rename_i e;rw[Yae e]
  split at this <;> cases this
 clear h
 induction xs with
 | nil=>rfl
 | cons x xs ih=>rw[List.filterMap_cons_some (a x (Yf ..)),ih λy c=>a y (Yg _ c)]
theorem AIl(l:List Aj)(T:S.CT)(F:List Px):((F.filter (Q9 l T)).length:Int)=(F.map (·.2.2)).length-((F.map (·.2.2)).filter (λr=>!decide (evR l r T=1))).length:=by
 rw[ALJ,XA,XA]
 have:F.length=(F.filter (Q9 l T)).length+(F.filter λz=>!Q9 l T z).length:=by
  induction F with
  | nil=>rfl
  | cons z F ih=>cases h:Q9 l T z <;> simp[h] <;> omega
 omega
theorem Xh.grown{a:Td}{xs:List A6}{tx:Tb}(h:Xh D s xs)(b:Grown tx D a):Xh a s xs:=by
 induction b with
 | refl=>exact h
 | put k v _ hf ih=>exact ih.put hf v
theorem AD0{W Y:Tw}{bb n:Nat}{D:Td}{fs:List Int}{mv u:Tv}(a:B.Bu W bb n D fs mv u)(c:B.A0 (B.Own bb mv) W Y):∀{T:S.CT}{v:Tv},S.Gy W T v->S.Gy Y T v
 | .nil,_,h=>h
 | .node _ _ ⟨_,_,_,_,_⟩ _ _,_,⟨b,pl,pr,e,hh,hcd,hl,hr⟩=>⟨b,pl,pr,e,Ut a c hh (by decide),hcd,AD0 a c hl,AD0 a c hr⟩
theorem AKV{w0 w r:Tw}{k bb n:Nat}{fs:List Int}{mv:Tv}{C:Dn}{j:Nat}(h:DoP w0 w k bb n D fs mv C H j e r):B.A0 (B.Own bb mv) w r:=by
 rcases h with⟨_,_,c⟩|⟨_,W,b,_,_,_,_,_,_,_,a,_⟩
 ·exact B.A0.Ba c
 exact(B.A0.Ba b).trans a λ_ _ e=>e
def AKt(T:S.CT):J4:=⟨3,[],[],[],0,⟨#[]⟩,⟨#[]⟩,λa=>a=T⟩
theorem AJ9(T:S.CT):AA5 (AKt T):=⟨(λc a=>by cases a),by show 0<=20;decide,(λr hr=>by cases hr),by show 0<=100;decide,(λs hs=>by cases hs)⟩
theorem AKM{w0 w W r:Tw}{bb n n1:Nat}{L:Td}{fs z:List Int}{mv u f a:Tv}{U:List Tb}{tx:Tb}{xs:List A6}{rd:Bool}{rows:Int}(h:iK w0 w 0 bb n D fs mv u H U tx)(N:H.length<40)(p:C7 D (Ae H H.length) xs)(hG:Grown tx D L)(hn:n1<=n+50)(ho:B.A0 (B.Own bb mv) w W)(hl:∀k,f=.map (some k)->mv=.map (some k)\/w.heap.size<=k)(R:AIX D (Ae H H.length) xs T L rd A rows)(O:Ey w0 W 0 bb n1 L z f a)(hd:DoP w0 W 0 bb n1 L z f (tx,rd,A) H H.length e r):
 ∃v,e=Zr (Zu #[v,Zn])/\∃n' J i m j o,Ey w0 r 0 bb n' J i m j/\B.A0 (B.Own bb mv) w r/\Inv J o (tx :: U)/\o.length<=H.length+1/\(Ae o o.length).cols=(Ae H H.length).cols/\Xh J (Ae o o.length) (xs.filterMap (pO (Ae H H.length).cols T)):=by
 obtain⟨v,er,rfl,n',J,i,m,j,o,V,_,X,_,Y,hc⟩:=AGp (x:=AKt T) h N p (AJ9 T) hG hn ho hl (.inr (.inr (.inr (.inl ⟨rfl,T,rfl,R⟩)))) ⟨_,O⟩ hd;have l:=h.Of;have hN:=AHD h.inv.past (Y' H.length)
 have s:∀{M:Td}{c:Bool}{A2:List A5}{d:Int},V7 D (Ae H H.length) xs tx (AKt T) M c A2 d->M=D/\A2=xs.flatMap (Vm (Ae H H.length).cols T):=λG=>by
  rcases G with⟨q,_⟩|⟨q,_⟩|⟨q,_⟩|⟨_,I,e,_,_,e1,_,e2,_⟩|⟨q,_⟩|⟨q,_⟩
  ·exact absurd q (show ¬(3:Int)=0 by decide)
  ·exact absurd q (show ¬(3:Int)=1 by decide)
  ·exact absurd q (show ¬(3:Int)=2 by decide)
  ·have e':I=T:=e
   subst e';exact⟨e1,e2⟩
  ·exact absurd q (show ¬(3:Int)=4 by decide)
  exact absurd q (show ¬((3:Int)<0\/4<(3:Int)) by decide)
 rcases hc with⟨b,M,c,A2,d,G,⟨hA,rfl,rfl⟩|⟨hA,hI,t,ha,rfl,rfl⟩⟩|⟨ty,y,b,rfl,g⟩
 ·injection b with b
  subst b;obtain⟨rfl,rfl⟩:=s G;refine⟨v,rfl,n',_,i,m,j,_,V,X,Y,Wb _,rfl,?_⟩;rw[AKS hA];exact p.Lz
 ·injection b with b
  subst b;obtain⟨rfl,rfl⟩:=s G;have ht:=zU p.Lz.files l.once p.rows ha
  have hs:Ae (H++[((tx,c,xs.flatMap (Vm (Ae H H.length).cols T)),t)]) (H++[((tx,c,xs.flatMap (Vm (Ae H H.length).cols T)),t)]).length=t:=by rw[XJ];exact AAM
  refine⟨v,rfl,n',_,i,m,j,_,V,X,Y,by simp,by rw[hs,ht],?_⟩;rw[hs,ht];exact(p.go l T _).Lz.put ((hI.Lm.2 H.length (by omega)).2 (Y' _)) _
 exfalso
 rcases g with g|⟨M,c,A2,d,aa,ad,n2,ac,ab,G,_,P,g⟩
 ·obtain⟨I,e,hq⟩:=(show ∃I,I=T/\AIV _ I from g.2.2 rfl)
  rw[e] at hq
  rcases hq with q|q
  ·exact R.1 q
  exact q R.2.1
 obtain⟨rfl,rfl⟩:=s G;exact nX (AI6 c T p l hN h.name) (AFq c T p l h.name) (bJ P) g
theorem AE5{α:Type}{p:α->Bool}{rs:List α}{r:α}(h:rs[i]? = some r):(rs.take (i+1)).filter p=(rs.take i).filter p++(if p r=true then [r] else []):=by rw[S.Cs h,List.filter_append];cases hp:p r <;> simp[hp]
def zB:ByteArray:=⟨#[122]⟩
theorem ALL:∀i,¬zB∈nms i
 | 0,h=>by cases h
 | i+1,h=>by
   rcases List.mem_cons.1 h with e|e
   ·have:=congrArg ByteArray.size e
    revert this
    show ¬(1=3);decide
   exact ALL i e
theorem ALU:Bx zB=true:=by kernel_rfl
theorem LwT.ALy{w0 w:Tw}{bb i m:Nat}{fs:List Int}{mv v:Tv}(h:LwT w0 w bb i m D fs mv v H)(d:i<=30)(a:B.Ob w0)(b:S.Lp w0):iK w0 w 0 bb m D fs mv v H (nms i) zB :=
 ⟨h.base,h.inv,a,b,XB _,by have:=h.AFx;omega,by have:=h.Iz;omega,ALU,by show 1<=12;decide,λx c=>by have:x∈([122]:List UInt8):=c;obtain rfl:=List.mem_singleton.1 this;decide,ALL i⟩
theorem AJ8(l:List Aj)(r:List V)(g o O N J L t M P rc i a c u:Nat)(s:Tb)(w:Tw)(h8:l.length<=8)(hs:I1 w g o l)(Y:r.length=l.length)(h:Rf l s)(z:w.cell? ⟨L,1,none⟩=some (Zs (some ⟨g,o,none⟩) l.length O))(D:w.cell? ⟨N,0,none⟩=some (Zs (some ⟨t,M,none⟩) P rc))(y:w.cell? ⟨J,0,none⟩=some (Zi i))(ab:i<P)(k:w.cell? ⟨t,M+i,none⟩=some (Zs (some ⟨a,c,none⟩) l.length u))(hc:∀j x,r[j]? = some x->w.cell? ⟨a,c+j*3,none⟩=some (Zi x.1)/\w.cell? ⟨a,c+j*3+1,none⟩=some (Zi x.2.1)/\w.cell? ⟨a,c+j*3+2,none⟩=some (Zt x.2.2))(q1:L<w.heap.size)(q2:N<w.heap.size)(q3:J<w.heap.size)(q4:t<w.heap.size)(q5:a<w.heap.size):
 Zc 15 #[Zt s,Zp (some ⟨N,0,none⟩),Zp (some ⟨J,0,none⟩),Zp (some ⟨L,0,none⟩)] w λe w'=>e=Zr (Zg #[Zi (Uk l r s).1,Zi (Uk l r s).2.1,Zt (Uk l r s).2.2])/\Zb w w':=by
 obtain⟨j,hj,q⟩:∃j:Nat,j<l.length/\Ce l s=j:=by
  rcases Gz l s with⟨q,_⟩|⟨j,hj,q,_⟩
  ·unfold Rf at h;omega
  exact⟨j,hj,q⟩
 have HF:=Aa (λW(b:Zb w W)=>E8 g o O l s W (hs.below b) h8);simp only[q] at HF;obtain⟨⟨v1,v2,v3⟩,I⟩:∃v,Uk l r s=v:=⟨_,rfl⟩
 have G:r[j]? = some (v1,v2,v3):=by unfold Uk at I;rw[q,Int.toNat_natCast,XC (by omega)] at I;rw[XC (by omega)];simpa using I
 rw[I];obtain⟨x0,x1,x2⟩:=hc j _ G;have ac:(i:Int)<(P:Int):=by omega
 have aa:(0:Int)<=(i:Int):=by omega
 have ae:(j:Int)<(l.length:Int):=by omega
 have ad:(0:Int)<=(j:Int):=by omega
 have U:Hid (∀args w,(callFunc 16 args).run prog w=.ok (.enter 16 args) w):=Aa (enters_of func16 (by kernel_rfl) rfl);clear I G hc hs h q Y;go_enter func15,ntmps15;go_wp2_with fail;have n:Zb w (w.alloc (Zk #[Zi 0,Zi 0,Zt ⟨#[]⟩] 57)):=Zal;have X:=Yac w (Zk #[Zi 0,Zi 0,Zt ⟨#[]⟩] 57)
 have HW:Hid (∀W,Zb w W->W.cell? ⟨L,1,none⟩=some (Zs (some ⟨g,o,none⟩) l.length O)/\W.cell? ⟨N,0,none⟩=some (Zs (some ⟨t,M,none⟩) P rc)/\W.cell? ⟨J,0,none⟩=some (Zi i)/\W.cell? ⟨t,M+i,none⟩=some (Zs (some ⟨a,c,none⟩) l.length u)/\W.cell? ⟨a,c+j*3,none⟩=some (Zi v1)/\W.cell? ⟨a,c+j*3+1,none⟩=some (Zi v2)/\W.cell? ⟨a,c+j*3+2,none⟩=some (Zt v3)):=Aa (λW b=>⟨(b.cell (p:=⟨L,1,none⟩) q1).trans z,(b.cell (p:=⟨N,0,none⟩) q2).trans D,(b.cell (p:=⟨J,0,none⟩) q3).trans y,(b.cell (p:=⟨t,M+i,none⟩) q4).trans k,(b.cell (p:=⟨a,c+j*3,none⟩) q5).trans x0,(b.cell (p:=⟨a,c+j*3+1,none⟩) q5).trans x1,(b.cell (p:=⟨a,c+j*3+2,none⟩) q5).trans x2⟩)
 generalize w.alloc (Zk #[Zi 0,Zi 0,Zt ⟨#[]⟩] 57)=R at *;obtain⟨p0,p1,p2,p3,p4,p5,p6⟩:=HW.o R n;have HZ:Hid (∀W,Zb R W->W.heap[w.heap.size]? = some (Zk #[Zi 0,Zi 0,Zt ⟨#[]⟩] 57)):=Aa (λW b=>(b.block _ (E.Ac X)).trans X);have m:=Aa n;clear z D y k x0 x1 x2 n X
 go_region_law
  (first
    | (refine Gc (by rfl) 16 (.tmp 11) (.tmp 12) 34 9 (by rfl) (Zs (some ⟨g,o,none⟩) l.length O) (Zt s) (by rfl) (by rfl) U.o _ (HF.o R.drew m.o.drew) ?_
       rintro e w2⟨rfl,f⟩;have d:Zb R w2:=Ap (XD _ _).drew f;obtain⟨r0,r1,r2,r3,r4,r5,r6⟩:=HW.o w2 (Ap m.o d);obtain⟨z0,z1,z2,t0,t1,t2⟩:=J5 (HZ.o w2 d);refine⟨_,rfl,?_⟩)
    | fail)
 all_goals
  have T:=Aa (Ap m.o d);clear d f;go_wp2;exact bodyPost_ret (v:=Zg #[Zi v1,Zi v2,Zt v3]) (by simp[results,results15,go_sem,z0,z1,z2]) rfl ⟨rfl,((T.o.setCell (p:=⟨w.heap.size,0,none⟩) (Y' _) _).setCell (p:=⟨w.heap.size,1,none⟩) (Y' _) _).setCell (p:=⟨w.heap.size,2,none⟩) (Y' _) _⟩
theorem AJs(pa j i:Tv)(g h:Tb->Int)(gt:Tb->Tb)(P:Tb->Prop)(s:Tb)(w:Tw)(u:P s)(m:∀(W:Tw)(s:Tb),P s->Zb w W->Zc 15 #[Zt s,pa,j,i] W λe d=>e=Zr (Zg #[Zi (g s),Zi (h s),Zt (gt s)])/\Zb W d):
 Zc 57 #[.func (.func 15) #[] #[pa,j,i],Zt s] w λe d=>e=Zr (Zg #[Zi (g s),Zi (h s),Zt (gt s)])/\Zb w d:=by
 have q:Hid (∀W,Zb w W->Zc 15 #[Zt s,pa,j,i] W λe d=>e=Zr (Zg #[Zi (g s),Zi (h s),Zt (gt s)])/\Zb W d):=λW hb=>m W s u hb
 clear m;have v:∀(l:Fn)(first c:Array Tv)(w:Tw),(Instr.makeFunc l first c).run prog w=.ok (.func l first c) w:=λ_ _ _ _=>rfl
 generalize g s=k,h s=n,gt s=t at *
 go_enter_defers func57,ntmps57
 go_wp2_with fail;refine(q.o _ (Zal)).mono ?_;rintro e b⟨rfl,a⟩;have c0:b.cell? ⟨w.heap.size,0,none⟩=some (Zi 0):=(a.cell (p:=⟨w.heap.size,0,none⟩) (by simp)).trans (by go_simp);have c1:b.cell? ⟨w.heap.size,1,none⟩=some (Zi 0):=(a.cell (p:=⟨w.heap.size,1,none⟩) (by simp)).trans (by go_simp);have r:b.cell? ⟨w.heap.size,2,none⟩=some (Zt ⟨#[]⟩):=(a.cell (p:=⟨w.heap.size,2,none⟩) (by simp)).trans (by go_simp);have y:b.frozen? ⟨w.heap.size,0,none⟩=false:=(a.frozen (p:=⟨w.heap.size,0,none⟩) (by simp)).trans (by go_simp);have z:b.frozen? ⟨w.heap.size,1,none⟩=false:=(a.frozen (p:=⟨w.heap.size,1,none⟩) (by simp)).trans (by go_simp);have D:b.frozen? ⟨w.heap.size,2,none⟩=false:=(a.frozen (p:=⟨w.heap.size,2,none⟩) (by simp)).trans (by go_simp);have o:Hid (Zb w b):=((XD _ w).alloc (Y' _) _).trans (a.mono (by simp));clear a;go_wp2;refine leaves_cons (f:=97) (args:=#[Zp (some ⟨w.heap.size,0,none⟩)]) (by simp) (by simp[go_sem]) ?_;refine(S.AEX ⟨w.heap.size,0,none⟩ _).mono ?_;rintro e G x⟨rfl,rfl,rfl⟩;simp[Leaves,settle,results,results57,go_sem,c0,c1,r];exact((o.o.setCell (Y' _) _).setCell (Y' _) _).setCell (Y' _) _
def ALb(c a b:Nat):Value:=.func (.func 15) #[] #[.pointer (some ⟨c,0,none⟩),.pointer (some ⟨a,0,none⟩),.pointer (some ⟨b,0,none⟩)]
theorem AJE(l:List Aj)(R:List (List V))(r:List V)(g o z j f h i:Nat)(G:Tv)(T:S.CT)(v:Tv)(w:Tw)(J:l.length<=8)(Y:I1 w g o l)(c:r.length=l.length)(h1:1<=l.length)(M:iJ w G R)(D:R[i]? = some r)(t:w.cell? ⟨h,1,none⟩=some (Zs (some ⟨g,o,none⟩) l.length z))(u:w.cell? ⟨j,0,none⟩=some G)(q:w.cell? ⟨f,0,none⟩=some (Zi i))(q1:h<w.heap.size)(q2:j<w.heap.size)(q3:f<w.heap.size)(X:S.Gy w T v)(O:S.Kg (Rf l) T)(U:S.C9 T 24=true):
 Zc 14 #[v,ALb j f h] w λe w'=>e=Zr (Zi (evR l r T))/\Zb w w':=by
 refine S.AAk (Rf l) (ALb j f h) _ _ _ T v w X O (λW s L P=>?_) U;refine AJs (Zp (some ⟨j,0,none⟩)) (Zp (some ⟨f,0,none⟩)) (Zp (some ⟨h,0,none⟩)) (λs=>(Uk l r s).1) (λs=>(Uk l r s).2.1) (λs=>(Uk l r s).2.2) (Rf l) s W L (λW2 s2 hP2 hb2=>?_);have a:=Ap P hb2;have hz:=a.size;have x:i<R.length:=(List.getElem?_eq_some_iff.1 D).1;obtain⟨rb,ro,rc,xv,e,y,b,N⟩:=(M.up a).at D;obtain⟨a1,k,rfl,_,m⟩:=N;obtain⟨I,o1,rfl,n,p⟩:=m (by intro e;rw[e] at c;simp at c;omega);rw[c] at b;have d:=Ag a u;rw[e] at d;exact AJ8 l r g o z j f h rb ro R.length rc i I o1 k s2 W2 J (Y.below a) c hP2 (Ag a t) d (Ag a q) x b p (by omega) (by omega) (by omega) y n
theorem AKl{W:Tw}{b:Nat}{T:TypeId}(h:W.heap[b]? = some (Zk #[v] T)):W.cell? ⟨b,0,none⟩=some v/\W.frozen? ⟨b,0,none⟩=false:=by simp[World.cell?,World.frozen?,h]
def AGl(s:Value)(w:World):Nat:=match s with
 | .pointer (some a)=>(intOf ((w.cell? a).getD .nilIface)).toNat
 | _=>0
def AGA:Prop:=∀w:World,Ik w->Lw w->Jp w->B.Ob w->S.Lp w->Zc 5 #[] w λe a=>e=.returned (.bool true)/\Zb w a
theorem AKy(e4:Mw)(e5:AGA)(lv:Tv)(pa:To)(pn pc:Nat)(l:List DdS)(w:Tw)(hl:F7 8 AGa w lv l)(M:∀q∈l,Nf w q)(dz:∀W,Zb w W->Zc 10 #[Zs pa pn pc] W λe w'=>∃v T,e=Zr v/\S.Gy w' T v/\Zb W w')(he:Ik w)(hw:Lw w)(ht:Jp w)(hg:B.Ob w)(ho:S.Lp w):
 Zc 3 #[lv,Zs pa pn pc] w λe w'=>e=Zr (Zo true)/\Zb w w':=by
 have b9:=Aa (Py lv l w hl M);unfold Pb at b9;have HL:=Aa hl;have HR:=Aa M;have cv:=Aa dz;have HV:=Aa (And.intro he (And.intro hw (And.intro ht (And.intro hg ho))));obtain⟨la,lc,rfl,_⟩:=hl.slice;clear hl M he hw ht hg ho dz;go_enter func3,ntmps3;go_wp2_with fail;refine b9.o.mono ?_;rintro e w1⟨b1,rfl,d4,dv⟩;have k:=Aa dv;have b7:=Aa d4;clear dv d4 b9;cases b1 with
 | false=>go_wp2_with fail;go_ret;exact⟨rfl,k.o⟩
 | true=>
   by_cases h20:pn<=20
   rotate_left
   ·have dp:(pn:Int) > 20:=by omega
    go_wp2_with fail;go_ret;exact⟨rfl,k.o⟩
   have dp:¬(pn:Int) > 20:=by omega
   have fl:=(b7.o rfl).1;have aj:=Aa (b7.o rfl).2;have dj:=Aa (e5 w1 (HV.o.1.below k.o) (HV.o.2.1.below k.o) (HV.o.2.2.1.below k.o) (HV.o.2.2.2.1.below k.o) (HV.o.2.2.2.2.below k.o));clear b7;go_wp2_with fail;refine dj.o.mono ?_;rintro e o⟨rfl,dw⟩;have s:=Aa (Ap k.o dw);have n:Hid (Ik o/\Lw o/\Jp o/\B.Ob o/\S.Lp o):=Aa ⟨HV.o.1.below s.o,HV.o.2.1.below s.o,HV.o.2.2.1.below s.o,HV.o.2.2.2.1.below s.o,HV.o.2.2.2.2.below s.o⟩;have de:=Aa (LwT.start o n.o.1 n.o.2.1 n.o.2.2.1);clear dw dj k HV;go_wp2_with fail
   go_loopw [6] (λvi wr=>∃(i m:Nat)(D:Td)(fs:List Int)(mv fv:Tv)(H:List (Dn×Ah)),i<=l.length/\vi=Zi i/\Hid (LwT o wr o.heap.size i m D fs mv fv H)) (λvi _=>l.length-(intOf vi).toNat)
   case atStart=>exact⟨0,0,_,_,_,_,[],XB _,rfl,de⟩
   case round=>
    obtain⟨i,m,D,fs,mv,fv,H,hi,rfl,P⟩:=hrel;clear de
    by_cases hlt:i<l.length
    ·obtain⟨q,J⟩:∃q,l[i]? = some q:=⟨_,XC hlt⟩
     have ae:=Aa (Ap s.o P.o.base.low);obtain⟨lb,N,fu,el,_,fo,a⟩:=HL.o.cons (by omega);injection el with es _ et;subst es et;have ef:=Aa ((HR.o q (XG J)).at (aj.o q (XG J)));have q0:=a i q J 0 _ rfl;have q1:=a i q J 1 _ rfl;have q2:=a i q J 2 _ rfl;have q3:=a i q J 3 _ rfl;have q4:=a i q J 4 _ rfl;have q5:=a i q J 5 _ rfl;have q6:=a i q J 6 _ rfl;have q7:=a i q J 7 _ rfl;simp only[XS] at q0;have e8:(i:Int)<(l.length:Int):=by omega
     clear a J;obtain⟨⟨wh,cols,rows,A3,ch,nm,tw,tr⟩,ca,cc,ra,rc,pa,pn,pc,sa,sc⟩:=q;simp only at q0 q1 q2 q3 q4 q5 q6 q7;have da:=Aa (λW=>ADi i (by omega) W);have ai:=Aa (λW(d:Zb wr W)=>AHq e4 o o.heap.size i m D fs mv fv H ⟨wh,cols,rows,A3,ch,nm,tw,tr⟩ ca cc ra rc pa pn pc sa sc W (P.o.up d) (by omega) n.o.2.2.2.1 n.o.2.2.2.2 (ef.o.up (Ap ae.o d)));have ak:Hid (∀W,Zb w W->W.cell? ⟨lb,N+i*8,none⟩=some (Zi wh)/\W.cell? ⟨lb,N+i*8+1,none⟩=some (Zs ca cols.length cc)/\W.cell? ⟨lb,N+i*8+2,none⟩=some (Zs ra rows.length rc)/\W.cell? ⟨lb,N+i*8+3,none⟩=some (Zs pa pn pc)/\W.cell? ⟨lb,N+i*8+4,none⟩=some (Zs sa A3.length sc)/\W.cell? ⟨lb,N+i*8+5,none⟩=some (Zi ch)/\W.cell? ⟨lb,N+i*8+6,none⟩=some (Zt nm)/\W.cell? ⟨lb,N+i*8+7,none⟩=some (Zt tw)):=Aa λW hb=>⟨Ag hb q0,Ag hb q1,Ag hb q2,Ag hb q3,Ag hb q4,Ag hb q5,Ag hb q6,Ag hb q7⟩
     have bv:=Aa ((XD wr.heap.size wr).drew);clear q0 q1 q2 q3 q4 q5 q6 q7;obtain⟨q0,q1,q2,q3,q4,q5,q6,q7⟩:=ak.o _ (Ap ae.o bv.o);go_wp2_with fail
     go_region_held3 (λW=>W.cell? ⟨lb,N+i*8,none⟩=some (Zi wh)/\W.cell? ⟨lb,N+i*8+1,none⟩=some (Zs ca cols.length cc)/\W.cell? ⟨lb,N+i*8+2,none⟩=some (Zs ra rows.length rc)/\W.cell? ⟨lb,N+i*8+3,none⟩=some (Zs pa pn pc)/\W.cell? ⟨lb,N+i*8+4,none⟩=some (Zs sa A3.length sc)/\W.cell? ⟨lb,N+i*8+5,none⟩=some (Zi ch)/\W.cell? ⟨lb,N+i*8+6,none⟩=some (Zt nm)/\W.cell? ⟨lb,N+i*8+7,none⟩=some (Zt tw))
      (first
        | exact ak.o _ (Ap ae.o bv.o)
        | exact ak.o _ (Ap ae.o dx)
        | exact ak.o _ (Ap s.o e6)
        | (go_keep;done)
        | fail)
      (first
        | (go_at_call 7
           refine(da.o _).mono ?_;rintro e w3⟨rfl,bq⟩;have dx:=Ap bv.o bq;clear bq)
        | (go_at_call 6
           refine(ai.o _ dx).mono ?_;rintro e w4⟨er,rfl,m',D',dm,cn,dn,H',cg⟩;have e6:=cg.base.low;have ei:=Aa cg;clear cg)
        | fail)
     clear q0 q1 q2 q3 q4 q5 q6 q7 ak ai da;go_wp2;exact⟨⟨i+1,m',D',dm,cn,dn,H',by omega,by go_num,ei⟩,by simp[intOf];omega⟩
    have e8:¬(i:Int)<(l.length:Int):=by omega
    have fm:H.length<=30:=by have:=P.o.Iz;omega
    have d0:i<=30:=by omega
    have ae:=Aa (Ap s.o P.o.base.low);obtain⟨xs,hT⟩:=P.o.inv.wU H.length (Y' _);have cj:Good Bv Cm (Ae H H.length):=(Jb P.o.inv.past (i:=H.length) (Y' _)).1;have HT:=Aa hT;have c8:=Aa (Ua o.heap.size m D mv H (-1) H.length wr P.o.base.ground P.o.inv.Lm P.o.inv.past (by omega) (Y' _) (.inl ⟨by omega,rfl⟩));have c5:=Aa (λW(d:Zb wr W)=>ABH o.heap.size m D mv H (-1) H.length xs W (P.o.base.ground.up d) ((n.o.2.2.2.1.below P.o.base.low).below d) ((n.o.2.2.2.2.below P.o.base.low).below d) P.o.inv.Lm P.o.inv.past (by omega) (Y' _) (.inl ⟨by omega,rfl⟩) hT.Lz);have fh:(Fc (Ae H H.length).cols xs).length<=60*40:=by unfold Fc;rw[XA];exact aN hT cj .nil
    have bz:Hid (∀r∈Fc (Ae H H.length).cols xs,r.length=(Ae H H.length).cols.length):=Aa (λr M=>by rw[sW] at M;obtain⟨z,hz,rfl⟩:=List.mem_map.1 M;obtain⟨x,_,ff⟩:=List.mem_flatMap.1 hz;exact ADa ff)
    have h8:=M9 cj;have cz:=Aa (λW(d:Zb wr W)=>cv.o W (Ap ae.o d));have di:=Aa (λW(d:Zb wr W)=>(P.o.up d).ALy d0 n.o.2.2.2.1 n.o.2.2.2.2);clear hT cj cv HL HR aj;generalize dt:Fc (Ae H H.length).cols xs=R at *;have a7:=Aa dt;clear dt;go_wp2_with fail;refine c8.o.mono ?_;rintro e w5⟨a1,n1,c1,x2,a2,n2,c2,rfl,du,dy⟩;have ct:=Aa dy;have b8:=Aa du;clear dy du c8;unfold K4 at b8;unfold K4;have U:Zb w5 (w5.alloc (Zk #[Zi (H.length:Int),Zs a1 n1 c1,Zi x2,Zs a2 n2 c2] 42)):=Zal;have b4:=Aa (Yac w5 (Zk #[Zi (H.length:Int),Zs a1 n1 c1,Zi x2,Zs a2 n2 c2] 42));have bs:=Aa (Ap ct.o U);have df:=Aa (Dl.up b8.o U);have bj:=Aa (c5.o _ bs.o);clear U b8 ct c5;go_wp2_with fail;refine bj.o.mono ?_;rintro e w7⟨v7,rfl,ci,bb⟩;obtain⟨ra,rc,rfl,fr⟩:=ci.slr.slice;have aw:Zb w7 (w7.alloc (Zk #[Zs ra R.length rc] 35)):=Zal;have b5:=Aa (Yac w7 (Zk #[Zs ra R.length rc] 35));have bt:=Aa (Ap bs.o (Ap bb aw));have dg:=Aa (Dl.up df.o (Ap bb aw));have b0:=Aa (((Ap bb aw).block _ (Ac b4.o)).trans b4.o);have db:=Aa (Sc.base (ci.up aw) (XB _));have bh:=Aa (cz.o _ bt.o);clear aw bb ci bj bs df b4 cz;go_wp2_with fail;refine bh.o.mono ?_;rintro e w9⟨v,T,rfl,d3,ah⟩;have cu:=Aa (Ap bt.o ah);have dh:=Aa (Dl.up dg.o ah);have dl:=Aa ((ah.block _ (Ac b0.o)).trans b0.o);have cb:=Aa ((ah.block _ (Ac b5.o)).trans b5.o);have b6:=Aa (db.o.up ah);have a5:=Aa d3;clear ah d3 bh bt dg b0 b5 db;have c:=Aa (di.o w9 cu.o);have bw:Hid (Zc 11 #[Zp (some ⟨o.heap.size,0,none⟩),Zt ⟨#[122]⟩,v] w9 (Kd o w9 0 o.heap.size m D mv H zB (AIV (Ae H H.length) T) (AIX D (Ae H H.length) xs T))):=Aa (Lo o 0 o.heap.size m D fs mv fv H (nms i) zB v T xs w9 c.o HT.o a5.o);clear di;go_wp2_with fail;refine bw.o.mono ?_;rintro e bf⟨a3,D1,ce,bd,ez,y,cl,az,ck,hG,⟨pb,L,rd,rows,b1,m1,d1,y2,b2,m2,d2,aa,ac,rfl,hP,hk⟩|⟨_,ty,x,rfl⟩⟩
    rotate_left
    ·have k:=Aa y
     have af:=Aa ((c.o.inv.user c.o.plain).grown (Yf ..) hG);have O:=Aa (ABH o.heap.size a3 D1 bd H (-1) H.length xs bf y.ground (n.o.2.2.2.1.below y.low) (n.o.2.2.2.2.below y.low) af.o.Lm af.o.past (by omega) (Y' _) (.inl ⟨by omega,rfl⟩) (HT.o.Lz.grown hG));rw[a7.o] at O;have bl:=Aa ((Mv.put (base:=0) az ⟨λ_ e=>.inl e,B.St.refl _⟩).slO c.o.base.bu b6.o);have am:=Aa (Ut c.o.base.bu az cb.o (by decide));clear y cl az ck hG bw;go_wp2_with fail;refine O.o.mono ?_;rintro e b⟨fw,rfl,aq,ab⟩;obtain⟨na,nc,rfl,_⟩:=aq.slr.slice;have bp:=(ab.block _ (Ac am.o)).trans am.o;have y0:=S.cell_of_heap bp 0;have bx:=Aa (λW(d:Zb b W)=>ACk (Zs ra R.length rc) (Zs na R.length nc) R W ((bl.o.slr.up ab).up d) (aq.slr.up d) (by omega) (λr M=>by have:=bz.o r M;omega));have HF:=Aa (Ap s.o (Ap k.o.low ab));clear ab aq O bl am bp;go_wp2_with fail;refine(bx.o b (XD _ _)).mono ?_;rintro e I⟨rfl,h⟩;have c3:=Aa (Ap HF.o h);clear y0 h;go_wp2;go_ret;exact⟨rfl,c3.o⟩
    have k:=Aa y;have af:=Aa ((c.o.inv.user c.o.plain).grown (Yf ..) hG);have aj:=Aa (AEj (tx:=zB) (x:=AKt T) HT.o c.o.Of (Mq c.o.inv.past (Y' _)) ⟨vC c.o.inv.past c.o.Of,by have:=c.o.inv.next H.length (Y' _);omega⟩ (AJ9 T) (.inr (.inr (.inr (.inl ⟨rfl,T,rfl,hk⟩)))));have e9:a3<=90000:=by have:=c.o.Iz;omega
    have ai:=Aa (AHB o 0 w9.heap.size o.heap.size a3 D1 ce bd ez H H.length pb b1 m1 d1 y2 b2 m2 d2 zB rd aa ac L rows bf y (XB _) e9 af.o.Lm af.o.past (by omega) (Y' _) hP aj.o (by show 1<=60;decide));have c0:=Aa (λ(e:Ending)(W:Tw)(hd:DoP o bf 0 o.heap.size a3 D1 ce bd (zB,rd,L.map (·.1)) H H.length e W)=>AKM c.o (by omega) HT.o hG cl az ck hk y hd);have dc:=Aa (λ(e:Ending)(W:Tw)(hd:DoP o bf 0 o.heap.size a3 D1 ce bd (zB,rd,L.map (·.1)) H H.length e W)=>Ut y.bu (AKV hd) hP.box (by decide));have cw:=Aa hk.2.1;have d5:rows=(Bo (Ae H H.length).cols T xs).1.length:=hk.2.2.2.2.2
    have ee:=Aa (show rows=(R.length:Int)-(R.filter (λr=>!decide (evR (Ae H H.length).cols r T=1))).length from by rw[d5,(all_filter _ T (uI c.o.Of) a5.o.ok hk.2.1 xs HT.o.Lz.each).1,AIl,<-a7.o];rfl)
    have b3:=Aa hk.1;clear y cl az ck hG hk d5 hP bw aj;go_wp2_with fail;refine ai.o.mono ?_;intro e b hd;have al:=Aa (dc.o e b hd);obtain⟨vd,rfl,n',D',dm,cn,dn,H',ao,ay,cf,dr,ax,bo⟩:=c0.o e b hd;have hm:Mv 0 o.heap.size mv mv w9 b:=Mv.put ay ⟨λ_ e=>.inl e,B.St.refl _⟩;have bm:=Aa (hm.slO c.o.base.bu b6.o);have bn:=Aa (hm.snap c.o.base.bu dh.o);have Y:=Aa (Ut c.o.base.bu ay cb.o (by decide));have X:=Aa (Ut c.o.base.bu ay dl.o (by decide));have c6:=Aa (AD0 c.o.base.bu ay a5.o);have ed:=Aa ao;have O:=Aa (λW(d:Zb b W)=>ABH o.heap.size n' D' cn H' (-1) H'.length _ W (ao.ground.up d) ((n.o.2.2.2.1.below ao.low).below d) ((n.o.2.2.2.2.below ao.low).below d) cf.Lm cf.past (by omega) (Y' _) (.inl ⟨by omega,rfl⟩) bo);rw[ax] at O;simp only[AKU,a7.o] at O;clear hd hm ay ao cf bo ax dr c0 dc ai b6 dh cb dl a5 cu c af k a7;obtain⟨dq,d8⟩:=gP cw.o;have cr:=Aa (And.intro dq d8)
    have cx:Hid (∃g,a1=some ⟨g,0,none⟩/\n1=(Ae H H.length).cols.length/\∀W,Zb b W->I1 W g 0 (Ae H H.length).cols):=Aa (by
     obtain⟨b1,d1,b2,d2,Ls,ev,hV⟩:=bn.o;simp only[Value.agg.injEq,Array.mk.injEq,List.cons.injEq,Value.int.injEq,Value.slice.injEq] at ev;obtain⟨-,⟨e1,e2,e3⟩,-⟩:=ev
     rcases hV.cols.2 with⟨_,h0⟩|⟨g,a9,eo,ev,_⟩
     ·exact absurd (Yag.1 h0) b3.o
     injection ev with cd _ ew;subst cd ew;exact⟨g,e1,e2,λW d=>I1.Fz (hV.up d).cols rfl⟩)
    have e0:1<=(Ae H H.length).cols.length:=by
     rcases Yt (Ae H H.length).cols.length with h0|h0
     ·exact absurd (Yag.1 h0) b3.o
     exact h0
    clear dq d8 cw b3 bn;generalize Ae H H.length=sn at *;obtain⟨g,ep,eu,d6⟩:=cx.o;subst ep eu;have ek:=Aa d6
    have HZ:Hid (∀W,Zb b W->W.cell? ⟨w5.heap.size,1,none⟩=some (Zs (some ⟨g,0,none⟩) sn.cols.length c1)/\W.cell? ⟨w7.heap.size,0,none⟩=some (Zs ra R.length rc)/\W.cell? ⟨pb,7,none⟩=some (Zi rows)):=Aa (λW d=>⟨by rw[S.cell_of_heap ((d.block _ (Ac X.o)).trans X.o)];rfl,by rw[S.cell_of_heap ((d.block _ (Ac Y.o)).trans Y.o)];rfl,by rw[S.cell_of_heap ((d.block _ (Ac al.o)).trans al.o)];rfl⟩)
    have c9:=Aa (And.intro (Ac X.o) (Ac Y.o));clear d6 cx X Y al;have fp:∀(fn:Fn)(first a9:Array Tv)(w:Tw),(Instr.makeFunc fn first a9).run prog w=.ok (.func fn first a9) w:=λ_ _ _ _=>rfl
    obtain⟨iC,d9,ea,eb,ec⟩:=info_parts eI;have a6:=Zy d9 ea eb ec;clear d9 ea eb ec;have cq:Hid (Zb b (b.alloc (Zk #[Zi 0] 3))/\b.heap.size<=b.heap.size/\(b.alloc (Zk #[Zi 0] 3)).heap[b.heap.size]? = some (Zk #[Zi ((0:Nat):Int)] 3)):=Aa ⟨Zal,Y' _,Yac _ _⟩;go_wp2_with fail
    go_loopw [17,18] (λfg co wi=>∃(q K wn:Nat)(wa:To)(wc:Nat),q<=R.length/\co=Zp (some ⟨K,0,none⟩)/\fg=Zs wa wn wc/\wn=((R.take q).filter (λr=>!decide (evR sn.cols r T=1))).length/\Hid (Sc b.heap.size wi (Zs wa wn wc) ((R.take q).filter (λr=>!decide (evR sn.cols r T=1))))/\Hid (Zb b wi/\b.heap.size<=K/\wi.heap[K]? = some (Zk #[Zi (q:Int)] 3)))
     (λ_ co wi=>R.length-AGl co wi)
    case atStart=>exact⟨0,_,0,none,0,XB _,rfl,rfl,rfl,Aa (ABG _ _),cq⟩
    case round=>
     obtain⟨q,K,wn,wa,wc,J,rfl,rfl,fe,HO,t⟩:=hrel;clear cq;obtain⟨kK,_⟩:=AKl t.o.2.2;have br:AGl (Zp (some ⟨K,0,none⟩)) wr=q:=by simp[AGl,kK,intOf]
     obtain⟨z1,z2,z3⟩:=HZ.o _ t.o.1;have bi:Hid (∀W,Zb b W->Zb b (W.alloc (Zk #[Zi ((q+1:Nat):Int)] 3))/\b.heap.size<=W.heap.size/\(W.alloc (Zk #[Zi ((q+1:Nat):Int)] 3)).heap[W.heap.size]? = some (Zk #[Zi ((q+1:Nat):Int)] 3)):=Aa (λW d=>⟨d.alloc d.size _,d.size,Yac _ _⟩);subst fe
     by_cases hql:q<R.length
     ·obtain⟨r,M⟩:∃r,R[q]? = some r:=⟨_,XC hql⟩
      obtain⟨vs,o1,o2,o3⟩:=bm.o;obtain⟨x,hx⟩:∃x,vs[q]? = some x:=⟨_,XC (by omega)⟩;have cm:=o3 q x r hx M;obtain⟨xa,xc,ex,_⟩:=Au cm;subst ex;have a0:=E.Ad o2 t.o.1
      obtain⟨rb,fd,f0⟩:∃rb,ra=some ⟨rb,0,none⟩/\wr.cell? ⟨rb,q,none⟩=some (Zs xa r.length xc):=by
       rcases a0.2 with⟨_,h0⟩|⟨fb,a9,eo,ev,_,hh,_,_,_⟩
       ·omega
       injection ev with cd _ _;subst cd;have hc:=a0.cells (g:=fb) rfl;simp only[E.addr_add] at hc;have:=hc q _ hx;exact⟨fb,rfl,by simpa using this⟩
      have HX:=Aa (E.Ad cm t.o.1);have dd:=Aa bm.o.slr;have ag:=Aa (AE5 (p:=λr=>!decide (evR sn.cols r T=1)) M);subst fd;have ba:K<wr.heap.size:=E.Ac t.o.2.2;have a4:=Aa (AJE sn.cols R r g 0 c1 w7.heap.size K w5.heap.size q (Zs (some ⟨rb,0,none⟩) R.length rc) T v wr h8 (ek.o wr t.o.1) (bz.o r (XG M)) e0 (dd.o.up t.o.1) M (HZ.o wr t.o.1).1 (HZ.o wr t.o.1).2.1 kK (Ya c9.o.1 t.o.1.size) (Ya c9.o.2 t.o.1.size) ba (c6.o.up t.o.1) cr.o.1 cr.o.2);have fc:(q:Int)<(R.length:Int):=by omega
      have fq:(0:Int)<=(q:Int):=by omega
      have fk:=Aa (World.block_lt_of_cell? wr ⟨rb,q,none⟩ f0);clear M o1 o2 o3 hx cm a0 dd;go_wp2_with fail;refine a4.o.mono ?_;rintro e I⟨rfl,h⟩;have f:=Aa h;have fi:=(h.cell (p:=⟨K,0,none⟩) ba).trans kK;have ds:K<I.heap.size:=Ya ba h.size;have ey:=Ag h f0;obtain⟨y1,y2,y3⟩:=HZ.o _ (Ap t.o.1 h);clear h a4 kK f0 z1 z2 z3
      by_cases hp:evR sn.cols r T=1
      ·rw[decide_eq_true hp,Yad (by simp),WA] at ag
       rw[hp];clear hp ey y1 y2 y3;have ap:=bi.o I (Ap t.o.1 f.o);go_wp2;refine⟨⟨q+1,_,_,wa,wc,by omega,rfl,rfl,by rw[ag.o],Aa ?_,Aa ap⟩,?_⟩
       ·rw[ag.o]
        exact(HO.o.up f.o).up (Zal)
       rw[br];have U:=(AKl ap.2.2).1;have:AGl (Zp (some ⟨I.heap.size,0,none⟩)) (I.alloc (Zk #[Zi ((q+1:Nat):Int)] 3))=q+1:=by simp only[AGl,U,X4,intOf];omega
       first
        | (have h2:=this;simp only[WB,WC] at h2;rw[h2];omega)
        | (erw [this];omega)
      rw[decide_eq_false hp,Yae (by simp)] at ag;generalize evR sn.cols r T=ev at *;obtain⟨us,u1,u2,u3⟩:=HO.o;have em:=Aa u1;have a8:=Aa (E.Ad u2 f.o);have en:=Aa (λ(j:Nat)x q hx J=>E.Ad (u3 j x q hx J) f.o);have G:Hid (Zb I (I.alloc (Zk #[Zs xa r.length xc] 58))):=Aa (Zal);have dk:=Aa (E.Ad HX.o f.o);have c7:=Aa ((f.o.block K ba).trans t.o.2.2);have e7:((R.take q).filter (λr=>!decide (evR sn.cols r T=1))).length<=2400:=XF (YN _ _) (by rw[XI];omega);have d7:=XF t.o.1.size f.o.size;clear u1 u2 u3
      go_wp2_with (first
       | (at_builtin;refine wpList_append_own _ rfl _ _ 35 rfl b.heap.size 58 iC (.slice none 0 0) 1 24 underlying35 a6.o.1 a6.o.2.1 a6.o.2.2.1 a6.o.2.2.2 rfl (by decide) (.slice wa ((R.take q).filter (λr=>!decide (evR sn.cols r T=1))).length wc) _ us rfl (E.Ad a8.o G.o) ⟨I.heap.size,0,none⟩ 1 1 [.slice xa r.length xc] rfl rfl (λj u hj=>XP (Yac _ _) j u hj) (by intro u hu;simp at hu;subst hu;rfl) (by unfold maxLen;omega) (by omega) (XF d7 G.o.size) ?_
          intro v5 cp V bc _;obtain⟨a',c',rfl,_⟩:=Au V;have ej:=Aa V;have eh:=Aa bc;have cs:=Aa ((Ap (Ap t.o.1 f.o) G.o).grown bc (Ap (Ap t.o.1 f.o) G.o).size (λj hj=>Fu a8.o hj));have fj:=(AKl (Hq ((G.o.block K ds).trans c7.o) (E.Ad a8.o G.o) (by decide) bc)).1;clear V bc))
      have ap:=bi.o cp cs.o;refine⟨⟨q+1,_,_,a',c',by omega,rfl,rfl,by rw[ag.o,XJ];rfl,Aa ?_,Aa ap⟩,?_⟩
      ·rw[ag.o]
       exact(Sc.snoc em.o (E.Ad a8.o G.o) (λj x q hx J=>E.Ad (en.o j x q hx J) G.o) (E.Ad dk.o G.o) eh.o ej.o).up (Zal)
      rw[br];have U:=(AKl ap.2.2).1;have:AGl (Zp (some ⟨cp.heap.size,0,none⟩)) (cp.alloc (Zk #[Zi ((q+1:Nat):Int)] 3))=q+1:=by simp only[AGl,U,X4,intOf];omega
      first
       | (have h2:=this;simp only[WB,WC] at h2;rw[h2];omega)
       | (erw [this];omega)
     have fa:q=R.length:=by omega
     have fc:¬(q:Int)<(R.length:Int):=by omega
     subst fa;rw[Ye] at HO;rw[Ye];have bk:=Aa (O.o wr t.o.1);go_wp2_with fail;refine bk.o.mono ?_;rintro e bg⟨fx,rfl,ar,ad⟩;obtain⟨na,nc,rfl,_⟩:=ar.slr.slice;have eg:Hid (∀r∈R.filter (λr=>!decide (evR sn.cols r T=1)),r.length<=1000):=Aa (λr M=>by have:=bz.o r (List.mem_filter.1 M).1;omega);have e7:(R.filter (λr=>!decide (evR sn.cols r T=1))).length<=R.length:=YN _ _;have cy:=ee.o;have a4:=Aa HO.o.slr;generalize R.filter (λr=>!decide (evR sn.cols r T=1))=F at *;have bx:=Aa (λW(d:Zb bg W)=>ACk (Zs na F.length nc) (Zs wa F.length wc) F W (ar.slr.up d) ((a4.o.up ad).up d) (by omega) eg.o);have an:Hid (∀W,Zb bg W->W.cell? ⟨w7.heap.size,0,none⟩=some (Zs ra R.length rc)/\W.cell? ⟨pb,7,none⟩=some (Zi rows)):=Aa (λW d=>(HZ.o W (Ap t.o.1 (Ap ad d))).2);have HF:=Aa (Ap s.o (Ap ed.o.low (Ap t.o.1 ad)));have HD:=Aa ((XD bg.heap.size bg).drew);have ft:IntKind.i64.wrap ((R.length:Int)-(F.length:Int))=(R.length:Int)-(F.length:Int):=by rw[IntKind.wrap_i64];omega
     subst cy;clear ar ad bk z1 z2 z3 kK;obtain⟨z2,z3⟩:=an.o _ HD.o;go_wp2_with fail
     go_region_held3 (λW=>W.cell? ⟨w7.heap.size,0,none⟩=some (Zs ra R.length rc)/\W.cell? ⟨pb,7,none⟩=some (Zi ((R.length:Int)-(F.length:Int))))
      (first
        | exact an.o _ HD.o
        | exact an.o _ au
        | (go_keep;done)
        | fail)
      (first
        | (go_at_call 12
           refine(bx.o _ HD.o).mono ?_;rintro e fy⟨rfl,av⟩;have au:=Ap HD.o av;clear av)
        | fail)
     all_goals
      have c4:=Aa (Ap HF.o au);clear z2 z3 au;go_wp2;go_ret;exact⟨rfl,c4.o⟩
def mO(e:Vc):Gx:=((2,e.1,0,[],[],0),(none,0,0),(none,0,0))
theorem sL(s:Ah)(v:Int)(a1:To)(n1 c1:Nat)(x2:Int)(V:To)(n2 c2:Nat)(w:Tw)(hS:Dl w s (K4 v a1 n1 c1 x2 V n2 c2))(O5:s.files.length<=1000)(hz:∀e∈s.files,e.1.size<=maxLen):
 Zc 72 #[Zs V n2 c2] w λe w'=>∃a c,e=Zr (Zs a s.files.length c)/\w'.ownsRow w.heap.size 129 6 (Zs a s.files.length c) s.files.length (Ci (s.files.map mO))/\Zb w w':=by
 obtain⟨b1,d1,b2,d2,Ls,x,X⟩:=hS;unfold K4 at x;simp only[Value.agg.injEq,Array.mk.injEq,List.cons.injEq,Value.int.injEq,Value.slice.injEq] at x;obtain⟨-,-,-,⟨e1,e2,e3⟩,-⟩:=x;subst e1 e3;have o:s.files.length=Ls.length:=by rw[X.files,XA]
 have r:=Aa o;have ac:n2=s.files.length:=by omega
 subst ac;have HV:=Aa X;obtain⟨iA,I,p⟩:=Option.map_eq_some_iff.1 gO;simp only[Prod.mk.injEq] at p;have h:=Aa (And.intro I p);have HZ:=Aa hz;clear X o I p hz e2;go_enter func72,ntmps72;go_wp2_with fail
 go_loopw [3,8] (λvo vi wr=>∃(k:Nat)(a:To)(c:Nat),k<=s.files.length/\vi=Zi (k:Int)/\vo=Zs a k c/\Hid (wr.ownsRow w.heap.size 129 6 (Zs a k c) k (Ci ((s.files.take k).map mO)))/\Hid (Zb w wr)) (λ_ vi _=>s.files.length-Ev vi)
 case atStart=>exact⟨0,none,0,XB _,rfl,rfl,Aa (XL _ _ _ _),Aa (XD _ _)⟩
 case round=>
  obtain⟨k,a,c,hk,rfl,rfl,R,L⟩:=hrel
  rcases Yc k s.files.length with ah|ag
  ·obtain⟨y,q⟩:∃y,Ls[k]? = some y:=⟨_,XC (by have:=r.o;omega)⟩
   have D:s.files[k]? = some y.1:=by rw[HV.o.files,XY,q];rfl
   obtain⟨⟨b,M,mask⟩,ma,mn,mc⟩:=y;have f:=Bc HV.o.row L.o
   obtain⟨fb,Y,o,e0,e1,af⟩:∃fb,V=some ⟨fb,0,none⟩/\fb<wr.heap.size/\wr.cell? ⟨fb,k*3,none⟩=some (Zt b)/\wr.cell? ⟨fb,k*3+1,none⟩=some (Zi M)/\wr.cell? ⟨fb,k*3+2,none⟩=some (Zs ma mn mc):=by
    rcases f.2 with⟨_,h0⟩|⟨fb,ad,ae,x,_,hh,_,_,_⟩
    ·have:=r.o;omega
    injection x with W _ _;subst W;have hc:=f.cells (g:=fb) rfl;simp only[E.addr_add] at hc
    have n:∀(i:Nat)u,(Lv ((b,M,mask),ma,mn,mc))[i]? = some u->wr.cell? ⟨fb,k*3+i,none⟩=some u:=λi u N=>by have:=hc (k*3+i) u (Hi (k:=3) (enc:=Lv) (λ_=>rfl) q N);simpa using this
    exact⟨fb,rfl,E.Ac hh,n 0 _ rfl,n 1 _ rfl,n 2 _ rfl⟩
   subst Y;have ab:(k:Int)<(s.files.length:Int):=by omega
   have U:Hid ((s.files.take (k+1)).map mO=(s.files.take k).map mO++[mO (b,M,mask)]):=Aa (by rw[S.Cs D];simp);obtain⟨t0,t1,t2,t3⟩:=C1 wr (Zk #[Zt b,Zi M,Zs ma mn mc] 116) (Zk #[Zi 2,Zt b,Zi 0,Zs none 0 0,Zs none 0 0,Zi 0] 129);have l:=Aa t3;have P:=Aa t2;have J:=L.o.size;clear f q D t0 t1 t2 t3
   go_wp2_with (first
    | (at_builtin;refine wpList_append_own _ rfl _ _ 61 rfl w.heap.size 129 iA Mi 6 88 underlying61 h.o.1 h.o.2.1 h.o.2.2.1 h.o.2.2.2 rfl (by decide) (.slice a k c) k _ rfl (Bc R.o l.o) ⟨wr.heap.size+1,0,none⟩ 1 1 [Zi 2,.string b,Zi 0,.slice none 0 0,.slice none 0 0,Zi 0] rfl rfl (λj u hj=>XP P.o j u hj) (by intro u N;simp only[XQ,XM,or_false] at N;rcases N with rfl|rfl|rfl|rfl|rfl|rfl <;> rfl) (by unfold maxLen;omega) (by omega) (XF J l.o.size) ?_
       intro v5 w5 d G _;have t:=Aa d;have O:=Aa G;clear d G))
   obtain⟨a',c',rfl,_⟩:=Au t.o;have z:=Ap L.o l.o;refine⟨⟨k+1,a',c',by omega,by simp,rfl,Aa ?_,Aa (z.grown O.o z.size (λj hj=>Fu R.o hj))⟩,by simp only[Ev];omega⟩;rw[U.o];simpa[Ci,nU,mO,sv] using t.o
  have ab:¬((k:Int)<(s.files.length:Int)):=by omega
  have aa:k=s.files.length:=by omega
  subst aa;have m:=R.o;rw[Ye] at m;have T:=Aa m;clear m;go_wp2;go_ret;exact⟨_,_,rfl,T.o,L.o⟩
def Uj(x:Ef):Bool:=decide (0<x.2.2.1)
theorem AES(w:Tw):PredBelow prog 111 #[] (λx:Ef=>Zg (Lv x).toArray) Uj w:=λW c hb=>by
 obtain⟨⟨p,r,m⟩,b,a,d⟩:=c;show Zc 111 #[Zg #[Zt p,Zi r,Zs b a d]] W _;have e:Hid (Uj ((p,r,m),b,a,d)=decide (0<a)):=rfl;generalize Uj ((p,r,m),b,a,d)=q at *
 by_cases hq:0<a
 ·have f:(0:Int)<(a:Int):=by omega
  go_enter func111,ntmps111;go_wp2
  all_goals (go_ret;exact⟨(by rw[e.o];simp[hq]),hb.alloc hb.size _⟩)
 have f:¬(0:Int)<(a:Int):=by omega
 go_enter func111,ntmps111;go_wp2
 all_goals (go_ret;exact⟨(by rw[e.o];simp[hq]),hb.alloc hb.size _⟩)
theorem dO(a:To)(c:Nat)(b:Tv)(w:Tw):Zc 169 #[Zs a 0 c,b] w λe d=>e=Zr (Zi (-1))/\d=w:=by go_enter func169,ntmps169;go_wp2_with fail;refine wp_loop_rounds 1 ?_;rw[rounds_succ];go_wp2;go_ret;exact⟨rfl,rfl⟩
theorem AF2(a:To)(c:Nat)(b:Tv)(w:Tw):Zc 110 #[Zs a 0 c,b] w λe d=>e=Zr (Zo false)/\d=w:=by go_enter func110,ntmps110;go_wp2_with fail;refine(dO a c _ _).mono ?_;rintro e f⟨rfl,rfl⟩;go_wp2;go_ret;exact⟨rfl,rfl⟩
theorem AGc(a:To)(c:Nat)(b:List Ef)(w:Tw)(h:w.ownsRow 0 116 3 (Zs a b.length c) b.length (A8 b))(y:b.length<=1000):
 Zc 110 #[Zs a b.length c,.func (.func 111) #[] #[]] w λe o=>e=Zr (Zo (b.any Uj))/\Zb w o:=by
 rcases h.2 with⟨e0,t⟩|⟨g,p,q,s,_,u,_,_,_⟩
 ·have:b=[]:=Yag.1 t
  subst this;refine(AF2 a c _ w).mono ?_;rintro e o⟨rfl,rfl⟩;exact⟨rfl,XD _ _⟩
 injection s with l _ _;subst l;have r:∀args w,(callFunc 111 args).run prog w=.ok (.enter 111 args) w:=enters_of func111 (by kernel_rfl) rfl
 have f:∀j,j<b.length->∀i v,(Lv b[j]!)[i]? = some v->w.cell? ⟨g,0+j*3+i,none⟩=some v:=λj n i v x=>by have m:=h.cells (g:=g) rfl;simp only[E.addr_add] at m;have:=m (j*3+i) v (Hi (k:=3) (enc:=Lv) (λ_=>rfl) (by rw[XC n,<-getElem!_pos b j n]) x);simpa using this
 have d:=AnyQ.slices_ContainsFunc layConE 3 isAgg116 sizeOf116 Lv (λ_=>rfl) Uj 111 #[] r g 0 b.length c b w (AES w) (Y' _) (by omega) (E.Ac u) f;rw[Ye] at d;exact d
theorem AGE{w:Tw}{u:Tv}{d:List Ef}(h:X8 w s v u d):d.any Uj=!decide (∀e∈s.files,e.2.2=[]):=by
 have g:∀x∈d,x.2.2.1=x.1.2.2.length:=λx b=>by obtain⟨a,c,e,_⟩:=Au (h.Cl x b);obtain⟨_,m,n,o⟩:=x;unfold sv at e;injection e with _ e _
 rw[Bool.eq_iff_iff];simp only[List.any_eq_true,XX,decide_eq_false_iff_not,Uj,decide_eq_true_eq,h.files,List.mem_map];constructor
 ·rintro⟨x,b,f⟩j
  have i:=j _ ⟨x,b,rfl⟩;rw[g x b,i] at f;simp at f
 intro l;refine Classical.byContradiction λk=>l ?_
 rintro e⟨x,b,rfl⟩;refine Yag.1 (Classical.byContradiction λf=>k ⟨x,b,?_⟩);rw[g x b];omega
theorem nW(s:Ah)(v:Int)(o:To)(n1 c1:Nat)(D:Int)(i:To)(n2 j:Nat)(n:Nat)(w:Tw)(u:Dl w s (K4 v o n1 c1 D i n2 j))(O5:s.files.length<=1000)(N:n<=100000):
 Zc 69 #[Zs i n2 j,Zi (n:Int)] w λe y=>∃q,e=Zr (Zo q)/\(q=true↔Tog s n)/\Zb w y:=by
 obtain⟨I,L,J,M,c,k,g⟩:=u;unfold K4 at k;simp only[Value.agg.injEq,Array.mk.injEq,List.cons.injEq,Value.int.injEq,Value.slice.injEq] at k;obtain⟨-,-,-,⟨p,r,t⟩,-⟩:=k;subst p t;have f:s.files.length=c.length:=by rw[g.files,XA]
 have l:n2=c.length:=by omega
 subst l;have m:=AGE g;have a:=AGc i j c w g.row (by omega)
 have h:Hid ((!c.any Uj && decide (c.length<=(n+59) / 60))=true↔Tog s n):=Aa (by rw[m];unfold Tog n60;rw[f];simp)
 clear g f m r;generalize c.any Uj=z at *
 have x:(((n:Int)+60-1).tdiv 60)=(((n+59) / 60:Nat):Int):=by rw[Int.tdiv_eq_ediv_of_nonneg (by omega)];omega
 have G:=Aa x;go_enter func69,ntmps69;go_wp2_with fail;refine a.mono ?_;rintro e O⟨rfl,d⟩;have b:=Aa d;clear d a;cases z with
 | true=>go_wp2;go_ret;exact⟨_,rfl,h.o,b.o⟩
 | false=>
   by_cases hle:c.length<=(n+59) / 60
   ·go_wp2
    go_ret;exact⟨true,(by simp;omega),(by simpa[hle] using h.o),b.o⟩
   go_wp2;go_ret;exact⟨false,(by simp;omega),(by simpa[hle] using h.o),b.o⟩
theorem cH:∀l:List Gx,(Ci l).length=l.length*6
 | []=>rfl
 | c :: l=>by simp only[Ci,List.flatMap_cons,XJ,XN];have:=cH l;simp only[Ci] at this;rw[this];simp[nU];omega
theorem yB(l:List Gx):∀u∈Ci l,u.oneCell'=true:=by
 intro u b;simp only[Ci,List.mem_flatMap] at b;obtain⟨c,_,a⟩:=b;simp only[nU,XQ,XM,or_false] at a
 rcases a with rfl|rfl|rfl|rfl|rfl|rfl <;> rfl
theorem iQ(a b:List Gx):Ci (a++b)=Ci a++Ci b:=by simp[Ci]
theorem pL(n:Nat):(Builtin.zeroCells Mi.cells n).size=n*6:=by simp[Builtin.zeroCells,show Mi.cells.size=6 from rfl]
theorem AB8(n:Nat)(w:Tw)(o:1<=n)(p:n<=1000):
 Zc 113 #[Zs none 0 0,Zi n] w λe i=>∃k j,e=Zr (Zs (some ⟨k,0,none⟩) 0 j)/\i.ownsRow w.heap.size 129 6 (Zs (some ⟨k,0,none⟩) 0 j) 0 (Ci [])/\Zb w i:=by
 obtain⟨m,f,b⟩:=Option.map_eq_some_iff.1 gO;simp only[Prod.mk.injEq] at b;obtain⟨g,l,h⟩:=b;refine(Any8.slices_Grow_grow layGroA m Mi f g (by omega) none 0 0 n [] w (Y' _) (by omega) (by rw[h];omega) (by omega) (by simp) (λ_=>rfl) (λa ha=>by cases ha)).mono ?_;rintro e i⟨rfl,rfl⟩;have d:0+n<=grownCap w (0+n) 0 129:=grownCap_ge w _ _ _;have c:grownCap w (0+n) 0 129<=maxLen:=grownCap_le_maxLen w (0+n) 0 129 (by unfold maxLen;omega);refine⟨_,_,rfl,?_,((XD _ _).drew).alloc (Y' _) _⟩
 change (w.drew.alloc (Zk (#[]++Builtin.zeroCells Mi.cells (0+n-0)++Builtin.zeroCells Mi.cells (grownCap w (0+n) 0 129-(0+n))) 129)).ownsRow w.heap.size 129 6 (Zs (some ⟨w.heap.size,0,none⟩) 0 (grownCap w (0+n) 0 129)) 0 []
 generalize grownCap w (0+n) 0 129=G at d c;exact YS (w:=w.drew) _ G (Y' _) c (by simp only[Array.size_append,pL,Array.size_empty];omega)
theorem Oa{n:Array Oper}{rest:List Oper}{o:Oper}{a:Act}{Q:Exit->Act->Tw->Prop}{W:Tw}(i:o.guard=none)(s x:Operand)(z:o.op=.call { callee:=.builtin .append,args:=#[s,x],argTypes:=#[61,61] })(base g c:Nat)(l:List Gx)(D:a.eval s=Zs (some ⟨g,0,none⟩) l.length c)(b:W.ownsRow base 129 6 (Zs (some ⟨g,0,none⟩) l.length c) l.length (Ci l))(L:Nat)(J:Tv)(m:List Gx)(G:a.eval x=J)(y:W.ownsRow L 129 6 J m.length (Ci m))(U:l.length+m.length<=1000)(e:base<=W.heap.size)(h:∀q f p,Hid (p.ownsRow base 129 6 (Zs (some ⟨q,0,none⟩) (l.length+m.length) f) (l.length+m.length) (Ci (l++m))/\W.grownBy p (some g))->wpList prog n Q rest (a.put o.dst (Zs (some ⟨q,0,none⟩) (l.length+m.length) f)) p):wpList prog n Q (o :: rest) a W:=by
 obtain⟨I,j,k⟩:=Option.map_eq_some_iff.1 gO;simp only[Prod.mk.injEq] at k;obtain⟨r,t,u⟩:=k
 rcases Di y with⟨d,O⟩|⟨v,N,d,-,-,-,-⟩
 ·have:m=[]:=Yag.1 O
  subst this d;refine wpList_append_own_none i s x 61 z base 129 I 6 underlying61 j _ _ _ D b G ?_;exact h g c W ⟨by simpa using b,World.grownBy.refl _ _⟩
 subst d;have T:=y.cells (g:=v) rfl;refine wpList_append_own W i s x 61 z base 129 I Mi 6 88 underlying61 j r t u rfl (by omega) _ _ _ D b ⟨v,0,none⟩ m.length N (Ci m) G (cH m) T (yB m) (by unfold maxLen;omega) (by omega) e ?_;intro v' p w P R
 rcases Di w with⟨d,_⟩|⟨q,M,d,-,-,-,-⟩
 ·exact absurd (R.1 d).1 (by simp)
 subst d;exact h q M p ⟨by rw[iQ];exact w,P⟩
theorem uO(p:Nat)(n o:To)(c1 q:Nat)(a b:List Gx)(u v:Nat)(w:Tw)(s:w.cell? ⟨p,0,none⟩=some (Zs n a.length c1))(t:w.cell? ⟨p,1,none⟩=some (Zs o b.length q))(J:p<w.heap.size)(G:w.ownsRow u 129 6 (Zs n a.length c1) a.length (Ci a))(I:w.ownsRow v 129 6 (Zs o b.length q) b.length (Ci b))(V:1<=a.length+b.length)(X:a.length+b.length<=1000):
 Zc 71 #[Zs (some ⟨p,0,none⟩) 2 2] w λe m=>∃i h,e=Zr (Zs (some ⟨i,0,none⟩) (a.length+b.length) h)/\m.ownsRow w.heap.size 129 6 (Zs (some ⟨i,0,none⟩) (a.length+b.length) h) (a.length+b.length) (Ci (a++b))/\Zb w m:=by
 have O:Hid (Zc 113 #[Zs none 0 0,Zi ((a.length:Int)+(b.length:Int))] w λe m=>∃i h,e=Zr (Zs (some ⟨i,0,none⟩) 0 h)/\m.ownsRow w.heap.size 129 6 (Zs (some ⟨i,0,none⟩) 0 h) 0 (Ci [])/\Zb w m):=by have:=AB8 (a.length+b.length) w V X;rwa[show ((a.length+b.length:Nat):Int)=(a.length:Int)+(b.length:Int) by omega] at this
 have M:=Aa G;have N:=Aa I;have x:Hid (∀W,Zb w W->W.cell? ⟨p,0,none⟩=some (Zs n a.length c1)/\W.cell? ⟨p,1,none⟩=some (Zs o b.length q)):=λW D=>⟨(D.cell (p:=⟨p,0,none⟩) J).trans s,(D.cell (p:=⟨p,1,none⟩) J).trans t⟩
 clear G I;have n1:¬(a.length:Int)<0:=by omega
 have n2:¬(a.length:Int)+(b.length:Int)<0:=by omega
 have Y:IntKind.i64.wrap ((a.length:Int)+(b.length:Int))=(a.length:Int)+(b.length:Int):=by rw[IntKind.wrap_i64];omega
 have n4:IntKind.i64.wrap (a.length:Int)=(a.length:Int):=by rw[IntKind.wrap_i64];omega
 go_enter func71,ntmps71;go_wp2;refine wp_loop_rounds 3 ?_;rw[rounds_succ];go_wp2;rw[rounds_succ];go_wp2;rw[rounds_succ]
 go_wp2_with (first
  | (go_at_call 113;refine O.o.mono ?_;rintro e w1⟨T,P,rfl,k,c⟩;obtain⟨r0,r1⟩:=x.o _ c))
 refine wp_loop_rounds 3 ?_;rw[rounds_succ];go_wp2_with (at_builtin;refine Oa rfl _ _ rfl w.heap.size T P [] rfl k u _ a rfl (Bc M.o c) (by simp;omega) c.size ?_;intro z y L f;have d:Zb w L:=c.grown f.o.2 c.size (λj hj=>by cases hj;exact(k.lt _ rfl).1);obtain⟨s0,s1⟩:=x.o _ d;have g:Hid (L.ownsRow w.heap.size 129 6 (Zs (some ⟨z,0,none⟩) a.length y) a.length (Ci a)):=Aa (by have:=f.o.1;simpa using this);clear f);rw[rounds_succ];go_wp2_with (at_builtin;refine Oa rfl _ _ rfl w.heap.size z y a rfl g.o v _ b rfl (Bc N.o d) (by omega) d.size ?_;intro U R w5 l;have r:Zb w w5:=d.grown l.o.2 d.size (λj hj=>by cases hj;exact(g.o.lt _ rfl).1));rw[rounds_succ];go_wp2;go_ret;exact⟨U,R,rfl,l.o.1,r⟩
attribute [local go_sem] Oper.semAt_some
theorem qS(b:To)(len a:Nat)(w:Tw):
 Zc 70 #[Zs b len a,Zi 60] w λe c=>e=Zr (.func (.func 112) #[] #[Zp (some ⟨w.heap.size,0,none⟩),Zp (some ⟨w.heap.size+1,0,none⟩)])/\c=(w.alloc (Zk #[Zs b len a] 35)).alloc (Zk #[Zi 60] 3):=by
 go_enter func70,ntmps70;go_wp2;go_ret;exact⟨rfl,rfl⟩
abbrev CK6(n:Nat):={ k:Nat // 60*k<n }
def AG1{n:Nat}(x:CK6 n):Nat:=x.1
def nE(n k:Nat):Nat:=if n-60*k<60 then n-60*k else 60
def ACt(b off n:Nat)(k:CK6 n):Value:=.slice (some ⟨b,off+60*k.1,none⟩) (nE n k.1) (nE n k.1)
theorem xD(n:Nat)(_hn:1<=n)(l h g b off len a:Nat)(r:To)(d:0<len->r=some ⟨b,off,none⟩)(hlen:len<=100000)(N:len<=a)(J I:List (CK6 len)->Tw->Prop)(y:∀pre W,J pre W->J pre W.drew)(hY:∀pre x W,J pre W->pre.length<n60 len->YieldAt Fence.wide (n-1) prog l #[ACt b off len x] W λe f=>
   (e=Zr (Zo true)/\J (pre++[x]) f/\KpC h g W f)\/(e=Zr (Zo false)/\I (pre++[x]) f))(W:Tw)(u:W.cell? ⟨h,0,none⟩=some (Zs r len a))(t:W.cell? ⟨g,0,none⟩=some (Zi 60))(h0:J [] W):
 CallsIn Fence.wide n prog 112 #[.func (.yield l) #[] #[],Zp (some ⟨h,0,none⟩),Zp (some ⟨g,0,none⟩)] W λe f=>(∃v,e=Zr v) /\
  ((∃T:List (CK6 len),T.map AG1=List.range (n60 len)/\J T f)\/(∃pre:List (CK6 len),True/\I pre f)):=by
 refine callsIn_of_wp func112 rfl trivial ?_ rfl;simp only[ntmps112,XZ,XN,WD,Nat.reduceAdd,Nat.reduceSub,XT,XU,X2,XW,WE,X6];gi_wp2
 gi_loopw [4] (λi wr=>∃(k:Nat)(pre:List (CK6 len)),k<=n60 len/\i=Zi ((60*k:Nat):Int)/\pre.map AG1=List.range k/\J pre wr/\wr.cell? ⟨h,0,none⟩=some (Zs r len a)/\wr.cell? ⟨g,0,none⟩=some (Zi 60))
  (λi _=>len+60-(intOf i).toNat)
 case atStart=>exact⟨0,[],XB _,rfl,rfl,h0,u,t⟩
 case round=>
  obtain⟨k,pre,hk,rfl,c,j,R,q1⟩:=hrel;have D:pre.length=k:=by have:=congrArg List.length c;simpa using this
  by_cases hlt:60*k<len
  ·obtain⟨fn,tmps,assign,body,G,hR⟩:=hY pre ⟨k,hlt⟩ wr.drew (y _ _ j) (by rw[D];unfold n60;omega)
   have s:Hid (60*k<len):=Aa hlt;have z:k<n60 len:=by unfold n60;omega
   obtain⟨m,q⟩:∃m,60*k=m:=⟨_,rfl⟩;have M:nE len k=(((m:Int)+min 60 ((len-m:Nat):Int)).toNat-m):=by unfold nE;rw[q];split <;> omega
   unfold ACt at G;dsimp only at G;rw[M,q] at G;rw[q] at hlt ⊢;have O:(m:Int)<(len:Int):=by omega
   have P:(m:Int)<=(len:Int):=by omega
   have ac:(0:Int)<=(m:Int):=by omega
   have aa:¬a=m:=by omega
   have ad:m<=a:=by omega
   have U:=Aa q;have X:=Aa R;rw[d (by omega)] at R;have V:=Aa d;clear d;clear M q;gi_wp2;refine wpIn_wide.2 ?_
   go_region
   all_goals gi_wp2
   refine hR.mono ?_;rintro e L (⟨rfl,w,p⟩|⟨rfl,o⟩)
   ·have p0:L.cell? ⟨h,0,none⟩=some (Zs r len a):=p.1.trans X.o
    have p1:L.cell? ⟨g,0,none⟩=some (Zi 60):=p.2.trans q1;gi_wp2
    go_roundw
    case rel=>
     refine⟨k+1,pre++[⟨k,s.o⟩],z,?_,?_,w,p0,p1⟩
     ·have:=U.o
      congr 1;omega
     rw[XH,c,List.range_succ];rfl
    case measure=>simp[intOf];omega
   gi_wp2;refine bodyPost_ret (results_none rfl _ _ _) rfl ?_;exact⟨⟨_,rfl⟩,.inr ⟨_,trivial,o⟩⟩
  have ab:¬((60*k:Nat):Int)<(len:Int):=by omega
  have Y:k=n60 len:=by unfold n60 at hk ⊢;omega
  gi_wp2
  go_end0
  exact⟨⟨_,rfl⟩,.inl ⟨pre,by rw[c,Y],j⟩⟩
theorem jC(n:Nat)(o:1<=n)(d c b off len a:Nat)(k:To)(j:0<len->k=some ⟨b,off,none⟩)(hlen:len<=100000)(f:len<=a)(w:Tw)(i:d<w.heap.size)(g:c<w.heap.size)(q:w.cell? ⟨d,0,none⟩=some (Zs k len a))(m:w.cell? ⟨c,0,none⟩=some (Zi 60)):
 SeqStopsK Fence.wide n prog 112 #[Zp (some ⟨d,0,none⟩),Zp (some ⟨c,0,none⟩)] (λx:CK6 len=>#[ACt b off len x]) (KpC d c) (λys=>ys.map AG1=List.range (n60 len)) (λ_=>True) (n60 len) w:=λl J Jx W hW hJ _ hY h0=>
 xD n o l d c b off len a k j hlen f J Jx (λpre W h=>hJ pre W _ none h ⟨rfl,rfl,rfl,Y' _,λ_ _ _=>rfl⟩ (λr e=>by cases e)) hY W ((hW.cell (p:=⟨d,0,none⟩) i).trans q) ((hW.cell (p:=⟨c,0,none⟩) g).trans m) h0
variable{W w:Tw}{u v:Tv}{i:Nat}{s:Ah}{L:List Gx}{D:Td}{x:Int}{R:List (List V)}
theorem qF{b off n c:Nat}{rows:List (List V)}(h:iJ w (Zs (some ⟨b,off,none⟩) n c) rows)(J:n=rows.length)(k:CK6 rows.length):iJ w (ACt b off rows.length k) (Gg rows k.1):=by
 obtain⟨m,q,s,t⟩:=h;have I:=k.2;obtain⟨z,l,D,e,G,v,a⟩:=q.cons (by omega);injection e with g _ _;injection g with g;injection g with o p _;subst o p;have y:(Gg rows k.1).length=nE rows.length k.1:=by simp only[Gg,XI,X',nE];split <;> omega
 have d:((m.drop (60*k.1)).take 60).length=nE rows.length k.1:=by simp only[XI,X',nE,s];split <;> omega
 refine⟨(m.drop (60*k.1)).take 60,⟨_,nE rows.length k.1,by rw[d];rfl,by rw[d];exact Y' _,λ_=>⟨b,off+60*k.1,rfl,v,λj x hx i u hu=>?_⟩⟩,by rw[y,d],λj x r hx hr=>?_⟩
 ·have f:j<60:=by have:=Ax hx;rw[XI] at this;omega
  rw[Yl f,XK] at hx;have:=a (60*k.1+j) x hx i u hu;rwa[show off+(60*k.1+j)*1+i=off+60*k.1+j*1+i by omega] at this
 have f:j<60:=by have:=Ax hx;rw[XI] at this;omega
 rw[Yl f,XK] at hx;unfold Gg at hr;rw[Yl f,XK] at hr;exact t _ x r hx hr
theorem jX(tx:Tb)(l:List Aj)(p:List (List V)):∀(a:List (List (List V)))(k:Nat)(D:Td),Km tx l k (a++[p]) D=(Km tx l k a D).put (B.lit (Eh (Bw tx (k+a.length)))) (Pa l p)
 | [],k,D=>by simp[Km]
 | q :: a,k,D=>by show Km tx l (k+1) (a++[p]) _=_;rw[jX tx l p a (k+1)];simp only[Km,XN];rw[show k+1+a.length=k+(a.length+1) by omega]
theorem ACh(tx:Tb)(k:Nat)(a:List (List (List V)))(p:List (List V)):N5 tx k (a++[p])=N5 tx k a++[(1,Bw tx (k+a.length),(p.length:Int),[],[],0)]:=by unfold N5;rw[List.zipIdx_append];simp
theorem eQ(tx:Tb)(k:Nat)(a:List (List (List V))):(N5 tx k a).length=a.length:=by simp[N5]
theorem V4{b e z n:Nat}{xs:List Tv}{row:Option Nat}(h:w.ownsRow b e z v n xs)(m:w.grownBy W row)(p:∀r,row=some r->∃o:Obj,w.heap[r]? = some o/\o.isCells=false):W.ownsRow b e z v n xs:=by
 refine⟨h.1,?_⟩
 rcases h.2 with k|⟨g,c,a,q,d,f,i⟩
 ·exact .inl k
 refine .inr ⟨g,c,a,q,d,(m.block g (Ac f) (λe=>?_)).trans f,i⟩;obtain⟨o,j,l⟩:=p g e.symm;rw[f] at j;cases j;cases l
theorem vX{cs:Array Tv}{t:TypeId}{row:Option Nat}(h:w.heap[i]? = some (Zk cs t (0,0)))(c:w.grownBy W row)(d:∀r,row=some r->∃o:Obj,w.heap[r]? = some o/\o.isCells=false):W.heap[i]? = some (Zk cs t (0,0)):=by refine(c.block i (Ac h) (λe=>?_)).trans h;obtain⟨o,a,b⟩:=d i e.symm;rw[h] at a;cases a;cases b
theorem Dv.no{base:Nat}{n:Nat}{v:Int}{d:To}{n1 c1:Nat}{y:Int}{f:To}{n2 k:Nat}{tx:Tb}{l:Bool}{g:To}{rows:Int}{row:Option Nat}(h:Dv base w n s v d n1 c1 y f n2 k tx l g i L rows)(a:w.grownBy W row)(b:∀r,row=some r->∃o:Obj,w.heap[r]? = some o/\o.isCells=false):Dv base W n s v d n1 c1 y f n2 k tx l g i L rows:=by refine⟨vX h.box a b,?_,V4 h.row a b,λq j=>⟨V4 (h.own q j).1 a b,V4 (h.own q j).2 a b⟩,h.Vv,h.low⟩;obtain⟨p,u,t,z,m,e,c⟩:=h.snap;exact⟨p,u,t,z,m,e,V4 c.cols a b,c.files,V4 c.row a b,λx D=>V4 (c.Cl x D) a b⟩
theorem bF{w0 w W:Tw}{j bb n d:Nat}{fs:List Int}{row:Option Nat}{B0:Nat}(h:Ey w0 w j bb n D fs (.map (some d)) v)(s:d<B0)(u:w0.heap.size<=B0)(a:w.grownBy W row)(f:∀r,row=some r->B0<=r/\∃o:Obj,w.heap[r]? = some o/\o.isCells=false):Ey w0 W j bb n D fs (.map (some d)) v:=by
 have l:B.A0 (λi=>row=some i) w W:=⟨a.os,a.tape,a.output,a.size,λk s hn=>a.block k s (λe=>hn e.symm)⟩;refine⟨h.bu.only l (λe=>?_) (λm e q=>?_) (λp x b q=>?_),l.below h.low h.low.size (λi q=>XF u (f i q).1),h.hb,h.hm,h.er,h.nc,h.tb,h.hf⟩
 ·obtain⟨_,o,c,b⟩:=f bb e
  have g:w.heap[bb]? = _:=h.bu.1;rw[g] at c;cases c;cases b
 ·cases e
  have:=(f _ q).1;omega
 obtain⟨_,o,c,t⟩:=f _ q;unfold World.cell? at b;rw[c] at b;cases o <;> simp_all [Obj.isCells]
def CmI(w0:World)(d bb n:Nat)(D:DataW Unit)(c base j:Nat)(s:Ah)(v:Int)(e:Option Addr)(n1 c1:Nat)(l:Int)(f:Option Addr)(n2 i:Nat)(tx:ByteArray)(rows:Int)(R:List (List V))(W8:World)(pre:List (CK6 R.length))(W:World):Prop :=
 ∃n' a b g h L,Ey w0 W d bb n' (Km tx s.cols 0 (pre.map λk=>Gg R k.1) D) a (.map (some c)) b/\n'<=n+pre.length/\Dv base W j s v e n1 c1 l f n2 i tx true g h L rows /\
  L.map (·.1)=N5 tx 0 (pre.map λk=>Gg R k.1)/\(∀k∈pre,De s.cols (Gg R k.1)=true)/\Mv base bb (.map (some c)) (.map (some c)) W8 W
theorem CmI.own{w0:Tw}{k bb n:Nat}{i base j:Nat}{v:Int}{l:To}{n1 c1:Nat}{p:To}{n2 d:Nat}{tx:Tb}{rows:Int}{W8:Tw}{B0:Nat}(I:i<B0)(M:w0.heap.size<=B0)(N:W8.heap.size<=B0):OwnFrom B0 (CmI w0 k bb n D i base j s v l n1 c1 x p n2 d tx rows R W8):=λpre A C row J f g=>by
 obtain⟨n',a,b,q,t,L,u,w,y,z,G,c⟩:=J;have h:∀r,row=some r->∃o:Obj,A.heap[r]? = some o/\o.isCells=false:=λr e=>(g r e).2
 exact⟨n',a,b,q,t,L,bF u I M f g,w,y.no f h,z,G,⟨c.only.grown f (λm e O=>by have:=(g m e).1;omega),c.link,c.stay⟩⟩
theorem CmI.keeps{w0:Tw}{i bb n:Nat}{fs:List Int}{j base:Nat}{B0:Nat}(h:Ey w0 W i bb n D fs (.map (some j)) v)(l:j<B0)(d:Mv base bb (.map (some j)) (.map (some j)) W w):KeepsFrom B0 W w:=by
 refine⟨d.only.size,λk o g a c=>(d.only.block k (Array.getElem?_eq_some_iff.1 a).1 ?_).trans a⟩;rintro((e|e)|⟨_,cs,T,f,_⟩)
 ·subst e
  have b:W.heap[k]? = _:=h.bu.1;rw[b] at a;cases a;cases c
 ·cases e
  omega
 rw[f] at a;cases a;cases c
theorem CmI.step{w0:Tw}{i bb n:Nat}{j base m:Nat}{v:Int}{b:To}{n1 c1:Nat}{c:To}{n2 d:Nat}{tx:Tb}{rows:Int}{W8 W w:Tw}{pre:List (CK6 R.length)}{k:CK6 R.length}{n' p:Nat}{z:List Int}{e:To}{g:Nat}(I:n'<=n+pre.length)(f:L.map (·.1)=N5 tx 0 (pre.map λk=>Gg R k.1))(l:∀k∈pre,De s.cols (Gg R k.1)=true)(o:Mv base bb (.map (some j)) (.map (some j)) W8 W)(r:Ey w0 w i bb p ((Km tx s.cols 0 (pre.map λk=>Gg R k.1) D).put (B.lit (Eh (Bw tx L.length))) (Pa s.cols (Gg R k.1))) z (.map (some j)) u)(J:p<=n'+1)(t:Mv base bb (.map (some j)) (.map (some j)) W w)(G:De s.cols (Gg R k.1)=true)(y:Dv base w m s v b n1 c1 x c n2 d tx true e g (L++[noA (Bw tx L.length) (Gg R k.1).length]) rows):CmI w0 i bb n D j base m s v b n1 c1 x c n2 d tx rows R W8 (pre++[k]) w:=by
 have h:L.length=pre.length:=by have:=congrArg List.length f;rw[XA,eQ,XA] at this;exact this
 refine⟨p,z,u,e,g,_,?_,by rw[XJ];simp;omega,y,?_,?_,o.trans t⟩
 ·rw[XH,Y5,jX,XA,WG,<-h]
  exact r
 ·rw[XH,XH,Y5,Y5,ACh,f,XA,WG,h]
  rfl
 intro q a
 rcases List.mem_append.1 a with a|a
 ·exact l q a
 simp at a;subst a;exact G
theorem lC(tx:Tb)(b:Plain tx)(l:List Aj):∀(a:List (List (List V)))(k:Nat)(D:Td)(j:Nat),k+a.length<=j->j<=1000000->Maps.has D (B.lit (Eh (Bw tx j)))=false->Maps.has (Km tx l k a D) (B.lit (Eh (Bw tx j)))=false
 | [],_,_,_,_,_,h=>h
 | p :: a,k,D,j,hk,hj,h=>by
   simp at hk;refine lC tx b l a (k+1) _ j (by omega) hj ?_;rw[Maps.has_put_other (λe=>?_)]
   ·exact h
   have:=(S5 b b (Uw (B.Jr e))).2 (by omega) (by omega);omega
theorem Xo(tx:Tb)(d:Plain tx)(l:List Aj)(D:Td):∀(b:List (List (List V)))(k:Nat)(a:Td),k+b.length<=1000->Grown tx D a->(∀j,k<=j->j<=1000->Maps.has a (B.lit (Eh (Bw tx j)))=false)->Grown tx D (Km tx l k b a)
 | [],_,_,_,h,_=>h
 | p :: b,k,a,hk,h,hf=>by
   simp at hk;refine Xo tx d l D b (k+1) _ (by omega) (.put k _ h (hf k (Y' _) (by omega))) (λj f c=>?_);rw[Maps.has_put_other (λe=>?_)]
   ·exact hf j (by omega) c
   have:=(S5 d d (Uw (B.Jr e))).2 (by omega) (by omega);omega
theorem fM(tx:Tb)(c:Plain tx)(l:List Aj)(D:Td)(b:∀k,Maps.has D (B.lit (Eh (Bw tx k)))=false)(a:List (List (List V)))(h:a.length<=100):Grown tx D (Km tx l 0 a D) :=
 Xo tx c l D a 0 D (by omega) .refl λj _ _=>b j
theorem AGz{w0 w:Tw}{k bb n:Nat}{fs:List Int}{mv v:Tv}{H:List (Dn×Ah)}{U:List Tb}{tx:Tb}(h:iK w0 w k bb n D fs mv v H U tx)(c:(Ae H H.length).cols≠[]):∃a,mv=.map (some a)/\a<w.heap.size:=by
 have f:B.Th w mv n D:=h.base.bu.2.1
 rcases f with⟨g,b⟩|⟨m,e,d⟩
 ·exfalso
  cases H with
  | nil=>exact c rfl
  | cons x H=>have:=((h.inv.Lm.2 0 (by omega)).1 x.1 rfl).1;rw[b] at this;exact absurd this (by simp[Maps.has])
 exact⟨m,e,B.Th.lt (.inr ⟨m,e,d⟩) e⟩
theorem Uu{w0 W:Tw}{j bb n d b:Nat}{fs:List Int}{x:Tv}{t:TypeId}(h:Ey w0 W j bb n D fs (.map (some d)) u)(l:W.heap[b]? = some (Zk #[x] t))(r:∀i,x≠Zi i)(f:b≠bb)(g:b≠d)(o:w0.heap.size<=b)(v:Tv):Ey w0 (W.setCell ⟨b,0,none⟩ v) j bb n D fs (.map (some d)) u:=by
 have a:=E.Ar W b 0 v;have c:B.A0 (λi=>i=b) W (W.setCell ⟨b,0,none⟩ v):=⟨a.os,a.tape,a.output,a.size,λk hk hn=>a.block k hk (λe=>hn (Yv e))⟩;refine⟨h.bu.only c (λe=>f e.symm) (λm e q=>?_) (λp y hc q=>?_),c.below h.low h.low.size (λi q=>by rw[q];exact o),h.hb,h.hm,h.er,h.nc,h.tb,h.hf⟩
 ·cases e
  exact g q.symm
 obtain⟨s,off,st⟩:=p;simp only at q;subst q;unfold World.cell? at hc;simp only[l] at hc
 rcases off with _|off
 ·cases st <;> simp at hc
  exact r _ hc
 cases st <;> simp at hc
variable{W w:Tw}{n:Nat}{u v:Tv}
attribute [local go_sem] Oper.semAt_some
theorem one_cell{b:Nat}{x:Tv}{T:TypeId}(h:W.heap[b]? = some (Zk #[x] T)):W.cell? ⟨b,0,none⟩=some x:=by simp[World.cell?,h]
theorem Dv.far{base:Nat}{w:Tw}{n:Nat}{s:Ah}{v:Int}{f:To}{n1 c1:Nat}{y:Int}{g:To}{n2 k:Nat}{tx:Tb}{r:Bool}{j:To}{i:Nat}{L:List Gx}{rows:Int}{W:Tw}{b:Nat}{cs:Array Tv}{t:TypeId}(h:Dv base w n s v f n1 c1 y g n2 k tx r j i L rows)(a:w.heap[b]? = some (Zk cs t (0,0)))(o:w.grownBy W (some b))(N:t≠65)(O:t≠129)(P:t≠72)(R:t≠116)(U:t≠3):Dv base W n s v f n1 c1 y g n2 k tx r j i L rows:=by
 have c:∀{l z m:Nat}{T:TypeId}{u:Tv}{xs:List Tv},w.ownsRow l T z u m xs->t≠T->W.ownsRow l T z u m xs:=λX V=>Mk X a V o
 refine⟨(o.block n (Ac h.box) ?_).trans h.box,?_,c h.row O,λq p=>⟨c (h.own q p).1 (by assumption),c (h.own q p).2 (by assumption)⟩,h.Vv,h.low⟩
 ·intro e
  injection e with e;subst e;rw[h.box] at a;injection a with a;injection a with _ a;exact N a.symm
 obtain⟨G,J,I,M,D,e,d⟩:=h.snap;exact⟨G,J,I,M,D,e,c d.cols P,d.files,c d.row R,λx Y=>c (d.Cl x Y) U⟩
theorem AGq{P:Program}{c:Code}{K:Act->Tw->Prop}{Q:Exit->Act->Tw->Prop}{a:Act}(h:c.wp P (Exit.then K (λ_ _ _=>False)) a w):c.wp P (Exit.then K Q) a w :=
 wp_mono h λe _ _ q=>by
  cases e with
  | normal=>exact q
  | _=>exact q.elim
theorem AKh{b:Nat}{u f a e c d j g:Tv}{t:TypeId}(h:W.heap[b]? = some (Zk #[u,f,a,e,c,d,j,g] t (0,0)))(v:Tv):(W.setCell ⟨b,6,none⟩ v).heap[b]? = some (Zk #[u,f,a,e,c,d,v,g] t (0,0)):=by have i:=As W b 6 _ _ v h;simpa using i
theorem Dv.Bz{base:Nat}{s:Ah}{v:Int}{l:To}{n1 c1:Nat}{y:Int}{o:To}{n2 k:Nat}{tx:Tb}{r:Bool}{D:To}{i:Nat}{L:List Gx}{rows:Int}{g m c:Nat}{a:List Gx}(h:Dv base w n s v l n1 c1 y o n2 k tx r D i L rows)(U:w.ownsRow base 129 6 (Zs (some ⟨g,0,none⟩) m c) m (Ci a))(R:m=a.length)(p:∀q∈a,pC 0 w q)(O:∀q∈a,pM q.1):Dv base (w.setCell ⟨n,6,none⟩ (Zs (some ⟨g,0,none⟩) m c)) n s v l n1 c1 y o n2 k tx r (some ⟨g,0,none⟩) c a rows:=by
 subst R;have P:=E.Ar w n 6 (Zs (some ⟨g,0,none⟩) a.length c);have d:∀{b z m:Nat}{T:TypeId}{u:Tv}{xs:List Tv},w.ownsRow b T z u m xs->T≠65->(w.setCell ⟨n,6,none⟩ (Zs (some ⟨g,0,none⟩) a.length c)).ownsRow b T z u m xs:=λV N=>Mk V h.box (λe=>N e.symm) P
 refine⟨AKh h.box _,?_,d U (by decide),λq f=>⟨d (p q f).1 (by decide),d (p q f).2 (by decide)⟩,O,h.low⟩;obtain⟨G,J,I,M,t,e,j⟩:=h.snap;exact⟨G,J,I,M,t,e,d j.cols (by decide),j.files,d j.row (by decide),λx W=>d (j.Cl x W) (by decide)⟩
theorem AEx(h:w.cell? ⟨n,3,none⟩=some u):(w.setCell ⟨n,6,none⟩ v).cell? ⟨n,3,none⟩=some u:=by rw[YP _ _ _ _ (by simp)];exact h
theorem Ei{n b:Nat}(a:b≠n)(h:w.cell? ⟨b,0,none⟩=some u):(w.setCell ⟨n,6,none⟩ v).cell? ⟨b,0,none⟩=some u:=by rw[World.cell?_setCell_far _ _ _ _ (Ne.symm a)];exact h
def ldA:Oper:={ dst:=some 52,op:=Op.load 61 (Operand.tmp 51),type:=61,pos := "rows.go:83",after:=#[{ on:=10,ground:=Ground.data }],guard:=none }
theorem AGS:ldA={ dst:=some 52,op:=Op.load 61 (Operand.tmp 51),type:=61,pos := "rows.go:83",after:=#[{ on:=10,ground:=Ground.data }],guard:=none }:=rfl
theorem rK(w0:Tw)(NF bb n:Nat)(D:Td)(fs:List Int)(mv fv:Tv)(H:List (Dn×Ah))(U:List Tb)(tx:Tb)(xs:List A6)(w:Tw)(h:iK w0 w NF bb n D fs mv fv H U tx)(hT:C7 D (Ae H H.length) xs):
 Zc 39 #[Zp (some ⟨bb,0,none⟩),Zt tx] w (Kd w0 w NF bb n D mv H tx True (AEz D (Ae H H.length) xs tx)):=by
 have HS:=Aa h;have HT:=Aa hT;obtain⟨eh,hX,hY,hZ,bn⟩:=Jl w (Zk #[Zp (some ⟨bb,0,none⟩)] 26) (Zk #[Zp none] 49) (Zk #[Zn] 32);have h3:=h.up bn;have a5:=Aa (Wo bb n D mv H tx xs .nil (Zp none) _ h3.base.ground (h3.et.below h3.base.low) (h3.Pw.below h3.base.low) h3.inv.Lm h3.inv.past h3.O5 h3.name h3.short hT.Lz rfl);have bg:=aN hT h.Of .nil;have d2:=h.Of.Iz;have a4:=Aa bn;have HX:=Aa (And.intro hX (And.intro hY hZ));have ad:=Aa h3;clear h hT h3 hX hY hZ bn;unfold tK at a5;generalize c8:Ae H H.length=y at *;have au:=Aa c8;clear c8;refine(callsIn_wide (n:=5)).1 ?_;refine callsIn_of_wp_marks func39 rfl trivial ?_ rfl;simp only[ntmps39,XZ,XN,WD,Nat.reduceAdd,Nat.reduceSub,XT,XU,X2,XW,WE,X6];refine wpIn_wide.2 ?_;go_wp2_with fail;generalize ((w.alloc (Zk #[Zp (some ⟨bb,0,none⟩)] 26)).alloc (Zk #[Zp none] 49)).alloc (Zk #[Zn] 32)=W3 at *;refine a5.o.mono ?_;rintro e w1⟨am,⟨hc,rfl⟩|⟨hc,dv,rfl⟩|⟨hc,hz,g,v1,a1,n1,c1,x2,a2,n2,c2,rfl,hP,hF⟩⟩
 ·have r1:=(am.block (w.heap.size+1) (by omega)).trans HX.o.2.1
  have r2:=(am.block (w.heap.size+2) (by omega)).trans HX.o.2.2;have b6:=Aa (Ap a4.o am);have hA:Zb w1 (w1.alloc (Zk #[Zp none] 49)):=Zal;have HA:=Aa hA;have db:=(hA.block _ (Ac r1)).trans r1;have bf:=(hA.block _ (Ac r2)).trans r2;have f1:=one_cell db;have f2:=one_cell bf;have g1:=Yaf _ (w.heap.size+1) 0 _ _ db;have g2:=Yaf _ (w.heap.size+2) 0 _ _ bf;clear hc am a5 hA r1 r2;go_wp2;refine⟨Zu #[Zp none,Zf 83 (Zi 6)],by simp[results,results39,go_sem,f1,f2],?_⟩;have az:=((Ap b6.o HA.o).setCell (p:=⟨w.heap.size+1,0,none⟩) (Wb _) (Zp none)).setCell (p:=⟨w.heap.size+2,0,none⟩) (by show w.heap.size<=w.heap.size+2;omega) (Zf 83 (Zi 6));exact⟨n,D,fs,mv,fv,HS.o.base.up az,by omega,B.A0.Ba az,λ_ e=>.inl e,.refl,.inr ⟨trivial,_,_,rfl⟩⟩
 ·exact absurd (dB _) dv
 have b6:=Aa am;have HC:=Aa hc;have HP:=Aa hP;have HF:=Aa hF
 obtain⟨fa,fc,rfl,_⟩:∃a c,v1=Zs a (Bo y.cols .nil xs).1.length c/\(Bo y.cols .nil xs).1.length<=c:=by obtain⟨zs,_,e2,_⟩:=hF;exact Au e2
 have hA:Zb w1 (w1.alloc (Zk #[Zp (some ⟨g,0,none⟩)] 49)):=Zal;have HA:=Aa hA;have bw:=Yac w1 (Zk #[Zp (some ⟨g,0,none⟩)] 49);have N:=Aa bw;have p0:=one_cell bw;have ck:=Aa (hP.up hA);obtain⟨y0,y1,y2,y3,y4,y5,y6,y7,yf⟩:=F2 (hP.up hA).box;have a7:=Aa (nW y (H.length:Int) a1 n1 c1 x2 a2 n2 c2 (Bo y.cols .nil xs).1.length _ (hP.up hA).snap (by omega) (by omega));have di:Hid (Zb W3 (w1.alloc (Zk #[Zp (some ⟨g,0,none⟩)] 49))):=Aa (Ap am hA);clear am hc hz hP hF a5 hA bw;generalize c3:(Bo y.cols .nil xs).1.length=m at *;have ar:=Aa c3;clear c3;go_wp2_with fail;refine a7.o.mono ?_;rintro e w6⟨q,rfl,hq,bc⟩;have HQ:=Aa hq;have M:=Aa bc;have aw:=Aa (Ap di.o bc);have p6:=Ag bc p0;clear bc hq a7 y0 y1 y2 y3 y4 y5 y6 y7 yf p0;cases q with
 | true=>have a7:=Aa (HQ.o.1 rfl);clear HQ;have r1:=(aw.o.block (w.heap.size+1) (by omega)).trans HX.o.2.1;have r2:=(aw.o.block (w.heap.size+2) (by omega)).trans HX.o.2.2;have f1:=one_cell r1;have f2:=one_cell r2;have g1:=Yaf w6 (w.heap.size+1) 0 _ _ r1;have g2:=Yaf w6 (w.heap.size+2) 0 _ _ r2;go_wp2;refine⟨Zu #[Zp (some ⟨g,0,none⟩),Zn],by simp[results,results39,go_sem,f1,f2],?_⟩;have az:Zb w ((w6.setCell ⟨w.heap.size+1,0,none⟩ (Zp (some ⟨g,0,none⟩))).setCell ⟨w.heap.size+2,0,none⟩ Zn):=((Ap a4.o aw.o).setCell (p:=⟨w.heap.size+1,0,none⟩) (Wb _) _).setCell (p:=⟨w.heap.size+2,0,none⟩) (by show w.heap.size<=w.heap.size+2;omega) _;have q1:=(ck.o.up M.o).far r1 (E.Ar w6 (w.heap.size+1) 0 (Zp (some ⟨g,0,none⟩))) (by decide) (by decide) (by decide) (by decide) (by decide);have bf:=((E.Ar w6 (w.heap.size+1) 0 (Zp (some ⟨g,0,none⟩))).block (w.heap.size+2) (Ac r2) (by simp)).trans r2;have q2:=q1.far bf (E.Ar _ (w.heap.size+2) 0 Zn) (by decide) (by decide) (by decide) (by decide) (by decide);exact⟨n,D,fs,mv,fv,HS.o.base.up az,by omega,B.A0.Ba az,λ_ e=>.inl e,.refl,.inl ⟨g,[],true,(m:Int),a1,n1,c1,x2,a2,n2,c2,none,0,rfl,by rw[au.o];exact⟨q2.box,q2.snap,E.Ai q2.row (by omega),q2.own,q2.Vv,by have:=q2.low;omega⟩,HC.o,rfl,(by rw[ar.o]),.inl ⟨(by rw[ar.o];exact a7.o),rfl,rfl⟩⟩⟩
 | false=>
   have cf:Hid (¬Tog y m):=Aa (λh=>by cases HQ.o.2 h);clear HQ;obtain⟨R,hR⟩:∃R,R=Fc y.cols xs:=⟨_,rfl⟩;have dm:R.length=m:=by rw[hR];unfold Fc;rw[XA];exact ar.o
   have cm:=Aa (X7 W3.heap.size W3.heap.size (Zs fa m fc) (Bo y.cols .nil xs).1 w6 ((HF.o.up HA.o).up M.o) (by rw[ar.o];omega));have HR:=Aa hR;clear hR;subst dm;go_wp2_with fail;refine cm.o.mono ?_;rintro e w7⟨v7,rfl,hJ,cy⟩;have bs:Sc w6.heap.size w7 v7 R:=by rw[HR.o];exact hJ.o
   have cu:=bs.slr;obtain⟨ra,rc,rfl,dw⟩:=cu.slice;have ci:=Aa bs;have aq:=Aa cy;have b9:=Aa (qS ra R.length rc w7);clear cm hJ cy bs cu;go_wp2_with fail;refine b9.o.mono ?_;rintro e w8⟨rfl,rfl⟩;clear b9;obtain⟨ek,cw,cs,bt⟩:=Kt w7 (Zk #[Zs ra R.length rc] 35) (Zk #[Zi 60] 3);have l:=Aa (Ap (Ap aw.o aq.o) bt);go_wp2_with fail;generalize (w7.alloc (Zk #[Zs ra R.length rc] 35)).alloc (Zk #[Zi 60] 3)=W9 at *
   have cn:Hid (∀r∈R,∀v∈r,Ks v/\v.2.2.size<=40):=Aa (λr hr v hv=>by rw[HR.o] at hr;obtain⟨z,hz,rfl⟩:=List.mem_map.1 hr;exact No HT.o (by rw[<-au.o];exact HS.o.Of) (by rw[<-au.o];exact Mq HS.o.inv.past (Y' _)) z hz v hv)
   obtain⟨k0,ds,ec⟩:=AGz HS.o (by rw[au.o];exact HC.o);subst ds;have ej:=aq.o.size;have ei:=aw.o.size;have af:=Aa bt;have dr:W9.cell? ⟨w7.heap.size,0,none⟩=some (Zs ra R.length rc):=one_cell cw;have dq:W9.cell? ⟨w7.heap.size+1,0,none⟩=some (Zi 60):=one_cell cs
   obtain⟨rb,ro,c7⟩:∃rb ro,0<R.length->ra=some ⟨rb,ro,none⟩:=by
    by_cases h0:0<R.length
    ·obtain⟨vs,dy,el,em⟩:=ci.o.slr
     obtain⟨rb,ro,eo,er,_,_,_⟩:=dy.cons (by omega);injection er with dk _ _;exact⟨rb,ro,λ_=>dk⟩
    exact⟨0,0,λh=>absurd h h0⟩
   have dh:=Aa (((ck.o.up M.o).up aq.o).up af.o);have b:=Aa (ad.o.base.up l.o);clear bt;refine(wpIn_wide (n:=5)).1 ?_
   refine wpIn_rangeFunc_ownG (w0:=W9) rfl (by decide) (gf:=112) (lb:=#[Zp (some ⟨w7.heap.size,0,none⟩),Zp (some ⟨w7.heap.size+1,0,none⟩)]) (by rfl) trivial (enters_of func112 (by kernel_rfl) rfl)
    (jC _ (by decide) w7.heap.size (w7.heap.size+1) rb ro R.length rc ra c7 (by omega) dw W9 (by omega) (by omega) dr dq) KpC.t ?hKb (XD _ _) (λ_=>rfl) (CmI w0 NF bb n D k0 W3.heap.size g y (H.length:Int) a1 n1 c1 x2 a2 n2 c2 tx (R.length:Int) R W9) (λc _ W=>c=.ret/\∃T x n' D' ai aj,Ey w0 W NF bb n' D' ai (.map (some k0)) aj/\n'<=n+50/\Grown tx D D'/\B.A0 (B.Own bb (.map (some k0))) w W/\W.heap[w.heap.size+1]? = some (Zk #[Zp none] 49)/\W.heap[w.heap.size+2]? = some (Zk #[Zf T x] 32)) (CmI.own (by omega) (XF ad.o.base.low.size l.o.size) (Y' _)) ?ownX ⟨n,fs,fv,none,0,[],b.o,Y' _,dh.o,rfl,(λk hk=>by cases hk),Mv.refl⟩ ?a1 ?assign ?body ?done ?stop
   case hKb=>
    intro W q o1 o2 hq eg _ _;constructor
    ·unfold World.cell?;rw[XE (by show w7.heap.size≠q;omega)]
    unfold World.cell?;rw[XE (by show w7.heap.size+1≠q;omega)]
   case ownX=>
    intro c s A C row hs hg hr;obtain⟨e,T,x,n',D',ai,aj,h1,h2,h3,h4,h5,h6⟩:=hs;have c6:∀r,row=some r->∃o:Obj,A.heap[r]? = some o/\o.isCells=false:=λr e=>(hr r e).2
    exact⟨e,T,x,n',D',ai,aj,bF h1 (by omega) (XF ad.o.base.low.size l.o.size) hg hr,h2,h3,h4.grown hg (λm e hm=>by have:=(hr m e).1;omega),vX h5 hg c6,vX h6 hg c6⟩
   case assign=>intro q x W K hK;gi_wp2;exact hK
   case stop=>rintro D1 c pre W bo _⟨rfl,T,x,n',D',ai,aj,h1,h2,h3,h4,h5,h6⟩hK;gi_wp2;have b0:=(XE (w:=W) (r:=D1) (k:=w.heap.size+1) (o:=.deferred none) (by omega)).trans h5;have b3:=(XE (w:=W) (r:=D1) (k:=w.heap.size+2) (o:=.deferred none) (by omega)).trans h6;have f1:=one_cell b0;have f2:=one_cell b3;refine⟨by simp,.inl ⟨_,_,rfl,run_takeDeferred hK,?_⟩⟩;refine⟨Zu #[Zp none,Zf T x],by simp[results,results39,go_sem,f1,f2],?_⟩;have av:=grownBy_putObj' W D1 (.deferred none);exact⟨n',D',ai,_,aj,bF (B0:=W9.heap.size) h1 (by omega) (XF ad.o.base.low.size l.o.size) av (λr e=>by cases e;exact⟨bo,_,hK,rfl⟩),h2,h4.grown av (λm e hm=>by cases e;omega),λ_ e=>.inl e,h3,.inr ⟨trivial,T,x,rfl⟩⟩
   case body=>
    rintro q pre k W⟨n',ai,aj,aa,ac,L,ae,al,G,hL,ak,d⟩ef;have ed:=k.2;have dt:k.1<n60 R.length:=by unfold n60;omega
    have a0:n60 R.length<=40:=nH bg
    have br:L.length=pre.length:=by have:=congrArg List.length hL;rw[XA,eQ,XA] at this;exact this
    have bv:=d.zG b.o.bu ((l.o.block w.heap.size (by omega)).trans HX.o.1) (by decide) (by decide) (by decide);have V:=d.zG b.o.bu ((af.o.block w1.heap.size (by have:=Ac N.o;have:=M.o.size;omega)).trans ((aq.o.block w1.heap.size (by have:=Ac N.o;have:=M.o.size;omega)).trans ((M.o.block w1.heap.size (Ac N.o)).trans N.o))) (by decide) (by decide) (by decide);have c0:=one_cell bv;have ea:=one_cell V;have b4:=(d.slO b.o.bu (ci.o.up af.o)).slr;rw[c7 (by omega)] at b4;have cz:=qF b4 rfl k;have dn:=d.only.size;have ee:=bU dt
    have a6:=Aa (bK w0 NF W3.heap.size bb n' _ ai (.map (some k0)) aj g y (H.length:Int) a1 n1 c1 x2 a2 n2 c2 tx true aa ac L (R.length:Int) (ACt rb ro R.length k) (Gg R k.1) W ae ad.o.nf ad.o.base.low.size (by have:=HS.o.Iz;omega) (uX _ _ _ _ _ HS.o.inv.Lm.1) G (by omega) (by rw[<-au.o];exact HS.o.Of) HS.o.et cz (by omega) (λr hr v hv=>by have:=cn.o r (XV (Yk hr)) v hv;unfold maxLen;omega) (λr hr v hv=>(cn.o r (XV (Yk hr)) v hv).1) HS.o.short (by omega) (lC tx HS.o.plain _ _ _ _ _ (by rw[XA];omega) (by omega) (HS.o.free _)))
    unfold AIr at a6;have HI:=Aa (And.intro ae (And.intro al (And.intro G (And.intro hL (And.intro ak d)))));have dd:=Aa (And.intro bv V);clear ae al G hL ak d bv V b4 cz;generalize eb:ACt rb ro R.length k=cv at *;gi_wp2_with fail;refine⟨trivial,(CallsIn.inRound q (callsIn_wide.2 a6.o)).mono ?_⟩;rintro e W'⟨d1,d7,co,d5,cp,ba,c4,Y,h⟩;have dj:=Y.stay k0 rfl;subst dj;have HM:=Aa Y;have dc:=Aa ba
    rcases h with⟨rfl,c5,_,rfl,rfl,d8,d9,ct⟩|⟨T,x,rfl,rfl,_⟩
    ·have bh:=CmI.step (W8:=W9) (n:=n) HI.o.2.1 HI.o.2.2.2.1 HI.o.2.2.2.2.1 HI.o.2.2.2.2.2 ba c4 Y c5 ct
     have ca:=Aa bh;have bk:=Aa (CmI.keeps (B0:=W9.heap.size) HI.o.1 (by omega) Y)
     have de:Hid (KpC w7.heap.size (w7.heap.size+1) W W'):=Aa (by have e1:=HI.o.2.2.2.2.2.zG b.o.bu cw (by decide) (by decide) (by decide);have e2:=HI.o.2.2.2.2.2.zG b.o.bu cs (by decide) (by decide) (by decide);exact⟨by rw[one_cell e1,one_cell (Y.zG HI.o.1.bu e1 (by decide) (by decide) (by decide))],by rw[one_cell e2,one_cell (Y.zG HI.o.1.bu e2 (by decide) (by decide) (by decide))]⟩)
     clear bh ba Y ct c5 a6;gi_wp2;exact⟨bk.o,de.o,ca.o⟩
    have bd:=HI.o.2.2.2.2.2.trans Y;have r1:=bd.zG b.o.bu ((l.o.block (w.heap.size+1) (by omega)).trans HX.o.2.1) (by decide) (by decide) (by decide);have r2:=bd.zG b.o.bu ((l.o.block (w.heap.size+2) (by omega)).trans HX.o.2.2) (by decide) (by decide) (by decide);have f1:=one_cell r1;have f2:=one_cell r2;have g1:=Yaf W' (w.heap.size+1) 0 _ _ r1;have g2:=Yaf W' (w.heap.size+2) 0 _ _ r2;have df:=Aa bd;have bk:=Aa (CmI.keeps (B0:=W9.heap.size) HI.o.1 (by omega) Y);have X:=Aa (And.intro r1 r2);clear ba Y a6 bd r1 r2;gi_wp2;have dp:bb<w.heap.size:=Ac HS.o.base.bu.1;have dz:=HS.o.base.low.size;have b1:=Uu dc.o X.o.1 (λi e=>by cases e) (by omega) (by omega) (by omega) (Zp none);have u:=((E.Ar W' (w.heap.size+1) 0 (Zp none)).block (w.heap.size+2) (Ac X.o.2) (by simp)).trans X.o.2;have b2:=Uu b1 u (λi e=>by cases e) (by omega) (by omega) (by omega) (Zf T x);have I:=heap_setCell_same W' (w.heap.size+1) 0 _ _ (Zp none) X.o.1;have bx:=((E.Ar (W'.setCell ⟨w.heap.size+1,0,none⟩ (Zp none)) (w.heap.size+2) 0 (Zf T x)).block (w.heap.size+1) (Ac I) (by simp)).trans I;have bz:=heap_setCell_same _ (w.heap.size+2) 0 _ _ (Zf T x) u;have hO:B.A0 (B.Own bb (.map (some k0))) w W':=(B.A0.Ba (Ap a4.o l.o)).trans df.o.only (λi hi e=>e.elim id λe=>by have:=e.1;omega);refine⟨(bk.o.trans (KeepsFrom.of_grownBy (E.Ar W' (w.heap.size+1) 0 (Zp none)) (λj e=>by cases e;omega))).trans (KeepsFrom.of_grownBy (E.Ar _ (w.heap.size+2) 0 (Zf T x)) (λj e=>by cases e;omega)),rfl,T,x,d1,_,co,cp,b2,by have:=HI.o.2.1;omega,fM tx HS.o.plain _ _ HS.o.free _ (by rw[XA];omega),?_,bx,bz⟩;exact(hO.grown (E.Ar W' (w.heap.size+1) 0 (Zp none)) (λm e hm=>by cases e;omega)).grown (E.Ar _ (w.heap.size+2) 0 (Zf T x)) (λm e hm=>by cases e;omega)
   case done=>
    rintro D1 ys W bo b5⟨n',ai,aj,aa,ac,L,ae,al,G,hL,ak,d⟩hK;have dn:=d.only.size;have bp:=E.Ac hK;have a0:n60 R.length<=40:=nH bg;have c9:ys.length=n60 R.length:=by have:=congrArg List.length b5;simpa using this
    have da:(ys.map λk=>Gg R k.1)=Gd R:=by unfold Gd;rw[<-b5];simp[AG1]
    have br:L.length=ys.length:=by have:=congrArg List.length hL;rw[XA,eQ,XA] at this;exact this
    have V:=d.zG b.o.bu ((af.o.block w1.heap.size (by have:=Ac N.o;have:=M.o.size;omega)).trans ((aq.o.block w1.heap.size (by have:=Ac N.o;have:=M.o.size;omega)).trans ((M.o.block w1.heap.size (Ac N.o)).trans N.o))) (by decide) (by decide) (by decide);have I:=d.zG b.o.bu ((l.o.block (w.heap.size+1) (by omega)).trans HX.o.2.1) (by decide) (by decide) (by decide);have u:=d.zG b.o.bu ((l.o.block (w.heap.size+2) (by omega)).trans HX.o.2.2) (by decide) (by decide) (by decide);have p0:=one_cell V;obtain⟨y0,y1,y2,y3,y4,y5,y6,y7,yf⟩:=F2 G.box;have hd:=(XD W.heap.size W).drew
    have cb:Hid (∀e∈y.files,e.1.size<=maxLen):=Aa (λe he=>by have cx:=HT.o;rw[<-cx.Lz.files] at he;obtain⟨x,hx,rfl⟩:=List.mem_map.1 he;have:=(cx.Lz.each x hx).name;unfold maxLen;omega)
    have d4:1<=y.files.length:=by
     rcases Yt y.files.length with h0|h0
     ·refine absurd (show Tog y R.length from⟨λe he=>?_,by omega⟩) cf.o
      rw[Yag.1 h0] at he;cases he
     exact h0
    have cl:=Aa (sL y (H.length:Int) a1 n1 c1 x2 a2 n2 c2 W.drew (G.snap.up hd) (by omega) cb.o);have HI:=Aa (And.intro ae (And.intro al (And.intro G (And.intro hL (And.intro ak d)))));have dd:=Aa (And.intro V (And.intro I u));have cc:=Aa hK;have bm:=Aa da;have ce:=Aa (And.intro br (And.intro c9 a0));have bj:=Aa hd
    have dg:Hid (w1.heap.size≠g):=Aa (λe=>by have:=G.box;rw[<-e,V] at this;injection this with this;injection this with _ this;exact absurd this (by decide))
    have d0:W.drew.cell? ⟨w1.heap.size,0,none⟩=some (Zp (some ⟨g,0,none⟩)):=p0;have d3:W.drew.cell? ⟨g,3,none⟩=some (Zs a2 n2 c2):=y3;have d6:W.drew.cell? ⟨g,6,none⟩=some (Zs aa L.length ac):=y6;have ag:Hid (∀W',Zb W W'->(W'.cell? ⟨w1.heap.size,0,none⟩=some (Zp (some ⟨g,0,none⟩))/\W'.cell? ⟨g,3,none⟩=some (Zs a2 n2 c2))/\W'.cell? ⟨g,6,none⟩=some (Zs aa L.length ac)):=Aa λW' hb=>⟨⟨Ag hb p0,Ag hb y3⟩,Ag hb y6⟩
    have b8:Hid (∀(ab:Tw)(qa:To)(qc:Nat),Zb W ab->ab.ownsRow W.heap.size 129 6 (Zs qa y.files.length qc) y.files.length (Ci (y.files.map mO))->Zc 71 #[Zs (some ⟨ab.heap.size,0,none⟩) 2 2] (ab.alloc (Zk #[Zs qa y.files.length qc,Zs aa L.length ac] 61)) λe w'=>∃g' c',e=Zr (Zs (some ⟨g',0,none⟩) (y.files.length+L.length) c')/\Hid (w'.ownsRow W.heap.size 129 6 (Zs (some ⟨g',0,none⟩) (y.files.length+L.length) c') (y.files.length+L.length) (Ci (y.files.map mO++L)))/\Zb W w'):=Aa (λab qa qc J ap=>by have bi:=Yac ab (Zk #[Zs qa y.files.length qc,Zs aa L.length ac] 61);have ao:Zb ab (ab.alloc (Zk #[Zs qa y.files.length qc,Zs aa L.length ac] 61)):=Zal;have hc:=uO ab.heap.size qa aa qc ac (y.files.map mO) L W.heap.size w.heap.size _ (by rw[XA];exact(Hg bi).1) (Hg bi).2 (by simp) (by rw[XA];exact Bc ap ao) (E.Ai (Bc (Bc G.row J) ao) (by omega)) (by rw[XA];omega) (by rw[XA];omega);rw[XA] at hc;refine hc.mono ?_;rintro e w'⟨g',c',rfl,h1,h2⟩;exact⟨g',c',rfl,Aa (E.Ai h1 (Ap J ao).size),Ap (Ap J ao) h2⟩)
    clear ae al G hL ak d V I u hK b5 da y0 y1 y2 y3 y4 y5 y6 y7 yf p0 br c9 a0 hd;gi_wp2;go_wp2_with fail;refine AGq ?_;rw[<-AGS];have du:=AGS
    go_region_held3 (λw'=>w'.cell? ⟨w1.heap.size,0,none⟩=some (Zp (some ⟨g,0,none⟩))/\w'.cell? ⟨g,3,none⟩=some (Zs a2 n2 c2))
     (first
       | (go_keep;done)
       | exact(ag.o _ bj.o).1
       | exact(ag.o _ J).1
       | exact(ag.o _ (Ap J (Zal))).1
       | exact(ag.o _ f).1
       | exact⟨Ei dg.o (ag.o _ f).1.1,AEx (ag.o _ f).1.2⟩
       | fail)
     (first
       | (go_at_call 72
          refine cl.o.mono ?_;rintro e ab⟨qa,qc,rfl,ap,ay⟩;have J:=Ap bj.o ay;have cg:=Aa ap;have e6:=(ag.o _ J).2;clear ap ay)
       | (go_at_call 71
          refine(b8.o _ _ _ J cg.o).mono ?_;rintro e a3⟨g',c',rfl,ch,f⟩;obtain⟨t0,t1,t2,t3,t4,t5,t6,t7,tf⟩:=F2 (HI.o.2.2.1.up f).box;have t8:=tf 6;clear t0 t1 t2 t3 t4 t5 t7 tf)
       | fail)
    all_goals
     obtain⟨ae,al,G,hL,ak,d⟩:=HI.o;have O:=G.up f;have P:=E.Ar a3 g 6 (Zs (some ⟨g',0,none⟩) (y.files.length+L.length) c');have ax:B.A0 (PA a3 W3.heap.size) a3 (a3.setCell ⟨g,6,none⟩ (Zs (some ⟨g',0,none⟩) (y.files.length+L.length) c')):=⟨P.os,P.tape,P.output,P.size,λk hk hn=>P.block k hk (λe=>hn (by cases e;exact⟨O.low,_,_,O.box,.inl rfl⟩))⟩;have b7:=Aa (Kv (ae.up f) ad.o.nf ad.o.base.low.size ax);have an:=Aa ((d.trans (Mv.below f)).trans (Mv.ACV ax))
     have cj:=Aa (O.Bz (E.Ai ch.o (by omega)) (by simp) (λq hq=>by
      rcases List.mem_append.1 hq with hq|hq
      ·obtain⟨e,_,rfl⟩:=List.mem_map.1 hq
       exact⟨XL _ _ _ _,XL _ _ _ _⟩
      ·exact O.own q hq) (λq hq=>by
      rcases List.mem_append.1 hq with hq|hq
      ·obtain⟨e,he,rfl⟩:=List.mem_map.1 hq
       exact⟨cb.o e he,XB _,λx hx=>by cases hx⟩
      exact O.Vv q hq))
     have I:=an.o.zG b.o.bu ((l.o.block (w.heap.size+1) (by omega)).trans HX.o.2.1) (by decide) (by decide) (by decide);have u:=an.o.zG b.o.bu ((l.o.block (w.heap.size+2) (by omega)).trans HX.o.2.2) (by decide) (by decide) (by decide);have V:=an.o.zG b.o.bu ((af.o.block w1.heap.size (by have:=Ac N.o;have:=M.o.size;omega)).trans ((aq.o.block w1.heap.size (by have:=Ac N.o;have:=M.o.size;omega)).trans ((M.o.block w1.heap.size (Ac N.o)).trans N.o))) (by decide) (by decide) (by decide)
     have cr:=(P.block D1 (Ya bp f.size) (λe=>by
      cases e;have:=(f.block _ bp).trans cc.o;rw[O.box] at this;cases this)).trans ((f.block D1 bp).trans cc.o)
     have bl:=Aa (And.intro al (And.intro hL ak));have X:=Aa (And.intro I u);have cd:=Aa cr;clear ae al G hL ak d O ax P t6 t8 du cl b8 ag bj;generalize a3.setCell ⟨g,6,none⟩ (Zs (some ⟨g',0,none⟩) (y.files.length+L.length) c')=ah at *;have f1:=one_cell I;have f2:=one_cell u;have en:=one_cell V;have g1:=Yaf ah (w.heap.size+1) 0 _ _ I;have g2:=Yaf ah (w.heap.size+2) 0 _ _ u;clear I u V cr;go_wp2;have dp:bb<w.heap.size:=Ac HS.o.base.bu.1;have dz:=HS.o.base.low.size;have b1:=Uu b7.o X.o.1 (λi e=>by cases e) (by omega) (by omega) (by omega) (Zp (some ⟨g,0,none⟩));have a8:=E.Ar ah (w.heap.size+1) 0 (Zp (some ⟨g,0,none⟩));have u:=(a8.block (w.heap.size+2) (Ac X.o.2) (by simp)).trans X.o.2;have b2:=Uu b1 u (λi e=>by cases e) (by omega) (by omega) (by omega) Zn;have I:=heap_setCell_same ah (w.heap.size+1) 0 _ _ (Zp (some ⟨g,0,none⟩)) X.o.1;have a9:=E.Ar (ah.setCell ⟨w.heap.size+1,0,none⟩ (Zp (some ⟨g,0,none⟩))) (w.heap.size+2) 0 Zn;have bx:=(a9.block (w.heap.size+1) (Ac I) (by simp)).trans I;have bz:=heap_setCell_same _ (w.heap.size+2) 0 _ _ Zn u;have q1:=cj.o.far X.o.1 a8 (by decide) (by decide) (by decide) (by decide) (by decide);have q2:=q1.far u a9 (by decide) (by decide) (by decide) (by decide) (by decide);have cq:=(a8.block D1 (E.Ac cd.o) (λe=>by have:=Yv e;omega)).trans cd.o;have bq:=(a9.block D1 (E.Ac cq) (λe=>by have:=Yv e;omega)).trans cq;have hO:B.A0 (B.Own bb (.map (some k0))) w ah:=(B.A0.Ba (Ap a4.o l.o)).trans an.o.only (λi hi e=>e.elim id λe=>by have:=e.1;omega);have dl:=(hO.grown a8 (λm e hm=>by cases e;omega)).grown a9 (λm e hm=>by cases e;omega);have b0:=(XE (r:=D1) (k:=w.heap.size+1) (o:=.deferred none) (by omega)).trans bx;have b3:=(XE (r:=D1) (k:=w.heap.size+2) (o:=.deferred none) (by omega)).trans bz;have k1:=one_cell b0;have k2:=one_cell b3;refine⟨by simp,.inl ⟨_,_,rfl,run_takeDeferred bq,?_⟩⟩;refine⟨Zu #[Zp (some ⟨g,0,none⟩),Zn],by simp[results,results39,go_sem,k1,k2],?_⟩;have av:=grownBy_putObj' ((ah.setCell ⟨w.heap.size+1,0,none⟩ (Zp (some ⟨g,0,none⟩))).setCell ⟨w.heap.size+2,0,none⟩ Zn) D1 (.deferred none);have dx:∀r,some D1=some r->∃o:Obj,((ah.setCell ⟨w.heap.size+1,0,none⟩ (Zp (some ⟨g,0,none⟩))).setCell ⟨w.heap.size+2,0,none⟩ Zn).heap[r]? = some o/\o.isCells=false:=λr e=>by cases e;exact⟨_,bq,rfl⟩
     have q3:=q2.no av dx;refine⟨_,_,_,_,_,bF (B0:=W9.heap.size) b2 (by omega) (XF ad.o.base.low.size l.o.size) av (λr e=>by cases e;exact⟨bo,_,bq,rfl⟩),?_,dl.grown av (λm e hm=>by cases e;omega),λ_ e=>.inl e,?_,.inl ⟨g,_,true,(R.length:Int),a1,n1,c1,x2,a2,n2,c2,_,_,rfl,by rw[au.o];exact⟨q3.box,q3.snap,E.Ai q3.row (by omega),q3.own,q3.Vv,by have:=q3.low;omega⟩,HC.o,rfl,by rw[ar.o],.inr ⟨by rw[ar.o];exact cf.o,?_,?_,?_⟩⟩⟩
     ·have:=bl.o.1
      have:=ce.o;omega
     ·exact fM tx HS.o.plain _ _ HS.o.free _ (by rw[XA];have:=ce.o;omega)
     ·rw[<-HR.o,<-bm.o]
      intro p hp;obtain⟨k,hk,rfl⟩:=List.mem_map.1 hp;exact bl.o.2.2 k hk
     ·rw[<-HR.o,<-bm.o]
     rw[<-HR.o,<-bm.o,XH,bl.o.2.1,List.map_map];rfl
end F
namespace S
theorem AE9(b:Nat)(c q r:Int)(Bl d:Tb)(w:Tw)(hc:1<=c/\c<=6)(ht:d.size<=100)(hr:E.A9 q r d=true)(h:w.heap[b]? = some (Zk #[Zi c,Zt Bl,Zi q,Zi r,Zt d] 75)):
 Zc 10 #[Zs (some ⟨b,0,none⟩) 1 1] w λe O=>∃v,e=Zr v/\Gy O (.node 0 0 ⟨c,Bl,q,r,d⟩ .nil .nil) v/\Zb w O:=by
 obtain⟨L,z,G,I,J⟩:=info_parts Ip;have M:Hid (prog.info? 47=some L/\L.zero=some (Zp none)/\L.size=1/\L.bytes=8):=⟨z,G,I,J⟩
 have n:b<w.heap.size:=by
  rcases Yc b w.heap.size with U|U
  ·exact U
  rw[Array.getElem?_eq_none U] at h;cases h
 have y:Hid (∀i,w.cell? ⟨b,i,none⟩=#[Value.int .i64 c,Zt Bl,Zi q,Zi r,Zt d][i]?):=Ab (cell_of_heap h);clear z G I J h;have al:(d.size:Int)<=100:=by omega
 obtain⟨h1,h6⟩:=hc;have ae:(c==11)=false:=by simp;omega
 have b9:(c==9)=false:=by simp;omega
 have ad:(c==10)=false:=by simp;omega
 have b7:(c==7)=false:=by simp;omega
 have b8:(c==8)=false:=by simp;omega
 have ab:d.size<=maxLen:=by unfold maxLen;omega
 go_enter func10,ntmps10;go_wp2
 go_loopw [3,4] (λo i wr=>∃(k:Nat)(vs:List Tv)(N:List CT),k<=1/\i=Zi k/\Hid (Stack w wr k o k vs N/\(k=1->N=[.node 0 0 ⟨c,Bl,q,r,d⟩ .nil .nil]))) (λ_ i _=>1-(intOf i).toNat)
 case atStart=>exact⟨0,[],[],by omega,rfl,⟨⟨XL _ _ _ _,rfl,λj T u h=>by simp at h,by simp,XD _ _⟩,λe=>by cases e⟩⟩
 case round=>
  obtain⟨k,vs,N,hk,rfl,l⟩:=hrel;obtain⟨ao,cp,rfl,ac,aa⟩:=Ak l.o.1.own;unfold maxLen at aa
  rcases Yt k with rfl|aj
  ·have x:=l.o.1.xL
   have c0:wr.cell? ⟨b,0,none⟩=some (Zi c):=(x.cell (p:=⟨b,0,none⟩) n).trans (y.o 0);have c1:wr.cell? ⟨b,1,none⟩=some (Zt Bl):=(x.cell (p:=⟨b,1,none⟩) n).trans (y.o 1);have c2:wr.cell? ⟨b,2,none⟩=some (Zi q):=(x.cell (p:=⟨b,2,none⟩) n).trans (y.o 2);have c3:wr.cell? ⟨b,3,none⟩=some (Zi r):=(x.cell (p:=⟨b,3,none⟩) n).trans (y.o 3);have c4:wr.cell? ⟨b,4,none⟩=some (Zt d):=(x.cell (p:=⟨b,4,none⟩) n).trans (y.o 4);have m:N=[]:=Yag.1 l.o.1.len;subst m;clear x;have P:Hid (∀X,Zb wr (wr.alloc X)):=λX=>Zal
   have HR:Hid (∀W,Zc 24 #[Zg #[Zi q,Zi r,Zt d]] W λe O=>e=Zr (Zo (E.A9 q r d))/\Zb W O):=λW=>E.Ln q r d W ab
   rw[hr] at HR;go_wp2_with fail;refine(HR.o _).mono ?_;rintro e f⟨rfl,a⟩;have x0:f.cell? ⟨wr.heap.size,0,none⟩=some (Zi c):=(a.cell (p:=⟨wr.heap.size,0,none⟩) (by simp)).trans (by go_simp);have x1:f.cell? ⟨wr.heap.size,1,none⟩=some (Zt Bl):=(a.cell (p:=⟨wr.heap.size,1,none⟩) (by simp)).trans (by go_simp);have x2:f.cell? ⟨wr.heap.size,2,none⟩=some (Zi q):=(a.cell (p:=⟨wr.heap.size,2,none⟩) (by simp)).trans (by go_simp);have x3:f.cell? ⟨wr.heap.size,3,none⟩=some (Zi r):=(a.cell (p:=⟨wr.heap.size,3,none⟩) (by simp)).trans (by go_simp);have x4:f.cell? ⟨wr.heap.size,4,none⟩=some (Zt d):=(a.cell (p:=⟨wr.heap.size,4,none⟩) (by simp)).trans (by go_simp);have R:Hid (Zb wr f):=Below.up (P.o _) a;clear a;go_wp2_with (at_builtin;refine wpList_append_lies _ rfl (.tmp 104) (.tmp 113) 90 rfl w.heap.size 47 L (.pointer none) 1 8 underlying90 M.o.1 M.o.2.1 M.o.2.2.1 M.o.2.2.2 rfl (by omega) (.slice ao 0 cp) 0 vs rfl (Ad l.o.1.own (Below.up R.o (M4 f _ _))) ⟨f.heap.size+1,0,none⟩ 1 1 [.pointer (some ⟨f.heap.size,0,none⟩)] rfl rfl (XP (cs:=#[.pointer (some ⟨f.heap.size,0,none⟩)]) (t:=47) (fr:=(0,0)) (bG f _ _ _ (by simp))) (by simp[Value.oneCell']) (by omega) (by unfold maxLen;omega) (by omega) (XF l.o.1.xL.size (Below.up R.o (M4 f _ _)).size) (f.heap.size+1+1) (by simp) ?_;intro gg af w2 D s ag ak)
   go_roundw
   case rel=>exact⟨1,_,_,by omega,by go_num,Ab ⟨l.o.1.leaf (by omega) R.o (by simp) s D,λ_=>rfl⟩⟩
   case measure=>simp[intOf]
  obtain rfl:k=1:=by omega
  obtain⟨g,rfl,ah,ai⟩:=l.o.1.Hc (by omega);obtain⟨u,T,hu,m,V,_⟩:=l.o.1.last (j:=0) (by omega);rw[l.o.2 rfl] at m;have Y:T=.node 0 0 ⟨c,Bl,q,r,d⟩ .nil .nil:=by simpa using m.symm
  subst Y;obtain⟨pu,rfl⟩:=V.ptr;have cu:=l.o.1.cells hu;have HT:=Ab V;have P:=Ab l.o.1.xL;clear V hu m l;go_wp2
  go_loopw [7,8] (λcv iv w2=>cv=Zp pu/\iv=Zi 1/\w2=wr) (λ_ _ _=>0)
  case atStart=>exact⟨rfl,rfl,rfl⟩
  case round=>obtain⟨rfl,rfl,rfl⟩:=hrel;go_wp2;go_ret;exact⟨_,rfl,HT.o,P.o⟩
end S
namespace F
variable{W:Tw}{T:TypeId}{g:Nat}
theorem Qf:Mw:=rK
theorem Sy(n:Int)(w:Tw):
 Zc 19 #[Zi n] w λe a=>e=Zr (Zg #[Zi 1,Zi n,Zt ⟨#[]⟩])/\Zb w a:=by
 go_enter func19,ntmps19;go_wp2;exact bodyPost_ret (v:=Zg #[Zi 1,Zi n,Zt ⟨#[]⟩]) (by simp[results,results19,go_sem]) rfl ⟨rfl,Zal⟩
theorem AAo{α:Type}{k:Nat}{en:α->List Tv}{b:Nat}{cs:Array Tv}{x:α}(h:W.heap[b]? = some (Zk cs T (0,0)))(a:en x=cs.toList):F7 k en W (Zs (some ⟨b,0,none⟩) 1 1) [x]:=by
 refine⟨some ⟨b,0,none⟩,1,rfl,Y' _,λ_=>⟨b,0,rfl,Ac h,λj y hj i u hu=>?_⟩⟩
 have c:j=0:=by
  rcases Yt j with d|d
  ·exact d
  rw[Yb (by simp;omega)] at hj;cases hj
 subst c;have e:x=y:=by simpa using hj
 subst e;rw[show 0+0*k+i=i by omega,S.cell_of_heap h i];rw[a] at hu;simpa using hu
theorem AH9{α:Type}{en:α->List Tv}{b:Nat}{f a:Tv}{x y:α}(h:W.heap[b]? = some (Zk #[f,a] T (0,0)))(l:en x=[f])(m:en y=[a]):F7 1 en W (Zs (some ⟨b,0,none⟩) 2 2) [x,y]:=by
 refine⟨some ⟨b,0,none⟩,2,rfl,Y' _,λ_=>⟨b,0,rfl,Ac h,λj z hj i u hu=>?_⟩⟩
 have n:j<2:=by
  rcases Yc j 2 with c|c
  ·exact c
  rw[Yb (by simp;omega)] at hj;cases hj
 have d:∀v,en z=[v]->i=0/\v=u:=λv e=>by
  rw[e] at hu
  rcases Yt i with c|c
  ·subst c;exact⟨rfl,by simpa using hu⟩
  rw[Yb (by simp;omega)] at hu;cases hu
 rcases Yt j with g|o
 ·subst g
  have k:x=z:=by simpa using hj
  subst k;obtain⟨rfl,rfl⟩:=d _ l;rw[S.cell_of_heap h];rfl
 obtain rfl:j=1:=by omega
 have k:y=z:=by simpa using hj
 subst k;obtain⟨rfl,rfl⟩:=d _ m;rw[S.cell_of_heap h];rfl
theorem AKC{x y:Nat}(n:W.heap[g]? = some (Zk #[Zs (some ⟨x,0,none⟩) 1 1,Zs (some ⟨y,0,none⟩) 1 1] 58 (0,0)))(q:W.heap[x]? = some (Zk #[Zi 1,Zi 1,Zt ⟨#[]⟩] 57 (0,0)))(t:W.heap[y]? = some (Zk #[Zi 1,Zi 2,Zt ⟨#[]⟩] 57 (0,0))):K8 W dU none 0 (some ⟨g,0,none⟩) 2 none 0 0 none 0:=by
 refine⟨.inl ⟨⟨_,_,rfl⟩,rfl⟩,(λc f=>by cases f),⟨[Zs (some ⟨x,0,none⟩) 1 1,Zs (some ⟨y,0,none⟩) 1 1],AH9 n rfl rfl,rfl,λj v r hv hr=>?_⟩,λr hr v hv=>?_,⟨_,_,rfl,XB _,λh=>absurd rfl h⟩,XB _,(λs hs=>by cases hs),λV hV=>?_,XB _,⟨(λc f=>by cases f),XB _,AEL,by decide,λs hs=>by cases hs⟩⟩
 ·have o:j<2:=by
   rcases Yc j 2 with k|k
   ·exact k
   rw[Yb (by simp;omega)] at hv;cases hv
  rcases Yt j with i|p
  ·subst i
   have b:Value.slice (some ⟨x,0,none⟩) 1 1=v:=by simpa using hv
   have d:[(1,1,⟨#[]⟩)]=r:=by simpa[dU,R2] using hr
   subst b d;exact mW (AAo q rfl)
  obtain rfl:j=1:=by omega
  have b:Value.slice (some ⟨y,0,none⟩) 1 1=v:=by simpa using hv
  have d:[(1,2,⟨#[]⟩)]=r:=by simpa[dU,R2] using hr
  subst b d;exact mW (AAo t rfl)
 ·have a:r∈R2:=hr
  simp only[R2,XQ,XM,or_false] at a
  rcases a with rfl|rfl <;> (simp at hv;subst hv;decide)
 refine(S.V8 none 0 V).mono ?_;rintro e u⟨v,T,rfl,l,_,m⟩;exact⟨v,T,rfl,l,trivial,m⟩
theorem AJp(b:W.heap[g]? = some (Zk #[Zi 1,Zt ⟨#[97]⟩,Zi 1,Zi 1,Zt ⟨#[]⟩] 75 (0,0))):K8 W dV none 0 none 0 (some ⟨g,0,none⟩) 1 1 none 0:=by refine⟨.inl ⟨⟨_,_,rfl⟩,rfl⟩,(λc a=>by cases a),⟨[],⟨_,_,rfl,XB _,λh=>absurd rfl h⟩,rfl,λj x r hx _=>by simp at hx⟩,(λr hr=>by cases hr),⟨_,_,rfl,XB _,λh=>absurd rfl h⟩,XB _,(λs hs=>by cases hs),λV hV=>?_,XB _,⟨(λc a=>by cases a),XB _,(λr hr=>by cases hr),XB _,λs hs=>by cases hs⟩⟩;refine(S.AE9 g 1 1 1 ⟨#[97]⟩ ⟨#[]⟩ V ⟨by decide,by decide⟩ (by decide) (by kernel_rfl) ((hV.block _ (Ac b)).trans b)).mono ?_;rintro e i⟨v,rfl,d,f⟩;exact⟨v,tV,rfl,d,rfl,f⟩
theorem AJi:Plain iL:=λx a=>by simp[iL] at a;subst a;decide
theorem AJh:Plain Pz:=λx a=>by simp[Pz] at a;subst a;decide
theorem AGr:Plain txV:=λx a=>by simp[txV] at a;subst a;decide
theorem AKG{i k x y:Int}{s t:Tb}{mu:Bool}(h:W.heap[g]? = some (Zk #[Zi i,Zt s,Zi k,Zo mu,Zi x,Zi y,Zt t] 72 (0,0))):bH W (Zs (some ⟨g,0,none⟩) 1 1) [(i,s,k,mu,x,y,t)]:=by
 refine .inr ⟨g,0,1,rfl,Y' _,Ac h,λj c n v d=>?_⟩;have a:j=0:=by have:j<1:=c;omega
 subst a;rw[show 0+0*7+n=n by omega,S.cell_of_heap h n];have b:[Value.int .i64 i,Zt s,Zi k,Zo mu,Zi x,Zi y,Zt t][n]? = some v:=d;simpa using b
theorem AJ7(h:W.heap[g]? = some (Zk #[Zi 0,Zt ⟨#[97]⟩,Zi 1,Zo false,Zi 0,Zi 0,Zt ⟨#[]⟩] 72 (0,0))):K8 W dT (some ⟨g,0,none⟩) 1 none 0 none 0 0 none 0:=by
 refine⟨AKG h,λc a=>?_,⟨[],⟨_,_,rfl,XB _,λh=>absurd rfl h⟩,rfl,λj x r hx _=>by simp at hx⟩,(λr hr=>by cases hr),⟨_,_,rfl,XB _,λh=>absurd rfl h⟩,XB _,(λs hs=>by cases hs),λV hV=>?_,XB _,⟨λc a=>?_,by decide,(λr hr=>by cases hr),XB _,λs hs=>by cases hs⟩⟩
 ·have:c=(0,⟨#[97]⟩,1,false,0,0,⟨#[]⟩):=by simpa[dT] using a
  subst this;exact⟨by decide,by decide⟩
 ·refine(S.V8 none 0 V).mono ?_
  rintro e f⟨v,T,rfl,b,_,d⟩;exact⟨v,T,rfl,b,trivial,d⟩
 have:c=(0,⟨#[97]⟩,1,false,0,0,⟨#[]⟩):=by simpa[dT] using a
 subst this;exact⟨⟨by decide,by decide⟩,⟨by decide,by decide⟩,⟨by decide,by decide⟩⟩
theorem AAS(w:Tw)(he:Ik w)(hw:Lw w)(ht:Jp w)(hg:B.Ob w)(ho:S.Lp w):Zc 5 #[] w λe w'=>e=Zr (Zo true)/\Zb w w':=by
 have z:=Aa ((uF w he hw ht).up ((XD _ _).alloc (Y' _) (Zk #[Zi 0,Zt ⟨#[97]⟩,Zi 1,Zo false,Zi 0,Zi 0,Zt ⟨#[]⟩] 72)));have ag:=Yac (w.alloc (Zk #[.map none,Zs none 0 0] 30)) (Zk #[Zi 0,Zt ⟨#[97]⟩,Zi 1,Zo false,Zi 0,Zi 0,Zt ⟨#[]⟩] 72);have D:Hid (Zc 6 #[Zp (some ⟨w.heap.size,0,none⟩),Zg #[Zi 0,Zs (some ⟨w.heap.size+1,0,none⟩) 1 1,Zs none 0 0,Zs none 0 0,Zs none 0 0,Zi 0,Zt ⟨#[]⟩,Zt ⟨#[]⟩],Zt ⟨#[116]⟩] _ _):=Aa (V1 Qf w 0 w.heap.size 0 (.map []) [] _ _ [] [] iL [] dT (some ⟨w.heap.size+1,0,none⟩) 1 none 0 none 0 0 none 0 _ ⟨z.o,Inv.nil,hg,ho,XB _,by decide,by decide,by kernel_rfl,by decide,AJi,λh=>by cases h⟩ (by decide) (vA _) (AJ7 (by simpa using ag)));have u:=Aa (And.intro hg ho);clear he hw ht hg ho ag;go_enter func5,ntmps5;go_wp2_with fail;refine D.o.mono ?_;intro e w2 ah;obtain⟨rfl,n2,D2,M,an,O,R,a1,au,_,U⟩:=AJW ah;have H2:=Aa (And.intro R U);clear ah R au U D z;go_wp2_with fail;refine(Sy 1 w2).mono ?_;rintro e w3⟨rfl,ad⟩;have ak:=Yac w3 (Zk #[Zi 1,Zi 1,Zt ⟨#[]⟩] 57);have x:=Aa (Ap ad ((XD _ w3).alloc (Y' _) (Zk #[Zi 1,Zi 1,Zt ⟨#[]⟩] 57)));have o:=Aa ak;clear ad ak;go_wp2_with fail;refine(Sy 2 _).mono ?_;rintro e v⟨rfl,q⟩;obtain⟨ax,Y,X,s⟩:=Kt v (Zk #[Zi 1,Zi 2,Zt ⟨#[]⟩] 57) (Zk #[Zs (some ⟨w3.heap.size,0,none⟩) 1 1,Zs (some ⟨v.heap.size,0,none⟩) 1 1] 58);have L:=Aa ((Ap q s).block _ (Ac o.o) |>.trans o.o);have ap:=Aa (Ap x.o (Ap q s));have n:Hid (iK w ((v.alloc (Zk #[Zi 1,Zi 2,Zt ⟨#[]⟩] 57)).alloc (Zk #[Zs (some ⟨w3.heap.size,0,none⟩) 1 1,Zs (some ⟨v.heap.size,0,none⟩) 1 1] 58)) 0 w.heap.size n2 D2 M an O H1 [iL] Pz):=Aa ⟨H2.o.1.up ap.o,H2.o.2,u.o.1,u.o.2,XB _,by omega,by decide,by kernel_rfl,by decide,AJh,λh=>by simp[Pz,iL] at h⟩;have G:Hid (Zc 6 #[Zp (some ⟨w.heap.size,0,none⟩),Zg #[Zi 2,Zs none 0 0,Zs (some ⟨v.heap.size+1,0,none⟩) 2 2,Zs none 0 0,Zs none 0 0,Zi 0,Zt ⟨#[]⟩,Zt ⟨#[]⟩],Zt ⟨#[117]⟩] _ _):=Aa (V1 Qf w 0 w.heap.size n2 D2 M an O H1 [iL] Pz [] dU none 0 (some ⟨v.heap.size+1,0,none⟩) 2 none 0 0 none 0 _ n.o (by decide) (AKO _) (AKC X L.o Y));clear ax Y X s q o L x;go_wp2_with fail;refine G.o.mono ?_;intro e w6 ai;obtain⟨rfl,n6,D6,N,ao,P,T,a2,av,_,V,ab⟩:=AI4 (bJ H2.o.1) H2.o.2 (n.o.free 0) ai;have t:=Aa (And.intro T (And.intro V ab));clear ai T av V ab G n H2;go_wp2_with fail;refine(Sy 1 w6).mono ?_;rintro e w7⟨rfl,ae⟩;have al:=Yac w7 (Zk #[Zi 1,Zt ⟨#[97]⟩,Zi 1,Zi 1,Zt ⟨#[]⟩] 75);have y:=Aa (Ap ae ((XD _ w7).alloc (Y' _) (Zk #[Zi 1,Zt ⟨#[97]⟩,Zi 1,Zi 1,Zt ⟨#[]⟩] 75)));have J:Hid (iK w (w7.alloc (Zk #[Zi 1,Zt ⟨#[97]⟩,Zi 1,Zi 1,Zt ⟨#[]⟩] 75)) 0 w.heap.size n6 D6 N ao P H2 [Pz,iL] txV):=Aa ⟨t.o.1.up y.o,t.o.2.1,u.o.1,u.o.2,XB _,by omega,by decide,by kernel_rfl,by decide,AGr,λh=>by simp[Pz,iL,txV] at h⟩;have I:Hid (Zc 6 #[Zp (some ⟨w.heap.size,0,none⟩),Zg #[Zi 3,Zs none 0 0,Zs none 0 0,Zs (some ⟨w7.heap.size,0,none⟩) 1 1,Zs none 0 0,Zi 0,Zt ⟨#[]⟩,Zt ⟨#[]⟩],Zt ⟨#[118]⟩] _ _):=Aa (V1 Qf w 0 w.heap.size n6 D6 N ao P H2 [Pz,iL] txV xU dV none 0 none 0 (some ⟨w7.heap.size,0,none⟩) 1 1 none 0 _ J.o (by decide) t.o.2.2 (AJp al));clear al ae;go_wp2_with fail;refine I.o.mono ?_;intro e w8 aj;obtain⟨rfl,n8,D8,az,ay,a0,c,a3,aw,_,p,ac⟩:=AI9 t.o.2.1 t.o.2.2 aj;have m:=Aa (ABH w.heap.size n8 D8 ay H3 (-1) 3 xV w8 c.ground (u.o.1.below c.low) (u.o.2.below c.low) p.Lm p.past (by decide) (by decide) (.inl ⟨by decide,rfl⟩) ac.Lz);have H8:=Aa c.low;clear aj c aw p ac I J t y;rw[show (Ae H3 3).cols=[cA] from rfl,AKF] at m;go_wp2_with fail;refine m.o.mono ?_;rintro e w9⟨v9,rfl,aa,af⟩;obtain⟨rb,ro,rc,xv,er,a4,a,ar⟩:=aa.slr.at (k:=0) (r:=[(1,2,⟨#[]⟩)]) rfl;obtain⟨xa,xc,rfl,a6,am⟩:=ar;obtain⟨i,j,rfl,a5,b⟩:=am (by simp);obtain⟨y0,y1,y2⟩:=b 0 _ rfl;simp only[Nat.zero_mul,XS] at a y0 y1 y2;subst er;have f:Hid (∀W,Zb w9 W->W.cell? ⟨rb,ro,none⟩=some (Zs (some ⟨i,j,none⟩) 1 xc)/\W.cell? ⟨i,j,none⟩=some (Zi 1)/\W.cell? ⟨i,j+1,none⟩=some (Zi 2)/\W.cell? ⟨i,j+2,none⟩=some (Zt ⟨#[]⟩)):=Aa λW hb=>⟨Ag hb a,Ag hb y0,Ag hb y1,Ag hb y2⟩
 have l:=Aa ((XD w9.heap.size w9).drew);have aq:=Aa (Ap H8.o af);clear aa am b af m a y0 y1 y2;obtain⟨a,y0,y1,y2⟩:=f.o _ l.o;go_wp2_with fail
 go_region_held3 (λW=>W.cell? ⟨rb,ro,none⟩=some (Zs (some ⟨i,j,none⟩) 1 xc)/\W.cell? ⟨i,j,none⟩=some (Zi 1)/\W.cell? ⟨i,j+1,none⟩=some (Zi 2)/\W.cell? ⟨i,j+2,none⟩=some (Zt ⟨#[]⟩))
  (first
    | exact f.o _ l.o
    | exact f.o _ g
    | (go_keep;done)
    | fail)
  (first
    | (go_at_call 19
       refine(Sy 2 _).mono ?_;rintro e a7⟨rfl,d⟩;have g:=Ap l.o d;clear d)
    | fail)
 all_goals
  clear a y0 y1 y2 f;go_wp2;go_ret;exact⟨rfl,Ap aq.o g⟩
end F
namespace tableDeletes
theorem k10:(Rows.tableDeletesRow.inPlace==prog.inPlace 3)=true:=by kernel_rfl
theorem k11:(Rows.tableDeletesRow.unfollowed==prog.unfollowed 3)=true:=by kernel_rfl
theorem k12:(Rows.tableDeletesRow.recurses==prog.recurses 3)=true:=by kernel_rfl
theorem k13:(Rows.tableDeletesRow.named==prog.varsNamed 3)=true:=by kernel_rfl
theorem closed:joinedFacts prog 3 f3 (OpenSpec.ofChange Rows.tableDeletesSpec).bare Rows.tableDeletesRow=true:=by
 unfold joinedFacts;rw[k10,k11,k12,k13]
 kernel_rfl
variable{W:Tw}{H:Type}{P:Program}
theorem own:ownKnob prog.godebug=none:=by kernel_rfl
theorem laidOut:laidOutB prog=true:=by kernel_rfl
theorem gNc:prog.globalNamed "millpond/schema.notColumns"=some 0:=by kernel_rfl
theorem AIH:(prog.globals[0]?).map (·.type)=some 288:=by kernel_rfl
theorem gPw:prog.globalNamed "internal/strconv.uint64pow10"=some 2:=by kernel_rfl
theorem AG3:(prog.globals[2]?).map (·.type)=some 337:=by kernel_rfl
theorem AIt:prog.cellsOf 288=5:=by kernel_rfl
theorem AIF:prog.cellsOf 337=20:=by kernel_rfl
theorem AJX:prog.cellsOf 254=1:=by kernel_rfl
def Pg:List (String×DataW Unit):=[("math/bits.deBruijn32tab",Rows.laid_math_bits_deBruijn32tab),("math/bits.deBruijn64tab",Rows.laid_math_bits_deBruijn64tab),("internal/strconv.uint64pow10",Rows.laid_internal_strconv_uint64pow10),("unicode/utf8.acceptRanges",Rows.laid_unicode_utf8_acceptRanges),("strconv.ErrRange",Rows.laid_strconv_ErrRange),("strconv.ErrSyntax",Rows.laid_strconv_ErrSyntax),("millpond/schema.notColumns",Rows.laid_millpond_schema_notColumns),("millpond/stats.opposites",Rows.laid_millpond_stats_opposites),("unicode/utf8.first",Rows.laid_unicode_utf8_first)]
theorem gEt:prog.globalNamed "errors.errorType"=some 1:=by kernel_rfl
theorem rt:(prog.cutTypes.find? (·.1 == "internal/reflectlite.rtype")).map (·.2)=some 366:=by kernel_rfl
theorem AKK:prog.types.size+100=544:=by kernel_rfl
theorem AJB:((List.range (544-100)).filter λt=>prog.rowNamed t [101,114,114,111,114])=[32]:=by kernel_rfl
theorem handle(h:laidMetH prog Rows.tableDeletesRow.laid W):B.Ob W:=by
 have f:laidMet prog Pg W/\handlesMet prog [("errors.errorType",Rows.laid_errors_errorType)] W:=h;obtain⟨name,u,i,c,d,j,e,a⟩:=f.2 _ (List.mem_singleton.2 rfl);have en:name=[101,114,114,111,114]:=(Yv c).symm;subst en;obtain rfl:=Yv (rt.symm.trans d);have b:i∈(List.range (544-100)).filter λt=>prog.rowNamed t [101,114,114,111,114]:=List.mem_filter.2 ⟨List.mem_range.2 (by have:=AKK;omega),e⟩
 rw[AJB] at b;obtain rfl:=List.mem_singleton.1 b;have g:typeHandle prog 32=Zp (some ⟨11,32,none⟩):=by kernel_rfl
 rw[g] at a;exact XO gEt a 0
theorem jD{enc:TypeId×Tv->H}{w:Tw}{base:Nat}{G:Nat->Bool}{held:Bool}{fuel:Nat}{t e:TypeId}{n:Nat}{cs:List Tv}{zs:List (List UInt8)}{p:List MemPlace}(v:P.underlying t=some (.array n e))(q:P.underlying e=some .string)(d:P.cellsOf e=1)(f:P.cellsOf t=n)(h:DataW.trod enc P w base G held fuel t cs=some (DataW.agg (zs.map λz=>DataW.lit (Lit.string z)),p)):∀(i:Nat)(z:List UInt8),zs[i]? = some z->cs[i]? = some (Value.string ⟨z.toArray⟩):=by
 cases fuel with
 | zero=>simp[DataW.trod] at h
 | succ fuel=>
   simp only[DataW.trod,v,d,f,Nat.mul_one] at h;split at h
   ·rename_i hl
    obtain⟨xs,k,x⟩:=Option.map_eq_some_iff.1 h
    have a:xs.map (·.1)=zs.map λz=>(DataW.lit (.string z):DataW H):=by have:=congrArg Prod.fst x;simpa using this
    have y:xs.length=n:=by simpa using Lib.mapM_length k
    have D:zs.length=n:=by have:=congrArg List.length a;simp at this;omega
    intro i z g
    have u:i<n:=by
     rcases Yc i n with j|j
     ·exact j
     rw[Yb (by omega)] at g;cases g
    obtain⟨b,m,r⟩:=Lib.mapM_at k i i (by simp[u]);obtain⟨s,o,rfl,_⟩:=DataW.trod_string q r
    have l:cs[i]? = some (Zt s):=by have:=congrArg (·[0]?) o;simpa[List.getElem?_take,XK] using this
    have c:(xs.map (·.1))[i]? = some (DataW.lit (.string s.data.toList):DataW H):=by simp[m]
    rw[a,XY,g] at c;simp only[Option.map_some,Option.some.injEq,DataW.lit.injEq,Lit.string.injEq] at c;rw[l,c]
   cases h
theorem words(h:laidMetH prog Rows.tableDeletesRow.laid W):Lw W:=by
 have e:laidMet prog Pg W:=(show laidMet prog Pg W/\handlesMet prog [("errors.errorType",Rows.laid_errors_errorType)] W from h).1;obtain⟨n,⟨m,t',cs,fuel,p,q,c,d,b,k,_,_⟩,_⟩:=laidMet.tail (laidMet.tail (laidMet.tail (laidMet.tail (laidMet.tail (laidMet.tail e)))));obtain rfl:=Yv (gNc.symm.trans c);obtain rfl:=Yv (AIH.symm.trans d);have j:=jD (zs:=[[97,110,100],[105,115],[110,111,116],[110,117,108,108],[111,114]]) underlying288 underlying9 AEW AIt k
 have a:∀(i:Nat)(z:List UInt8),([[97,110,100],[105,115],[110,111,116],[110,117,108,108],[111,114]]:List (List UInt8))[i]? = some z->W.cell? ⟨0,i,none⟩=some (Value.string ⟨z.toArray⟩):=λi z l=>by have f:=XO gNc b i;have g:=j i z l;rw[f];simpa using g
 exact⟨a 0 _ rfl,a 1 _ rfl,a 2 _ rfl,a 3 _ rfl,a 4 _ rfl⟩
theorem table(h:laidMetH prog Rows.tableDeletesRow.laid W):Jp W:=by have a:laidMet prog Pg W:=(show laidMet prog Pg W/\handlesMet prog [("errors.errorType",Rows.laid_errors_errorType)] W from h).1;exact Lib.tabIs_of_head (rest:=[("unicode/utf8.acceptRanges",Rows.laid_unicode_utf8_acceptRanges),("strconv.ErrRange",Rows.laid_strconv_ErrRange),("strconv.ErrSyntax",Rows.laid_strconv_ErrSyntax),("millpond/schema.notColumns",Rows.laid_millpond_schema_notColumns),("millpond/stats.opposites",Rows.laid_millpond_stats_opposites),("unicode/utf8.first",Rows.laid_unicode_utf8_first)]) (zs:=Lib.pow10Tab) gPw AG3 underlying337 underlying254 AJX AIF (laidMet.tail (laidMet.tail a))
theorem AEQ:(prog.globals[6]?).map (·.type)=some 395:=by kernel_rfl
theorem AHd:prog.cellsOf 395=9:=by kernel_rfl
theorem AIw:prog.cellsOf 3=1:=by kernel_rfl
theorem ADA(h:laidMetH prog Rows.tableDeletesRow.laid W):S.Lp W:=by have a:laidMet prog Pg W:=(show laidMet prog Pg W/\handlesMet prog [("errors.errorType",Rows.laid_errors_errorType)] W from h).1;exact Lib.tabIs_of_head (rest:=[("unicode/utf8.first",Rows.laid_unicode_utf8_first)]) (zs:=S.AE2) S.iO AEQ underlying395 underlying3 AIw AHd (laidMet.tail (laidMet.tail (laidMet.tail (laidMet.tail (laidMet.tail (laidMet.tail (laidMet.tail a)))))))
theorem gEr:prog.globalNamed "strconv.ErrRange"=some 5:=by kernel_rfl
theorem AH2:(prog.globals[5]?).map (·.type)=some 32:=by kernel_rfl
theorem gEs:prog.globalNamed "strconv.ErrSyntax"=some 4:=by kernel_rfl
theorem AHa:(prog.globals[4]?).map (·.type)=some 32:=by kernel_rfl
theorem star: "*" ++ "errors.errorString" = "*errors.errorString":=by decide
theorem AEh(u:TypeId)(h:prog.typeName? 3 u=some "*errors.errorString"):u=401 :=
 typeName_ptr_named (nm := "errors.errorString") (by rw[star];kernel_rfl) (by kernel_rfl) (by decide) u (by rw[star];exact h)
theorem ABp(h:laidMetH prog Rows.tableDeletesRow.laid W):Ik W:=by have d:laidMet prog Pg W:=(show laidMet prog Pg W/\handlesMet prog [("errors.errorType",Rows.laid_errors_errorType)] W from h).1;have c:=laidMet.tail (laidMet.tail (laidMet.tail (laidMet.tail d)));obtain⟨e,s1,a,_⟩:=laid_sentinel (tp:=401) (te:=403) (ts:=9) c gEr AH2 underlying32 AEh underlying401 underlying403 rfl rfl underlying9 (by kernel_rfl) (by kernel_rfl);obtain⟨f,s2,b,_⟩:=laid_sentinel (tp:=401) (te:=403) (ts:=9) (laidMet.tail c) gEs AHa underlying32 AEh underlying401 underlying403 rfl rfl underlying9 (by kernel_rfl) (by kernel_rfl);exact⟨⟨_,_,by simpa using XO gEs b 0⟩,_,_,by simpa using XO gEr a 0⟩
theorem AEr(H:Type)(enc:TypeId×Tv->H)(W:Tw)(base:Nat)(args:Array Tv)(m gs:List (DataW H))(before:List MemPlace)(a:∀(j:Nat)t v,f3.params[j]? = some t->args[j]? = some v->Value.okWide prog W .any base t v)(s:DataW.Whole enc prog f3.params.toList Rows.tableDeletesSpec.vars false W args.toList m gs before)(d:laidMetH prog Rows.tableDeletesRow.laid W):
 Zc 3 args W λe k=>∃v,e=Zr v/\Rows.tableDeletesSpec.post enc prog f3 false true false false W args v k:=by
 have b:=s;obtain⟨p,q,c,z,rfl,G,J⟩:=s;have r:DataW.TrodAll enc prog W 0 (λ_=>true) true f3.params.toList args.toList m p:=c;rw[params3] at r a;obtain⟨w,M,R,T,p0,u,rfl,rfl,rfl,n,o⟩:=trodAll_two r;obtain⟨rfl,rfl⟩:=trodVars_none z;clear c;simp only[WA] at b;have f:∀x∈p0++u,x.block<W.heap.size:=λx g=>b.lt x (by simpa using g)
 obtain⟨l,I,L⟩:=F.yI (a 0 22 w rfl rfl) n;obtain⟨N,P,O,rfl,_,_,y⟩:=F.AGh (a 1 23 M rfl rfl) o;refine(F.AKy F.Qf F.AAS w N P O l W I L y (ABp d) (words d) (table d) (handle d) (ADA d)).mono λe k⟨D,i⟩=>?_
 subst D;refine⟨_,rfl,_,_,_,[],p0++u,[],b,?_,?_,rfl,i.frame _,λh=>by cases h⟩
 ·exact trodAll_mk1 (shut_bool underlying4 _)
 exact trodAll_mk2 (WH laidOut (by kernel_rfl) (of_decide_eq_true (by kernel_rfl)) n i (λx g=>f x (by simp[g]))) (WH laidOut (by kernel_rfl) (of_decide_eq_true (by kernel_rfl)) o i (λx g=>f x (by simp[g])))
theorem o6{w0:Tw}{laid:List (String×Td)}(args:Array Tv)(c:w0.layFits P laid []=true)(d:w0.layIfaces P laid (w0.layVars P laid)=true):laidMet P laid ((w0.layVars P laid).forCall (λ_ _=>0) ⟨#[],args,[]⟩).memory:=by
 have a:(laid.filter λx=>(laid.map (·.1)).contains x.1)=laid:=List.filter_eq_self.2 λx hx=>List.contains_iff_mem.2 (List.mem_map.2 ⟨x,hx,rfl⟩)
 have b:(laid.filter λx=>!(laid.map (·.1)).contains x.1)=[]:=List.filter_eq_nil_iff.2 λx hx=>by rw[List.contains_iff_mem.2 (List.mem_map.2 ⟨x,hx,rfl⟩)];simp
 have h:laidMet P laid (w0.layVars P laid):=laidMet_layVars (w0:=w0) (laid.map (·.1)) [] (by rw[a]) (by rw[a];exact c) (by rw[a];exact d) (by rw[b];exact LaidIn.none);exact h.of_heap (by simp[World.memory,World.forCall,Input.heap])
noncomputable def w00 (a:Os):World:=(World.holding prog a ⟨#[],#[],[]⟩).setCell ⟨1,0,none⟩ (.iface 366 (.agg #[.pointer (some ⟨11,32,none⟩)]))
noncomputable def wit (a:Os):World:=(w00 a).layVars prog Pg
theorem AIq(a:Os):(wit a).os=a:=World.layVars_os _ _ _
theorem AEH(a:Os):laidMetH prog Rows.tableDeletesRow.laid ((wit a).forCall (λ_ _=>0) ⟨#[],#[Zs none 0 0,Zs none 0 0],[]⟩).memory :=
 laidMetH_of_parts (o6 (w0:=w00 a) (laid:=Pg) _ (by kernel_rfl) (by kernel_rfl)) (by kernel_rfl)
theorem reads(b:Os)(enc:TypeId×Tv->H):∃a places,DataW.whole enc prog ((wit b).forCall (λ_ _=>0) ⟨#[],#[Zs none 0 0,Zs none 0 0],[]⟩).memory f3.params.toList Rows.tableDeletesSpec.vars false #[Value.slice none 0 0,Zs none 0 0].toList 8=some (a,[],places) :=
 ⟨[.nil,.nil],[],by kernel_rfl⟩
theorem lifted(a:Os)(started:a.Started)(H:Type)(enc:TypeId×Tv->H)(F:Stop.Interp):
 ReturnsInHanded {} checked a 3 .any ((OpenSpec.ofChange Rows.tableDeletesSpec).preRow enc prog f3 Rows.tableDeletesRow.domain false Rows.tableDeletesRow.laid) (((OpenSpec.ofChange Rows.tableDeletesSpec).at F).post enc prog f3 false true false false):=by
 obtain⟨c,places,g⟩:=reads a enc
 refine returnsInHanded_of_row (C:=checked) (s:=OpenSpec.ofChange Rows.tableDeletesSpec) own started (by kernel_rfl) func3
  (witness_row_at (enc:=enc) (C:=checked) false (wit a) #[Zs none 0 0,Zs none 0 0] (AIq a) (by kernel_rfl) (by kernel_rfl) (by kernel_rfl)
    (OpenSpec.preRow_of_cond 8 g (by kernel_rfl) (λk f=>by cases f) (by kernel_rfl) (AEH a))) ?_
 intro W base args c gs before b e _ _ _ d _ _;exact AEr H enc W base args c gs before b e d
theorem s1:Tryz.pinned.checked.prog.funcNamed Rows.tableDeletesRow.func=some 3:=by kernel_rfl
theorem s2:f3.isWrapper Tryz.pinned.checked.prog Rows.tableDeletesRow.wrapper Rows.tableDeletesRow.mainSum:=by
 unfold Func.isWrapper
 first|(rw[Yae (by decide +kernel)];kernel_rfl)|(rw[Yad (by decide +kernel)];exact⟨rfl,rfl⟩)
theorem s3:f3.isInstance Tryz.pinned.checked.prog Rows.tableDeletesRow.origin Rows.tableDeletesRow.targs:=of_decide_eq_true (by kernel_rfl)
theorem said:Rows.TableDeletesSaid :=
 OpenClaim.holds_of_cond 3 f3 rfl rfl rfl rfl rfl rfl rfl ⟨rfl,rfl,rfl,rfl,rfl⟩ rfl rfl rfl rfl rfl s1 func3 closed s3 s2
  (λa started H enc _ F=>by rw[OpenClaim.pre_eq_preRow];exact lifted a started H enc F)
theorem plain(f:FuncId)(b:Func)(e:Tryz.pinned.checked.prog.funcNamed "millpond/millpondkeep.TableDeletes"=some f)(c:Tryz.pinned.checked.prog.funcs[f]? = some b):
 true=Tryz.pinned.checked.prog.looks []/\∀(j:Nat)t,b.params[j]? = some t->Tryz.pinned.checked.prog.wantsStandIn t=false:=by
 obtain rfl:f=3:=Yv ((show prog.funcNamed "millpond/millpondkeep.TableDeletes"=some 3 by kernel_rfl).symm.trans e) |>.symm;obtain rfl:b=f3:=(Yv (func3.symm.trans c)).symm;refine⟨by kernel_rfl,λj t d=>?_⟩;rw[params3] at d;have g:t∈[22,23]:=by simpa using Array.mem_of_getElem? d
 have a:([22,23].all λu=>!prog.wantsStandIn u)=true:=by kernel_rfl
 exact(show prog.wantsStandIn t=false by simpa using List.all_eq_true.1 a t g)
end tableDeletes
theorem tableDeletes_card:Rows.TableDeletesCardSaid :=
 Claim7.holds_tied_plain_at .later [] _ _ _ _ tableDeletes.said (λ_ h=>by cases h) (by kernel_rfl) (λ_ h=>by cases h) tableDeletes_row_tie rfl ⟨rfl,rfl⟩ (by kernel_rfl) rfl tableDeletes.plain (by kernel_rfl)
