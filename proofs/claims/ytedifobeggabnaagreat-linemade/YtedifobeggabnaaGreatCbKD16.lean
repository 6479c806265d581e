/- Texts of ours, one behind the other: KD16 KD17 KD18 KD19. -/
import Derived.Test.YtedifobeggabnaaGreatCbS29
namespace Go.Proofs.YtedifobeggabnaaGreat
set_option maxHeartbeats 16000000
set_option maxRecDepth 100000
open Tryz
open Go.RowKit Go.Sort
variable {a:FD}{i m:Option Addr}{e k n b f:Nat}{c:World}{g l:Nat->Nat}{d:Nat->Int}
def Wn(c:FD)(y:Nat->Int)(h y':Nat->Nat)(i a e k:Nat)(f:World)(l m:Value)(g:World):Prop:=∃(b:Nat) (n:Nat->Value),b<=i∧m=.int .i64 (b:Nat)∧Hid (uI k c.q (a+1+(a+e)) (lD y b).length l n (λj d=>((nU c (h j) (y' j) a (a+e) d:Nat):Int)) g∧Below f.heap.size f g)
def WJ(c:FD)(e g a h:Nat)(b:World)(i k l:Value)(f:World):Prop:=∃d:Nat,d<=a+1∧l=.int .i64 (d:Nat)∧k=.int .i64 (c.xp e d:Nat)∧Hid (aV b.heap.size i (zl d λj=>((nU c e g a (a+h) j:Nat):Int)) f∧Below b.heap.size b f)
def WK(b:FD)(e h a f:Nat)(c:World)(i k l:Value)(g:World):Prop:=∃d:Nat,d<=a+f∧l=.int .i64 (d:Nat)∧k=.int .i64 (b.ng (b.xp e d):Nat)∧Hid (aV c.heap.size i (zl (a+1+d) λj=>((nU b e h a (a+f) j:Nat):Int)) g∧Below c.heap.size c g)
theorem yH(hD:a∈ak)(gen D F:Nat){a5 G y':Nat->Nat}{y:Nat->Int}(hX:Arg i e k (λj=>((a5 j:Nat):Int)) c)(hY:Arg m e n y c)(hn:e<=64)(bc:1<=b)(hk:b<=e)(hc:∀l,l<e->a5 l<a.q)(hH:mh a e a5 y f G y')(hM:eH a (.slice (some ⟨D,0,none⟩) (a.m+1) F) a.md c):Calls prog 11 #[.agg #[.int .i64 a.q,.int .i64 a.p,.int .i64 a.m,.int .i64 gen,.slice (some ⟨D,0,none⟩) (a.m+1) F],.slice i e k,.int .i64 (b:Nat),.slice m e n] c (BX a f b G y' c):=by
 have⟨v,bb⟩:=eaa (c.alloc (.cells #[.int .i64 a.q,.int .i64 a.p,.int .i64 a.m,.int .i64 gen,.slice (some ⟨D,0,none⟩) (a.m+1) F] 32));have bc:Below c.heap.size c v:=by rw[bb];exact(XK _ _).alloc (aa _) _
 have p:Hid (a∈ak∧Arg i e k (λj=>((a5 j:Nat):Int)) v∧Arg m e n y v∧(∀l,l<e->a5 l<a.q)∧mh a e a5 y f G y'∧eH a (.slice (some ⟨D,0,none⟩) (a.m+1) F) a.md v∧Below c.heap.size c v):=⟨hD,hX.below bc,hY.below bc,hc,hH,hM.below bc,bc⟩;have HX:Hid (gN c.heap.size a gen (.slice (some ⟨D,0,none⟩) (a.m+1) F) v∧v.heap.size=c.heap.size+1):=⟨by rw[bb];exact eL a gen _ c,by rw[bb];simp⟩;have fl:f<=e:=hH.le;have a9:Hid (∀o,Below v.heap.size v o->gN c.heap.size a gen (.slice (some ⟨D,0,none⟩) (a.m+1) F) o):=λo q=>HX.out.1.below (B:=v.heap.size) q (by have:=HX.out.2;omega)
 clear hD hX hY hc hH hM bc;go_enter func11,ntmps11;go_wp2;rw[<-bb];clear bb;go_loopw [11,12] (λvn vi o=>∃(l ax:Nat),l<=e∧ax<=l∧vn=.int .i64 (ax:Nat)∧vi=.int .i64 (l:Nat)∧Hid (ax=ct (λl => !decide (y l= -1)) l)∧o=v) (λ_ vi _=>e-(intOf vi).toNat)
 case atStart=>exact⟨0,0,E,E,X,X,X,X⟩
 case round=>
  obtain⟨l,ax,hi,fo,rfl,rfl,HG,bO⟩:=hrel;have bO:=bO.symm;subst bO;by_cases ee:l<e
  ·have ef:(l:Int)<(e:Int):=by omega
   have eg:(0:Int)<=(l:Int):=E;obtain⟨bw,ow,rfl,bd⟩:=p.out.2.2.1.sl l ee;have⟨yv,ao⟩:=eaa (y l);rw[<-ao]at bd;by_cases hl:yv= -1
   ·have hz:(yv != -1)=false:=by rw[hl];rfl
    have HV:Hid (ax=ct (λl => !decide (y l= -1)) (l+1)):=by
     show ax=ct _ l+if(!decide (y l= -1))=true then 1 else 0
     rw[<-ao,hl, <-HG.out];rfl
    clear ao hl;go_wp2;go_roundw
    case rel=>exact⟨l+1,ax,E,E,X,x9,HV.out,Xo⟩
    case measure=>simp[intOf];omega
   ·have hz:(yv != -1)=true:=dy.2 hl
    have HV:Hid (ax+1=ct (λl => !decide (y l= -1)) (l+1)):=by
     show ax+1=ct _ l+if(!decide (y l= -1))=true then 1 else 0
     rw[<-ao,aq hl, <-HG.out];rfl
    clear ao hl;go_wp2;go_roundw
    case rel=>exact⟨l+1,ax+1,E,E,x9,x9,HV.out,Xo⟩
    case measure=>simp[intOf];omega
  ·have ef:¬(l:Int)<(e:Int):=by omega
   have ei:e=l:=E;subst ei;have ej:f=ax:=by rw[p.out.2.2.2.2.1.many,HG.out]
   subst ej;by_cases ax:f<b
   ·have ep:(f:Int)<(b:Int):=by omega
    have Q:Hid (BX a f b G y' c (.returned (.tuple #[.slice none 0 0,.int .i64 0,.bool false])) v):=⟨p.out.2.2.2.2.2.2,J ⟨λK U=>by have:=U.2.2.1;omega,X⟩⟩;go_wp2
    go_ret3
    exact Q.out
   ·have ep:¬(f:Int)<(b:Int):=by omega
    have⟨g,ht⟩:=eaa ((f-b) / 2)
    have ax:Int.tdiv ((f:Int)-(b:Int)) 2=(g:Int):=by
     rw[kO E];omega
    have ax:g<=32:=E;have er:b+g+g<=f:=E;have HT:Hid (g=(f-b) / 2):=ht;clear ht;go_wp2;go_loopw [14,15] (λvm vi o=>Wn a y G y' e g b v.heap.size v vm vi o) (λ_ vi _=>e-(intOf vi).toNat)
    case atStart=>exact⟨0,λ_=>undef,E,X,⟨fE.nil _ _,λj hj=>absurd hj (by simp[lD]),λj hj=>absurd hj (by simp[lD])⟩,XK _ _⟩
    case round=>
     obtain⟨l,vs,hi,rfl,HI⟩:=hrel;rename World=>wA;by_cases bn:l<e
     ·have et:(l:Int)<(e:Int):=by omega
      have eg:(0:Int)<=(l:Int):=E;obtain⟨bw,ow,ev,bd⟩:=(p.out.2.2.1.below HI.out.2).sl l bn;subst ev;have⟨yv,ao⟩:=eaa (y l);rw[<-ao]at bd;by_cases hl:yv= -1
      ·have hz:(yv== -1)=true:=by rw[hl];rfl
       have HV:Hid (lD y (l+1)=lD y l):=ai (by rw[<-ao];exact hl);clear ao hl;go_wp2;go_roundw
       case rel=>exact⟨l+1,vs,E,x9,by rw[HV.out];exact HI.out.1,HI.out.2⟩
       case measure=>simp[intOf];omega
      ·have hz:(yv== -1)=false:=aA.2 hl;obtain⟨bo,bQ,cz⟩:=p.out.2.2.2.2.1.at l bn (by rw[<-ao];exact hl);have a6:lD y (l+1)=lD y l++[l]:=af (by rw[<-ao];exact hl);have⟨ab,hr⟩:=eaa ((lD y l).length);have⟨A,bp⟩:=eaa (y' ab);have⟨r,hx⟩:=eaa (a5 l);have ew:yv=(A:Int):=by rw[ao, <-cz,bp,hr]
       subst ew;rw[<-hr]at bo bQ;obtain⟨bx,ox,ey,bs⟩:=(p.out.2.1.below HI.out.2).sl l bn;subst ey;have bs:wA.cell? ⟨bx,ox+l,none⟩=some (.int .i64 ((r:Nat):Int)):=by rw[hx];exact bs
       have HC:Hid ((lD y (l+1)).length=ab+1∧ab<f∧G ab=r∧A=y' ab∧r<a.q∧A<a.q):=⟨by rw[a6,aQ,hr];rfl,bo,by rw[bQ,hx],bp,by rw[hx];exact p.out.2.2.2.1 l bn,by rw[bp];exact p.out.2.2.2.2.1.yq ab bo⟩;rw[<-hr]at HI;have ax:ab<=64:=E;have ez:=HI.out.2.size
       have av:Hid (∀o,Below wA.heap.size wA o->Ss c.heap.size a gen D F bw (ow+l) (A:Nat) o∧Ss c.heap.size a gen D F bx (ox+l) (r:Nat) o):=λo q=>by
        have gA:=a9.out o (al HI.out.2 q);exact⟨⟨gA.c0,gA.c1,gA.c2,gA.c3,gA.c4,((iN q).1 bw (ow+l) (lN bd)).trans bd⟩,⟨gA.c0,gA.c1,gA.c2,gA.c3,gA.c4,((iN q).1 bx (ox+l) (lN bs)).trans bs⟩⟩
       have bS:Hid (∀o K u,Below wA.heap.size wA o->K<a.q->u<a.q->Calls prog 34 #[.agg #[.int .i64 a.q,.int .i64 a.p,.int .i64 a.m,.int .i64 gen,.slice (some ⟨D,0,none⟩) (a.m+1) F],.int .i64 (K:Nat),.int .i64 (u:Nat)] o λs N=>s=.returned (.int .i64 (a.mul K u:Nat))∧Below o.heap.size o N):=λo K u q U ax=>nR p.out.1 gen p.out.2.2.2.2.2.1 K u U ax o (al HI.out.2 q)
       clear ao hl bp hx hr bo bQ cz a6;go_wp2;go_loopw [16,17,18] (λvr vx vd o=>WJ a r A g b wA vr vx vd o) (λ_ _ vd _=>g+1-(intOf vd).toNat)
       case atStart=>exact⟨0,E,X,X,aV.nil _ _,XK _ _⟩
       case round=>
        obtain⟨d,hd,rfl,rfl,C⟩:=hrel;rename World=>wB;have a7:=C.out.2.size;by_cases eA:d<=g
        ·have bY:(d:Int)<=(g:Int):=by omega
         have⟨R,a0⟩:=eaa (a.xp r d);have⟨pm,ao⟩:=eaa (a.mul A R);have⟨pn,a8⟩:=eaa (a.mul R r)
         have HP:Hid (R<a.q∧pm=nU a r A g (g+b) d∧pn=a.xp r (d+1)):=by
          refine⟨by rw[a0];exact Ad (dE p.out.1) _ _,?_,by rw[a8,a0];rfl⟩;unfold nU;rw[ai E,ao,a0]
         have eB:Hid (∀o,Below wA.heap.size wA o->Calls prog 34 #[.agg #[.int .i64 a.q,.int .i64 a.p,.int .i64 a.m,.int .i64 gen,.slice (some ⟨D,0,none⟩) (a.m+1) F],.int .i64 (A:Nat),.int .i64 (R:Nat)] o λs N=>s=.returned (.int .i64 (pm:Nat))∧Below o.heap.size o N):=λo q=>by rw[ao];exact bS.out o A R q HC.out.2.2.2.2.2 HP.out.1
         have b0:Hid (∀o,Below wA.heap.size wA o->Calls prog 34 #[.agg #[.int .i64 a.q,.int .i64 a.p,.int .i64 a.m,.int .i64 gen,.slice (some ⟨D,0,none⟩) (a.m+1) F],.int .i64 (R:Nat),.int .i64 (r:Nat)] o λs N=>s=.returned (.int .i64 (pn:Nat))∧Below o.heap.size o N):=λo q=>by rw[a8];exact bS.out o R r q HP.out.1 HC.out.2.2.2.2.1
         rw[<-a0];clear a0 ao a8;obtain⟨q0,q1,q2,q3,q4,q5⟩:=(av.out wB C.out.2).1
         go_upto_region 20 with fail
         clear q0 q1 q2 q3 q4 q5;refine XU ?_;have w:=(av.out wB.drew (C.out.2.trans ((XK _ _).drew.mono a7))).1;refine jb (S:=Ss c.heap.size a gen D F bw (ow+l) (A:Nat)) [] wL ?_;refine dT 0 w ?_;try simp only[Act.put,ae,ah,ag]
         refine dT 1 w ?_;try simp only[Act.put,ae,ah,ag]
         refine dT 2 w ?_;try simp only[Act.put,ae,ah,ag]
         refine dT 3 w ?_;try simp only[Act.put,ae,ah,ag]
         refine dT 4 w ?_;try simp only[Act.put,ae,ah,ag]
         refine dT 5 w ?_;try simp only[Act.put,ae,ah,ag]
         refine dT 6 w ?_;try simp only[Act.put,ae,ah,ag]
         refine bR (i:=7) wL Xe (λa1 W=>?_);have Y:Hid _:=W;clear W;go_simp;refine(eB.out wB.drew (C.out.2.trans ((XK _ _).drew.mono a7))).mono ?_;rintro s w4 ⟨rfl,cA⟩;have H4:Hid (Below wB.heap.size wB w4):=al (XK _ _).drew cA;have cB:=(av.out w4 (C.out.2.trans (H4.out.mono a7))).1;clear cA;refine Y.out _ _ (λ_=>cB) ?_;clear Y a1;try simp only[Act.put,ae,ah,ag]
         refine bR (i:=8) wL Xe (λa1 W=>?_);have Y:Hid _:=W;clear W;go_simp;have⟨V,ao⟩:=eaa (w4.alloc (.cells #[.int .i64 (pm:Nat)] 3))
         have G5:Hid (Below wB.heap.size wB V∧V.cell? ⟨w4.heap.size,0,none⟩=some (.int .i64 ((pm:Nat):Int))):=by
          rw[ao];exact⟨H4.out.alloc H4.out.size _,oi⟩
         have ax:=(av.out V (C.out.2.trans (G5.out.1.mono a7))).1
         first|rw[<-ao]|skip
         refine Y.out _ _ (λ_=>ax) ?_;clear Y a1;try simp only[Act.put,ae,ah,ag]
         clear ao;refine bR (i:=9) wL Xe (λa1 W=>?_);have Y:Hid _:=W;clear W;refine dx x8 _ _ x8 wA.heap.size _ (zl d λj=>((nU a r A g (g+b) j:Nat):Int)) x8 (C.out.1.below G5.out.1 (λu q=>(C.out.1.lt u q).2)) ⟨w4.heap.size,0,none⟩ 1 (pm:Nat) x8 G5.out.2 Xl (by have:=G5.out.1.size;omega) ?_;intro g6 c6 t a2 bg bb;have z:Hid (aV wA.heap.size (.slice (some ⟨g6,0,none⟩) ((zl d λj=>((nU a r A g (g+b) j:Nat):Int)).length+1) c6) ((zl d λj=>((nU a r A g (g+b) j:Nat):Int))++[((pm:Nat):Int)]) t∧Below wA.heap.size wA t):=⟨a2,(C.out.2.trans (G5.out.1.mono a7)).grown bg (by have:=G5.out.1.size;omega) (λu q=>(C.out.1.lt u q).1)⟩;have ao:=(av.out t z.out.2).1;clear a2 bg bb;refine Y.out _ _ (λ_=>ao) ?_;clear Y a1;try simp only[Act.put,ae,ah,ag]
         refine dT 10 ao ?_;try simp only[Act.put,ae,ah,ag]
         refine fX wL (XY ?_);clear w cB ax ao;obtain⟨q0,q1,q2,q3,q4,q5⟩:=(av.out t z.out.2).2
         go_upto_region 21 with fail
         clear q0 q1 q2 q3 q4 q5;refine XU ?_;have w:=(av.out t.drew (z.out.2.trans ((XK _ _).drew.mono (by have:=z.out.2.size;omega)))).2;refine jb (S:=Ss c.heap.size a gen D F bx (ox+l) (r:Nat)) [] wL ?_;refine dT 0 w ?_;try simp only[Act.put,ae,ah,ag]
         refine dT 1 w ?_;try simp only[Act.put,ae,ah,ag]
         refine dT 2 w ?_;try simp only[Act.put,ae,ah,ag]
         refine dT 3 w ?_;try simp only[Act.put,ae,ah,ag]
         refine dT 4 w ?_;try simp only[Act.put,ae,ah,ag]
         refine dT 5 w ?_;try simp only[Act.put,ae,ah,ag]
         refine bR (i:=6) wL Xe (λa1 W=>?_);have Y:Hid _:=W;clear W;go_simp;refine(b0.out t.drew (z.out.2.trans ((XK _ _).drew.mono (by have:=z.out.2.size;omega)))).mono ?_;rintro s Z ⟨rfl,a4⟩;have O:Hid (Below t.heap.size t Z):=al (XK _ _).drew a4;have ad:=(av.out Z (al z.out.2 O.out)).2;clear a4;refine Y.out _ _ (λ_=>ad) ?_;clear Y a1;try simp only[Act.put,ae,ah,ag]
         refine dT 7 ad ?_;try simp only[Act.put,ae,ah,ag]
         refine fX wL (XY ?_);clear w ad
         have Q:Hid (aV wA.heap.size (.slice (some ⟨g6,0,none⟩) ((zl d λj=>((nU a r A g (g+b) j:Nat):Int)).length+1) c6) (zl (d+1) λj=>((nU a r A g (g+b) j:Nat):Int)) Z∧Below wA.heap.size wA Z):=by
          refine⟨?_,al z.out.2 O.out⟩;rw[sS, <-HP.out.2.1];exact z.out.1.below O.out (λu q=>(z.out.1.lt u q).2)
         go_wp2;go_roundw
         case rel=>exact⟨d+1,E,x9,by rw[HP.out.2.2],Q.out⟩
         case measure=>simp[intOf];omega
        ·have bY:¬(d:Int)<=(g:Int):=by omega
         have b1:d=g+1:=E;subst b1;have eC:Hid (∀o,Calls prog 35 #[.agg #[.int .i64 a.q,.int .i64 a.p,.int .i64 a.m,.int .i64 gen,.slice (some ⟨D,0,none⟩) (a.m+1) F],.int .i64 1] o λs N=>s=.returned (.int .i64 (a.ng 1:Nat))∧Below o.heap.size o N):=λo=>DL p.out.1 gen _ 1 (gV (dE p.out.1)) o
         obtain⟨q0,q1,q2,q3,q4,q5⟩:=(av.out wB C.out.2).1;go_wp2_with fail;clear q0 q1 q2 q3 q4 q5;refine(eC.out wB).mono ?_;rintro s wC ⟨rfl,b2⟩;have cM:Hid (aV wA.heap.size u16 (zl (g+1+0) λj=>((nU a r A g (g+b) j:Nat):Int)) wC∧Below wA.heap.size wA wC):=⟨C.out.1.below b2 (λu q=>(C.out.1.lt u q).2),al C.out.2 b2⟩;clear b2 C;go_wp2;go_loopw [16,17,19] (λvr vx vd o=>WK a r A g b wA vr vx vd o) (λ_ _ vd _=>g+b-(intOf vd).toNat)
         case atStart=>exact⟨0,E,X,X,cM.out⟩
         case round=>
          clear cM;obtain⟨d,hd,rfl,rfl,C⟩:=hrel;rename World=>wB;have a7:=C.out.2.size;by_cases eA:d<g+b
          ·have bY:(d:Int)<(g:Int)+(b:Int):=by omega
           have⟨R,a0⟩:=eaa (a.ng (a.xp r d));have⟨pn,a8⟩:=eaa (a.mul R r)
           have HP:Hid (R<a.q∧R=nU a r A g (g+b) (g+1+d)∧pn=a.ng (a.xp r (d+1))):=by
            refine⟨by rw[a0];exact ia (dE p.out.1) (Ad (dE p.out.1) _ _),?_,?_⟩
            ·unfold nU;rw[af E,ai E,dn,a0]
            ·rw[a8,a0,(dE p.out.1).mul_comm,xf (dE p.out.1) (Ad (dE p.out.1) _ _),(dE p.out.1).mul_comm];rfl
           have b0:Hid (∀o,Below wA.heap.size wA o->Calls prog 34 #[.agg #[.int .i64 a.q,.int .i64 a.p,.int .i64 a.m,.int .i64 gen,.slice (some ⟨D,0,none⟩) (a.m+1) F],.int .i64 (R:Nat),.int .i64 (r:Nat)] o λs N=>s=.returned (.int .i64 (pn:Nat))∧Below o.heap.size o N):=λo q=>by rw[a8];exact bS.out o R r q HP.out.1 HC.out.2.2.2.2.1
           rw[<-a0];clear a0 a8
           go_upto_region 27 with(at_builtin;refine kC rfl _ _ rfl wA.heap.size _ (zl (g+1+d) λj=>((nU a r A g (g+b) j:Nat):Int)) X (C.out.1.alloc _) ⟨_,0,none⟩ 1 ((R:Nat):Int) X oi Xl x7 ?_;intro v6 t a2 bg;have z:Hid (aV wA.heap.size v6 (zl (g+1+d) (λj=>((nU a r A g (g+b) j:Nat):Int))++[((R:Nat):Int)]) t∧Below wA.heap.size wA t):=⟨a2,(C.out.2.alloc a7 _).grown bg x7 (λu q=>(C.out.1.lt u q).1)⟩;clear a2 bg;obtain⟨q0,q1,q2,q3,q4,q5⟩:=(av.out t z.out.2).2)
           clear q0 q1 q2 q3 q4 q5;refine XU ?_;have w:=(av.out t.drew (z.out.2.trans ((XK _ _).drew.mono (by have:=z.out.2.size;omega)))).2;refine jb (S:=Ss c.heap.size a gen D F bx (ox+l) (r:Nat)) [] wL ?_;refine dT 0 w ?_;try simp only[Act.put,ae,ah,ag]
           refine dT 1 w ?_;try simp only[Act.put,ae,ah,ag]
           refine dT 2 w ?_;try simp only[Act.put,ae,ah,ag]
           refine dT 3 w ?_;try simp only[Act.put,ae,ah,ag]
           refine dT 4 w ?_;try simp only[Act.put,ae,ah,ag]
           refine dT 5 w ?_;try simp only[Act.put,ae,ah,ag]
           refine bR (i:=6) wL Xe (λa1 W=>?_);have Y:Hid _:=W;clear W;go_simp;refine(b0.out t.drew (z.out.2.trans ((XK _ _).drew.mono (by have:=z.out.2.size;omega)))).mono ?_;rintro s Z ⟨rfl,a4⟩;have O:Hid (Below t.heap.size t Z):=al (XK _ _).drew a4;have ad:=(av.out Z (al z.out.2 O.out)).2;clear a4;refine Y.out _ _ (λ_=>ad) ?_;clear Y a1;try simp only[Act.put,ae,ah,ag]
           refine dT 7 ad ?_;try simp only[Act.put,ae,ah,ag]
           refine fX wL (XY ?_);clear w ad
           have Q:Hid (aV wA.heap.size v6 (zl (g+1+(d+1)) λj=>((nU a r A g (g+b) j:Nat):Int)) Z∧Below wA.heap.size wA Z):=by
            refine⟨?_,al z.out.2 O.out⟩;rw[<-fh,sS, <-HP.out.2.1];exact z.out.1.below O.out (λu q=>(z.out.1.lt u q).2)
           go_wp2;go_roundw
           case rel=>exact⟨d+1,E,x9,by rw[HP.out.2.2],Q.out⟩
           case measure=>simp[intOf];omega
          ·have bY:¬(d:Int)<(g:Int)+(b:Int):=by omega
           have b1:d=g+b:=E;subst b1;obtain⟨b3,cb,eD,_⟩:=C.out.1.yy;subst eD;have bz:(vl ab vs).length<=1000000:=Xx;have H2:Hid (uI v.heap.size a.q (g+1+(g+b)) ab u14 vs (λj d=>((nU a (G j) (y' j) g (g+b) d:Nat):Int)) wB):=HI.out.1.below C.out.2;go_wp2_with (at_builtin;refine sY X _ _ X v.heap.size u14 (vl ab vs) X (H2.out.own.below ((XK _ _).alloc (aa _) _) (aa _)) ⟨wB.heap.size,0,none⟩ 1 (.slice b3 (g+1+(g+b):Nat) cb) X X Xk bz x7 ?_;intro v' t a2 b4)
           have Q:Hid (Wn a y G y' e g b v.heap.size v v' (.int .i64 ((l:Nat)+1:Int)) t):=by
            have R:Below wB.heap.size wB (wB.alloc (.cells #[.slice b3 (g+1+(g+b):Nat) cb] 22)):=(XK _ _).alloc (aa _) _;have ho:=H2.out.below R;have F':=dE p.out.1;have hp:=ho.push (y:=λd=>((nU a r A g (g+b) d:Nat):Int)) ((C.out.1.below R (λu q=>(C.out.1.lt u q).2)).mono ez) (λj _=>⟨Int.natCast_nonneg _,by have:=FT F' r A g (g+b) j;show((nU a r A g (g+b) j:Nat):Int)<_;omega⟩) a2 b4;refine⟨l+1,λj=>if j=ab then .slice b3 (g+1+(g+b):Nat) cb else vs j,E,X,?_,(al (al HI.out.2 C.out.2) R).grown b4 x7 (λu q=>ho.own.A3 u q)⟩;rw[HC.out.1]
            have s:(λj=>if j=ab then(λd=>((nU a r A g (g+b) d:Nat):Int))else λd=>((nU a (G j) (y' j) g (g+b) d:Nat):Int))=λj d=>((nU a (G j) (y' j) g (g+b) d:Nat):Int):=by
             funext j d
             by_cases s:j=ab
             ·rw[ai s,s,HC.out.2.2.1, <-HC.out.2.2.2.1]
             ·rw[af s]
            rw[s]at hp;exact hp
           clear a2 b4;go_roundw
           case rel=>exact Q.out
           case measure=>simp[intOf];omega
     ·have et:¬(l:Int)<(e:Int):=by omega
      have eE:e=l:=E;subst eE;have A:=p.out.2.2.2.2.1.len;rw[A]at HI;clear A;have⟨N1,cO⟩:=eaa (g+1+(g+b));have⟨x,cP⟩:=eaa (g+1);have⟨M,cR⟩:=eaa (g+b);obtain⟨mo,mc,eM,c0⟩:=HI.out.1.Qg (n:=g+(g+b)) (M:=λl=>nU a (G l) (y' l) g (g+b)) E (λj _ d _=>rfl);subst eM
      have c1:Hid (Calls prog 36 #[.agg #[.int .i64 a.q,.int .i64 a.p,.int .i64 a.m,.int .i64 gen,.slice (some ⟨D,0,none⟩) (a.m+1) F],.slice mo f mc,.int .i64 (N1:Nat)] wA λs N=>∃no k2 nc R2,s=.returned (.slice no k2 nc)∧Vn a N1 f (λl=>nU a (G l) (y' l) g (g+b)) k2 R2∧uH wA.heap.size (.slice no k2 nc) (rl k2 (g+(g+b)) R2) N∧k2<=N1∧Below wA.heap.size wA N):=by
       have F':=dE p.out.1;refine(Ka p.out.1 gen D F (N:=N1) (n:=g+(g+b)) E E E (λl _=>⟨FT F' _ _ _ _,(TJ a _ _ _ _).mono E⟩) c0 (p.out.2.2.2.2.2.1.below HI.out.2)).mono ?_;rintro s N ⟨bA,k1,eN,eO,R2,p2,rfl,_,h1,h2,h3,h4,h5,h6⟩;obtain⟨no,nc,hv⟩:=h3.slice;rw[Bf]at hv;subst hv;exact⟨no,_,nc,R2,X,⟨k1,eN,eO,p2,h1,h2,h4,h5,X⟩,h3,AY _ _ _,h6⟩
      have HN:Hid (N1=g+1+(g+b)∧x=g+1∧M=g+b∧Below v.heap.size v wA):=⟨cO,cP,cR,HI.out.2⟩;have A:2*(g:Int)+1+(b:Int)=(N1:Int):=E;have A:N1<=200:=E;have A:(g:Int)+1=(x:Int):=E;have A:(x:Int)<=(N1:Int):=E;have A:N1-x=M:=E;have A:M<=200:=E;have A:x<=200:=E;have A:(0:Int)<=(x:Int):=E;clear c0 cO cP cR;obtain⟨q0,q1,q2,q3,q4⟩:=a9.out wA HN.out.2.2.2;go_wp2_with fail;clear q0 q1 q2 q3 q4;refine c1.out.mono ?_;rintro s V ⟨no,k2,nc,R2,rfl,c5,bz,fr,b6⟩;have H5:Hid (Below v.heap.size v V∧Below c.heap.size c V):=⟨al HN.out.2.2.2 b6,al p.out.2.2.2.2.2.2 (al HN.out.2.2.2 b6)⟩;have bk:=JV (dE p.out.1) er HT.out p.out.2.2.2.2.1.cq p.out.2.2.2.2.1.ne (by rw[<-HN.out.1];exact c5);have bk:Hid _:=bk;clear c5 b6 c1 HI;by_cases A:k2=0
      ·have eQ:((k2:Int)==0)=true:=by rw[A];rfl
       have Q:Hid (BX a f b G y' c (.returned (.tuple #[.slice none 0 0,.int .i64 0,.bool false])) V):=⟨H5.out.2,J ⟨bk.out.1 A,X⟩⟩;go_wp2
       go_ret3
       exact Q.out
      ·have eQ:((k2:Int)==0)=false:=by rw[aA];omega
       have A:(0:Int)<(k2:Int):=E;have⟨ar,hs⟩:=eaa (R2 0);obtain⟨eR,u,cp,eS,bB,bl,b7,eT⟩:=SY bz (FP k2 (g+(g+b)) R2 0 E);subst eS;replace b7:g+(g+b)+1<=cp:=b7;replace bB:V.cell? ⟨eR,0,none⟩=some (.slice (some ⟨u,0,none⟩) (g+(g+b)+1) cp):=bB;replace bl:Row u (g+(g+b)+1) ar V:=by rw[hs];exact bl
       rw[show g+(g+b)+1=N1 by have:=HN.out.1;omega]at bB bl b7
       have z:Hid (Row u N1 ar V∧El a ar∧Bd N1 ar∧∀K,fB a f b G y' K->NX g ar=aZ a b K (oT x ar)∧cY (oT x ar) x≠0):=by
        obtain⟨C,R,A⟩:=bk.out.2 E;rw[<-hs, <-HN.out.1]at R;rw[<-hs]at C A;rw[<-HN.out.2.1]at A;exact⟨bl,C,R,A⟩
       clear bz bl hs bk;have⟨P,hE⟩:=eaa (oT x ar);have⟨B,a6⟩:=eaa (cY P x);have A:B<=x:=by rw[a6];exact eJ _ _
       have A:(x:Int)<=(cp:Int):=E;obtain⟨cq,A⟩:∃cq,cp-x=cq:=⟨_,X⟩;have A:¬cq=0:=by have:=HN.out;omega
       have eW:M<=cq:=E;have eZ:cq<=9223372036854775807:=E;have A:(N1:Int)<=(cp:Int):=E;have A:IntKind.i64.wrap (x:Int)=(x:Int):=BF E E;have A:¬cp=x:=by have:=HN.out;omega
       have HE:Hid (P=oT x ar∧B=cY P x∧El a P∧Bd x P∧pK B P):=by
        have h1:El a P:=λj=>by
         rw[hE];unfold oT;split
         ·exact z.out.2.1 j
         ·exact aX (dE p.out.1)
        have h2:Bd x P:=λj hj=>by rw[hE];unfold oT;exact af E
        exact⟨hE,a6,h1,h2,by rw[a6];exact l5 h2⟩
       have c7:Hid (Calls prog 37 #[.slice (some ⟨u,0,none⟩) x cp] V λs N=>∃bA,s=.returned bA∧cG V.heap.size bA B P N∧Below V.heap.size V N):=by
        have h:=qw (c:=P) (n:=x) (cap:=cp) ((z.out.1.sl (show x<=N1 by omega)).congr (λj hj=>by rw[HE.out.1];exact(ai hj).symm)) E eT (λs=>by cases s) (λr hx=>by cases hx;exact z.out.1.lt) E;rw[<-HE.out.2.1]at h;exact h
       clear hE a6;go_wp2_with fail;refine c7.out.mono ?_;rintro s t ⟨bA,rfl,a2,bE⟩;obtain⟨eo,ec,e0,e1,e2,_,c8,c9,dc⟩:=a2.open;subst e0;have O:Hid (Below V.heap.size V t∧Sl eo B P t∧fp eo t.heap.size∧(eo=none->ec=0)∧Below v.heap.size v t∧Below c.heap.size c t):=⟨bE,dc,c8,c9,al H5.out.1 bE,al H5.out.2 bE⟩;clear a2 bE c8 c9 dc c7 bB;by_cases b8:B=0
       ·have e3:((B:Int)==0)=true:=by rw[b8];rfl
        have Q:Hid (BX a f b G y' c (.returned (.tuple #[.slice none 0 0,.int .i64 0,.bool false])) t):=⟨O.out.2.2.2.2.2,J ⟨λK U=>(z.out.2.2.2 K U).2 (by rw[<-HE.out.1, <-HE.out.2.1];exact b8),X⟩⟩;go_wp2
        go_ret3
        exact Q.out
       ·have e3:((B:Int)==0)=false:=by rw[aA];omega
        have⟨a3,hA⟩:=eaa (NX g ar);have⟨S,hQ⟩:=eaa (a.quo a3 M P B);have⟨bM,hZ⟩:=eaa (a.BN a3 M P B);have⟨T,bm⟩:=eaa (cY S (M-(B-1)));have⟨lr,bN⟩:=eaa (cY bM M);have A:T<=M:=by rw[bm];have:=eJ S (M-(B-1));omega
        have A:lr<=M:=by rw[bN];exact eJ _ _
        have ba:cY P B=B:=jB HE.out.2.2.2.2.2;have ca:El a a3:=λj=>by rw[hA];exact z.out.2.1 _
        have cc:Bd M a3:=λj hj=>by rw[hA];exact z.out.2.2.1 _ (by have:=HN.out;omega)
        have HA:Hid (El a S∧pK T S∧∀K,fB a f b G y' K->S=K∧lr=0∧T<=b):=by
         have A:=zK p.out.1 a3 P M B;rw[ba, <-hQ]at A;refine⟨A.1,by rw[bm];exact l5 A.2,λK U=>?_⟩;have C:=(z.out.2.2.2 K U).1;rw[<-hA, <-HE.out.1]at C;obtain⟨u1,u2⟩:=zJ p.out.1 (N:=a3) (n:=M) ca cc HE.out.2.2.1 HE.out.2.2.2.2.1 (by rw[ba];exact b8) U.1 U.2.1 C;rw[<-hQ]at u1;rw[<-hZ]at u2;refine⟨u1,by rw[bN,u2];exact Au M,?_⟩;rw[bm,u1];have:=mr U.2.1 (show b<=M+b by omega);have h3:=OE (l5 (c:=K) (n:=M-(B-1)) (by rw[<-u1];exact A.2)) U.2.1;exact h3
        have dd:Hid (∀o,Below t.heap.size t o->Calls prog 38 #[.agg #[.int .i64 a.q,.int .i64 a.p,.int .i64 a.m,.int .i64 gen,.slice (some ⟨D,0,none⟩) (a.m+1) F],.slice (some ⟨u,x,none⟩) M cq,.slice eo B ec] o λs N=>∃qo qc ro rc,s=.returned (.tuple #[.slice qo T qc,.slice ro lr rc])∧jO o.heap.size (.slice qo T qc) T S N∧Below o.heap.size o N):=λo q=>by
         have A:=al O.out.1 q;have dg:=z.out.1.below A z.out.1.lt;have e4:Sl (some ⟨u,x,none⟩) M a3 o:=λj hj=>⟨u,x,X,by rw[hA];show o.cell? ⟨u,x+j,none⟩=some (Value.int .i64 ((ar (g+1+j):Nat):Int));rw[<-HN.out.2.1];exact dg.cell (x+j) E⟩
         have h:=Kc p.out.1 gen D F (ca:=cq) (cb:=ec) E E ca HE.out.2.2.1 cc HE.out.2.2.2.2.1 e4 (O.out.2.1.below q O.out.2.2.1) (λr hx=>by cases hx;exact dg.lt) (O.out.2.2.1.mono q.size) eW eZ (λs=>by cases s) e1 e2 O.out.2.2.2.1 (p.out.2.2.2.2.2.1.below (al O.out.2.2.2.2.1 q)) (B-1) (by rw[ba];omega);refine h.mono ?_;rintro s N ⟨vq,vr,rfl,h1,h2,h3⟩;have g:dV a P (B-1) (a.iv (P (B-1))) (M-(B-1)) a3=S:=by rw[hQ];unfold FD.quo;rw[ba]
         have o:iE a P (B-1) (a.iv (P (B-1))) (M-(B-1)) a3=bM:=by rw[hZ];unfold FD.BN;rw[ba]
         rw[g, <-bm]at h1;rw[o, <-bN]at h2;obtain⟨qo,qc,e5,_⟩:=aV.UE h1 E;obtain⟨ro,rc,e6,_⟩:=h2.arg E;subst e5 e6;exact⟨qo,qc,ro,rc,X,h1,h3⟩
        clear hA hQ hZ bm bN ba ca cc;obtain⟨q0,q1,q2,q3,q4⟩:=a9.out t O.out.2.2.2.2.1
        go_upto_region 36 with fail
        clear q0 q1 q2 q3 q4;refine XU ?_;have w:=a9.out t.drew (al O.out.2.2.2.2.1 (XK _ _).drew);refine jb (S:=gN c.heap.size a gen (.slice (some ⟨D,0,none⟩) (a.m+1) F)) [] wL ?_;refine mI 0 w ?_;try simp only[Act.put,ae,ah,ag]
        refine mI 1 w ?_;try simp only[Act.put,ae,ah,ag]
        refine mI 2 w ?_;try simp only[Act.put,ae,ah,ag]
        refine mI 3 w ?_;try simp only[Act.put,ae,ah,ag]
        refine mI 4 w ?_;try simp only[Act.put,ae,ah,ag]
        refine mI 5 w ?_;try simp only[Act.put,ae,ah,ag]
        refine bR (i:=6) wL Xe (λa1 W=>?_);have Y:Hid _:=W;clear W;go_simp;refine(dd.out t.drew (XK _ _).drew).mono ?_;rintro s Z ⟨qo,qc,ro,rc,rfl,dq,a4⟩;have H8:Hid (jO t.heap.size (.slice qo T qc) T S Z∧Below v.heap.size v Z∧Below c.heap.size c Z∧t.heap.size<=Z.heap.size):=⟨dq,al O.out.2.2.2.2.1 (al (XK _ _).drew a4),al O.out.2.2.2.2.2 (al (XK _ _).drew a4),a4.size⟩;have ad:=a9.out Z H8.out.2.1;clear dq a4;refine Y.out _ _ (λ_=>ad) ?_;clear Y a1;try simp only[Act.put,ae,ah,ag]
        refine mI 7 ad ?_;try simp only[Act.put,ae,ah,ag]
        refine mI 8 ad ?_;try simp only[Act.put,ae,ah,ag]
        refine mI 9 ad ?_;try simp only[Act.put,ae,ah,ag]
        refine mI 10 ad ?_;try simp only[Act.put,ae,ah,ag]
        refine mI 11 ad ?_;try simp only[Act.put,ae,ah,ag]
        refine fX wL (XY ?_);clear w ad dd;by_cases cf:lr=0
        ·have cl:¬(0:Int)<(lr:Int):=by omega
         have e7:¬(lr:Int) > 0:=cl;have g:Hid (lr=0):=cf;clear cf;by_cases dr:T<=b
         ·have cm:¬(b:Int)<(T:Int):=by omega
          have e8:¬(T:Int) > (b:Int):=cm;have⟨d,hd⟩:=eaa (b-T);have Ff:(b:Int)-(T:Int)=(d:Int):=E;have g:d<=64:=E;have e9:Hid (T+d=b):=by show _=_;omega
          clear hd;go_wp2_with (at_builtin;refine vP X _ _ X t.heap.size _ (zl T λj=>((S j:Nat):Int)) X H8.out.1 d X Xl H8.out.2.2.2 ?_;intro v8 w8 ds dB;have cr:Below v.heap.size v w8:=H8.out.2.1.grown dB H8.out.2.1.size (λu q=>by have:=(aV.lt H8.out.1 u q).1;have:=O.out.2.2.2.2.1.size;omega);have H9:Hid (jO t.heap.size v8 b S w8∧Below v.heap.size v w8∧Below c.heap.size c w8):=⟨Uf HA.out.2.1.1 e9.out ds,cr,al p.out.2.2.2.2.2.2 cr⟩;clear ds dB cr;obtain⟨vo,vc,fc,ea⟩:=aV.UE H9.out.1 E;subst fc;have eb:Hid _:=ea;clear ea;obtain⟨q0,q1,q2,q3,q4⟩:=a9.out w8 H9.out.2.1);clear q0 q1 q2 q3 q4;have⟨O1,g⟩:=eaa (oX a b f G y' S)
          have o:O1<=f:=by
           rw[g];unfold oX;have:=s8 (λl=>decide (a.ev S (G l) b=y' l)) f;omega
          have HO:Hid (Calls prog 39 #[.agg #[.int .i64 a.q,.int .i64 a.p,.int .i64 a.m,.int .i64 gen,.slice (some ⟨D,0,none⟩) (a.m+1) F],.slice i e k,.slice m e n,.slice vo b vc] w8 λs N=>s=.returned (.tuple #[.int .i64 (O1:Nat),.int .i64 (f:Nat)])∧Below w8.heap.size w8 N):=by
           have l:=p.out.2.1.below H9.out.2.1;have o:=p.out.2.2.1.below H9.out.2.1;have h:=Kb p.out.1 gen D F (cx:=k) (cy:=n) (ca:=vc) (a:=S) (y:=y) (xs:=a5) hn E l.sl o.sl eb.out.sl l.lt o.lt eb.out.lt p.out.2.2.2.1 HA.out.1 (p.out.2.2.2.2.2.1.below H9.out.2.1);rw[<-p.out.2.2.2.2.1.many, <-p.out.2.2.2.2.1.oX b S, <-g]at h;exact h
          have cw:Hid (O1=oX a b f G y' S):=g;clear g;have g:IntKind.i64.wrap (2*(O1:Int))=2*(O1:Int):=BF E E;refine HO.out.mono ?_;rintro s w9 ⟨rfl,cx⟩;have cy:Hid (Below c.heap.size c w9∧jO t.heap.size (.slice vo b vc) b S w9):=⟨al H9.out.2.2 cx,aV.below H9.out.1 cx (λu q=>(aV.lt H9.out.1 u q).2)⟩;clear cx HO;by_cases ed:(f:Int)-(b:Int)<2*(O1:Int)
          ·have fe:2*(O1:Int) > (f:Int)-(b:Int):=ed;have Q:Hid (BX a f b G y' c (.returned (.tuple #[.slice none 0 0,.int .i64 0,.bool false])) w9):=⟨cy.out.1,J ⟨λK U=>by have h1:=(HA.out.2.2 K U).1;have h2:=cw.out;rw[h1]at h2;have:=U.2.2.2;omega,X⟩⟩;go_wp2
           go_ret3
           exact Q.out
          ·have fe:¬2*(O1:Int) > (f:Int)-(b:Int):=ed
           have Q:Hid (BX a f b G y' c (.returned (.tuple #[.slice vo b vc,.int .i64 (O1:Nat),.bool true])) w9):=by
            have g:=O.out.2.2.2.2.2.size;exact⟨cy.out.1,I ⟨S,⟨HA.out.1,HA.out.2.1.1.mono dr,E,by rw[<-cw.out];omega⟩,_,by rw[<-cw.out],aV.mono cy.out.2 g⟩⟩
           go_wp2
           go_ret3
           exact Q.out
         ·have cm:(b:Int)<(T:Int):=by omega
          have e8:(T:Int) > (b:Int):=cm;have Q:Hid (BX a f b G y' c (.returned (.tuple #[.slice none 0 0,.int .i64 0,.bool false])) Z):=⟨H8.out.2.2.1,J ⟨λK U=>dr (HA.out.2.2 K U).2.2,X⟩⟩;go_wp2
          go_ret3
          exact Q.out
        ·have cl:(0:Int)<(lr:Int):=by omega
         have e7:(lr:Int) > 0:=cl;have Q:Hid (BX a f b G y' c (.returned (.tuple #[.slice none 0 0,.int .i64 0,.bool false])) Z):=⟨H8.out.2.2.1,J ⟨λK U=>cf (HA.out.2.2 K U).2.1,X⟩⟩;go_wp2
         go_ret3
         exact Q.out
theorem xr(c:∀b,b<e->g b<a.q)(d:∀b j,b<e->j<e->b≠j->g b≠g j):∀r,r<=e->a.oQ (λj=>((g j:Nat):Int)) r=0
 |0,_=>rfl
 |r+1,f=>by
  show(if a.oQ _ r≠0 then a.oQ _ r else if a.has ((g r:Nat):Int)=true then(if((g r:Nat):Int)∈zl r (λj=>((g j:Nat):Int))then 7 else 0)else 2)=0;rw[af (λb=>b (xr c d r E)),ai (jT (c r E)),af];intro b;unfold zl at b;obtain⟨j,c,f⟩:=gF.1 b;have c:=bj.1 c;exact d j r E E E (by have f:((g j:Nat):Int)=((g r:Nat):Int):=f;omega)
theorem KA{y:Nat->Int}(h:1<=e)(i:e<=64)(l:1<=k)(m:k<=e)(c:∀b,b<e->g b<a.q)(d:∀b j,b<e->j<e->b≠j->g b≠g j)(f:a.Pk y e=true):a.BC e (λj=>((g j:Nat):Int)) (k:Nat) e y=0:=by
 have h:a.fI e (λj=>((g j:Nat):Int)) (k:Nat)=0:=by
  unfold FD.fI;rw[af E,af (λb=>b (xr c d e (aa _))),af E]
 unfold FD.BC;rw[af (λb=>b h),af (λb=>b X),ai f]
def Wo(d:FD)(e f:Nat->Nat)(g h:Nat)(a:World)(i k:Value)(c:World):Prop:=∃b:Nat,b<=g∧k=.int .i64 (b:Nat)∧Hid (aV a.heap.size i (zl b λj=>((d.ev e (f j) h:Nat):Int)) c∧Below a.heap.size a c)
theorem Kf(V:a∈ak)(gen r s:Nat){e cx d ca:Nat}(z:e<=64)(hk:d<=128)(W:Sl i e g c)(Y:Sl m d l c)(O:fp i c.heap.size)(P:fp m c.heap.size)(u:∀b,b<e->g b<a.q)(Z:El a l)(hM:eH a (.slice (some ⟨r,0,none⟩) (a.m+1) s) a.md c):Calls prog 40 #[.agg #[.int .i64 a.q,.int .i64 a.p,.int .i64 a.m,.int .i64 gen,.slice (some ⟨r,0,none⟩) (a.m+1) s],.slice i e cx,.slice m d ca] c λB J=>∃z,B=.returned z∧aV c.heap.size z (zl e λj=>((a.ev l (g j) d:Nat):Int)) J∧Below c.heap.size c J:=by
 have⟨f,C⟩:=eaa (c.alloc (.cells #[.int .i64 a.q,.int .i64 a.p,.int .i64 a.m,.int .i64 gen,.slice (some ⟨r,0,none⟩) (a.m+1) s] 32));have z:Below c.heap.size c f:=by rw[C];exact(XK _ _).alloc (aa _) _
 have k:Hid (a∈ak∧Sl i e g f∧Sl m d l f∧fp i f.heap.size∧fp m f.heap.size∧(∀b,b<e->g b<a.q)∧El a l∧eH a (.slice (some ⟨r,0,none⟩) (a.m+1) s) a.md f∧Below c.heap.size c f):=⟨V,W.below z O,Y.below z P,O.mono z.size,P.mono z.size,u,Z,hM.below z,z⟩;have HX:Hid (gN c.heap.size a gen (.slice (some ⟨r,0,none⟩) (a.m+1) s) f∧f.heap.size=c.heap.size+1):=⟨by rw[C];exact eL a gen _ c,by rw[C];simp⟩;clear V W Y O P u Z hM z;go_enter func40,ntmps40;go_wp2;rw[<-C];clear C;go_loopw [7,8] (λvl Q p=>Wo a l g e d f vl Q p) (λ_ Q _=>e-(intOf Q).toNat)
 case atStart=>exact⟨0,E,X,aV.nil _ _,XK _ _⟩
 case round=>
  obtain⟨b,hi,rfl,n⟩:=hrel;rename World=>wB;by_cases R:b<e
  ·have ar:(b:Int)<(e:Int):=by omega
   have z:(0:Int)<=(b:Int):=E;obtain⟨K,M,av,ab⟩:=(k.out.2.1.below n.out.2 k.out.2.2.2.1) b R;have⟨t,u⟩:=eaa (g b);rw[<-u]at ab;subst av;have⟨v,S⟩:=eaa (a.ev l t d);have⟨q,A⟩:=eaa f;rw[<-A]at n
   have N:q.cell? ⟨K,M+b,none⟩=some (.int .i64 ((t:Nat):Int)):=by
    obtain⟨z,C,B,h2⟩:=k.out.2.1 b R;cases B;rw[A,u];exact h2
   have D:Hid (∀p,Below q.heap.size q p->Ss c.heap.size a gen r s K (M+b) (t:Nat) p∧True):=λp o=>by
    rw[A]at o N;have gA:=HX.out.1.below (B:=f.heap.size) o (by have:=HX.out.2;omega);exact⟨⟨gA.c0,gA.c1,gA.c2,gA.c3,gA.c4,((iN o).1 K (M+b) (lN N)).trans N⟩,trivial⟩
   have ax:Hid (∀p,Below q.heap.size q p->Calls prog 63 #[.agg #[.int .i64 a.q,.int .i64 a.p,.int .i64 a.m,.int .i64 gen,.slice (some ⟨r,0,none⟩) (a.m+1) s],.slice m d ca,.int .i64 (t:Nat)] p λB J=>B=.returned (.int .i64 (v:Nat))∧Below p.heap.size p J):=λp o=>by
    rw[A]at o;have p:t<a.q:=by rw[u];exact k.out.2.2.2.2.2.1 b R
    have h:=DN k.out.1 gen r s (cap:=ca) p E k.out.2.2.2.2.2.2.1 (k.out.2.2.2.2.1.mono o.size) (k.out.2.2.1.below o k.out.2.2.2.2.1) (k.out.2.2.2.2.2.2.2.1.below o);rw[xU (dE k.out.1) t d k.out.2.2.2.2.2.2.1 p, <-S]at h;exact h
   have HP:Hid (v=a.ev l (g b) d):=by show _=_;rw[S,u]
   have F:=n.out.2.size;clear u S ab N;obtain⟨q0,q1,q2,q3,q4,q5⟩:=(D.out wB n.out.2).1
   go_upto_region 5 with fail
   clear q0 q1 q2 q3 q4 q5;refine XU ?_;have w:=(D.out wB.drew (n.out.2.trans ((XK _ _).drew.mono F))).1;refine jb (S:=Ss c.heap.size a gen r s K (M+b) (t:Nat)) [] wL ?_;refine dT 0 w ?_;try simp only[Act.put,ae,ah,ag]
   refine dT 1 w ?_;try simp only[Act.put,ae,ah,ag]
   refine dT 2 w ?_;try simp only[Act.put,ae,ah,ag]
   refine dT 3 w ?_;try simp only[Act.put,ae,ah,ag]
   refine dT 4 w ?_;try simp only[Act.put,ae,ah,ag]
   refine dT 5 w ?_;try simp only[Act.put,ae,ah,ag]
   refine dT 6 w ?_;try simp only[Act.put,ae,ah,ag]
   refine bR (i:=7) wL Xe (λG x=>?_);have y:Hid _:=x;clear x;go_simp;refine(ax.out wB.drew (n.out.2.trans ((XK _ _).drew.mono F))).mono ?_;rintro B I ⟨rfl,ad⟩;have T:Hid (Below wB.heap.size wB I):=al (XK _ _).drew ad;have ao:=(D.out I (n.out.2.trans (T.out.mono F))).1;clear ad;refine y.out _ _ (λ_=>ao) ?_;clear y G;try simp only[Act.put,ae,ah,ag]
   refine bR (i:=8) wL Xe (λG x=>?_);have y:Hid _:=x;clear x;go_simp;have⟨r,s⟩:=eaa (I.alloc (.cells #[.int .i64 (v:Nat)] 3))
   have p:Hid (Below wB.heap.size wB r∧r.cell? ⟨I.heap.size,0,none⟩=some (.int .i64 ((v:Nat):Int))):=by
    rw[s];exact⟨T.out.alloc T.out.size _,oi⟩
   have u:=(D.out r (n.out.2.trans (p.out.1.mono F))).1
   first|rw[<-s]|skip
   refine y.out _ _ (λ_=>u) ?_;clear y G;try simp only[Act.put,ae,ah,ag]
   clear s;refine bR (i:=9) wL Xe (λG x=>?_);have y:Hid _:=x;clear x;refine dx x8 _ _ x8 q.heap.size _ (zl b λj=>((a.ev l (g j) d:Nat):Int)) x8 (n.out.1.below p.out.1 (λs o=>(n.out.1.lt s o).2)) ⟨I.heap.size,0,none⟩ 1 (v:Nat) x8 p.out.2 Xl (by have:=p.out.1.size;omega) ?_;intro x z r B C I;have t:Hid (aV q.heap.size (.slice (some ⟨x,0,none⟩) ((zl b λj=>((a.ev l (g j) d:Nat):Int)).length+1) z) ((zl b λj=>((a.ev l (g j) d:Nat):Int))++[((v:Nat):Int)]) r∧Below q.heap.size q r):=⟨B,(n.out.2.trans (p.out.1.mono F)).grown C (by have:=p.out.1.size;omega) (λs o=>(n.out.1.lt s o).1)⟩;have o:=(D.out r t.out.2).1;clear B C I;refine y.out _ _ (λ_=>o) ?_;clear y G;try simp only[Act.put,ae,ah,ag]
   refine dT 10 o ?_;try simp only[Act.put,ae,ah,ag]
   refine fX wL (XY ?_);clear w ao u o
   have U:Hid (Wo a l g e d f (.slice (some ⟨x,0,none⟩) ((zl b λj=>((a.ev l (g j) d:Nat):Int)).length+1) z) (.int .i64 ((b:Nat)+1:Int)) r):=by
    refine⟨b+1,E,X,?_,by rw[<-A];exact t.out.2⟩;rw[sS, <-HP.out, <-A];exact t.out.1
   clear A;go_wp2;go_roundw
   case rel=>exact U.out
   case measure=>simp[intOf];omega
  ·have ar:¬(b:Int)<(e:Int):=by omega
   have a0:e=b:=E;subst a0;have U:Hid (aV c.heap.size u7 (zl e λj=>((a.ev l (g j) d:Nat):Int)) wB∧Below c.heap.size c wB):=⟨n.out.1.mono k.out.2.2.2.2.2.2.2.2.size,al k.out.2.2.2.2.2.2.2.2 n.out.2⟩;go_wp2;go_ret;exact⟨_,X,U.out⟩
theorem IS(g j:Int)(l:j≠0)(o:Calls prog 22 #[.int .i64 g,.slice i e k,.int .i64 (n:Nat)] c λd f=>d=.returned (.int .i64 0)∧Below c.heap.size c f)(p:∀a,Below c.heap.size c a->Calls prog 47 #[.int .i64 g,.slice m n b] a λd f=>d=.returned (.int .i64 j)∧Below a.heap.size a f):Calls prog 23 #[.int .i64 g,.slice i e k,.slice m n b] c λd f=>d=.returned (.tuple #[.slice none 0 0,.int .i64 j])∧Below c.heap.size c f:=by
 have t:Hid (Calls prog 22 #[.int .i64 g,.slice i e k,.int .i64 (n:Nat)] c λd f=>d=.returned (.int .i64 0)∧Below c.heap.size c f):=o;have u:Hid (∀a,Below c.heap.size c a->Calls prog 47 #[.int .i64 g,.slice m n b] a λd f=>d=.returned (.int .i64 j)∧Below a.heap.size a f):=p;have f:(j !=0)=true:=dy.2 l;clear o p l;go_enter func23,ntmps23;go_wp2_with fail;refine t.out.mono ?_;rintro d a ⟨rfl,q⟩;have r:Hid (Below c.heap.size c a):=q;clear q;go_wp2_with fail;refine(u.out a r.out).mono ?_;rintro d v ⟨rfl,s⟩;have w:Hid (Below c.heap.size c v):=al r.out s;clear s;go_wp2
 go_ret2
 exact⟨X,w.out⟩
theorem zL{c:Int}(b:a.fI e d c=0):1<=e∧e<=64∧a.oQ d e=0∧1<=c∧c<=(e:Int):=by
 unfold FD.fI at b;by_cases g:e<1∨64<e
 ·rw[ai g]at b;cases b
 ·rw[af g]at b;by_cases f:a.oQ d e=0
  ·rw[af (λg=>g f)]at b;by_cases h:c<1∨(e:Int)<c
   ·rw[ai h]at b;cases b
   ·exact⟨E,E,f,E,E⟩
  ·rw[ai f]at b;exact absurd b f
theorem QH(k:a.oQ d e=0):(∀b,b<e->a.has (d b)=true)∧∀b j,b<e->j<e->b≠j->d b≠d j:=by
 have l:∀c,c<e->a.has (d c)=true∧d c ∉ zl c d:=λc n=>by
  have n:a.oQ d c=0:=bK λf=>f (by rw[<-tL f (show c<=e by omega)];exact k)
  have h:a.oQ d (c+1)=0:=bK λf=>f (by rw[<-tL f (show c+1<=e by omega)];exact k)
  have g:(if a.oQ d c≠0 then a.oQ d c else if a.has (d c)=true then(if d c∈zl c d then 7 else 0)else 2)=0:=h;rw[af (λk=>k n)]at g;by_cases i:a.has (d c)=true
  ·rw[ai i]at g;by_cases m:d c∈zl c d
   ·rw[ai m]at g;cases g
   ·exact⟨i,m⟩
  ·rw[af i]at g;cases g
 have i:∀b j,b<j->j<e->d b≠d j:=λb j k c f=>(l j c).2 (by rw[<-f];unfold zl;exact gF.2 ⟨b,bj.2 k,X⟩)
 refine⟨λb g=>(l b g).1,λb j g c k=>?_⟩;rcases aR b j with h|h
 ·exact i b j h c
 ·exact λf=>i j b E g f.symm
theorem Ue(a:Arg i e k d c)(f:∀b,b<e->d b=((zc e d b:Nat):Int)):Arg i e k (λj=>((zc e d j:Nat):Int)) c:=
 ⟨λj b=>by obtain⟨g,h,l,m⟩:=a.sl j b;exact⟨g,h,l,by rw[m,f j b]⟩,a.lt,a.qL,a.nil,a.le,a.cap⟩
theorem SP(g:∀b,b<e->a.has (d b)=true):(∀b,b<e->zc e d b<a.q)∧∀b,b<e->d b=((zc e d b:Nat):Int):=by
 refine⟨λb c=>?_,λb c=>?_⟩
 ·obtain⟨i,f,h⟩:=fT (g b c);unfold zc;rw[ai c,f];simpa using h
 ·obtain⟨i,f,h⟩:=fT (g b c);unfold zc;rw[ai c,f];simp
