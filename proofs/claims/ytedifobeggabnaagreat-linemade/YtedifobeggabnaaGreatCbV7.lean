/- Texts of ours, one behind the other: V7 V8 N5 N6 U18 U19 W6 U20 U21 U22 W7 V9 V10 N7. -/
import Derived.Test.YtedifobeggabnaaGreatCbV6
import Derived.Deep.CutBlock
import Derived.Deep.DeepCutAuto
namespace Go.Proofs.YtedifobeggabnaaGreat
set_option maxHeartbeats 4000000
set_option maxRecDepth 100000
open Tryz
variable {a:FD}{e i u l:Nat->Nat}{b d g m:Nat}{v:Nat->Value}{c p:World}{n o:Option Addr}{f j:Value}{k y:List Value}{w:Array Oper}{x:List Oper}{s:Oper}{t:Act}{q:Nat×(Nat->Nat)}{r:List (Nat×(Nat->Nat))}
section
open Go.RowKit Go.Sort
end
def FD.vl(a:FD)(b:Nat->Nat)(c:Nat):Nat:=a.ev b c 1000
theorem Aa(d:bV a)(b:Nat->Nat)(c:Nat):a.vl b c<a.q:=iQ d b c 1000
theorem OK(c:bV a)(f:El a e)(g:Bd b e)(h:d<a.q)(i:b<=1000):a.val e b d b=a.vl e d:=by
 rw[xU c d b f h];exact(dQ c d g i).symm
theorem T9(c:bV a)(b:Nat)(d:El a e)(f:El a i):a.vl (dk a e i) b=a.ad (a.vl e b) (a.vl i b):=we c b d f 1000
theorem OJ(e:bV a)(b c:Nat)(d:Nat->Nat):a.vl (aP a b d) c=a.mul b (a.vl d c):=wj e b c d 1000
theorem OI(f:bV a)(c:Nat)(h:Bd b e)(g:Bd d i)(j:El a i)(k:b+d<=1000):a.vl (aZ a b e i) c=a.mul (a.vl e c) (a.vl i c):=by
 unfold FD.vl;rw[oq f c g j b 1000 k,dQ f c h (by omega:b<=1000),dQ f c g (by omega:d<=1000)]
def KV(b:Nat):Nat->Nat:=λa=>if a=0 then b else if a=1 then 1 else 0
theorem tE(a:Nat):Bd 2 (KV a):=λb c=>by unfold KV;rw[af E,af E]
theorem Fs(c:bV a)(d:b<a.q):El a (KV b):=λe=>by
 unfold KV;split
 ·exact d
 ·split
  ·exact gV c
  ·exact aX c
theorem OH(b:bV a){c y:Nat}(d:c<a.q)(e:y<a.q):a.vl (KV c) y=a.ad c y:=by
 unfold FD.vl;rw[dQ b y (tE c) (by omega:2<=1000)];show a.ad (a.ad 0 (a.mul c 1)) (a.mul 1 (a.mul 1 y))=_;rw[mM b d,gC b d,FJ b e,FJ b e]
theorem Ua(b:bV a)(y:Nat):a.vl kJ y=1:=by
 unfold FD.vl;rw[dQ b y (show Bd 1 kJ from λc d=>by unfold kJ;rw[af E]) (by omega:1<=1000)];show a.ad 0 (a.mul 1 1)=1;rw[mM b (gV b),gC b (gV b)]
structure Um(D:FD)(xs ys:Nat->Nat)(i lo:Nat)(co cz:Nat->Nat):Prop where
 Vt:El D co
 Wt:El D cz
 Wa:pK lo co
 le:lo<=i
 Us:pK (i+1) cz
 mU:∀j,j<i->D.vl co (xs j)=ys j
 zero:∀j,j<i->D.vl cz (xs j)=0
 none:∀y,y<D.q->(∀j,j<i->y≠xs j)->D.vl cz y≠0
theorem OC(b:bV a)(c d:Nat->Nat):Um a c d 0 0 db kJ:=
 ⟨mw b,AB b,⟨λ_ _=>rfl,λc=>absurd X c⟩,aa _,⟨λe f=>by unfold kJ;rw[af E],λ_=>by unfold kJ;simp⟩,λj d=>E,λj d=>E,λy _ _=>by rw[Ua b];omega⟩
theorem tG(e:a∈ak)(_ha:b<a.q)(f:d<a.q)(g:b≠0)(h:d≠0):a.mul b d≠0:=by
 have c:=dE e;intro e;rw[<-gI c b]at e;exact h (oz c g f (aX c) e)
theorem OB(q:a∈ak)(f:Um a e i b d u l)(k:e b<a.q)(r:i b<a.q)(o:∀j,j<b->e b≠e j)(t:∀j,j<b->e j<a.q)(v:b+3<=1000)(z:m=a.mul (a.sb (i b) (a.vl u (e b))) (a.iv (a.vl l (e b))))(t:d<=g)(v:cY (aP a m l) (b+1+1)<=g)(A:g<=b+1):Um a e i (b+1) (cY (dk a u (aP a m l)) g) (dk a u (aP a m l)) (aZ a (b+1) l (KV (a.ng (e b)))):=by
 have c:=dE q;have B:a.vl l (e b)≠0:=f.none _ k o;have C:=Aa c l (e b);have s:=Aa c u (e b);have n:=ia c k;have t:El a (aP a m l):=dw c m l;have D:Bd (b+1) (aP a m l):=λo v=>by unfold aP;rw[f.Us.1 o v];exact gI c m
 have F:Bd g (dk a u (aP a m l)):=λo v=>by
  unfold dk;rw[f.Wa.1 o E,lz (D.mono (show b+1<=b+1+1 by omega)) o E];exact b5 c (aX c)
 refine⟨AA c f.Vt t,dG c _ _ _,l5 F,aK (eJ _ _) A,⟨?_,λ_=>?_⟩,λj w=>?_,λj w=>?_,λy p x=>?_⟩
 ·have:=ko c (a:=l) (tE (a.ng (e b))) (b+1);exact this
 ·show aZ a (b+1) l (KV (a.ng (e b))) (b+1+1-1)≠0;rw[show b+1+1-1=b+1 from E,nQ c (a:=l) (n:=b) (m:=1) (tE _)];show a.mul (l b) 1≠0;rw[mM c (f.Wt b)];exact f.Us.2 E
 ·rw[T9 c _ f.Vt t,OJ c];by_cases h:j=b
  ·subst h
   have o:a.mul m (a.vl l (e j))=a.sb (i j) (a.vl u (e j)):=by
    rw[z,c.mul_assoc,c.mul_comm (a.iv _),CW q C B,mM c (lM c r s)]
   rw[o];exact ue c r s
  ·rw[f.mU j E,f.zero j E,gI c];exact b5 c (by rw[<-f.mU j E];exact Aa c _ _)
 ·rw[OI c _ f.Us.1 (tE _) (Fs c n) E];by_cases h:j=b
  ·subst h;rw[OH c n k,gQ c,o5 c k,gI c]
  ·rw[f.zero j E,qI c]
 ·rw[OI c _ f.Us.1 (tE _) (Fs c n) E,OH c n p];refine tG q (Aa c _ _) (oK c n p) (f.none y p (λj w=>x j E)) (λh=>?_);rw[gQ c]at h;exact x b E (gX c p k h)
section
open Go.RowKit
theorem Hj{d T:Nat}(e:a∈ak)(f:gO d T a v c)(g:b<a.q):Calls prog 119 #[.pointer (some ⟨d,0,none⟩),.int .i64 b] c λh i=>h=.returned (.int .i64 (a.ng b:Nat))∧∃j,i=c.drewN j:=by
 have d:=Hi e f b;rw[FD.pB,ai (jh g),aN]at d;exact d
theorem F3(a:List Nat)(c:Nat->Nat)(b:World)(d:∀j,j<a.length->a[j]?=some (c j)):Sl (some ⟨b.heap.size,0,none⟩) a.length c (b.alloc (.cells (a.map λe=>Value.int .i64 (e:Nat)).toArray 3)):=λj f=>⟨b.heap.size,0,X,by
 rw[YB _ _ _ _ _ (0,0) (dR _),aW,an,ck,d j f];rfl⟩
theorem TB(c:bV a)(b:World):PA a (some ⟨b.heap.size,0,none⟩) 1 1 kJ (b.alloc (.cells #[.int .i64 1] 3)):=by
 have d:=F3 [1] kJ b (λj e=>by
  rcases j with _|j
  ·rfl
  ·simp at e)
 refine⟨d,λh f=>by cases f;simp,λg=>(by cases g),AB c,λi k=>by unfold kJ;rw[af E],λ_=>by unfold kJ;simp⟩
theorem yF{m T:Nat}(o:a∈ak)(i:gO m T a v c)(A:b<=999)(h:PA a n b d e c)(p:g<a.q)(f:Nat):Calls prog 125 #[.pointer (some ⟨m,0,none⟩),.slice n b d,.slice (some ⟨c.heap.size,0,none⟩) 1 1] ((c.drewN f).alloc (.cells #[.int .i64 (g:Nat)] 3)) λq k=>∃m,q=.returned m∧cG c.heap.size m (cY (aP a g e) (b+1)) (aP a g e) k∧Below c.heap.size c k:=by
 have r:=dE o;have l:Below c.heap.size c ((c.drewN f).alloc (.cells #[.int .i64 (g:Nat)] 3)):=(aO (XK _ _) f).alloc (aa _) _
 have u:=F3 [g] (λf=>if f=0 then g else 0) (c.drewN f) (λj m=>by
  rcases j with _|j
  ·rfl
  ·simp at m)
 have s:=h.below l
 have t:=pD o (i.below l i.qY i.sg) (ca:=d) (cb:=1) (show b<=1000 by omega) (show 1<=1000 by omega) h.el (λf=>by show(if f=0 then g else 0)<a.q;split;exact p;exact aX r)
  (λf B=>by show(if f=0 then g else 0)=0;rw[af E]) s.sl u s.lt (λy w=>by cases w;simp)
 rw[FM r h.el h.T7.1 p]at t;refine t.mono ?_;rintro q k ⟨rfl,x,z⟩;exact⟨_,X,cG.tJ x (eJ _ _) (eJ _ _) E oi,iO l z⟩
theorem Dq{l T:Nat}(m:a∈ak)(h:gO l T a v c)(B:b<=900)(o:PA a n (b+1) d e c)(s:g<a.q)(t:pK (b+2) (aZ a (b+1) e (KV g)))(f:Nat):Calls prog 125 #[.pointer (some ⟨l,0,none⟩),.slice n (b+1) d,.slice (some ⟨c.heap.size,0,none⟩) 2 2] ((c.drewN f).alloc (.cells #[.int .i64 (g:Nat),.int .i64 1] 3)) λp i=>∃l,p=.returned l∧cG c.heap.size l (b+2) (aZ a (b+1) e (KV g)) i∧Below c.heap.size c i:=by
 have u:=dE m;have k:Below c.heap.size c ((c.drewN f).alloc (.cells #[.int .i64 (g:Nat),.int .i64 1] 3)):=(aO (XK _ _) f).alloc (aa _) _
 have w:=F3 [g,1] (KV g) (c.drewN f) (λj l=>by
  rcases j with _|_|j
  ·rfl
  ·rfl
  ·simp at l;omega)
 have q:=o.below k;have r:=pD m (h.below k h.qY h.sg) (ca:=d) (cb:=2) (show b+1<=1000 by omega) (show 2<=1000 by omega) o.el (Fs u s) (tE g) q.sl w q.lt (λy x=>by cases x;simp);rw[t.cY (show b+2<=b+1+2 by omega)]at r;refine r.mono ?_;rintro p i ⟨rfl,z,A⟩;exact⟨_,X,cG.tJ z E E E oi,iO k A⟩
theorem Ea{C T:Nat}(hD:a∈ak)(h:gO C T a v c)(hn:b<=128)(hX:Sl n b e c)(hY:Sl o b i c)(ad:fp n c.heap.size)(ao:fp o c.heap.size)(F:∀j,j<b->e j<a.q)(P:∀j,j<b->i j<a.q)(ht:¬nu e b):Calls prog 122 #[.pointer (some ⟨C,0,none⟩),.slice n b d,.slice o b g] c λm s=>∃z t r,m=.returned z∧cG c.heap.size z t r s∧t<=b∧El a r∧pK t r∧(∀j,j<b->a.vl r (e j)=i j)∧Below c.heap.size c s:=by
 have u:Hid (gO C T a v c∧a∈ak∧Sl n b e c∧Sl o b i c):=⟨h,hD,hX,hY⟩;have G:Hid (fp n c.heap.size∧fp o c.heap.size∧(∀j,j<b->e j<a.q)∧(∀j,j<b->i j<a.q)∧¬nu e b):=⟨ad,ao,F,P,ht⟩;clear h hD hX hY ad ao F P ht;go_enter func122,ntmps122;go_wp2;go_loopw [7,8,16] (λva I Z wr=>∃(f t J Q:Nat) (M W:Option Addr) (r p:Nat->Nat),f<=b∧Z=.int .i64 f∧va=.slice M t J∧I=.slice W (f+1) Q∧Hid (Um a e i f t r p)∧PA a M t J r wr∧PA a W (f+1) Q p wr∧cG c.heap.size va t r wr∧Below c.heap.size c wr) (λ_ _ Z _=>b-(intOf Z).toNat)
 case atStart=>
  have A:=dE u.out.2.1;refine⟨0,0,0,1,none,_,db,kJ,E,X,X,X,OC A e i,⟨λj Y=>E,λx B=>(by cases B),λ_=>rfl,mw A,λ_ _=>rfl,λm=>absurd X m⟩,TB A c,⟨none,0,X,aa _,E,λx B=>(by cases B),λx B=>(by cases B),λ_=>rfl,λh0=>absurd h0 E⟩,(XK _ _).alloc (aa _) _⟩
 case round=>
  obtain⟨f,t,J,Q,M,W,r,p,hr,rfl,rfl,rfl,D,av,ax,a3,ab⟩:=hrel;have l:Hid (PA a M t J r wr∧PA a W (f+1) Q p wr∧cG c.heap.size (.slice M t J) t r wr∧Below c.heap.size c wr∧gO C T a v wr):=⟨av,ax,a3,ab,u.out.1.below ab u.out.1.qY u.out.1.sg⟩;clear av ax a3 ab;by_cases K:f<b
  ·obtain⟨a4,a5,rfl,bn⟩:=(u.out.2.2.1.below l.out.2.2.2.1 G.out.1) f K;obtain⟨a6,bN,rfl,bo⟩:=(u.out.2.2.2.below l.out.2.2.2.1 G.out.2.1) f K;have⟨x,B⟩:=eaa (e f);have⟨y,Z⟩:=eaa (i f);have⟨vo,ad⟩:=eaa (a.vl r x);have⟨I,ab⟩:=eaa (a.vl p x);have⟨ms,ao⟩:=eaa (a.sb y vo);have⟨w,hs⟩:=eaa (a.mul ms (a.iv I));have A:=dE u.out.2.1;have F:x<a.q:=by rw[B];exact G.out.2.2.1 f K
   have P:y<a.q:=by rw[Z];exact G.out.2.2.2.1 f K
   have av:∀j,j<f->e f≠e j:=λj Y m=>G.out.2.2.2.2 ⟨j,f,Y,K,m.symm⟩
   have ax:vo<a.q:=by rw[ad];exact Aa A _ _
   have a3:I<a.q:=by rw[ab];exact Aa A _ _
   have a4:I≠0:=by rw[ab,B];exact D.out.none _ (G.out.2.2.1 f K) av
   have a5:ms<a.q:=by rw[ao];exact lM A P ax
   have a6:w<a.q:=by rw[hs];exact A.bX _ _
   have bp:Hid (∀k,Calls prog 129 #[.pointer (some ⟨C,0,none⟩),.slice M t J,.int .i64 x] (wr.drewN k) λm s=>m=.returned (.int .i64 (vo:Nat))∧∃q,s=(wr.drewN k).drewN q):=by
    intro k;have h:=z9 u.out.2.1 (l.out.2.2.2.2.drewN k) (cap:=J) F (show t<=1000 by have:=D.out.le;omega) l.out.1.el (l.out.1.drewN k).sl;rw[OK A l.out.1.el l.out.1.T7.1 F (by have:=D.out.le;omega), <-ad]at h;exact h
   have bs:Hid (∀k,Calls prog 126 #[.pointer (some ⟨C,0,none⟩),.int .i64 (y:Nat),.int .i64 (vo:Nat)] (wr.drewN k) λm s=>m=.returned (.int .i64 (ms:Nat))∧∃q,s=(wr.drewN k).drewN q):=by
    intro k;rw[ao];exact By u.out.2.1 (l.out.2.2.2.2.drewN k) P ax
   have bw:Hid (∀k,Calls prog 129 #[.pointer (some ⟨C,0,none⟩),.slice W (f+1) Q,.int .i64 x] (wr.drewN k) λm s=>m=.returned (.int .i64 (I:Nat))∧∃q,s=(wr.drewN k).drewN q):=by
    intro k;have h:=z9 u.out.2.1 (l.out.2.2.2.2.drewN k) (cap:=Q) F (show f+1<=1000 by omega) l.out.2.1.el (l.out.2.1.drewN k).sl;rw[OK A l.out.2.1.el l.out.2.1.T7.1 F E, <-ab]at h;exact h
   have bx:Hid (∀k,Calls prog 130 #[.pointer (some ⟨C,0,none⟩),.int .i64 (I:Nat)] (wr.drewN k) λm s=>m=.returned (.int .i64 (a.iv I:Nat))∧∃q,s=(wr.drewN k).drewN q):=λk=>CV u.out.2.1 (l.out.2.2.2.2.drewN k) a3 a4
   have bz:Hid (∀k,Calls prog 67 #[.pointer (some ⟨C,0,none⟩),.int .i64 (ms:Nat),.int .i64 (a.iv I:Nat)] (wr.drewN k) λm s=>m=.returned (.int .i64 (w:Nat))∧∃q,s=(wr.drewN k).drewN q):=by
    intro k;rw[hs];exact mR u.out.2.1 (l.out.2.2.2.2.drewN k) a5 (G6 u.out.2.1 _)
   have R:Hid (x<a.q∧w<a.q∧(∀j,j<f->e f≠e j)∧x=e f∧y=i f∧w=a.mul (a.sb (i f) (a.vl r (e f))) (a.iv (a.vl p (e f)))):=⟨F,a6,av,B,Z,by rw[hs,ao,ad,ab,B,Z]⟩;rw[<-B]at bn;rw[<-Z]at bo;clear B Z ad ab ao hs F P av ax a3 a4 a5 a6 A;go_wp2
   go_quiet (first|(go_at_call 129;exact XS (bp.out _))|(go_at_call 126;exact XS (bs.out _)))
   go_wp2_with (first
    |(go_at_call 129;refine(bw.out _).mono ?_;rintro m s ⟨rfl,k1,rfl⟩)
    |(go_at_call 130;refine(bx.out _).mono ?_;rintro m s ⟨rfl,k2,rfl⟩)
    |(go_at_call 67;refine(bz.out _).mono ?_;rintro m s ⟨rfl,k3,rfl⟩))
   refine(yF u.out.2.1 l.out.2.2.2.2 E l.out.2.1 R.out.2.1 _).mono ?_;rintro m N ⟨v2,rfl,a7,a8⟩;obtain⟨po,pc,rfl,bA,bB,bE,a9,bM,ba⟩:=a7.open;have S:Hid (Sl po (cY (aP a w p) (f+1+1)) (aP a w p) N∧fp po N.heap.size∧Below wr.heap.size wr N):=⟨ba,a9,a8⟩;clear a7 bA bB bE a9 bM ba a8;have⟨q,B⟩:=eaa (cY (aP a w p) (f+1+1));have F:Bd (f+1) (aP a w p):=λk I=>by unfold aP;rw[l.out.2.1.T7.1 k I];exact gI (dE u.out.2.1) w
   have I:q<=f+1:=by rw[B,mr F E];exact eJ _ _
   have HM:Hid (q=cY (aP a w p) (f+1+1)∧Bd q (aP a w p)):=⟨B,by rw[B];exact lz (F.mono E)⟩;rw[<-B];clear B F
   have HQ:Hid (∀k,Calls prog 131 #[.pointer (some ⟨C,0,none⟩),.slice M t J,.slice po q pc] (N.drewN k) λm s=>∃z,m=.returned z∧cG N.heap.size z (cY (dk a r (aP a w p)) (max t q)) (dk a r (aP a w p)) s∧Below N.heap.size N s):=by
    intro k;have A:=dE u.out.2.1;have F:=l.out.2.2.2.2.below S.out.2.2 l.out.2.2.2.2.qY l.out.2.2.2.2.sg;have B:=l.out.1.below S.out.2.2;have I:=D.out.le;refine(ND u.out.2.1 (F.drewN k) (show t<=1000 by omega) (show q<=1000 by omega) l.out.1.el (dw A w p) l.out.1.T7.1 HM.out.2 (B.drewN k).sl (by rw[HM.out.1];exact S.out.1.drewN k) B.lt S.out.2.1).mono ?_;rintro m s ⟨z,rfl,ho,hb⟩;exact⟨z,X,ho,(aO (XK _ _) k).trans hb⟩
   go_wp2_with fail
   refine(HQ.out 0).mono ?_;rintro m O ⟨v3,rfl,a0,bb⟩
   have U:Hid (Um a e i (f+1) (cY (dk a r (aP a w p)) (max t q)) (dk a r (aP a w p)) (aZ a (f+1) p (KV (a.ng x)))):=by
    show Um _ _ _ _ _ _ _;rw[R.out.2.2.2.1];refine OB u.out.2.1 D.out (G.out.2.2.1 f K) (G.out.2.2.2.1 f K) R.out.2.2.1 (λj Y=>G.out.2.2.1 j E) E R.out.2.2.2.2.2 E ?_ ?_
    ·have:=HM.out.1;omega
    ·have:=D.out.le;omega
   obtain⟨a1,a2,rfl,bc⟩:=a0.pa (D:=a) U.out.Vt U.out.Wa;have z:=S.out.2.2.size;have z:=l.out.2.2.2.1.size;have V:Hid (cG c.heap.size (.slice a1 (cY (dk a r (aP a w p)) (max t q)) a2) (cY (dk a r (aP a w p)) (max t q)) (dk a r (aP a w p)) O∧PA a a1 (cY (dk a r (aP a w p)) (max t q)) a2 (dk a r (aP a w p)) O∧Below wr.heap.size wr O):=⟨a0.mono E,bc,iO S.out.2.2 bb⟩;clear a0 bc bb HQ
   have HN:Hid (∀k,Calls prog 119 #[.pointer (some ⟨C,0,none⟩),.int .i64 (x:Nat)] (O.drewN k) λm s=>m=.returned (.int .i64 (a.ng x:Nat))∧∃q,s=(O.drewN k).drewN q):=λk=>
    Hj u.out.2.1 ((l.out.2.2.2.2.below V.out.2.2 l.out.2.2.2.2.qY l.out.2.2.2.2.sg).drewN k) R.out.1
   go_wp2_with (go_at_call 119;refine(HN.out 0).mono ?_;rintro m s ⟨rfl,k4,rfl⟩)
   refine(Dq u.out.2.1 (l.out.2.2.2.2.below V.out.2.2 l.out.2.2.2.2.qY l.out.2.2.2.2.sg) E (l.out.2.1.below V.out.2.2) (ia (dE u.out.2.1) R.out.1) U.out.Us _).mono ?_;rintro m w4 ⟨v4,rfl,bd,bg⟩;obtain⟨bk,bl,rfl,bm⟩:=bd.pa (D:=a) U.out.Wt U.out.Us;have ar:Hid (PA a bk (f+2) bl (aZ a (f+1) p (KV (a.ng x))) w4∧Below O.heap.size O w4):=⟨bm,bg⟩;clear bd bm bg HN;go_wp2;go_roundw
   case rel=>exact⟨f+1,_,a2,bl,a1,bk,_,_,E,x9,X,X,U.out,V.out.2.1.below ar.out.2,ar.out.1,V.out.1.below ar.out.2 (aa _),iO (iO l.out.2.2.2.1 V.out.2.2) ar.out.2⟩
   case measure=>simp[intOf];omega
  ·have m:f=b:=by omega
   have HE:Hid (f=b):=m;clear m;go_wp2;go_ret;exact⟨_,t,r,X,l.out.2.2.1,by have:=D.out.le;omega,D.out.Vt,D.out.Wa,λj Y=>D.out.mU j (by rw[HE.out];exact Y),l.out.2.2.2.1⟩
theorem Fo:(prog.info? 22).map (λa=>(a.zero,a.size,a.bytes))=some (some (.slice none 0 0),1,24):=wL
def fE(b:Nat)(c:Value)(a:List Value)(d:World):Prop:=d.ownsRow b 22 1 c a.length a
theorem fE.nil(a:Nat)(b:World):fE a (.slice none 0 0) [] b:=World.ownsRow_nil _ _ _ _
theorem fE.below{a B:Nat}(b:fE a f k c)(e:Below B c p)(g:c.heap.size<=B):fE a f k p:=by
 obtain⟨d,a⟩:=b;refine⟨d,?_⟩;rcases a with a|⟨b,h,i,j,l,d,m⟩
 ·exact I a
 ·exact J ⟨b,h,i,j,l,by rw[e.block b (aj (X7 d) g)];exact d,m⟩
theorem fE.mono{a base':Nat}(b:fE a f k c)(d:base'<=a):fE base' f k c:=by
 obtain⟨d,a⟩:=b;refine⟨d,?_⟩;rcases a with a|⟨b,d,e,g,i,h⟩
 ·exact I a
 ·exact J ⟨b,d,e,g,E,h⟩
theorem fE.open(p:fE b f k c):∃e h,f=.slice e k.length h∧(e=none->h=0)∧fp e c.heap.size∧Uh e b∧∀(j:Nat) (i:Value),k[j]?=some i->∃a,e=some ⟨a,0,none⟩∧c.cell? ⟨a,j,none⟩=some i∧c.frozen? ⟨a,j,none⟩=false:=by
 rcases p.2 with⟨q,o⟩|⟨a,h,l,r,s,m,e,v,w,t⟩
 ·refine⟨none,0,by rw[q,o],λ_=>rfl,λn d=>(by cases d),λn d=>(by cases d),λj i g=>?_⟩;rw[fY.1 o]at g;simp at g
 ·refine⟨_,h,r,λu=>(by cases u),λn d=>(by cases d;exact X7 m),λn d=>(by cases d;exact s),λj i g=>⟨a,X,?_,frozen_of_row c a j l 22 m⟩⟩;have d:=(b9.1 g).1;rw[YB c a j l 22 (0,0) m, <-cU];have a:(l.toList.take (k.length*1))[j]?=k[j]?:=by rw[t]
  rw[dL,ai E]at a;rw[a];exact g
theorem sY{l:Exit->Act->World->Prop}(o:s.guard=none)(b k:Operand)(p:s.op=.call { callee:=.builtin .append,args:= #[b,k],argTypes:= #[23,23]})(e:Nat)(f:Value)(g:List Value)(q:t.eval b=f)(r:fE e f g c)(a:Addr)(m:Nat)(y:Value)(u:y.oneCell'=true)(v:t.eval k=.slice (some a) 1 m)(z:c.cell? a=some y)(C:g.length<=1000000)(A:e<=c.heap.size)(B:∀h d,fE e h (g++[y]) d->c.grownBy d f.ownBlock->wpList prog w l x (t.put s.dst h) d):wpList prog w l (s::x) t c:=by
 obtain⟨l,C,D,E,F⟩:=X5 Fo;refine Yq _ o b k 23 p e 22 l (.slice none 0 0) 1 24 underlying23 C D E F X x5 f g.length _ q r a 1 m [y] v X ?_ ?_ ?_ ?_ A ?_
 ·intro j G i
  match j,i with
  |0,i=>
   simp at i;subst i;have:a.add 0=a:=by cases a with|mk I s b=>cases b<;>simp[Addr.add]
   rw[this];exact z
 ·intro G n;simp at n;subst n;exact u
 ·unfold maxLen;omega
 ·omega
 ·intro h d a b _;refine B h d ?_ b;unfold fE;rw[aQ];exact a
theorem Row.apart(i:Row d g e c)(j:fE b f k c):some d≠f.ownBlock:=by
 obtain⟨p,q,⟨r,l,_⟩,_⟩:=i;rcases j.2 with⟨m,_⟩|⟨n,i,p,o,_,h,_⟩
 ·rw[m];intro a;cases a
 ·rw[o];intro a;have a:some d=some n:=a;cases a;rw[l]at h;simp at h
def kW(d:Value)(a:Nat×(Nat->Nat))(e:World):Prop:=∃c b,d=.slice (some ⟨c,0,none⟩) (a.1+1) b∧a.1+1<=b∧b<=9223372036854775807∧Row c (a.1+1) a.2 e
theorem kW.one(a:kW f q c):f.oneCell'=true:=by
 obtain⟨b,d,rfl,_⟩:=a;rfl
theorem kW.below(b:kW f q c){B:Nat}(d:Below B c p)(e:c.heap.size<=B):kW f q p:=by
 obtain⟨g,h,i,j,k,a⟩:=b;exact⟨g,h,i,j,k,a.below d (aj a.lt e)⟩
theorem kW.grown(e:kW f q c)(g:fE b j k c)(h:c.grownBy p j.ownBlock):kW f q p:=by
 obtain⟨d,i,l,m,n,a⟩:=e;exact⟨d,i,l,m,n,a.other (h.block d a.lt (a.apart g))⟩
theorem cG.Ws{a d:Nat}(b:cG a f (d+1) e c):kW f (d,e) c:=by
 obtain⟨k,a,g,h,i,_,_,_,j⟩:=b;obtain⟨b,k,l⟩:=j E;exact⟨b,a,by rw[g,k],h,i,l⟩
theorem kW.sl(g:kW f q c):∃b a,f=.slice b (q.1+1) a∧q.1+1<=a∧a<=9223372036854775807∧Sl b (q.1+1) q.2 c∧fp b c.heap.size∧(b=none->a=0):=by
 obtain⟨b,a,d,h,i,e⟩:=g;exact⟨_,a,d,h,i,e.sl (aa _),λk j=>(by cases j;exact e.lt),λd=>(by cases d)⟩
def rF(a:List Value)(L:List (Nat×(Nat->Nat)))(d:World):Prop:=a.length=L.length∧∀(j:Nat) (b:Value) (c:Nat×(Nat->Nat)),a[j]?=some b->L[j]?=some c->kW b c d
theorem rF.nil(a:World):rF [] [] a:=⟨X,λj c d b _=>by simp at b⟩
theorem rF.snoc(d:rF k r c)(h:kW f q c):rF (k++[f]) (r++[q]) c:=by
 refine⟨by rw[aQ,aQ,d.1];rfl,λj i l a b=>?_⟩;by_cases e:j<k.length
 ·rw[bL e]at a;rw[bL (by rw[<-d.1];exact e)]at b;exact d.2 j i l a b
 ·rw[bU E]at a;rw[bU (by rw[<-d.1];omega), <-d.1]at b;cases g:j-k.length with
  |zero=>
   rw[g]at a b;simp at a b;subst a;subst b;exact h
  |succ m=>
   rw[g]at a;simp at a
theorem rF.below(a:rF k r c){B:Nat}(b:Below B c p)(d:c.heap.size<=B):rF k r p:=⟨a.1,λj e f g h=>(a.2 j e f g h).below b d⟩
theorem rF.grown(a:rF y r c)(d:fE b f k c)(e:c.grownBy p f.ownBlock):rF y r p:=⟨a.1,λj g h i l=>(a.2 j g h i l).grown d e⟩
def uH(c:Nat)(d:Value)(L:List (Nat×(Nat->Nat)))(a:World):Prop:=∃b,fE c d b a∧rF b L a
theorem uH.nil(a:Nat)(b:World):uH a (.slice none 0 0) [] b:=⟨[],fE.nil _ _,rF.nil _⟩
theorem uH.below{a B:Nat}(e:uH a f r c)(b:Below B c p)(d:c.heap.size<=B):uH a f r p:=by
 obtain⟨a,g,h⟩:=e;exact⟨a,g.below b d,h.below b d⟩
theorem uH.mono{a base':Nat}(b:uH a f r c)(d:base'<=a):uH base' f r c:=by
 obtain⟨a,e,g⟩:=b;exact⟨a,e.mono d,g⟩
theorem fE.A3(e:fE b f k c):∀d,f.ownBlock=some d->b<=d:=by
 intro d a;rcases e.2 with⟨g,_⟩|⟨h,l,m,i,j,_⟩
 ·rw[g]at a;cases a
 ·rw[i]at a;have a:some h=some d:=a;cases a;exact j
theorem D9(G:a∈ak){e y:Nat->Int}(K:Arg n b g e c)(M:Arg o d m y c):Calls prog 107 #[.int .i64 a.q,.slice n b g,.slice o d m] c λi t=>Below c.heap.size c t∧((a.gu b e d y=0∧b=d∧¬nu (zc b e) b∧∃r l k,i=.returned (.tuple #[r,.int .i64 0])∧cG c.heap.size r l k t∧l<=b∧El a k∧pK l k∧∀j,j<b->a.vl k (zc b e j)=zc d y j)∨(a.gu b e d y=0∧b=d∧nu (zc b e) b∧i=.returned (.tuple #[.slice none 0 0,.int .i64 7]))∨(a.gu b e d y=0∧b≠d∧i=.returned (.tuple #[.slice none 0 0,.int .i64 6]))∨(a.gu b e d y≠0∧i=.returned (.tuple #[.slice none 0 0,.int .i64 (a.gu b e d y)]))):=by
 have s:Hid (Arg n b g e c∧Arg o d m y c∧a∈ak):=⟨K,M,G⟩;clear K M G;go_enter func107,ntmps107;go_wp2_with fail;refine(tK s.out.2.2 s.out.1 s.out.2.1).mono ?_;rintro i p ⟨w,hr⟩;rcases hr with⟨u,N,T,ad,rfl,B,v,hT⟩|⟨u,rfl⟩
 ·have f:Hid (a.gu b e d y=0∧gO N T a ad p∧Below c.heap.size c p∧Arg n b g e p∧Arg o d m y p):=⟨u,B,w,s.out.1.below w,s.out.2.1.below w⟩;clear u B v hT w;have G:=sZ f.out.1;have ao:=(mq G.1).1;have x:Hid (a.jG b e=0∧a.jG d y=0):=G;clear G;by_cases C:b=d
  ·have O:((b:Int) !=(d:Int))=false:=by rw[C];simp
   have z:Hid (b=d):=C;clear C
   have P:Hid (Calls prog 121 #[.slice n b g] p λi t=>(∃D,i=.returned (.bool D)∧(D=true↔nu (zc b e) b))∧Below p.heap.size p t):=by
     have v:=dE s.out.2.2;exact AL (sP x.out.1 f.out.2.2.2.1.sl) E f.out.2.2.2.1.lt (λj=>aj (uF v x.out.1 j) v.uP)
   go_wp2_with fail
   refine P.out.mono ?_;rintro i F ⟨⟨D,rfl,Q⟩,R⟩;have q:Hid ((D=true↔nu (zc b e) b)∧Below p.heap.size p F):=⟨Q,R⟩;clear Q R P;cases D with
   |true=>
    go_wp2
    go_ret2
    exact⟨iO f.out.2.2.1 q.out.2,J (I ⟨f.out.1,z.out,q.out.1.1 (by trivial),X⟩)⟩
   |false=>
    have S:Hid (Calls prog 122 #[.pointer (some ⟨N,0,none⟩),.slice n b g,.slice o d m] F λi t=>∃r l k,i=.returned r∧cG F.heap.size r l k t∧l<=b∧El a k∧pK l k∧(∀j,j<b->a.vl k (zc b e j)=zc d y j)∧Below F.heap.size F t):=by
      have v:=dE s.out.2.2;have ar:¬nu (zc b e) b:=λh=>(by have:=q.out.1.2 h;cases this)
      have t:=f.out.2.2.2.1.below q.out.2;have D:=f.out.2.2.2.2.below q.out.2;show Calls _ _ _ _ _;rw[show(Value.slice o d m)=.slice o b m from by rw[z.out]];exact Ea s.out.2.2 (f.out.2.1.below q.out.2 f.out.2.1.qY f.out.2.1.sg) ao (sP x.out.1 t.sl) ((sP x.out.2 D.sl).less (by rw[z.out];exact aa _)) t.lt D.lt (λj _=>uF v x.out.1 j) (λj _=>uF v x.out.2 j) ar
    go_wp2_with fail
    refine S.out.mono ?_;rintro i U ⟨r,l,k,rfl,V,W,Y,Z,B,ab⟩;have s:=f.out.2.2.1.size;have s:=q.out.2.size;have A:Hid (cG c.heap.size r l k U∧l<=b∧El a k∧pK l k∧(∀j,j<b->a.vl k (zc b e j)=zc d y j)∧Below c.heap.size c U):=⟨V.mono E,W,Y,Z,B,iO (iO f.out.2.2.1 q.out.2) ab⟩;clear V W Y Z B ab S;go_wp2
    go_ret2
    exact⟨A.out.2.2.2.2.2,I ⟨f.out.1,z.out,λh=>(by have:=q.out.1.2 h;cases this),r,l,k,X,A.out.1,A.out.2.1,A.out.2.2.1,A.out.2.2.2.1,A.out.2.2.2.2.1⟩⟩
  ·have O:((b:Int) !=(d:Int))=true:=by rw[dy];omega
   have z:Hid (b≠d):=C;clear C;go_wp2
   go_ret2
   exact⟨f.out.2.2.1,J (J (I ⟨f.out.1,z.out,X⟩))⟩
 ·have f:Hid (a.gu b e d y≠0∧Below c.heap.size c p):=⟨u,w⟩;have⟨i,k⟩:=eaa (a.gu b e d y);rw[<-k]at u ⊢;have O:(i !=0)=true:=by rw[dy];exact u
  have HE:Hid (i=a.gu b e d y):=k;clear u w k;go_wp2
  go_ret2
  exact⟨f.out.2,J (J (J ⟨f.out.1,by rw[<-HE.out];rfl⟩))⟩
theorem uH.slice(e:uH b f r c):∃a d,f=.slice a r.length d:=by
 obtain⟨i,g,h⟩:=e;obtain⟨a,d,e,_⟩:=g.open;exact⟨a,d,by rw[e,h.1]⟩
def zl(a:Nat)(b:Nat->Int):List Int:=(List.range a).map b
theorem bq(a:Nat)(b:Nat->Int):(zl a b).length=a:=by simp[zl]
theorem kr(a:Nat)(b:Nat->Int)(j:Nat)(c:j<a):(zl a b)[j]?=some (b j):=by
 unfold zl;rw[ck,qC c];rfl
theorem sR(a:Nat)(b:Nat->Int)(j:Nat)(c:j<a):(zl a b).getD j 0=b j:=by
 rw[aG,kr a b j c];rfl
theorem Ef{a y:Nat->Int}(c:∀j,j<b->a j=y j):zl b a=zl b y:=by
 unfold zl;exact jk (λj a=>c j (bj.1 a))
theorem sS(a:Nat)(b:Nat->Int):zl (a+1) b=zl a b++[b a]:=by
 unfold zl;rw[j5,dN];rfl
theorem B5{r:Exit->Act->World->Prop}(u:s.guard=none)(i k:Operand)(v:s.op=.call { callee:=.builtin .append,args:= #[i,k],argTypes:= #[22,22]})(f:Nat)(e:Value)(b:List Int)(y:t.eval i=e)(n:aV f e b c)(l:Option Addr)(a o:Nat)(g:Nat->Int)(p:t.eval k=.slice l a o)(z:lu l a g c)(E:l=none->o=0)(T:b.length+a<=1000000)(F:f<=c.heap.size)(A:∀m h,aV f m (b++zl a g) h->c.grownBy h e.ownBlock->wpList prog w r x (t.put s.dst m) h):wpList prog w r (s::x) t c:=by
 obtain⟨B,C,G,I,J⟩:=X5 lV;cases l with
 |none=>
  have K:a=0:=by
    rcases cL a with d|d
    ·exact d
    ·obtain⟨M,N,O,_⟩:=z 0 d;cases O
  subst K;rw[E X]at p;refine wpList_append_own_none u i k 22 v f 3 B 1 underlying22 C e b.length _ y n p ?_
  exact A e c (by have d:b ++ zl 0 g=b:=by simp [zl]
                  rw[d];exact n) (gS _ _)
 |some P=>
  refine Yq _ u i k 22 v f 3 B (.int .i64 0) 1 8 underlying22 C G I J X x5 e b.length _ y n P a o ((zl a g).map (Value.int .i64)) p (by rw[gp,bq];omega) ?_ ?_ ?_ ?_ F ?_
  ·intro j Q q
   have D:j<a:=by
     have:=(b9.1 q).1
     rwa [gp,bq]at this
   rw[ck,kr a g j D]at q;cases q;obtain⟨M,N,d,R⟩:=z j D;cases d;rw[od];exact R
  ·intro Q S;obtain⟨U,_,rfl⟩:=gF.1 S;rfl
  ·unfold maxLen;omega
  ·omega
  ·intro m h a b _;refine A m h ?_ b;unfold aV;rw[dN,aQ,bq];exact a
theorem aV.V8{e:List Int}(n:aV b f e c)(j:Nat->Nat)(o:∀a,a<e.length->e.getD a 0=(j a:Nat)):cG b f e.length j c:=by
 rcases n.2 with⟨p,q⟩|⟨r,k,g,s,t,l,m,u,j,v⟩
 ·exact⟨none,0,by rw[p,q],E,E,λi d=>(by cases d),λi d=>(by cases d),λ_=>rfl,λw=>absurd w E⟩
 ·refine⟨_,k,s,m,by unfold maxLen at u;omega,λi d=>(by cases d;exact t),λi d=>(by cases d;exact X7 l),λx=>(by cases x),λ_=>⟨r,X,k,λa=>(g[a]?).getD (.int .i64 0),⟨g,l,E,λa h=>?_⟩,m,λa h=>?_⟩⟩
  ·show _=some (Option.getD _ _);rw[au E];rfl
  ·have d:(g.toList.take (e.length*1))[a]?=(e.map (Value.int .i64))[a]?:=by rw[v]
   rw[dL,ai E,ck,aE h]at d;show(g[a]?).getD _=_;have e:=o a h;rw[aG,aE h]at e;rw[<-cU,d];show Value.int .i64 _=_;rw[<-e];rfl
theorem cG.block(i:cG b f d e c):∀a,f.ownBlock=some a->b<=a:=by
 obtain⟨j,l,rfl,_,_,k,_⟩:=i;intro a g;cases j with
 |none=>cases g
 |some h=>
  have g:some h.block=some a:=g;cases g;exact k h X
end
section
open Go.RowKit Go.Sort
