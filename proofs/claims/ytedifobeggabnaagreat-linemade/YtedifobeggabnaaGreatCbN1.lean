/- Texts of ours, one behind the other: N1 N2 N3 N4 U1 U2 W4 U3 U4 U5 U6 U7 U8 U9 U10 U11. -/
import Derived.Test.YtedifobeggabnaaGreatCbR5
import Derived.Laws.CopyOwn
import Derived.Laws.AppendOwnNone
import Derived.Lib.SliceRun
namespace Go.Proofs.YtedifobeggabnaaGreat
set_option maxHeartbeats 8000000
set_option maxRecDepth 100000
open Tryz
variable {c:FD}{b e o q Q:Nat}{a l j M P:Nat->Nat}{m t:Option Addr}{g w:World}{A:Nat->Value}{C:Value}{y:Program}{p:Array Oper}{F:World->Prop}{O:Array Bool->Act->Prop}{B:Oper}{G:Exit->Act->World->Prop}{D:Act}{u:List Oper}{x:Nat->Int}{K:Nat->Option Addr}{v:Nat->Nat->Int}
abbrev XZ:=@Go.wpQuiet_nil
abbrev Ym:=@Go.ready_mono
abbrev Yn:=@Go.mem_ready
abbrev Yu:=@Go.getD_replicate_false
abbrev YM:=@Go.Region.noSelect_spec
abbrev YT:=@Go.wp_region_any
theorem XC{a:Prop}(b:a:=by rw[af (by omega)]):a:=b
theorem XH{a:Prop}(b:a:=by rw[dD];simp;omega):a:=b
def FD.ad(a:FD)(b c:Nat):Nat:=dz a.p a.q b c
def FD.ng(a:FD)(b:Nat):Nat:=jC a.p a.q b
def FD.sb(a:FD)(b c:Nat):Nat:=a.ad b (a.ng c)
def El(a:FD)(b:Nat->Nat):Prop:=∀c,b c<a.q
theorem oK(a:bV c)(d:b<c.q)(f:e<c.q):c.ad b e<c.q:=a.xP b e d f
theorem gQ(d:bV c)(a b:Nat):c.ad a b=c.ad b a:=d.add_comm a b
theorem g7(a:bV c)(d:b<c.q)(f:e<c.q)(g:o<c.q):c.ad (c.ad b e) o=c.ad b (c.ad e o):=a.add_assoc b e o d f g
theorem b5(a:bV c)(d:b<c.q):c.ad b 0=b:=a.lj b d
theorem gC(a:bV c)(d:b<c.q):c.ad 0 b=b:=by rw[gQ a];exact b5 a d
theorem aX(a:bV c):0<c.q:=by have:=a.q2;omega
theorem gV(a:bV c):1<c.q:=by have:=a.q2;omega
theorem ia(a:bV c)(d:b<c.q):c.ng b<c.q:=a.FF b d
theorem o5(a:bV c)(d:b<c.q):c.ad b (c.ng b)=0:=a.sum_neg b d
theorem Qy(a:bV c):c.ng 0=0:=by
 have b:=o5 a (aX a)
 rwa [gC a (ia a (aX a))]at b
theorem lM(a:bV c)(d:b<c.q)(f:e<c.q):c.sb b e<c.q:=oK a d (ia a f)
theorem oF(a:bV c)(d:b<c.q):c.sb b 0=b:=by rw[FD.sb,Qy a,b5 a d]
theorem fA(a:bV c)(d:b<c.q):c.sb b b=0:=o5 a d
theorem ue(a:bV c)(f:b<c.q)(d:e<c.q):c.ad e (c.sb b e)=b:=by
 rw[FD.sb,gQ a b, <-g7 a d (ia a d) f,o5 a d,gC a f]
theorem N3(a:bV c)(f:b<c.q)(d:e<c.q):c.sb (c.ad b e) e=b:=by
 rw[FD.sb,g7 a f d (ia a d),o5 a d,b5 a f]
theorem nA(b:bV c){a d e:Nat}(f:a<c.q)(h:d<c.q)(i:e<c.q)(j:c.ad a d=c.ad a e):d=e:=by
 have g:=N3 b h f;have h:=N3 b i f;rw[gQ b d a,j,gQ b a e,h]at g;exact g.symm
theorem gX(a:bV c)(f:b<c.q)(d:e<c.q)(g:c.sb b e=0):b=e:=by
 have:=ue a f d;rw[g,b5 a d]at this;exact this.symm
theorem gI(_F:bV c)(a:Nat):c.mul a 0=0:=by simp[FD.mul]
theorem qI(_F:bV c)(a:Nat):c.mul 0 a=0:=by simp[FD.mul]
theorem pA(a:bV c)(d:e<c.q)(f:o<c.q):c.mul b (c.ad e o)=c.ad (c.mul b e) (c.mul b o):=a.Py b e o d f
theorem vK(a:bV c)(d:e<c.q)(f:o<c.q):c.mul (c.ad e o) b=c.ad (c.mul e b) (c.mul o b):=by
 rw[a.mul_comm,pA a d f,a.mul_comm b e,a.mul_comm b o]
theorem mM(a:bV c)(d:b<c.q):c.mul b 1=b:=a.mul_one b d
theorem FJ(a:bV c)(d:b<c.q):c.mul 1 b=b:=by rw[a.mul_comm];exact a.mul_one b d
theorem xf(a:bV c)(d:e<c.q):c.mul b (c.ng e)=c.ng (c.mul b e):=by
 refine nA a (a.bX b e) (a.bX b _) (ia a (a.bX b e)) ?_;rw[o5 a (a.bX b e), <-pA a d (ia a d),o5 a d,gI a]
theorem FB(a:bV c)(f:e<c.q)(d:o<c.q):c.mul b (c.sb e o)=c.sb (c.mul b e) (c.mul b o):=by
 rw[FD.sb,pA a f (ia a d),xf a d];rfl
theorem TL(a:bV c)(d:e<c.q)(f:o<c.q):c.mul (c.sb e o) b=c.sb (c.mul e b) (c.mul o b):=by
 rw[a.mul_comm,FB a d f,a.mul_comm b e,a.mul_comm b o]
theorem oz(a:bV c)(i:b≠0)(d:e<c.q)(f:o<c.q)(j:c.mul b e=c.mul b o):e=o:=by
 by_cases g:c.sb e o=0
 ·exact gX a d f g
 ·have h:=(a.tG b _ i g).1;rw[FB a d f,j,fA a (a.bX b o)]at h;exact absurd X h
theorem UD(a:bV c){i b e d:Nat}(j:i<c.q)(f:b<c.q)(g:e<c.q)(h:d<c.q):c.ad (c.ad i b) (c.ad e d)=c.ad (c.ad i e) (c.ad b d):=by
 rw[g7 a j f (oK a g h), <-g7 a f g h,gQ a b e,g7 a g f h, <-g7 a j g (oK a f h)]
def dk(b:FD)(c d:Nat->Nat):Nat->Nat:=λa=>b.ad (c a) (d a)
def iF(b:FD)(c d:Nat->Nat):Nat->Nat:=λa=>b.sb (c a) (d a)
def aP(a:FD)(b:Nat)(c:Nat->Nat):Nat->Nat:=λd=>a.mul b (c d)
def kS(a:Nat)(c:Nat->Nat):Nat->Nat:=λb=>if a<=b then c (b-a)else 0
def db:Nat->Nat:=λ_=>0
def kJ:Nat->Nat:=λa=>if a=0 then 1 else 0
def aZ(a:FD):Nat->(Nat->Nat)->(Nat->Nat)->Nat->Nat
 |0,_,_=>db
 |n+1,b,c=>dk a (aZ a n b c) (kS n (aP a (b n) c))
def Bd(b:Nat)(c:Nat->Nat):Prop:=∀a,b<=a->c a=0
theorem mw(a:bV c):El c db:=λ_=>aX a
theorem AB(a:bV c):El c kJ:=λb=>by unfold kJ;split;exact gV a;exact aX a
theorem AA(d:bV c)(e:El c a)(f:El c l):El c (dk c a l):=λb=>oK d (e b) (f b)
theorem tj(d:bV c)(e:El c a)(f:El c l):El c (iF c a l):=λb=>lM d (e b) (f b)
theorem dw(a:bV c)(b:Nat)(d:Nat->Nat):El c (aP c b d):=λ_=>a.bX _ _
theorem pe(b:bV c)(d:Nat)(e:El c a):El c (kS d a):=λf=>by unfold kS;split;exact e _;exact aX b
theorem dG(a:bV c)(b d:Nat->Nat):∀n,El c (aZ c n b d)
 |0=>mw a
 |n+1=>AA a (dG a b d n) (pe a n (dw a _ _))
theorem JX(d:bV c)(a b:Nat->Nat):dk c a b=dk c b a:=by funext k;exact gQ d _ _
theorem q8(b:bV c)(d:El c a)(e:El c l)(f:El c j):dk c (dk c a l) j=dk c a (dk c l j):=by funext k;exact g7 b (d k) (e k) (f k)
theorem mD(b:bV c)(d:El c a):dk c a db=a:=by funext k;exact b5 b (d k)
theorem Da(b:bV c)(d:El c a):dk c db a=a:=by funext k;exact gC b (d k)
theorem R4(f:bV c){a b e d:Nat->Nat}(g:El c a)(h:El c b)(i:El c e)(j:El c d):dk c (dk c a b) (dk c e d)=dk c (dk c a e) (dk c b d):=by funext k;exact UD f (g k) (h k) (i k) (j k)
theorem su(b:bV c)(d:El c a)(e:El c l):dk c l (iF c a l)=a:=by funext k;exact ue b (d k) (e k)
theorem J4(b:bV c)(d:El c a):iF c a a=db:=by funext k;exact fA b (d k)
theorem xz(b:bV c)(d:El c a):iF c a db=a:=by funext k;exact oF b (d k)
theorem uu(b:bV c)(d:El c a)(e:El c l)(f:El c j)(g:dk c a l=dk c a j):l=j:=by
 funext k;exact nA b (d k) (e k) (f k) (rA g k)
theorem uw(b:bV c)(d:El c a)(e:El c l)(f:iF c a l=db):a=l:=by
 funext k;exact gX b (d k) (e k) (rA f k)
theorem uv(a:bV c)(b:Nat->Nat):aP c 0 b=db:=by funext k;exact qI a _
theorem rb(b:bV c)(d:El c a):aP c 1 a=a:=by funext k;exact FJ b (d k)
theorem oE(a:bV c)(b:Nat):aP c b db=db:=by funext k;exact gI a _
theorem ra(d:bV c)(b:Nat)(e:El c a)(f:El c l):aP c b (dk c a l)=dk c (aP c b a) (aP c b l):=by funext k;exact pA d (e k) (f k)
theorem kR(e:bV c)(a b:Nat)(d:Nat->Nat):aP c a (aP c b d)=aP c (c.mul a b) d:=by funext k;exact(e.mul_assoc a b (d k)).symm
theorem ED(d:bV c)(f:b<c.q)(g:e<c.q)(a:Nat->Nat):aP c (c.ad b e) a=dk c (aP c b a) (aP c e a):=by funext k;exact vK d f g
theorem vu(a:Nat):kS a db=db:=by funext k;simp[kS,db]
theorem A8(e:bV c)(a:Nat)(b d:Nat->Nat):kS a (dk c b d)=dk c (kS a b) (kS a d):=by
 funext k
 show(if a<=k then c.ad (b (k-a)) (d (k-a))else 0)=c.ad (if a<=k then b (k-a)else 0) (if a<=k then d (k-a)else 0);by_cases b:a<=k
 ·rw[ai b,ai b,ai b]
 ·rw[af b,af b,af b,b5 e (aX e)]
theorem zI(e:bV c)(a b:Nat)(d:Nat->Nat):kS a (aP c b d)=aP c b (kS a d):=by
 funext k
 show(if a<=k then c.mul b (d (k-a))else 0)=c.mul b (if a<=k then d (k-a)else 0);by_cases b:a<=k
 ·rw[ai b,ai b]
 ·rw[af b,af b,gI e]
theorem Hq(a j:Nat)(b:Nat->Nat):kS a (kS j b)=kS (a+j) b:=by
 funext k
 unfold kS;by_cases b:a<=k
 ·rw[ai b];by_cases c:j<=k-a
  ·rw[ai c,ai E,Nat.sub_sub]
  ·rw[af c,af E]
 ·rw[af b,af E]
theorem xu(b:bV c)(d:El c a)(e:El c l):∀n,aZ c n (dk c a l) j=dk c (aZ c n a j) (aZ c n l j)
 |0=>(mD b (mw b)).symm
 |n+1=>by
  rw[aZ,aZ,aZ,xu b d e n,show dk c a l n=c.ad (a n) (l n)from rfl,ED b (d n) (e n),A8 b];exact R4 b (dG b _ _ n) (dG b _ _ n) (pe b n (dw b _ _)) (pe b n (dw b _ _))
theorem xw(b:bV c)(d:El c l)(e:El c j):∀n,aZ c n a (dk c l j)=dk c (aZ c n a l) (aZ c n a j)
 |0=>(mD b (mw b)).symm
 |n+1=>by
  rw[aZ,aZ,aZ,xw b d e n,ra b _ d e,A8 b];exact R4 b (dG b _ _ n) (dG b _ _ n) (pe b n (dw b _ _)) (pe b n (dw b _ _))
theorem oC(a:bV c)(b:Nat)(d e:Nat->Nat):∀n,aZ c n d (aP c b e)=aP c b (aZ c n d e)
 |0=>(oE a b).symm
 |n+1=>by
  rw[aZ,aZ,oC a b d e n,ra a b (dG a _ _ n) (pe a n (dw a _ _)), <-zI a,kR a,kR a,a.mul_comm]
theorem zF(b:bV c)(a:Nat)(d e:Nat->Nat):∀n,aZ c n d (kS a e)=kS a (aZ c n d e)
 |0=>(vu a).symm
 |n+1=>by
  rw[aZ,aZ,zF b a d e n,A8 b,Hq, <-zI b,Hq,ln a n]
theorem zD(d:bV c)(e:Nat->Nat)(f:Bd b a):∀k,aZ c (b+k) a e=aZ c b a e
 |0=>rfl
 |k+1=>by rw[<-fh,aZ,zD d e f k,f (b+k) E,uv d,vu,mD d (dG d _ _ _)]
theorem A7(f:bV c)(d:Nat->Nat)(g:Bd b a)(h:b<=e):aZ c e a d=aZ c b a d:=by
 have:=zD f d g (e-b)
 rwa [show b+(e-b)=e from E]at this
theorem q9(a:bV c)(b:Nat->Nat):∀n,aZ c n b db=db
 |0=>rfl
 |n+1=>by rw[aZ,q9 a b n,oE a,vu,mD a (mw a)]
theorem ko(d:bV c){a e:Nat->Nat}(g:Bd b e):∀n,Bd (n+b-1) (aZ c n a e)
 |0=>λ_ _=>rfl
 |n+1=>λf h=>by
  show c.ad (aZ c n a e f) (kS n (aP c (a n) e) f)=0;rw[ko d g n f E];unfold kS;split
  ·unfold aP;rw[g (f-n) E,gI d,b5 d (aX d)]
  ·exact b5 d (aX d)
theorem nQ(d:bV c){a b:Nat->Nat}{n m:Nat}(e:Bd (m+1) b):aZ c (n+1) a b (n+m)=c.mul (a n) (b m):=by
 show c.ad (aZ c n a b (n+m)) (kS n (aP c (a n) b) (n+m))=_;rw[ko d e n (n+m) E];unfold kS aP;rw[ai E,dn,gC d (d.bX _ _)]
theorem Dj(f:bV c)(h:El c a)(i:Bd b a):aZ c b a kJ=a:=by
 have g:∀e,aZ c e a kJ=λd=>if d<e then a d else 0:=by
  intro e;induction e with
  |zero=>rfl
  |succ e j=>
   rw[aZ,j]
   funext d
   show c.ad (if d<e then a d else 0) (kS e (aP c (a e) kJ) d)=if d<e+1 then a d else 0
   unfold kS aP kJ;rcases cJ d e with g|g|g
   ·rw[ai g,af E,ai E,b5 f (h d)]
   ·subst g;rw[af E,ai (aa _),ai E,ai E,mM f (h d),gC f (h d)]
   ·rw[af E,ai E,af E,af E,gI f,b5 f (aX f)]
 rw[g]
 funext d
 show(if d<b then a d else 0)=a d;split
 ·rfl
 ·exact(i d E).symm
theorem Pw(e:bV c)(g:El c a)(d:Nat):(λb=>if b<d+1 then a b else 0)=dk c (λb=>if b<d then a b else 0) (kS d (aP c (a d) kJ)):=by
 funext b
 show _=c.ad (if b<d then a b else 0) (kS d (aP c (a d) kJ) b);unfold kS aP kJ;rcases cJ b d with f|f|f
 ·rw[ai E,ai f,af E,b5 e (g b)]
 ·subst f;rw[ai E,af E,ai (aa _),ai E,mM e (g b),gC e (g b)]
 ·rw[af E,af E,ai E,af E,gI e,b5 e (aX e)]
theorem J1(f:bV c)(h:El c a)(i:El c l)(j:Bd b a)(k:Bd e l):aZ c b a l=aZ c e l a:=by
 have m:∀g,aZ c g a l=aZ c e l (λd=>if d<g then a d else 0):=by
  intro g;induction g with
  |zero=>rw[aZ,show(λd=>if d<0 then a d else 0)=db from by funext d;rw[af E];rfl,q9 f]
  |succ g n=>
   have o:El c (λd=>if d<g then a d else 0):=λd=>by show(if d<g then a d else 0)<c.q;split;exact h d;exact aX f
   rw[aZ,n,Pw f h g,xw f o (pe f g (dw f _ _)),zF f,oC f,Dj f i k]
 rw[m b]
 congr 1
 funext d
 split
 ·rfl
 ·exact(j d E).symm
def cY(a:Nat->Nat):Nat->Nat
 |0=>0
 |n+1=>if a n=0 then cY a n else n+1
theorem eJ(a:Nat->Nat):∀n,cY a n<=n
 |0=>aa _
 |n+1=>by
  rw[cY];split
  ·have:=eJ a n;omega
  ·omega
theorem Cj(b:Nat->Nat):∀n a,cY b n<=a->a<n->b a=0
 |0,_,_,d=>E
 |n+1,a,c,f=>by
  rw[cY]at c;split at c
  ·rename_i d;by_cases e:a=n
   ·rw[e];exact d
   ·exact Cj b n a c E
  ·omega
theorem lz(d:Bd b a):Bd (cY a b) a:=λc e=>by
 by_cases f:c<b
 ·exact Cj a b c e f
 ·exact d c E
theorem oh(a:Nat->Nat):∀n,cY a n≠0->a (cY a n-1)≠0
 |0,h=>absurd X h
 |n+1,h=>by
  rw[cY]at h ⊢;split
  ·rename_i b;rw[ai b]at h;exact oh a n h
  ·rename_i b;exact b
theorem EX{n b:Nat}(c:Bd n a)(d:Bd b a)(e:b≠0->a (b-1)≠0):cY a n=b:=by
 have f:=lz c;rcases cJ (cY a n) b with c|c|c
 ·exact absurd (f (b-1) E) (e E)
 ·exact c
 ·exact absurd (d (cY a n-1) E) (oh a n E)
theorem jB(c:b≠0->a (b-1)≠0):cY a b=b:=by
 cases b with
 |zero=>rfl
 |succ b=>
  have c:=c E;rw[dh]at c;rw[cY,af c]
theorem Ly(c:Bd b a):∀k,cY a (b+k)=cY a b
 |0=>rfl
 |k+1=>by rw[<-fh,cY,ai (c (b+k) E),Ly c k]
theorem mr(c:Bd b a)(d:b<=e):cY a e=cY a b:=by
 have:=Ly c (e-b)
 rwa [show b+(e-b)=e from E]at this
theorem yX(b:Bd 0 a):a=db:=by funext k;exact b k (fq _)
theorem Bd.mono(c:Bd b a)(f:b<=e):Bd e a:=λd g=>c d E
def hJ(a:FD)(d:Nat->Nat)(e f b:Nat)(c:Nat->Nat):Nat->Nat:=iF a c (kS b (aP a (a.mul (c (b+e)) f) d))
def iE(a:FD)(b:Nat->Nat)(c d:Nat):Nat->(Nat->Nat)->Nat->Nat
 |0,r=>r
 |n+1,r=>iE a b c d n (hJ a b c d n r)
def dV(a:FD)(d:Nat->Nat)(b c:Nat):Nat->(Nat->Nat)->Nat->Nat
 |0,_=>db
 |n+1,e=>λf=>if f=n then a.mul (e (n+b)) c else dV a d b c n (hJ a d b c n e) f
theorem pd(a:bV c){b d:Nat->Nat}{l inv i:Nat}(e:El c d):El c (hJ c b l inv i d):=tj a e (pe a i (dw a _ _))
theorem rX(f:bV c):∀(n:Nat) {g:Nat->Nat},El c g->El c (iE c a b e n g)
 |0,_,d=>d
 |n+1,_,d=>rX f n (pd f d)
theorem oo(f:bV c):∀(n:Nat) (d:Nat->Nat),El c (dV c a b e n d)
 |0,_=>mw f
 |n+1,d=>λg=>by
  rw[dV];show(if g=n then c.mul (d (n+b)) e else dV c a b e n (hJ c a b e n d) g)<c.q;split
  ·exact f.bX _ _
  ·exact oo f n _ g
theorem mQ{D:FD}{b:Nat->Nat}{l inv:Nat}:∀(n:Nat) (a:Nat->Nat),Bd n (dV D b l inv n a)
 |0,_=>λ_ _=>rfl
 |n+1,a=>λc d=>by
  rw[dV];show(if c=n then D.mul (a (n+l)) inv else dV D b l inv n (hJ D b l inv n a) c)=0;rw[af E];exact mQ n _ c E
theorem IP(d:bV c)(f:El c l)(g:c.mul (a b) e=1):hJ c a b e o l (o+b)=0:=by
 show c.sb (l (o+b)) (kS o (aP c (c.mul (l (o+b)) e) a) (o+b))=0;unfold kS aP;rw[ai E,dn,d.mul_assoc,d.mul_comm e,g,mM d (f _),fA d (f _)]
theorem Cr(d:bV c)(f:El c l)(g:Bd (b+1) a)(h:o+b<q):hJ c a b e o l q=l q:=by
 show c.sb (l q) (kS o (aP c (c.mul (l (o+b)) e) a) q)=l q;unfold kS aP;rw[ai E,g (q-o) E,gI d,oF d (f _)]
theorem LG(d:bV c)(f:El c l)(g:q<o):hJ c a b e o l q=l q:=by
 show c.sb (l q) (kS o (aP c (c.mul (l (o+b)) e) a) q)=l q;unfold kS;rw[af E,oF d (f _)]
theorem Cp(j:Nat):hJ c a b e o l (o+j)=c.sb (l (o+j)) (c.mul (c.mul (l (o+b)) e) (a j)):=by
 show c.sb (l (o+j)) (kS o (aP c (c.mul (l (o+b)) e) a) (o+j))=_;unfold kS aP;rw[ai E,dn]
theorem Cq(d:bV c)(f:El c l)(_hbe:El c a)(h:Bd (b+1) a)(i:c.mul (a b) e=1)(j:Bd (o+1+b) l):Bd (o+b) (hJ c a b e o l):=λg k=>by
 by_cases k:g=o+b
 ·rw[k];exact IP d f i
 ·rw[Cr d f h E];exact j g E
theorem u3(d:bV c)(g:El c a)(h:Bd (b+1) a)(i:c.mul (a b) e=1):∀(n:Nat) {r:Nat->Nat},El c r->Bd (n+b) r->Bd b (iE c a b e n r)
 |0,r,_,f=>by rwa [aW]at f
 |n+1,r,j,f=>u3 d g h i n (pd d j) (Cq d j g h i f)
theorem xx:∀n,(∀b,b<n->a b=l b)->aZ c n a j=aZ c n l j
 |0,_=>rfl
 |n+1,d=>by rw[aZ,aZ,xx n (λb e=>d b E),d n E]
theorem Av(a:bV c){b:Nat->Nat}{l inv:Nat}:∀(n:Nat) {r:Nat->Nat},El c r->dk c (aZ c n (dV c b l inv n r) b) (iE c b l inv n r)=r
 |0,r,d=>Da a d
 |n+1,r,d=>by
  have f:=Av a (b:=b) (l:=l) (inv:=inv) n (pd a (b:=b) (l:=l) (inv:=inv) (i:=n) d);have g:aZ c n (dV c b l inv (n+1) r) b=aZ c n (dV c b l inv n (hJ c b l inv n r)) b:=xx n (λj e=>af E);have h:dV c b l inv (n+1) r n=c.mul (r (n+l)) inv:=ai X;have e:=pe a n (dw a (c.mul (r (n+l)) inv) b);rw[aZ,g,h,JX a (aZ c n _ b),q8 a e (dG a _ _ n) (rX a (n+1) d),iE,f];exact su a d e
theorem vY(d:bV c)(f:El c l)(g:l (o+b)=0):hJ c a b e o l=l:=by
 unfold hJ;rw[g,qI d,uv d,vu,xz d f]
theorem LA(d:bV c){b a:Nat->Nat}{l inv n:Nat}(f:El c a)(e:a (n+l)=0):iE c b l inv (n+1) a=iE c b l inv n a∧dV c b l inv (n+1) a=dV c b l inv n a:=by
 refine⟨by rw[iE,vY d f e],?_⟩;rw[dV,vY d f e,e,qI d]
 funext i
 show(if i=n then 0 else dV c b l inv n a i)=_;split
 ·rename_i g;rw[g];exact(mQ n a n (aa _)).symm
 ·rfl
theorem LB(f:bV c){b a:Nat->Nat}{d inv e:Nat}(g:El c a)(h:Bd (e+d) a):∀k,iE c b d inv (e+k) a=iE c b d inv e a∧dV c b d inv (e+k) a=dV c b d inv e a
 |0=>⟨X,X⟩
 |k+1=>by
  have a:=LA f (b:=b) (l:=d) (inv:=inv) (n:=e+k) g (h _ E);have d:=LB f (b:=b) (inv:=inv) g h k;rw[<-fh];exact⟨a.1.trans d.1,a.2.trans d.2⟩
theorem o8(d:bV c){b a:Nat->Nat}{l inv n N:Nat}(e:El c a)(f:Bd (n+l) a)(g:n<=N):iE c b l inv N a=iE c b l inv n a∧dV c b l inv N a=dV c b l inv n a:=by
 have:=LB d (b:=b) (inv:=inv) e f (N-n)
 rwa [show n+(N-n)=N from E]at this
theorem sr(e:bV c)(i:Bd (b+1) a)(j:a b≠0):∀(n:Nat) {d:Nat->Nat},Bd n d->Bd b (aZ c n d a)->d=db
 |0,_,g,_=>yX g
 |n+1,d,g,h=>by
  have k:=h (n+b) E;rw[nQ e i]at k
  have m:d n=0:=by
   by_cases f:d n=0
   ·exact f
   ·exact absurd k (e.tG _ _ f j).1
  have k:Bd n d:=λl o=>if f:l=n then by rw[f];exact m else g l E
  rw[A7 e a k E]at h;exact sr e i j n k h
theorem LC(d:bV c)(o:Bd (b+1) a)(p:a b≠0)(k:El c l)(h:El c j)(m:El c M)(n:El c P)(q:Bd e l)(r:Bd e j)(s:Bd b M)(t:Bd b P)(i:dk c (aZ c e l a) M=dk c (aZ c e j a) P):l=j∧M=P:=by
 have u:iF c l j=db:=by
  have v:=tj d k h;refine sr d o p e (λf g=>?_) ?_
  ·show c.sb (l f) (j f)=0;rw[q f g,r f g,fA d (aX d)]
  ·have o:aZ c e l a=dk c (aZ c e j a) (aZ c e (iF c l j) a):=by
    rw[<-xu d h v,su d k h]
   rw[o,q8 d (dG d _ _ e) (dG d _ _ e) m]at i;have p:=uu d (dG d _ _ e) (AA d (dG d _ _ e) m) n i;intro f g;have o:=rA p f;rw[t f g]at o;have p:c.ad (aZ c e (iF c l j) a f) (M f)=0:=o
   rwa [s f g,b5 d (dG d _ _ e f)]at p
 have f:=uw d k h u;refine⟨f,?_⟩;rw[f]at i;exact uu d (dG d _ _ e) m n i
def FD.iv(a:FD)(b:Nat):Nat:=a.pw b (a.q-2)
theorem G6(b:c∈ak)(a:Nat):c.iv a<c.q:=xB b a _
theorem CW(a:c∈ak)(d:b<c.q)(e:b≠0):c.mul b (c.iv b)=1:=SV a d e
def pK(a:Nat)(b:Nat->Nat):Prop:=Bd a b∧(a≠0->b (a-1)≠0)
theorem l5{c:Nat->Nat}{n:Nat}(a:Bd n c):pK (cY c n) c:=⟨lz a,oh c n⟩
theorem pK.cY(c:pK b a)(d:b<=e):Go.Proofs.YtedifobeggabnaaGreat.cY a e=b:=by
 rw[mr c.1 d];exact jB c.2
theorem FM(f:bV c)(g:El c a)(h:Bd b a)(i:e<c.q):aZ c b a (λd=>if d=0 then e else 0)=aP c e a:=by
 have j:(λd=>if d=0 then e else 0)=aP c e kJ:=by
  funext d
  show _=c.mul e (if d=0 then 1 else 0);split
  ·exact(mM f i).symm
  ·exact(gI f e).symm
 rw[j,oC f,Dj f g h]
def FD.xp(a:FD)(b:Nat):Nat->Nat
 |0=>1
 |k+1=>a.mul (a.xp b k) b
theorem Ad(a:bV c)(b:Nat):∀d,c.xp b d<c.q
 |0=>gV a
 |_+1=>a.bX _ _
theorem OS(b:bV c)(a d:Nat):∀k,c.xp a (d+k)=c.mul (c.xp a d) (c.xp a k)
 |0=>(mM b (Ad b a d)).symm
 |k+1=>by rw[<-fh,FD.xp,OS b a d k,FD.xp,b.mul_assoc]
def FD.ev(a:FD)(b:Nat->Nat)(c:Nat):Nat->Nat
 |0=>0
 |n+1=>a.ad (a.ev b c n) (a.mul (b n) (a.xp c n))
theorem iQ(a:bV c)(b:Nat->Nat)(d:Nat):∀n,c.ev b d n<c.q
 |0=>aX a
 |n+1=>oK a (iQ a b d n) (a.bX _ _)
theorem we(b:bV c)(d:Nat)(e:El c a)(f:El c l):∀n,c.ev (dk c a l) d n=c.ad (c.ev a d n) (c.ev l d n)
 |0=>(b5 b (aX b)).symm
 |n+1=>by
  show c.ad (c.ev (dk c a l) d n) (c.mul (c.ad (a n) (l n)) (c.xp d n))=_;rw[we b d e f n,vK b (e n) (f n)];exact UD b (iQ b a d n) (iQ b l d n) (b.bX _ _) (b.bX _ _)
theorem wj(e:bV c)(d a:Nat)(b:Nat->Nat):∀n,c.ev (aP c d b) a n=c.mul d (c.ev b a n)
 |0=>(gI e d).symm
 |n+1=>by
  show c.ad (c.ev (aP c d b) a n) (c.mul (c.mul d (b n)) (c.xp a n))=c.mul d (c.ad (c.ev b a n) (c.mul (b n) (c.xp a n)));rw[wj e d a b n,pA e (iQ e b a n) (e.bX _ _),e.mul_assoc]
theorem RS(e:bV c)(d:Nat)(f:Bd b a):∀k,c.ev a d (b+k)=c.ev a d b
 |0=>rfl
 |k+1=>by
  rw[<-fh];show c.ad (c.ev a d (b+k)) (c.mul (a (b+k)) (c.xp d (b+k)))=_;rw[RS e d f k,f (b+k) E,qI e,b5 e (iQ e a d b)]
theorem dQ(d:bV c){n N:Nat}(b:Nat)(e:Bd n a)(f:n<=N):c.ev a b N=c.ev a b n:=by
 have:=RS d b e (N-n)
 rwa [show n+(N-n)=N from E]at this
theorem E5(a:bV c)(b:Nat):∀n,c.ev db b n=0
 |0=>rfl
 |n+1=>by
  show c.ad (c.ev db b n) (c.mul 0 (c.xp b n))=0;rw[E5 a b n,qI a,b5 a (aX a)]
theorem Cw(d:bV c)(e b:Nat):∀n,n<=b->c.ev (kS b a) e n=0
 |0,_=>rfl
 |n+1,f=>by
  show c.ad (c.ev (kS b a) e n) (c.mul (kS b a n) (c.xp e n))=0;rw[Cw d e b n E,show kS b a n=0 from by unfold kS;exact af E,qI d,b5 d (aX d)]
theorem LJ(e:bV c){b:Nat->Nat}(d a:Nat):∀n,c.ev (kS a b) d (a+n)=c.mul (c.xp d a) (c.ev b d n)
 |0=>by rw[KQ,Cw e d a a (aa _)];exact(gI e _).symm
 |n+1=>by
  rw[<-fh];show c.ad (c.ev (kS a b) d (a+n)) (c.mul (kS a b (a+n)) (c.xp d (a+n)))=c.mul (c.xp d a) (c.ad (c.ev b d n) (c.mul (b n) (c.xp d n)));rw[LJ e d a n,show kS a b (a+n)=b n from by unfold kS;rw[ai E,dn],OS e,pA e (iQ e b d n) (e.bX _ _), <-e.mul_assoc (b n),e.mul_comm (b n) (c.xp d a),e.mul_assoc]
theorem oq(d:bV c)(e:Nat)(f:Bd b l)(g:El c l):∀n N,n+b<=N->c.ev (aZ c n a l) e N=c.mul (c.ev a e n) (c.ev l e b)
 |0,N,_=>by rw[aZ,E5 d,FD.ev,qI d]
 |n+1,N,h=>by
  rw[aZ,we d e (dG d a l n) (pe d n (dw d _ _)),oq d e f g n N E]
  have g:c.ev (kS n (aP c (a n) l)) e N=c.mul (c.xp e n) (c.mul (a n) (c.ev l e b)):=by
   rw[show N=n+(N-n)from E,LJ d e n,wj d,dQ d e f E]
  rw[g,FD.ev,vK d (iQ d a e n) (d.bX _ _), <-d.mul_assoc (c.xp e n),d.mul_comm (c.xp e n) (a n)]
theorem OF(f:bV c)(d b:Nat)(h:El c a)(i:d<c.q):∀k,k<=b->c.val a b d k=c.ev (λg=>a (b-k+g)) d k
 |0,_=>rfl
 |k+1,m=>by
  have j:=OF f d b h i k E
  have split:∀e,c.ev (λg=>a (b-(k+1)+g)) d (e+1)=c.ad (a (b-(k+1))) (c.mul (c.ev (λg=>a (b-k+g)) d e) d):=by
   intro e;induction e with
   |zero=>
    show c.ad 0 (c.mul (a (b-(k+1)+0)) 1)=c.ad (a (b-(k+1))) (c.mul 0 d);rw[KQ,mM f (h _),qI f,gC f (h _),b5 f (h _)]
   |succ e l=>
    rw[FD.ev,l];show c.ad (c.ad (a (b-(k+1))) (c.mul (c.ev (λg=>a (b-k+g)) d e) d)) (c.mul (a (b-(k+1)+(e+1))) (c.xp d (e+1)))=c.ad (a (b-(k+1))) (c.mul (c.ad (c.ev (λg=>a (b-k+g)) d e) (c.mul (a (b-k+e)) (c.xp d e))) d);rw[vK f (iQ f _ d e) (f.bX _ _),g7 f (h _) (f.bX _ _) (f.bX _ _),show b-(k+1)+(e+1)=b-k+e from E,FD.xp,f.mul_assoc]
  rw[split k,FD.val,j,show b-1-k=b-(k+1)from E];exact gQ f _ _
theorem xU(e:bV c)(d b:Nat)(f:El c a)(g:d<c.q):c.val a b d b=c.ev a d b:=by
 rw[OF e d b f g b (aa _),fN]
 congr 1
 funext i
 rw[aW]
section
open Go.RowKit
def Sl(c:Option Addr)(d:Nat)(e:Nat->Nat)(f:World):Prop:=∀j,j<d->∃a b,c=some ⟨a,b,none⟩∧f.cell? ⟨a,b+j,none⟩=some (.int .i64 (e j:Nat))
def fp(b:Option Addr)(c:Nat):Prop:=∀a,b=some a->a.block<c
def Uh(b:Option Addr)(c:Nat):Prop:=∀a,b=some a->c<=a.block
theorem Sl.drewN(c:Sl m b a g)(d:Nat):Sl m b a (g.drewN d):=c
theorem Sl.less(c:Sl m b a g)(d:e<=b):Sl m e a g:=λj f=>c j E
theorem Sl.congr{a d:Nat->Nat}(e:Sl m b a g)(f:∀j,j<b->a j=d j):Sl m b d g:=λj c=>by rw[<-f j c];exact e j c
theorem Sl.below{b B:Nat}(e:Sl m b a g)(f:Below B g w)(h:fp m B):Sl m b a w:=λj i=>by
 obtain⟨c,d,rfl,k⟩:=e j i;exact⟨c,d,X,((iN f).1 c (d+j) (h _ X)).trans k⟩
theorem fp.mono(a:fp m b)(c:b<=e):fp m e:=λd f=>aj (a d f) c
theorem Uh.mono(a:Uh m e)(c:b<=e):Uh m b:=λd f=>aK c (a d f)
theorem pF(h:Sl m b a g)(l:b<=e)(n:e<=9223372036854775807):Calls prog 123 #[.slice m b e] g λl n=>l=.returned (.slice m (cY a b) e)∧∃o,n=g.drewN o:=by
 have p:Hid (Sl m b a g):=h;clear h;go_enter func123,ntmps123;go_wp2;go_loopw [3] (λj wr=>∃c:Nat,c<=b∧j=.int .i64 c∧Hid (cY a b=cY a c)∧∃d,wr=g.drewN d) (λj _=>(intOf j).toNat)
 case atStart=>exact⟨b,aa _,X,X,0,X⟩
 case round=>
  obtain⟨c,r,rfl,k,d,rfl⟩:=hrel;cases c with
  |zero=>
   have f:Hid (cY a b=0):=k.out;cases m with
   |none=>
    go_wp2;go_ret;exact⟨by rw[f.out];rfl,_,X⟩
   |some s=>
    go_wp2;go_ret;exact⟨by rw[f.out];rfl,_,X⟩
  |succ c=>
   obtain⟨t,u,rfl,v⟩:=p.out c E;by_cases i:a c=0
   ·have f:Hid (cY a b=cY a c):=by show _=_;rw[k.out,cY,ai i]
    have q:(((a c:Nat):Int)==0)=true:=by rw[i];rfl
    clear i;go_wp2;go_roundw
    case rel=>exact⟨c,E,x9,f.out,_,X⟩
    case measure=>simp[intOf]
   ·have f:Hid (cY a b=c+1):=by show _=_;rw[k.out,cY,af i]
    have q:(((a c:Nat):Int)==0)=false:=Xp;clear i;go_wp2;go_ret;exact⟨by rw[f.out];rfl,_,X⟩
theorem z9{j T:Nat}(s:c∈ak)(h:gO j T c A g){b cap f:Nat}(w:f<c.q)(D:b<=1000)(t:El c a)(u:Sl m b a g):Calls prog 129 #[.pointer (some ⟨j,0,none⟩),.slice m b cap,.int .i64 f] g λk l=>k=.returned (.int .i64 (c.val a b f b:Nat))∧∃b,l=g.drewN b:=by
 have i:Hid (gO j T c A g∧c∈ak∧Sl m b a g∧El c a):=⟨h,s,u,t⟩;clear h s u t;go_enter func129,ntmps129;go_wp2;go_loopw [7,8] (λe q wr=>∃n:Nat,n<=b∧q=.int .i64 ((n:Int)-1)∧e=.int .i64 (c.val a b f (b-n):Nat)∧∃d,wr=g.drewN d) (λ_ q _=>(intOf q+1).toNat)
 case atStart=>exact⟨b,E,X,by rw[fN];rfl,0,X⟩
 case round=>
  obtain⟨n,F,p,rfl,v⟩:=hrel
  have o:Hid (gO j T c A wr∧Sl m b a wr∧∃d,wr=g.drewN d):=by
   obtain⟨d,rfl⟩:=v;exact⟨i.out.1.drewN d,i.out.2.2.1,d,X⟩
  clear v;cases n with
  |succ e=>
   have r:u8=.int .i64 (e:Int):=by rw[p];go_num
   clear p;subst r;have⟨y,n⟩:=eaa (c.val a b f (b-(e+1)));have x:y<c.q:=by rw[n];exact BA i.out.2.1 a b f i.out.2.2.2 _
   have z:Hid (c.val a b f (b-e)=dz c.p c.q (c.mul y f) (a e)):=by
    show _=_;rw[n,show b-e=(b-(e+1))+1 from E,FD.val,show b-1-(b-(e+1))=e from E]
   rw[<-n];clear n;obtain⟨G,I,rfl,J⟩:=o.out.2.1 e E;have B:Hid (∀b,Calls prog 67 #[.pointer (some ⟨j,0,none⟩),.int .i64 y,.int .i64 f] (wr.drewN b) λk l=>k=.returned (.int .i64 (c.mul y f:Nat))∧∃n,l=(wr.drewN b).drewN n):=λb=>mR i.out.2.1 (o.out.1.drewN b) x w
   have C:Hid (∀b,Calls prog 66 #[.pointer (some ⟨j,0,none⟩),.int .i64 (c.mul y f:Nat),.int .i64 (a e:Nat)] (wr.drewN b) λk l=>k=.returned (.int .i64 (dz c.p c.q (c.mul y f) (a e):Nat))∧∃n,l=(wr.drewN b).drewN n):=λb=>pL i.out.2.1 (o.out.1.drewN b) ((dE i.out.2.1).bX _ _) (i.out.2.2.2 e)
   go_wp2
   go_quiet (first|(go_at_call 67;exact XS (B.out _))|(go_at_call 66;exact XS (C.out _)))
   go_wp2;go_roundw
   case rel=>
    obtain⟨d,b⟩:=o.out.2.2;exact⟨e,E,x9,by rw[z.out],_,by rw[b,Ye]⟩
   case measure=>simp[intOf]
  |zero=>
   have r:u8=.int .i64 (-1):=by rw[p];rfl
   clear p;subst r;go_wp2;go_ret;exact⟨X,o.out.2.2⟩
def Row(e b:Nat)(f:Nat->Nat)(g:World):Prop:=∃c d,bD e c 3 d g∧b<=c∧∀a,a<b->d a=.int .i64 (f a:Nat)
theorem Row.cell(d:Row b e a g)(c:Nat)(f:c<e):g.cell? ⟨b,c,none⟩=some (.int .i64 (a c:Nat)):=by
 obtain⟨j,k,h,l,i⟩:=d;rw[h.cell c E,i c f]
theorem Row.free(d:Row b e a g)(c:Nat):g.frozen? ⟨b,c,none⟩=false:=by
 obtain⟨h,i,f,j,k⟩:=d;exact f.free c
theorem Row.lt(c:Row b e a g):b<g.heap.size:=by
 obtain⟨f,h,d,i,j⟩:=c;exact d.lt
theorem Row.drewN(d:Row b e a g)(c:Nat):Row b e a (g.drewN c):=by
 obtain⟨f,h,i,j,k⟩:=d;exact⟨f,h,i.drewN c,j,k⟩
theorem Row.store{c d:Nat->Nat}(i:Row b e c g)(a f:Nat)(k:∀j,j<e->d j=if j=a then f else c j):Row b e d (g.setCell ⟨b,a,none⟩ (.int .i64 (f:Nat))):=by
 obtain⟨c,n,f,l,m⟩:=i;refine⟨c,_,f.store a _,l,λj h=>?_⟩;unfold upd;rw[k j h];split
 ·rfl
 ·exact m j h
theorem Row.congr{c d:Nat->Nat}(f:Row b e c g)(h:∀a,a<e->c a=d a):Row b e d g:=by
 obtain⟨i,j,k,l,m⟩:=f;exact⟨i,j,k,l,λa c=>by rw[m a c,h a c]⟩
theorem Row.less(c:Row b e a g)(d:o<=e):Row b o a g:=by
 obtain⟨d,f,h,j,i⟩:=c;exact⟨d,f,h,E,λc j=>i c E⟩
theorem Row.below{b c B:Nat}(d:Row b c a g)(e:Below B g w)(f:b<B):Row b c a w:=by
 obtain⟨b,c,h,i,j⟩:=d;exact⟨b,c,h.below e f,i,j⟩
theorem Row.other(c:Row b e a g)(d:w.heap[b]?=g.heap[b]?):Row b e a w:=by
 obtain⟨f,h,i,j,k⟩:=c;exact⟨f,h,i.other d,j,k⟩
theorem Row.sl(c:Row b e a g)(d:o<=e):Sl (some ⟨b,0,none⟩) o a g:=λj f=>⟨b,0,X,by rw[aW];exact c.cell j E⟩
theorem ji(a:aV b (.slice (some ⟨b,0,none⟩) e e) (List.replicate e 0) g):Row b e db g:=by
 rcases a.2 with⟨i,_⟩|⟨o,p,j,c,q,k,r,s,t,u⟩
 ·cases i
 ·simp only[ks,Value.slice.injEq,bt,Addr.mk.injEq,jy,j7]at c;obtain⟨rfl,rfl⟩:=c;by_cases c:e=0
  ·exact⟨e,λ_=> .int .i64 0,⟨j,k,E,λc i=>E⟩,aa _,λd f=>E⟩
  ·obtain⟨c,i,l,h,j,k,o,p,m,n⟩:=a.row e oi E;simp only[Value.slice.injEq,bt,Addr.mk.injEq,jy,j7]at h;obtain⟨rfl,rfl⟩:=h;exact⟨e,l,m,aa _,λd f=>by rw[n d f,jq];rfl⟩
def cG(f:Nat)(g:Value)(b:Nat)(h:Nat->Nat)(d:World):Prop:=
 ∃a c,g=.slice a b c∧b<=c∧c<=9223372036854775807∧Uh a f∧fp a d.heap.size∧(a=none->c=0)∧(0<b->∃e,a=some ⟨e,0,none⟩∧Row e b h d)
theorem cG.tJ(d:Row e q a g)(f:o<=q)(h:o<=Q)(i:Q<=9223372036854775807)(j:b<=e):cG b (.slice (some ⟨e,0,none⟩) o Q) o a g:=
 ⟨_,Q,X,h,i,λk c=>by cases c;exact j,λk c=>by cases c;exact d.lt,λl=>(by cases l),λ_=>⟨e,X,d.less f⟩⟩
theorem cG.below{b B c:Nat}(e:cG b C c a g)(d:Below B g w)(f:g.heap.size<=B):cG b C c a w:=by
 obtain⟨c,h,i,j,k,l,b,m,n⟩:=e;refine⟨c,h,i,j,k,l,b.mono d.size,m,λe=>?_⟩;obtain⟨h,c,i⟩:=n e;exact⟨h,c,i.below d (aj (b _ c) f)⟩
theorem cG.mono{b base' c:Nat}(d:cG b C c a g)(e:base'<=b):cG base' C c a g:=by
 obtain⟨b,c,f,h,i,j,k,l,m⟩:=d;exact⟨b,c,f,h,i,j.mono e,k,l,m⟩
theorem cG.drewN(d:cG b C e a g)(c:Nat):cG b C e a (g.drewN c):=by
 obtain⟨f,h,i,j,k,l,m,n,o⟩:=d;refine⟨f,h,i,j,k,l,m,n,λd=>?_⟩;obtain⟨f,h,i⟩:=o d;exact⟨f,h,i.drewN c⟩
theorem cG.open(f:cG b C e a g):∃c d,C=.slice c e d∧e<=d∧d<=9223372036854775807∧Uh c b∧fp c g.heap.size∧(c=none->d=0)∧Sl c e a g:=by
 obtain⟨c,d,h,i,k,l,m,n,o⟩:=f;refine⟨c,d,h,i,k,l,m,n,λj f=>?_⟩;obtain⟨c,d,h⟩:=o E;exact⟨c,0,d,by rw[aW];exact h.cell j f⟩
def Hp(c:FD)(d e:Nat->Nat)(a j:Nat):Nat->Nat:=λb=>if a<=b∧b<a+j then aZ c (a+1) d e b else aZ c a d e b
theorem Nz(a:FD)(b c:Nat->Nat)(d:Nat):Hp a b c d 0=aZ a d b c:=by funext k;unfold Hp;rw[af E]
theorem QI(e:bV c)(g:Bd b l)(d:Nat):Hp c a l d b=aZ c (d+1) a l:=by
 funext k
 unfold Hp;by_cases f:d<=k∧k<d+b
 ·rw[ai f]
 ·rw[af f];show _=c.ad (aZ c d a l k) (kS d (aP c (a d) l) k);unfold kS aP;by_cases f:d<=k
  ·rw[ai f,g (k-d) E,gI e,b5 e (dG e a l d k)]
  ·rw[af f,b5 e (dG e a l d k)]
theorem TC(b:FD)(c d:Nat->Nat)(a j:Nat):Hp b c d a j (a+j)=aZ b a c d (a+j):=by unfold Hp;rw[af E]
theorem QJ(b:FD)(c d:Nat->Nat)(a j:Nat):b.ad (aZ b a c d (a+j)) (b.mul (c a) (d j))=aZ b (a+1) c d (a+j):=by
 show _=b.ad (aZ b a c d (a+j)) (kS a (aP b (c a) d) (a+j));unfold kS aP;rw[ai E,dn]
theorem Ny(c:FD)(d e:Nat->Nat)(a j b:Nat):Hp c d e a (j+1) b=if b=a+j then aZ c (a+1) d e (a+j)else Hp c d e a j b:=by
 unfold Hp;by_cases c:b=a+j
 ·rw[ai c,ai E,c]
 ·rw[af c];by_cases c:a<=b∧b<a+j
  ·rw[ai c,ai E]
  ·rw[af c,af E]
end
section
open Go
def rH(d:Program)(a:Array Oper)(e:World->Prop)(g:Nat)(L:Array Bool->Act->Prop):Nat->Array Bool->Act->Prop
 |0,s,c=>L s c
 |f+1,s,c=>Region.ready .any a s≠[]∧∀b,b∈Region.ready .any a s->b<g∧qOp d a e b (rH d a e g L f (s.setIfInBounds b true)) c
theorem CK{h g:Nat}{Q:Exit->Act->World->Prop}(i:∀a b c,F c->O a b->wpAny y .any p Q g a b c):∀(d:Nat) (a:Array Bool) (b:Act) (c:World),F c->rH y p F h O d a b->wpAny y .any p Q (d+g) a b c:=by
 intro d;induction d with
 |zero=>intro a b c f e;rw[aW];exact i a b c f e
 |succ d j=>
  intro a b c f e;rw[show d+1+g=d+g+1 from E];exact⟨λa=>absurd a e.1,λb c=>wpOp_of_qOp f (λd h i k=>j _ d h i k) (e.2 b c).2⟩
theorem Fg(s:p[e]?=some B)(w:∀(j:Nat) (x:Oper) k l,p[j]?=some x->x.op≠.select k l)(z:Region.sinkB .any p b=true)(A:Region.chainB .any p b=true)(D:b<p.size)(G:e<b)(P:∀c g,O c g->∀j,j∈Region.ready .any p c->b<=j):∀(m:Nat) (c:Array Bool) (g:Act),HeadInv .any p b c->(∀j h,p[j]?=some h->j≠e->c.getD j true=false->(∀a∈h.after,Region.binds .any a=true->a.on≠e)->B.apart p h=true)->e∈Region.ready .any p c->YieldsIn y p F B C g->rH y p F b O m (c.setIfInBounds e true) (g.put B.dst C)->rH y p F b O (m+1) c g:=by
 intro m;induction m with
 |zero=>
  intro c g q _ f r H;refine⟨λa=>(by rw[a]at f;cases f),λj i=>?_⟩;have n:j<b:=Nat.lt_of_not_le λt=>tail_waits z A D q _ e X G (Yn.1 f).1 j t i
  by_cases a:j=e
  ·exact⟨n,by subst a;exact r.qOp s H⟩
  ·exact absurd (P _ _ H j (Ym i a)) E
 |succ m Q=>
  intro c g q I f r H;refine⟨λa=>(by rw[a]at f;cases f),λj i=>?_⟩;have o:=(Yn.1 f).1;have n:j<b:=Nat.lt_of_not_le λt=>tail_waits z A D q _ e X G o j t i
  by_cases a:j=e
  ·exact⟨n,by subst a;exact r.qOp s H⟩
  ·obtain⟨J,h,u,g⟩:=Yn.1 i
   have v:∀d∈h.after,Region.binds .any d=true->d.on≠e:=λd m t x=>by
    have K:=g d m t;rw[x,getD_both o]at K;cases K
   have g:=qOp_put u (I j h u a J v) (λk l=>w e B k l s) (λk l=>w j h k l u) r (H.2 j (Ym i a)).2;refine⟨n,qOp_mono (λh M=>?_) g⟩;refine Q (c.setIfInBounds j true) h (q.set i n) (λg ok k l o v=>I g ok k l ?_ v) (Ym f (λm=>a m.symm)) M.1 ?_
   ·by_cases N:j=g
    ·subst N;exact J
    ·rw[getD_set_ne true N]at o;exact o
   ·rw[tZ _ _ a];exact M.2
theorem CL{c g:Nat}{h:Act->Prop}(q:Region.noSelect p=true)(r:Region.sinkB .any p c=true)(s:Region.chainB .any p c=true)(t:c<p.size):∀(a:List Oper) (b:Nat) (d:Array Bool) (e:Act),(∀j,j<a.length->a[j]?=p[b+j]?)->b+a.length=c->HeadInv .any p c d->Region.lexHead .any p g a.length b d=true->wpQuiet y p F h a e->rH y p F c (λl m=>Region.seqB .any p g c l=true∧h m) a.length d e:=by
 intro a;induction a with
 |nil=>
  intro b d e _ i _ f k;have n:b=c:=by simpa using i
  subst n;exact⟨by simpa [Region.lexHead]using f,k⟩
 |cons u a v=>
  intro b d e n i o f k;have c:p[b]?=some u:=by simpa using (n 0 oi).symm
  simp only[jw,Region.lexHead,aI]at f;obtain⟨⟨u,w⟩,x⟩:=f;simp only[jw]at i;have f:b∈Region.ready .any p d:=by simpa using u
  have i:qOp y p F b (wpQuiet y p F h a) e:=by unfold qOp;simp only[c];exact k
  obtain⟨u,h,k⟩:=yieldsIn_of_qOp c i;refine Fg c (YM q) r s t E (λl m i=>seqB_ready i.1) a.length d e o (Region.free_spec c w) f h ?_;exact v (b+1) _ _ (λj a=>by have:=n (j+1) x7;simpa [Nat.add_assoc,Nat.add_comm 1 j]using this) E (o.set f E) x k
theorem iU(a:Nat)(m:y.follows .mixedOrders=true)(h:Region.lexTailB .any u.toArray a=true)(n:wpQuiet y u.toArray (λc=>∃d,c=g.drewN d) (λf=>∀c,(∃d,c=g.drewN d)->wpList y u.toArray G (u.drop a) f c) (u.take a) D):(Code.region b u.toArray true).wp y G D g:=by
 simp only[Region.lexTailB,aI,bu]at h;obtain⟨⟨⟨⟨o,i⟩,p⟩,q⟩,r⟩:=h;have h:a<u.length:=by simpa using i
 have e:(u.take a).length=a:=x7;have k:(u.drop a).length=u.toArray.size-a:=oi
 have s:HeadInv .any u.toArray a (Array.replicate u.toArray.size false):=
  ⟨oi,λj v _ l=>(by rw[Yu]at l;cases l),λw _ t=>getD_in (by simpa using t) (Yu _ _)⟩
 have H:=CL (g:=u.toArray.size-a) o p q i (u.take a) 0 _ D (λj h=>by
  have i:j<a:=by rw[e]at h;exact h
  simp[i]) (by simpa using e) s (by rw[e];exact r) n
 refine YT m ?_
 have h:=CK (Q:=G) (g:=u.toArray.size-a) (λl f c m i=>by
  have:=wpAny_of_seq (md:=.any) (Q':=G) (u.drop a) a l f c (λj=>by simp[List.getElem?_drop]) (by rw[k];exact i.1) (i.2 c m)
  rwa [k]at this) _ _ _ _ (show ∃d,{ g with drawn:=g.drawn+1 }=g.drewN d from⟨1,X⟩) H
 rw[e,show a+(u.toArray.size-a)=u.toArray.size by omega]at h;exact h
end
section
open Go.RowKit
theorem pD{s T:Nat}(B:c∈ak)(h:gO s T c A g){i k ca cb:Nat}(hn:i<=1000)(hm:k<=1000)(D:El c a)(F:El c l)(G:Bd k l)(I:Sl m i a g)(J:Sl t k l g)(K:fp m g.heap.size)(M:fp t g.heap.size):Calls prog 125 #[.pointer (some ⟨s,0,none⟩),.slice m i ca,.slice t k cb] g λp q=>p=.returned (.slice (some ⟨g.heap.size,0,none⟩) (cY (aZ c i a l) (i+k)) (i+k))∧Row g.heap.size (i+k) (aZ c i a l) q∧Below g.heap.size g q:=by
 have e:Hid (gO s T c A g∧c∈ak∧Sl m i a g∧Sl t k l g∧El c a∧El c l∧Bd k l):=⟨h,B,I,J,D,F,G⟩;have N:Hid (fp m g.heap.size∧fp t g.heap.size):=⟨K,M⟩;clear h B I J D F G K M;have⟨n,B⟩:=eaa (i+k);rw[<-B];have C:Hid (n=i+k):=B;have D:n<=2000:=E;clear B;go_enter func125,ntmps125;go_wp2_with (at_make;refine iS X _ _ X _ n X X (by have:=C.out;omega) E ?_;intro O P Q);have R:Hid (Below g.heap.size g O∧Row g.heap.size n db O):=⟨cH Q (aa _) (λo B=>by simp at B),ji P⟩;clear P Q;go_loopw [20] (λr wr=>∃b:Nat,b<=i∧r=.int .i64 b∧Row g.heap.size n (aZ c b a l) wr∧Below g.heap.size g wr) (λr _=>i-(intOf r).toNat)
 case atStart=>exact⟨0,E,X,R.out.2,R.out.1⟩
 case round=>
  obtain⟨b,hr,rfl,u,v⟩:=hrel;have f:Hid (Row g.heap.size n (aZ c b a l) wr∧Below g.heap.size g wr):=⟨u,v⟩;clear u v;by_cases S:b<i
  ·obtain⟨ba,ab,rfl,U⟩:=(e.out.2.2.1.below f.out.2 N.out.1) b S;go_wp2;go_loopw [27] (λr wr=>∃j:Nat,j<=k∧r=.int .i64 j∧Row g.heap.size n (Hp c a l b j) wr∧Below g.heap.size g wr) (λr _=>k-(intOf r).toNat)
   case atStart=>exact⟨0,E,X,by rw[Nz];exact f.out.1,f.out.2⟩
   case round=>
    clear f U;obtain⟨j,hj,rfl,u,v⟩:=hrel;have f:Hid (Row g.heap.size n (Hp c a l b j) wr∧Below g.heap.size g wr):=⟨u,v⟩;clear u v;by_cases V:j<k
    ·obtain⟨bb,ad,rfl,ao⟩:=(e.out.2.2.2.1.below f.out.2 N.out.2) j V;have D:wr.cell? ⟨g.heap.size,b+j,none⟩=some (.int .i64 (aZ c b a l (b+j):Nat)):=by rw[<-TC];exact f.out.1.cell _ (by have:=C.out;omega)
     have F:=f.out.1.free (b+j);have⟨r,u⟩:=eaa (aZ c b a l (b+j));have⟨y,v⟩:=eaa (c.mul (a b) (l j));have⟨w,B⟩:=eaa (aZ c (b+1) a l (b+j))
     have W:Hid (∀d,Calls prog 67 #[.pointer (some ⟨s,0,none⟩),.int .i64 (a b:Nat),.int .i64 (l j:Nat)] (wr.drewN d) λp q=>p=.returned (.int .i64 (y:Nat))∧∃o,q=(wr.drewN d).drewN o):=by
      intro d;rw[v];exact mR e.out.2.1 ((e.out.1.below f.out.2 e.out.1.qY e.out.1.sg).drewN d) (e.out.2.2.2.2.1 b) (e.out.2.2.2.2.2.1 j)
     have Y:Hid (∀d,Calls prog 66 #[.pointer (some ⟨s,0,none⟩),.int .i64 (r:Nat),.int .i64 (y:Nat)] (wr.drewN d) λp q=>p=.returned (.int .i64 (w:Nat))∧∃o,q=(wr.drewN d).drewN o):=by
      intro d;have h:=pL e.out.2.1 ((e.out.1.below f.out.2 e.out.1.qY e.out.1.sg).drewN d) (dG (dE e.out.2.1) a l b (b+j)) ((dE e.out.2.1).bX (a b) (l j));rw[B,u,v, <-QJ];exact h
     have z:Hid (Row g.heap.size n (Hp c a l b j) wr∧Below g.heap.size g wr∧gO s T c A wr∧∀o,Hp c a l b (j+1) o=if o=b+j then w else Hp c a l b j o):=
      ⟨f.out.1,f.out.2,e.out.1.below f.out.2 e.out.1.qY e.out.1.sg,λo=>by rw[B];exact Ny c a l b j o⟩
     rw[<-u]at D;clear u v B f;obtain⟨x,r⟩:∃x:Nat,x=b+j:=⟨_,X⟩;have s:IntKind.i64.wrap ((b:Int)+(j:Int))=(x:Int):=eP E E;have s:(x:Int)<(n:Int):=by have:=C.out;omega
     rw[<-r]at D F z;clear r;go_wp2;refine iU 17 wL wL ?_;simp only[cW,dC,cV,eF];repeat(go_big_quiet_step (first|(go_at_call 67;exact XS (W.out _))|(go_at_call 66;exact XS (Y.out _))))
     refine XZ ?_;intro _ r;obtain⟨nq,Z⟩:=r;subst Z;go_wp2;go_roundw
     case rel=>exact⟨j+1,E,x9,(z.out.1.drewN nq).store x w (λo _=>z.out.2.2.2 o),(aO z.out.2.1 nq).setCell oi _⟩
     case measure=>simp[intOf];omega
    ·have HE:Hid (Row g.heap.size n (aZ c (b+1) a l) wr):=by
      show Row _ _ _ _;have h:=f.out.1;rw[show j=k from E,QI (dE e.out.2.1) e.out.2.2.2.2.2.2 b]at h;exact h
     go_wp2;go_roundw
     case rel=>exact⟨b+1,E,x9,HE.out,f.out.2⟩
     case measure=>simp[intOf];omega
  ·have p:b=i:=by omega
   subst p;go_wp2_with fail;refine(pF (f.out.1.sl (aa _)) (aa _) E).mono ?_;rintro p q ⟨rfl,o,rfl⟩;go_wp2;go_ret;exact⟨X,f.out.1.drewN _,aO f.out.2 _⟩
def qQ(a:Nat)(b:Nat->Nat):List Value:=(List.range a).map λc=> .int .i64 (b c:Nat)
theorem dD(a:Nat)(b:Nat->Nat):(qQ a b).length=a:=by simp[qQ]
theorem nD(a:Nat)(b:Nat->Nat)(j:Nat)(c:j<a):(qQ a b)[j]?=some (.int .i64 (b j:Nat)):=by
 unfold qQ;rw[ck,qC c];rfl
theorem vV(c:Nat)(d:Nat->Nat):∀a∈qQ c d,a.oneCell'=true:=by
 intro a b;unfold qQ at b;obtain⟨e,_,rfl⟩:=gF.1 b;rfl
theorem od(a b j:Nat):(Addr.mk a b none).add j=⟨a,b+j,none⟩:=by simp[Addr.add]
theorem Ch(z:B.guard=none)(d m:Operand)(A:B.op=.call { callee:=.builtin .copy,args:= #[d,m],argTypes:= #[22,22]})(f h s b t:Nat)(k:Option Addr)(C:D.eval d=.slice (some ⟨f,0,none⟩) h s)(F:D.eval m=.slice k b t)(n e:Nat->Nat)(I:Row f h n g)(v:Sl k b e g)(J:b<=h)(k:Nat)(o:World)(K:Below k o g)(M:k<=f)(N:∀i,Row f h (λa=>if a<b then e a else n a) i->Below k o i->wpList prog p G u (D.put B.dst (goInt b)) i):wpList prog p G (B::u) D g:=by
 obtain⟨w,q,O,P,Q⟩:=I;obtain⟨l,I,R,S⟩:=O;obtain⟨U,O,W,T,Y⟩:=X5 lV;have U:g.heap[f]?=some (.cells l.toList.toArray 3 (0,0)):=by simpa using I
 refine wpList_copy_splice z d m 22 22 A 3 underlying22 (by rw[O];simp[T]) _ _ h s b t C F f 0 l.toList 3 U (qQ b e) (by rw[dD];exact(Nat.min_eq_left J).symm) ?_ XH (vV b e) k o K M ?_
 ·intro x;rw[dD]at x;obtain⟨Z,ab,rfl,_⟩:=v 0 x;refine⟨X,_,X,λj f r=>?_⟩
  have y:j<b:=by
   have:=(b9.1 r).1
   rwa [dD]at this
  rw[nD b e j y]at r;cases r;obtain⟨f,h,c,V⟩:=v j y;cases c;rw[od];exact V
 ·intro i h f;rw[dD];refine N i ?_ f;have i:(splice l.toList 0 (qQ b e)).length=w:=by rw[length_splice _ _ _ XH];simpa using R
  refine⟨w,λa=>if a<b then .int .i64 (e a:Nat)else q a,⟨(splice l.toList 0 (qQ b e)).toArray,h.out,by simpa using i,λa f=>?_⟩,P,λa f=>?_⟩
  ·show _=some (if a<b then _ else q a);unfold splice;rw[an,dC,yu,dD,aW];by_cases c:a<b
   ·rw[bL (by rw[dD];exact c),nD b e a c,ai c]
   ·rw[bU (by rw[dD];omega),dD,mJ,show b+(a-b)=a from E,cU,S a f,af c]
  ·show(if a<b then _ else q a)=.int .i64 ((if a<b then e a else n a:Nat):Int);by_cases c:a<b
   ·rw[ai c,ai c]
   ·rw[af c,af c];exact Q a f
theorem uf(w:B.guard=none)(m f:Operand)(x:B.op=.call { callee:=.builtin .append,args:= #[m,f],argTypes:= #[22,22]})(h:Nat)(i:Value)(y:D.eval m=i)(q:aV h i [] g)(n:Option Addr)(a r:Nat)(d:Nat->Nat)(b:D.eval f=.slice n a r)(z:Sl n a d g)(Q:n=none->r=0)(J:a<=1000000)(R:h<=g.heap.size)(A:∀e c,cG h e a d c->g.grownBy c i.ownBlock->wpList prog p G u (D.put B.dst e) c):wpList prog p G (B::u) D g:=by
 obtain⟨C,F,S,T,U⟩:=X5 lV
 have I:∀e c,c.ownsRow h 3 1 e (0+a) ([]++qQ a d)->cG h e a d c:=by
  intro e c J;rw[aW,yu]at J;rcases J.2 with⟨s,V⟩|⟨W,K,o,Y,Z,M,N,ab,ax,ad⟩
  ·subst V;exact⟨none,0,s,aa _,E,λf b=>(by cases b),λf b=>(by cases b),λ_=>rfl,λt=>absurd t E⟩
  ·refine⟨_,K,Y,N,by unfold maxLen at ab;omega,λf b=>(by cases b;exact Z),λf b=>(by cases b;exact X7 M),λk=>(by cases k),λ_=>⟨W,X,K,λl=>(o[l]?).getD (.int .i64 0),⟨o,M,E,λl O=>?_⟩,N,λl O=>?_⟩⟩
   ·show _=some (Option.getD _ _);rw[au E];rfl
   ·have J:(o.toList.take (a*1))[l]?=(qQ a d)[l]?:=by rw[ad]
    rw[dL,ai E,nD a d l O]at J;show(o[l]?).getD _=_;rw[<-cU,J];rfl
 cases n with
 |none=>
  have t:a=0:=by
   rcases cL a with k|k
   ·exact k
   ·obtain⟨ao,ar,s,_⟩:=z 0 k;cases s
  subst t;rw[Q X]at b;refine wpList_append_own_none w m f 22 x h 3 C 1 underlying22 F i 0 [] y q b ?_;exact A i g (I i g q) (gS _ _)
 |some av=>
  refine Yq _ w m f 22 x h 3 C (.int .i64 0) 1 8 underlying22 F S T U X x5 i 0 [] y q av a r (qQ a d) b (by rw[dD];omega) ?_ (vV a d) ?_ ?_ R ?_
  ·intro j b v
   have P:j<a:=by
    have:=(b9.1 v).1
    rwa [dD]at this
   rw[nD a d j P]at v;cases v;obtain⟨ao,ar,k,hc⟩:=z j P;cases k;rw[od];exact hc
  ·unfold maxLen;omega
  ·omega
  ·intro e c a b _;exact A e c (I e c a) b
theorem p7(a:g.heap[e]?=some (.cells #[] 3 (0,0)))(c:b<=e):aV b (.slice (some ⟨e,0,none⟩) 0 0) [] g:=
 ⟨X,J ⟨e,0,#[],X,c,a,aa _,Xu,X,X⟩⟩
theorem Cg{w:World}(h:Sl m b a w)(k:b<=1000000)(g:m=none->e=0)(i:fp m w.heap.size):Calls prog 60 #[.slice m b e] w λl c=>∃j,l=.returned j∧cG w.heap.size j b a c∧Below w.heap.size w c:=by
 have d:Hid (Sl m b a w∧(m=none->e=0)∧fp m w.heap.size):=⟨h,g,i⟩;clear h g i;go_enter func60,ntmps60;go_wp2_with (at_builtin;refine uf X _ _ X w.heap.size _ X (p7 (dR _) (aa _)) m b e a X (d.out.1.below ((XK _ _).alloc (aa _) _) d.out.2.2) d.out.2.1 k oi ?_;intro q c n o);go_ret;exact⟨_,X,n,((XK _ _).alloc (aa _) _).grown o oi (by intro p f;have f:some w.heap.size=some p:=f;cases f;exact aa _)⟩
theorem II(h:Sl m b a g)(r:b<=1000000)(o:m=none->e=0)(p:fp m g.heap.size):Calls prog 132 #[.slice m b e] g λd i=>∃q,d=.returned q∧cG g.heap.size q b a i∧Below g.heap.size g i:=by
 have f:Hid (Sl m b a g∧(m=none->e=0)∧fp m g.heap.size):=⟨h,o,p⟩;clear h o p;cases m with
 |none=>
  have j:b=0:=by
   rcases cL b with d|d
   ·exact d
   ·obtain⟨o,p,s,_⟩:=f.out.1 0 d;cases s
  subst j;have t:∀c:World,Sem.run prog (binOp BinOp.eql 22 (Value.slice none 0 e) (Value.slice none 0 0)) c=.ok (.bool true) c:=λc=>Lib.run_eql_slice_nil c _ 3 none 0 e 0 0 underlying22
  go_enter func132,ntmps132;go_wp2;go_ret;exact⟨_,X,⟨none,0,X,aa _,E,λu k=>(by cases k),λu k=>(by cases k),λ_=>rfl,λj=>absurd j E⟩,XK _ _⟩
 |some l=>
  have t:∀c:World,Sem.run prog (binOp BinOp.eql 22 (Value.slice (some l) b e) (Value.slice none 0 0)) c=.ok (.bool false) c:=λc=>Lib.run_eql_slice_nil c _ 3 (some l) b e 0 0 underlying22
  go_enter func132,ntmps132;go_wp2_with (at_builtin;refine uf X _ _ X g.heap.size _ X (p7 (dR _) (aa _)) (some l) b e a X (f.out.1.below ((XK _ _).alloc (aa _) _) f.out.2.2) f.out.2.1 r oi ?_;intro y i v w);go_ret;exact⟨_,X,v,((XK _ _).alloc (aa _) _).grown w oi (by intro x n;have n:some g.heap.size=some x:=n;cases n;exact aa _)⟩
theorem ND{u T:Nat}(z:c∈ak)(h:gO u T c A g)(M:b<=1000)(hm:e<=1000)(B:El c a)(C:El c l)(D:Bd b a)(F:Bd e l)(G:Sl m b a g)(I:Sl t e l g)(J:fp m g.heap.size)(K:fp t g.heap.size):Calls prog 131 #[.pointer (some ⟨u,0,none⟩),.slice m b o,.slice t e q] g λk p=>∃M,k=.returned M∧cG g.heap.size M (cY (dk c a l) (max b e)) (dk c a l) p∧Below g.heap.size g p:=by
 have j:Hid (gO u T c A g∧c∈ak∧Sl m b a g∧Sl t e l g∧El c a∧El c l∧Bd b a∧Bd e l):=⟨h,z,G,I,B,C,D,F⟩;have N:Hid (fp m g.heap.size∧fp t g.heap.size):=⟨J,K⟩;clear h z G I B C D F J K;have⟨i,v⟩:=eaa (max b e);rw[<-v];have z:i<=1000:=E;have Y:b<=i:=E;have z:e<=i:=E;have ao:(if(b:Int)<(e:Int)then(e:Int)else(b:Int))=(i:Int):=by split<;>omega
 have Z:Hid (i=max b e):=v;clear v;go_enter func131,ntmps131
 go_wp2_with (first
  |(at_make;refine iS rfl _ _ rfl _ i rfl rfl (by have:=Z.out;omega) E ?_;intro w1 O w)
  |(show wpList _ _ _ (Oper.mk (some 18) _ _ _ _ _::_) _ _;(refine Ch rfl _ _ rfl g.heap.size i i b o m rfl rfl db a (ji O) (j.out.2.2.1.below (cH w (aa _) (λd r=>by simp at r)) N.out.1) Y g.heap.size g (cH w (aa _) (λd r=>by simp at r)) (aa _) ?_);intro P Q R))
 all_goals
  have S:Hid (Below g.heap.size g P∧Row g.heap.size i a P):=⟨R,Q.congr (λd _=>by show(if d<b then a d else db d)=a d;split;rfl;exact(j.out.2.2.2.2.2.2.1 d E).symm)⟩;clear O w R Q;go_loopw [21] (λx wr=>∃f:Nat,f<=e∧x=.int .i64 f∧Row g.heap.size i (λd=>if d<f then c.ad (a d) (l d)else a d) wr∧Below g.heap.size g wr) (λx _=>e-(intOf x).toNat)
  case atStart=>exact⟨0,E,X,S.out.2.congr (λd _=>XC),S.out.1⟩
  case round=>
   obtain⟨f,hr,rfl,U,V⟩:=hrel;have n:Hid (Row g.heap.size i (λd=>if d<f then c.ad (a d) (l d)else a d) wr∧Below g.heap.size g wr):=⟨U,V⟩;clear U V;by_cases ab:f<e
   ·obtain⟨bb,ar,rfl,av⟩:=(j.out.2.2.2.1.below n.out.2 N.out.2) f ab
    have v:wr.cell? ⟨g.heap.size,f,none⟩=some (.int .i64 (a f:Nat)):=by
     have h:=n.out.1.cell f E;rw[af E]at h;exact h
    have v:=n.out.1.free f;have⟨s,v⟩:=eaa (c.ad (a f) (l f))
    have ad:Hid (Calls prog 66 #[.pointer (some ⟨u,0,none⟩),.int .i64 (a f:Nat),.int .i64 (l f:Nat)] wr λk p=>k=.returned (.int .i64 (s:Nat))∧∃d,p=wr.drewN d):=by
     show Calls _ _ _ _ _;rw[v];exact pL j.out.2.1 (j.out.1.below n.out.2 j.out.1.qY j.out.1.sg) (j.out.2.2.2.2.1 f) (j.out.2.2.2.2.2.1 f)
    have y:Hid (Row g.heap.size i (λd=>if d<f then c.ad (a d) (l d)else a d) wr∧Below g.heap.size g wr∧∀d,d<i->(if d<f+1 then c.ad (a d) (l d)else a d)=if d=f then s else if d<f then c.ad (a d) (l d)else a d):=
     ⟨n.out.1,n.out.2,λd _=>by
      rw[v];by_cases k:d=f
      ·rw[ai k,ai E,k]
      ·rw[af k];by_cases u:d<f
       ·rw[ai u,ai E]
       ·rw[af u,af E]⟩
    clear v n;have u:(f:Int)<(i:Int):=E;go_wp2_with (go_at_call 66;refine ad.out.mono ?_;rintro k p ⟨rfl,nq,rfl⟩);go_roundw
    case rel=>exact⟨f+1,E,x9,(y.out.1.drewN nq).store f s (λd r=>y.out.2.2 d r),(aO y.out.2.1 nq).setCell oi _⟩
    case measure=>simp[intOf];omega
   ·have W:Hid (Row g.heap.size i (dk c a l) wr):=n.out.1.congr (λd _=>by
     show(if d<f then c.ad (a d) (l d)else a d)=c.ad (a d) (l d);split
     ·rfl
     ·rw[j.out.2.2.2.2.2.2.2 d E,b5 (dE j.out.2.1) (j.out.2.2.2.2.1 d)])
    go_wp2_with fail
    refine(pF (W.out.sl (aa _)) (aa _) E).mono ?_;rintro k p ⟨rfl,d,rfl⟩;go_wp2;go_ret;exact⟨_,X,cG.tJ (W.out.drewN d) (eJ _ _) (eJ _ _) E (aa _),aO n.out.2 _⟩
theorem CV{a T:Nat}(d:c∈ak)(e:gO a T c A g)(f:b<c.q)(h:b≠0):Calls prog 130 #[.pointer (some ⟨a,0,none⟩),.int .i64 b] g λi j=>i=.returned (.int .i64 (c.iv b:Nat))∧∃k,j=g.drewN k:=by
 have a:=PX d e b;rw[lW d f h]at a;exact a
theorem xN(a:bV c)(f:b<c.q)(d:e<c.q):c.Re b e=(c.sb b e:Nat):=by
 rw[FD.Re,FD.pB,ai (jh d),aN,vL a f (a.FF e d)];rfl
theorem By{a T:Nat}(d:c∈ak)(f:gO a T c A g)(h:b<c.q)(i:e<c.q):Calls prog 126 #[.pointer (some ⟨a,0,none⟩),.int .i64 b,.int .i64 e] g λj k=>j=.returned (.int .i64 (c.sb b e:Nat))∧∃l,k=g.drewN l:=by
 rw[<-xN (dE d) h i];exact Rf d f b e
theorem cG.setOther(f:cG b C e a g)(d:Addr)(h:∀c,C.ownBlock=some c->c≠d.block)(i:Value):cG b C e a (g.setCell d i):=by
 obtain⟨j,k,rfl,l,m,n,o,p,q⟩:=f;refine⟨j,k,X,l,m,n,λd f=>by simpa [World.setCell]using o d f,p,λr=>?_⟩;obtain⟨c,rfl,s⟩:=q r;exact⟨c,X,s.other (XR _ _ _ _ (h c X))⟩
theorem cG.store{h d:Nat->Nat}(k:cG b (.slice (some ⟨q,0,none⟩) e o) e h g)(a c:Nat)(l:0<e)(m:∀j,j<e->d j=if j=a then c else h j):cG b (.slice (some ⟨q,0,none⟩) e o) e d (g.setCell ⟨q,a,none⟩ (.int .i64 (c:Nat))):=by
 obtain⟨h,x,i,n,p,r,s,y,t⟩:=k;simp only[Value.slice.injEq,j7]at i;obtain⟨rfl,rfl⟩:=i;obtain⟨h,f,u⟩:=t l;cases f;exact⟨_,o,X,n,p,r,λv w=>by simpa [World.setCell]using s v w,λf=>(by cases f),λ_=>⟨q,X,u.store a c m⟩⟩
theorem cG.row(f:cG b (.slice m e o) e a g)(h:0<e):∃c,m=some ⟨c,0,none⟩∧b<=c∧c<g.heap.size∧Row c e a g:=by
 obtain⟨n,p,d,q,r,i,j,s,k⟩:=f;simp only[Value.slice.injEq,j7]at d;obtain⟨rfl,rfl⟩:=d;obtain⟨c,rfl,l⟩:=k h;exact⟨c,X,i _ X,j _ X,l⟩
theorem cG.trimmed(d:cG b (.slice m e o) e a g):cG b (.slice m (cY a e) o) (cY a e) a g:=by
 obtain⟨l,n,c,p,f,h,i,j,k⟩:=d;simp only[Value.slice.injEq,j7]at c;obtain⟨rfl,rfl⟩:=c;have:=eJ a e;refine⟨_,_,X,E,f,h,i,j,λc=>?_⟩;obtain⟨c,d,f⟩:=k E;exact⟨c,d,f.less this⟩
def BM(d:FD)(e:Nat->Nat)(f g b:Nat)(c:Nat->Nat)(j:Nat):Nat->Nat:=λa=>if b<=a∧a<b+j then hJ d e f g b c a else c a
theorem Du(b:FD)(c:Nat->Nat)(d e f:Nat)(a:Nat->Nat):BM b c d e f a 0=a:=by funext k;unfold BM;rw[af E]
theorem Hr(d:bV c)(f:El c l)(h:Bd (b+1) a):BM c a b e o l (b+1)=hJ c a b e o l:=by
 funext k
 unfold BM;by_cases g:o<=k∧k<o+(b+1)
 ·rw[ai g]
 ·rw[af g];by_cases g:k<o
  ·exact(LG d f g).symm
  ·exact(Cr d f h E).symm
theorem Dt(c:FD)(d e:Nat->Nat)(f g a j b:Nat):BM c d f g a e (j+1) b=if b=a+j then hJ c d f g a e (a+j)else BM c d f g a e j b:=by
 unfold BM;by_cases c:b=a+j
 ·rw[ai c,ai E,c]
 ·rw[af c];by_cases c:a<=b∧b<a+j
  ·rw[ai c,ai E]
  ·rw[af c,af E]
theorem NC(c:FD)(d b:Nat->Nat)(e f a j:Nat):BM c d e f a b j (a+j)=b (a+j):=by unfold BM;rw[af E]
theorem EY{D T:Nat}(hD:c∈ak)(h:gO D T c A g){k b ca cb:Nat}(hn:k<=1000)(hm:b<1000)(ha:El c a)(hb:El c l)(ad:Bd k a)(ao:Bd (b+1) l)(ax:l b≠0)(hA:Sl m k a g)(hB:Sl t (b+1) l g)(a0:fp m g.heap.size)(a1:fp t g.heap.size)(a2:m=none->ca=0):Calls prog 124 #[.pointer (some ⟨D,0,none⟩),.slice m k ca,.slice t (b+1) cb] g λr s=>∃vq vr,r=.returned (.tuple #[vq,vr])∧cG g.heap.size vq (cY (dV c l b (c.iv (l b)) (k-b) a) (k-b)) (dV c l b (c.iv (l b)) (k-b) a) s∧cG g.heap.size vr (cY (iE c l b (c.iv (l b)) (k-b) a) k) (iE c l b (c.iv (l b)) (k-b) a) s∧Below g.heap.size g s:=by
 have n:Hid (gO D T c A g∧c∈ak∧Sl m k a g∧Sl t (b+1) l g∧El c a∧El c l∧Bd k a∧Bd (b+1) l∧l b≠0):=⟨h,hD,hA,hB,ha,hb,ad,ao,ax⟩;have S:Hid (fp m g.heap.size∧fp t g.heap.size∧(m=none->ca=0)):=⟨a0,a1,a2⟩;clear h hD hA hB ha hb ad ao a0 a1 a2 ax;have⟨nq,ad⟩:=eaa (k-b);have⟨i,ao⟩:=eaa (c.iv (l b));rw[<-ad, <-ao];have U:Hid (nq=k-b∧i=c.iv (l b)):=⟨ad,ao⟩;have ax:nq<=1000:=E;clear ad ao;obtain⟨bs,bw,rfl,_⟩:=n.out.2.2.2.1 b E;go_enter func124,ntmps124;go_wp2_with fail;refine(II n.out.2.2.1 E S.out.2.2 S.out.1).mono ?_;rintro r q ⟨vr,rfl,x,a3⟩;obtain⟨F,z,rfl,bx,bz,a7,a4,a8,a9⟩:=x.open;have G:Hid (cG g.heap.size (.slice F k z) k a q∧Below g.heap.size g q∧fp F q.heap.size):=⟨x,a3,a4⟩;clear x a3 a7 a4 a8 a9
 go_wp2_with (first
  |(at_make;refine iS rfl _ _ rfl _ nq rfl rfl (by have:=U.out;omega) E ?_;intro w2 a5 V;have W:=n.out.2.2.2.1.below (iO G.out.2.1 (cH V (aa _) (λf B=>by simp at B))) S.out.2.1 b E;obtain⟨ba,bb,N,W⟩:=W;simp only[bt,Addr.mk.injEq,jy]at N;obtain⟨rfl,rfl⟩:=N)
  |(go_at_call 130;refine(CV n.out.2.1 (n.out.1.below (iO G.out.2.1 (cH V (aa _) (λf B=>by simp at B))) n.out.1.qY n.out.1.sg) (n.out.2.2.2.2.2.1 b) n.out.2.2.2.2.2.2.2.2).mono ?_;rintro r s ⟨rfl,d,rfl⟩))
 all_goals
  have ar:Hid (cG g.heap.size (.slice F k z) k a (w2.drewN d)∧Row q.heap.size nq db (w2.drewN d)∧Below g.heap.size g (w2.drewN d)):=by
   have I:=cH V (aa _) (λf B=>by simp at B);exact⟨(G.out.1.below I (aa _)).drewN d,(ji a5).drewN d,aO (iO G.out.2.1 I) d⟩
  have ad:=G.out.2.1.size;rw[show c.iv (l b)=i from U.out.2.symm];clear a5 V W
  go_loopw [10] (λC wr=>∃(e:Nat) (o:Nat->Nat),e<=nq∧C=.int .i64 ((e:Int)-1)∧El c o∧Hid (iE c l b i e o=iE c l b i nq a∧∀f,f<e->dV c l b i e o f=dV c l b i nq a f)∧
    cG g.heap.size (.slice F k z) k o wr∧Row q.heap.size nq (λf=>if e<=f then dV c l b i nq a f else 0) wr∧Below g.heap.size g wr) (λC _=>(intOf C+1).toNat)
  case atStart=>exact⟨nq,a,aa _,X,n.out.2.2.2.2.1,⟨X,λ_ _=>rfl⟩,ar.out.1,ar.out.2.1.congr (λf B=>by show 0=if nq<=f then _ else 0;rw[af E]),ar.out.2.2⟩
  case round=>
   obtain⟨e,o,hs,Y,V,Z,x,O,P⟩:=hrel;have p:Hid (El c o∧cG g.heap.size (.slice F k z) k o wr∧Row q.heap.size nq (λf=>if e<=f then dV c l b i nq a f else 0) wr∧Below g.heap.size g wr):=⟨V,x,O,P⟩;clear V x O P;cases e with
   |succ e=>
    have av:u10=.int .i64 (e:Int):=by rw[Y];go_num
    clear Y;subst av;have bc:e+b<k:=by have:=U.out;omega
    first
    |exfalso;omega
    |obtain⟨w,rfl,bA,bB,J⟩:=p.out.2.1.row E
     have V:w<q.heap.size:=G.out.2.2 _ X;have x1:wr.cell? ⟨w,e+b,none⟩=some (.int .i64 (o (e+b):Nat)):=J.cell _ bc;obtain⟨V,x2⟩:∃G,wr.cell? ⟨q.heap.size,e,none⟩=some G:=⟨_,p.out.2.2.1.cell e E⟩;have x3:=p.out.2.2.1.free e;have G:(e:Int)<(nq:Int):=E
     have HQ:Hid (c.mul (o (e+b)) i=dV c l b i nq a e):=by
      have h:=Z.out.2 e E;rw[dV]at h;have h:(if e=e then c.mul (o (e+b)) i else dV c l b i e (hJ c l b i e o) e)=dV c l b i nq a e:=h;rw[ai X]at h;exact h
     have⟨u,G⟩:=eaa (dV c l b i nq a e)
     have HC:Hid (Calls prog 67 #[.pointer (some ⟨D,0,none⟩),.int .i64 (o (e+b):Nat),.int .i64 (i:Nat)] wr λr s=>r=.returned (.int .i64 (u:Nat))∧∃f,s=wr.drewN f):=by
      show Calls _ _ _ _ _;rw[G, <-HQ.out];exact mR n.out.2.1 (n.out.1.below p.out.2.2.2 n.out.1.qY n.out.1.sg) (p.out.1 _) (by rw[U.out.2];exact G6 n.out.2.1 _)
     have ab:Hid (u=dV c l b i nq a e):=G;clear G J;go_wp2_with (go_at_call 67;refine HC.out.mono ?_;rintro r s ⟨rfl,K,rfl⟩)
     have Q:Hid (El c o∧cG g.heap.size (.slice (some ⟨w,0,none⟩) k z) k o ((wr.drewN K).setCell ⟨q.heap.size,e,none⟩ (.int .i64 (u:Nat)))∧Row q.heap.size nq (λf=>if e<=f then dV c l b i nq a f else 0) ((wr.drewN K).setCell ⟨q.heap.size,e,none⟩ (.int .i64 (u:Nat)))∧Below g.heap.size g ((wr.drewN K).setCell ⟨q.heap.size,e,none⟩ (.int .i64 (u:Nat)))):=by
      refine⟨p.out.1,(p.out.2.1.drewN K).setOther _ (λA I=>?_) _,(p.out.2.2.1.drewN K).store e u (λj hj=>?_),(aO p.out.2.2.2 K).setCell (by show g.heap.size<=q.heap.size;omega) _⟩
      ·have I:some w=some A:=I;cases I;show w≠q.heap.size;omega
      ·show(if e<=j then _ else 0)=if j=e then u else if e+1<=j then _ else 0
       by_cases r:j=e
       ·rw[ai r,ai E,ab.out,r]
       ·rw[af r];by_cases e2:e<=j
        ·rw[ai e2,ai E]
        ·rw[af e2,af E]
     clear p x1 x2 x3;go_loopw [53] (λC wr=>∃j:Nat,j<=b+1∧C=.int .i64 j∧cG g.heap.size (.slice (some ⟨w,0,none⟩) k z) k (BM c l b i e o j) wr∧Row q.heap.size nq (λf=>if e<=f then dV c l b i nq a f else 0) wr∧Below g.heap.size g wr) (λC _=>b+1-(intOf C).toNat)
     case atStart=>exact⟨0,E,X,by rw[Du];exact Q.out.2.1,Q.out.2.2.1,Q.out.2.2.2⟩
     case round=>
      obtain⟨j,hj,rfl,x,O,P⟩:=hrel;have p:Hid (El c o∧cG g.heap.size (.slice (some ⟨w,0,none⟩) k z) k (BM c l b i e o j) wr∧Row q.heap.size nq (λf=>if e<=f then dV c l b i nq a f else 0) wr∧Below g.heap.size g wr):=⟨Q.out.1,x,O,P⟩;clear x O P Q;by_cases x:j<b+1
      ·obtain⟨ba,bb,N,W⟩:=(n.out.2.2.2.1.below p.out.2.2.2 S.out.2.1) j x;simp only[bt,Addr.mk.injEq,jy]at N;obtain⟨rfl,rfl⟩:=N;obtain⟨x,e2,_,_,J⟩:=p.out.2.1.row E;cases e2;obtain⟨v,x⟩:∃v:Nat,v=e+j:=⟨_,X⟩
       have x1:wr.cell? ⟨w,v,none⟩=some (.int .i64 (o v:Nat)):=by
        have h:=J.cell (e+j) E;rw[NC]at h;rw[x];exact h
       have C:=J.free v
       have x2:wr.cell? ⟨q.heap.size,e,none⟩=some (.int .i64 (u:Nat)):=by
        have h:=p.out.2.2.1.cell e E;rw[ai (aa _)]at h;rw[ab.out];exact h
       have C:(v:Int)<(k:Int):=E;have C:IntKind.i64.wrap ((e:Int)+(j:Int))=(v:Int):=eP E E;have⟨y,C⟩:=eaa (c.mul u (l j));have⟨R,G⟩:=eaa (c.sb (o v) y);have⟨K,I⟩:=eaa (o v);rw[<-I]at x1 G;have N:u<c.q:=by rw[ab.out];exact oo (dE n.out.2.1) nq a e
       have bd:Hid (∀d,Calls prog 67 #[.pointer (some ⟨D,0,none⟩),.int .i64 (u:Nat),.int .i64 (l j:Nat)] (wr.drewN d) λr s=>r=.returned (.int .i64 (y:Nat))∧∃f,s=(wr.drewN d).drewN f):=by
        intro d;rw[C];exact mR n.out.2.1 ((n.out.1.below p.out.2.2.2 n.out.1.qY n.out.1.sg).drewN d) N (n.out.2.2.2.2.2.1 j)
       have bg:Hid (∀d,Calls prog 126 #[.pointer (some ⟨D,0,none⟩),.int .i64 (K:Nat),.int .i64 (y:Nat)] (wr.drewN d) λr s=>r=.returned (.int .i64 (R:Nat))∧∃f,s=(wr.drewN d).drewN f):=by
        intro d;rw[G];exact By n.out.2.1 ((n.out.1.below p.out.2.2.2 n.out.1.qY n.out.1.sg).drewN d) (by rw[I];exact p.out.1 v) (by rw[C];exact(dE n.out.2.1).bX _ _)
       have HV:Hid (∀f,f<k->BM c l b i e o (j+1) f=if f=v then R else BM c l b i e o j f):=by
        intro f _;rw[Dt,x,G,I,C,ab.out, <-HQ.out,Cp,x]
       have bk:w≠q.heap.size:=E;clear x C G I J;go_wp2;refine iU 20 wL wL ?_;simp only[cW,dC,cV,eF];repeat(go_big_quiet_step (first|(go_at_call 67;exact XS (bd.out _))|(go_at_call 126;exact XS (bg.out _))))
       refine XZ ?_;intro _ u;obtain⟨nd,bl⟩:=u;subst bl;go_wp2;go_roundw
       case rel=>exact⟨j+1,E,x9,(p.out.2.1.drewN nd).store v R E HV.out,(p.out.2.2.1.drewN nd).other (XR _ _ _ _ (λr=>bk r.symm)),(aO p.out.2.2.2 nd).setCell (by show g.heap.size<=w;omega) _⟩
       case measure=>simp[intOf];omega
      ·have M:Hid (cG g.heap.size (.slice (some ⟨w,0,none⟩) k z) k (hJ c l b i e o) wr):=by
        have h:=p.out.2.1;rw[show j=b+1 from E,Hr (dE n.out.2.1) p.out.1 n.out.2.2.2.2.2.2.2.1]at h;exact h
       have bm:Hid (iE c l b i e (hJ c l b i e o)=iE c l b i nq a∧∀f,f<e->dV c l b i e (hJ c l b i e o) f=dV c l b i nq a f):=by
        refine⟨Z.out.1,λf B=>?_⟩;have h:=Z.out.2 f E;rw[dV]at h;have h:(if f=e then c.mul (o (e+b)) i else dV c l b i e (hJ c l b i e o) f)=dV c l b i nq a f:=h;rw[af E]at h;exact h
       go_wp2;go_roundw
       case rel=>exact⟨e,hJ c l b i e o,E,x9,pd (dE n.out.2.1) p.out.1,bm.out,M.out,p.out.2.2.1,p.out.2.2.2⟩
       case measure=>simp[intOf]
   |zero=>
    have av:u10=.int .i64 (-1):=by rw[Y];rfl
    clear Y;subst av
    have M:Hid (cG g.heap.size (.slice F k z) k (iE c l b i nq a) wr∧Row q.heap.size nq (dV c l b i nq a) wr):=
     ⟨by rw[<-Z.out.1];exact p.out.2.1,p.out.2.2.1.congr (λf _=>by show(if 0<=f then _ else 0)=_;rw[ai (fq _)])⟩
    go_wp2_with fail
    refine(pF (M.out.2.sl (aa _)) (aa _) E).mono ?_;rintro r s ⟨rfl,k1,rfl⟩;go_wp2_with fail;obtain⟨b,e,a6,bn,bo,_,_,_,bp⟩:=(M.out.1.drewN k1).open;simp only[Value.slice.injEq,j7]at a6;obtain⟨rfl,rfl⟩:=a6;refine(pF bp bn bo).mono ?_;rintro r s ⟨rfl,k2,rfl⟩;go_wp2
    go_ret2
    refine⟨_,_,X,cG.tJ (M.out.2.drewN _) (eJ _ _) (eJ _ _) E E,?_,aO p.out.2.2.2 _⟩;exact(M.out.1.drewN _).trimmed
def lu(c:Option Addr)(d:Nat)(e:Nat->Int)(f:World):Prop:=∀j,j<d->∃a b,c=some ⟨a,b,none⟩∧f.cell? ⟨a,b+j,none⟩=some (.int .i64 (e j))
theorem lu.below{a B:Nat}(d:lu m a x g)(e:Below B g w)(f:fp m B):lu m a x w:=λj h=>by
 obtain⟨b,c,rfl,i⟩:=d j h;exact⟨b,c,X,((iN e).1 b (c+j) (f _ X)).trans i⟩
theorem Sl.z(c:Sl m b a g):lu m b (λj=>(a j:Nat)) g:=c
def FD.kB(a:FD)(b:Nat->Int):Nat->Bool
 |0=>true
 |n+1=>a.kB b n && a.has (b n)
theorem iM:∀ {n:Nat},c.kB x n=true↔∀j,j<n->c.has (x j)=true
 |0=>⟨λ_ j a=>E,λ_=>rfl⟩
 |n+1=>by
  rw[FD.kB,aI,iM];constructor
  ·rintro⟨b,d⟩ j a;by_cases e:j=n
   ·rw[e];exact d
   ·exact b j E
  ·intro b;exact⟨λj a=>b j E,b n E⟩
def FD.jG(b:FD)(a:Nat)(c:Nat->Int):Int:=if 128<a then 4 else if b.kB c a=true then 0 else 2
theorem pN(q:c∈ak){a cap:Nat}{z:Nat->Int}{w:World}(h:lu m a z w)(r:fp m w.heap.size)(C:a<=1000000):Calls prog 47 #[.int .i64 c.q,.slice m a cap] w λd k=>d=.returned (.int .i64 (c.jG a z))∧Below w.heap.size w k:=by
 have l:Hid (lu m a z w∧fp m w.heap.size∧c∈ak):=⟨h,r,q⟩;clear h r q;go_enter func47,ntmps47;go_wp2_with fail;refine(kh l.out.2.2 w).mono ?_;rintro d i ⟨v,T,x,rfl,s,y,A,n⟩;have f:Hid (gO v T c x i∧lu m a z i∧Below w.heap.size w i):=⟨s,l.out.1.below n l.out.2.1,n⟩;clear s y A n;by_cases o:128<a
 ·have g:Hid (c.jG a z=4):=by show c.jG a z=4;rw[FD.jG,ai o]
  go_wp2;go_ret;exact⟨aY (by rw[g.out]),f.out.2.2⟩
 ·go_wp2;go_loopw [22] (λp wr=>∃b:Nat,b<=a∧p=.int .i64 b∧Hid (c.kB z b=true)∧wr=i) (λp _=>a-(intOf p).toNat)
  case atStart=>exact⟨0,E,X,X,X⟩
  case round=>
   obtain⟨b,D,rfl,t,rfl⟩:=hrel;by_cases u:b<a
   ·obtain⟨F,G,rfl,I⟩:=f.out.2.1 b u;by_cases j:c.has (z b)=true
    ·have B:Hid (c.kB z (b+1)=true):=by show c.kB z (b+1)=true;rw[FD.kB,t.out,j];rfl
     go_wp2_with (go_at_call 45;refine(eG f.out.1 _).mono ?_;rintro d k ⟨rfl,e⟩;have e:=e.symm;subst e)
     go_roundw
     case rel=>exact⟨b+1,E,x9,B.out,Xo⟩
     case measure=>simp[intOf];omega
    ·have i:c.has (z b)=false:=by simpa using j
     have g:Hid (c.jG a z=2):=by
      show c.jG a z=2;rw[FD.jG,af o,af];intro d;exact j (iM.1 d b u)
     clear j;go_wp2_with (go_at_call 45;refine(eG f.out.1 _).mono ?_;rintro d k ⟨rfl,e⟩;have e:=e.symm;subst e);go_ret;exact⟨aY (by rw[g.out]),f.out.2.2⟩
   ·have g:Hid (c.jG a z=0):=by
     show c.jG a z=0;have d:b=a:=E;rw[FD.jG,af o,ai (d▸t.out)]
    go_wp2;go_ret;exact⟨aY (by rw[g.out]),f.out.2.2⟩
def FD.qG(a:FD)(b:Nat->Nat)(c:Nat->Nat->Int):Nat->Int
 |0=>0
 |k+1=>if a.qG b c k=0 then a.jG (b k) (c k)else a.qG b c k
structure BW(g k:Nat)(A:Nat->Option Addr)(N C:Nat->Nat)(Z:Nat->Nat->Int)(w:World):Prop where
 cell:∀j,j<k->w.cell? ⟨g,j,none⟩=some (.slice (A j) (N j) (C j))
 sl:∀j,j<k->lu (A j) (N j) (Z j) w
 lt:∀j,j<k->fp (A j) w.heap.size
 qL:∀j,j<k->N j<=1000000
 Ww:g<w.heap.size
theorem BW.below(c:BW b e K a l v g)(f:Below g.heap.size g w):BW b e K a l v w:=
 ⟨λj d=>((iN f).1 b j c.Ww).trans (c.cell j d),λj d=>(c.sl j d).below f (c.lt j d),λj d=>(c.lt j d).mono f.size,c.qL,aj c.Ww f.size⟩
theorem yY{e:Int}(f:e≠0)(g:c.qG a v b=e):∀d,c.qG a v (b+d)=e
 |0=>g
 |d+1=>by rw[<-fh,FD.qG,yY f g d,af f]
theorem Nu(w:c∈ak){m d cap:Nat}(h:BW m d K a l v g)(N:d<=1000):Calls prog 120 #[.int .i64 c.q,.slice (some ⟨m,0,none⟩) d cap] g λe k=>Below g.heap.size g k∧((c.qG a v d=0∧∃i T o,e=.returned (.tuple #[.pointer (some ⟨i,0,none⟩),.int .i64 0])∧gO i T c o k∧g.heap.size<=i∧g.heap.size<=T)∨(c.qG a v d≠0∧e=.returned (.tuple #[.pointer none,.int .i64 (c.qG a v d)]))):=by
 have t:Hid (BW m d K a l v g∧c∈ak):=⟨h,w⟩;clear h w;go_enter func120,ntmps120;go_wp2;go_loopw [11] (λu wr=>∃b:Nat,b<=d∧u=.int .i64 b∧Hid (c.qG a v b=0)∧BW m d K a l v wr∧Below g.heap.size g wr) (λu _=>d-(intOf u).toNat)
 case atStart=>exact⟨0,E,X,X,t.out.1,XK _ _⟩
 case round=>
  obtain⟨b,O,rfl,x,y,z⟩:=hrel;have f:Hid (BW m d K a l v wr∧Below g.heap.size g wr):=⟨y,z⟩;clear y z;by_cases m:b<d
  ·have u:=f.out.1.cell b m;have u:(b:Int)<(d:Int):=E;have⟨e,u⟩:=eaa (c.jG (a b) (v b))
   have A:Hid (Calls prog 47 #[.int .i64 c.q,.slice (K b) (a b) (l b)] wr λp k=>p=.returned (.int .i64 e)∧Below wr.heap.size wr k):=by
    show Calls _ _ _ _ _;rw[u];exact pN t.out.2 (f.out.1.sl b m) (f.out.1.lt b m) (f.out.1.qL b m)
   have q:Hid (c.qG a v (b+1)=e):=by show c.qG a v (b+1)=e;rw[FD.qG,ai x.out,u]
   clear u;by_cases j:e=0
   ·have M:(e !=0)=false:=by rw[j];rfl
    have n:Hid (c.qG a v (b+1)=0):=by show _=_;rw[q.out,j]
    clear j;go_wp2_with (go_at_call 47;refine A.out.mono ?_;rintro p k ⟨rfl,r⟩);go_roundw
    case rel=>exact⟨b+1,E,x9,n.out,f.out.1.below r,iO f.out.2 r⟩
    case measure=>simp[intOf];omega
   ·have M:(e !=0)=true:=by rw[dy];exact j
    have n:Hid (c.qG a v d=e∧e≠0):=by
     have h:=yY j q.out (d-(b+1));rw[show b+1+(d-(b+1))=d from E]at h;exact⟨h,j⟩
    clear j;go_wp2_with (go_at_call 47;refine A.out.mono ?_;rintro p k ⟨rfl,r⟩)
    go_ret2
    exact⟨iO f.out.2 r,J ⟨by rw[n.out.1];exact n.out.2,by rw[n.out.1];rfl⟩⟩
  ·have q:Hid (c.qG a v d=0):=by show _=_;rw[<-show b=d from E];exact x.out
   go_wp2_with fail
   refine(kh t.out.2 wr).mono ?_;rintro p B ⟨i,T,o,rfl,C,D,F,G⟩;have s:Hid (gO i T c o B∧wr.heap.size<=i∧wr.heap.size<=T∧Below wr.heap.size wr B):=⟨C,D,F,G⟩;clear C D F G;go_wp2
   go_ret2
   have b:=f.out.2.size;exact⟨iO f.out.2 s.out.2.2.2,I ⟨q.out,i,T,o,X,s.out.1,by have:=s.out.2.1;omega,by have:=s.out.2.2.1;omega⟩⟩
structure Arg(ao:Option Addr)(n cap:Nat)(z:Nat->Int)(w:World):Prop where
 sl:lu ao n z w
 lt:fp ao w.heap.size
 qL:n<=1000000
 nil:ao=none->cap=0
 le:n<=cap
 cap:cap<=9223372036854775807
theorem Arg.below(a:Arg m b e x g)(c:Below g.heap.size g w):Arg m b e x w:=
 ⟨a.sl.below c a.lt,a.lt.mono c.size,a.qL,a.nil,a.le,a.cap⟩
def two{a:Type}(b y:a):Nat->a:=λj=>if j=0 then b else y
theorem Mr{a y:Nat->Int}(c:Arg m b o a g)(f:Arg t e q y g):BW g.heap.size 2 (two m t) (two b e) (two o q) (two a y) (g.alloc (.cells #[.slice m b o,.slice t e q] 22)):=by
 have d:Below g.heap.size g (g.alloc (.cells #[.slice m b o,.slice t e q] 22)):=(XK _ _).alloc (aa _) _;have a:=c.below d;have c:=f.below d;refine⟨λj d=>?_,λj d=>?_,λj d=>?_,λj d=>?_,oi⟩
 ·rw[YB _ _ _ _ _ (0,0) (dR _)];rcases j with _|_|j
  ·rfl
  ·rfl
  ·omega
 ·rcases j with _|_|j
  ·exact a.sl
  ·exact c.sl
  ·omega
 ·rcases j with _|_|j
  ·exact a.lt
  ·exact c.lt
  ·omega
 ·rcases j with _|_|j
  ·exact a.qL
  ·exact c.qL
  ·omega
def FD.gu(a:FD)(b:Nat)(c:Nat->Int)(d:Nat)(y:Nat->Int):Int:=if a.jG b c=0 then a.jG d y else a.jG b c
theorem Lo(a:FD)(b d:Nat)(c y:Nat->Int):a.qG (two b d) (two c y) 2=a.gu b c d y:=by
 show(if(if(0:Int)=0 then a.jG b c else 0)=0 then a.jG d y else(if(0:Int)=0 then a.jG b c else 0))=_;rw[ai X];rfl
theorem tK(k:c∈ak){d y:Nat->Int}(l:Arg m b o d g)(n:Arg t e q y g):Calls prog 120 #[.int .i64 c.q,.slice (some ⟨g.heap.size,0,none⟩) 2 2] (g.alloc (.cells #[.slice m b o,.slice t e q] 22)) λh i=>Below g.heap.size g i∧((c.gu b d e y=0∧∃a T j,h=.returned (.tuple #[.pointer (some ⟨a,0,none⟩),.int .i64 0])∧gO a T c j i∧g.heap.size<=a∧g.heap.size<=T)∨(c.gu b d e y≠0∧h=.returned (.tuple #[.pointer none,.int .i64 (c.gu b d e y)]))):=by
 have f:=Nu k (cap:=2) (Mr l n) E;rw[Lo]at f;refine f.mono ?_;rintro h i ⟨d,p⟩;have h:Below g.heap.size g (g.alloc (.cells #[.slice m b o,.slice t e q] 22)):=(XK _ _).alloc (aa _) _;refine⟨iO h d,?_⟩;rcases p with⟨r,a,T,j,rfl,s,u,v⟩|f
 ·simp at u v;exact I ⟨r,a,T,j,X,s,E,E⟩
 ·exact J f
def zc(a:Nat)(b:Nat->Int):Nat->Nat:=λj=>if j<a then(b j).toNat else 0
theorem Iu(a:Nat)(b:Nat->Int):Bd a (zc a b):=λc d=>by unfold zc;rw[af E]
theorem mq(a:c.jG b x=0):b<=128∧∀j,j<b->c.has (x j)=true:=by
 unfold FD.jG at a;by_cases d:128<b
 ·rw[ai d]at a;cases a
 ·rw[af d]at a;by_cases e:c.kB x b=true
  ·exact⟨E,iM.1 e⟩
  ·rw[af e]at a;cases a
theorem uF(d:bV c)(e:c.jG b x=0):El c (zc b x):=λj=>by
 unfold zc;by_cases a:j<b
 ·obtain⟨h,f,g⟩:=fT ((mq e).2 j a);rw[ai a,f,aN];exact g
 ·rw[af a];exact aX d
theorem sP(d:c.jG b x=0)(e:lu m b x g):Sl m b (zc b x) g:=λj a=>by
 obtain⟨f,h,i,k⟩:=e j a;obtain⟨l,e,n⟩:=fT ((mq d).2 j a);refine⟨f,h,i,?_⟩;rw[k];unfold zc;rw[ai a,e,aN]
theorem sZ{f y:Nat->Int}(a:c.gu b f e y=0):c.jG b f=0∧c.jG e y=0:=by
 unfold FD.gu at a;by_cases d:c.jG b f=0
 ·rw[ai d]at a;exact⟨d,a⟩
 ·rw[af d]at a;exact absurd a d
theorem xS{w:World}(d:c.jG b x=0)(a:Arg m b e x w):Calls prog 123 #[.slice m b e] w λf g=>f=.returned (.slice m (cY (zc b x) b) e)∧∃h,g=w.drewN h:=
 pF (sP d a.sl) a.le a.cap
theorem Di(w:c∈ak){a y:Nat->Int}(x:Arg m b o a g)(z:Arg t e q y g):Calls prog 109 #[.int .i64 c.q,.slice m b o,.slice t e q] g λi p=>Below g.heap.size g p∧((c.gu b a e y=0∧cY (zc b a) b+cY (zc e y) e<=129∧∃A,i=.returned (.tuple #[A,.int .i64 0])∧cG g.heap.size A (cY (aZ c b (zc b a) (zc e y)) (cY (zc b a) b+cY (zc e y) e)) (aZ c b (zc b a) (zc e y)) p)∨(c.gu b a e y=0∧129<cY (zc b a) b+cY (zc e y) e∧i=.returned (.tuple #[.slice none 0 0,.int .i64 4]))∨(c.gu b a e y≠0∧i=.returned (.tuple #[.slice none 0 0,.int .i64 (c.gu b a e y)]))):=by
 have r:Hid (Arg m b o a g∧Arg t e q y g∧c∈ak):=⟨x,z,w⟩;clear x z w;have⟨j,w⟩:=eaa (cY (zc b a) b);have⟨k,x⟩:=eaa (cY (zc e y) e);have B:j<=b:=by rw[w];exact eJ _ _
 have O:k<=e:=by rw[x];exact eJ _ _
 rw[<-w, <-x];have C:Hid (j=cY (zc b a) b∧k=cY (zc e y) e):=⟨w,x⟩;clear w x;go_enter func109,ntmps109;go_wp2_with fail;refine(tK r.out.2.2 r.out.1 r.out.2.1).mono ?_;rintro i l ⟨u,P⟩;rcases P with⟨s,D,T,Q,rfl,F,v,R⟩|⟨s,rfl⟩
 ·have f:Hid (c.gu b a e y=0∧gO D T c Q l∧Below g.heap.size g l∧Arg m b o a l∧Arg t e q y l):=⟨s,F,u,r.out.1.below u,r.out.2.1.below u⟩;clear s F v R u;have w:=sZ f.out.1;have x:=(mq w.1).1;have x:=(mq w.2).1;have n:Hid (j=cY (zc b a) b∧k=cY (zc e y) e∧c.jG b a=0∧c.jG e y=0):=⟨C.out.1,C.out.2,w⟩;clear w;go_wp2_with fail;refine(xS n.out.2.2.1 f.out.2.2.2.1).mono ?_;rintro i p ⟨rfl,S,rfl⟩;rw[<-n.out.1];go_wp2_with fail;refine(xS n.out.2.2.2 (w:=l.drewN S) ⟨f.out.2.2.2.2.sl,f.out.2.2.2.2.lt,f.out.2.2.2.2.qL,f.out.2.2.2.2.nil,f.out.2.2.2.2.le,f.out.2.2.2.2.cap⟩).mono ?_;rintro i p ⟨rfl,Z,rfl⟩;rw[<-n.out.2.1];by_cases U:129<j+k
  ·go_wp2
   go_ret2
   exact⟨aO f.out.2.2.1 _,J (I ⟨f.out.1,U,X⟩)⟩
  ·have v:=dE r.out.2.2
   have V:Hid (∀ d,Calls prog 125 #[.pointer (some ⟨D,0,none⟩),.slice m j o,.slice t k q] (l.drewN d) λi p =>
       i=.returned (.slice (some ⟨l.heap.size,0,none⟩) (cY (aZ c b (zc b a) (zc e y)) (j+k)) (j+k))∧Row l.heap.size (j+k) (aZ c b (zc b a) (zc e y)) p∧Below l.heap.size (l.drewN d) p):=by
     intro d;have p:Bd j (zc b a):=by rw[n.out.1];exact lz (Iu _ _)
     have w:Bd k (zc e y):=by rw[n.out.2.1];exact lz (Iu _ _)
     have h:=pD r.out.2.2 (f.out.2.1.drewN d) (ca:=o) (cb:=q) (show j<=1000 by omega) (show k<=1000 by omega) (uF v n.out.2.2.1) (uF v n.out.2.2.2) w ((sP n.out.2.2.1 f.out.2.2.2.1.sl).less B) ((sP n.out.2.2.2 f.out.2.2.2.2.sl).less O) f.out.2.2.2.1.lt f.out.2.2.2.2.lt;rw[<-A7 v (zc e y) p B]at h;exact h
   clear v;go_wp2_with fail;refine(V.out _).mono ?_;rintro i G ⟨rfl,K,M⟩;have W:=f.out.2.2.1.size;have N:Hid (Row l.heap.size (j+k) (aZ c b (zc b a) (zc e y)) G∧Below g.heap.size g G):=⟨K,iO (aO f.out.2.2.1 _) M⟩;clear K M;go_wp2
   go_ret2
   exact⟨N.out.2,I ⟨f.out.1,E,_,X,cG.tJ N.out.1 (eJ _ _) (eJ _ _) E W⟩⟩
 ·have f:Hid (c.gu b a e y≠0∧Below g.heap.size g l):=⟨s,u⟩;have⟨i,j⟩:=eaa (c.gu b a e y);rw[<-j]at s ⊢;have k:(i !=0)=true:=by rw[dy];exact s
  have Y:Hid (i=c.gu b a e y):=j;clear s u j;go_wp2
  go_ret2
  exact⟨f.out.2,J (J ⟨f.out.1,by rw[<-Y.out];rfl⟩)⟩
