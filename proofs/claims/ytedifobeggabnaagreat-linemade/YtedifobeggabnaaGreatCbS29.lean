/- Texts of ours, one behind the other: S29 KD10 KD11 KD12 KD13 S30 KD14 KD15. -/
import Derived.Test.YtedifobeggabnaaGreatCbS20
import Derived.Deep.OwnRows
import Derived.Lib.AppendZerosOnto
namespace Go.Proofs.YtedifobeggabnaaGreat
set_option maxHeartbeats 8000000
set_option maxRecDepth 100000
open Tryz
open Go.RowKit Go.Sort
variable {b:FD}{k l j:Option Addr}{e:World}{c a:Nat->Nat}{f g d q:Nat}{p:Value}{o:Nat->Nat->Nat}
theorem Kb(S:b∈ak)(gen t u:Nat){i cx cy n ca:Nat}{xs a:Nat->Nat}{y:Nat->Int}(q:i<=64)(hk:n<=64)(T:Sl k i xs e)(U:lu l i y e)(V:Sl j n a e)(G:fp k e.heap.size)(I:fp l e.heap.size)(J:fp j e.heap.size)(s:∀c,c<i->xs c<b.q)(W:El b a)(Y:eH b (.slice (some ⟨t,0,none⟩) (b.m+1) u) b.md e):Calls prog 39 #[.agg #[.int .i64 b.q,.int .i64 b.p,.int .i64 b.m,.int .i64 gen,.slice (some ⟨t,0,none⟩) (b.m+1) u],.slice k i cx,.slice l i cy,.slice j n ca] e λm q=>m=.returned (.tuple #[.int .i64 (ct (λc => !decide (y c= -1) && !decide (((b.ev a (xs c) n:Nat):Int)=y c)) i:Nat),.int .i64 (ct (λc => !decide (y c= -1)) i:Nat)])∧Below e.heap.size e q:=by
 have⟨f,B⟩:=eaa (e.alloc (.cells #[.int .i64 b.q,.int .i64 b.p,.int .i64 b.m,.int .i64 gen,.slice (some ⟨t,0,none⟩) (b.m+1) u] 32));have q:Below e.heap.size e f:=by rw[B];exact(XK _ _).alloc (aa _) _
 have o:Hid (b∈ak∧Sl k i xs f∧lu l i y f∧Sl j n a f∧fp k f.heap.size∧fp l f.heap.size∧fp j f.heap.size∧(∀c,c<i->xs c<b.q)∧El b a∧eH b (.slice (some ⟨t,0,none⟩) (b.m+1) u) b.md f∧Below e.heap.size e f):=⟨S,T.below q G,U.below q I,V.below q J,G.mono q.size,I.mono q.size,J.mono q.size,s,W,Y.below q,q⟩;have Z:Hid (gN e.heap.size b gen (.slice (some ⟨t,0,none⟩) (b.m+1) u) f∧f.heap.size=e.heap.size+1):=⟨by rw[B];exact eL b gen _ e,by rw[B];simp⟩;clear S T U V G I J s W Y q;go_enter func39,ntmps39;go_wp2;rw[<-B];clear B;go_loopw [10,11,12] (λve vn K wr=>∃(c m p:Nat),c<=i∧m<=c∧p<=c∧ve=.int .i64 (m:Nat)∧vn=.int .i64 (p:Nat)∧K=.int .i64 c∧Hid ((m=ct (λc => !decide (y c= -1) && !decide (((b.ev a (xs c) n:Nat):Int)=y c)) c∧p=ct (λc => !decide (y c= -1)) c)∧Below f.heap.size f wr)) (λ_ _ K _=>i-(intOf K).toNat)
 case atStart=>exact⟨0,0,0,E,E,E,X,X,X,⟨X,X⟩,XK _ _⟩
 case round=>
  obtain⟨c,m,p,hi,a2,a3,rfl,rfl,rfl,g⟩:=hrel;rename World=>wr;by_cases M:c<i
  ·have ar:(c:Int)<(i:Int):=by omega
   have q:(0:Int)<=(c:Int):=E;obtain⟨q,B,av,N⟩:=(o.out.2.1.below g.out.2 o.out.2.2.2.2.1) c M;subst av;obtain⟨q,B,ax,ab⟩:=(o.out.2.2.1.below g.out.2 o.out.2.2.2.2.2.1) c M;subst ax;have⟨z,s⟩:=eaa (xs c);have⟨r,v⟩:=eaa (y c);rw[<-s]at N;rw[<-v]at ab;have⟨w,D⟩:=eaa (b.val a n z n);by_cases x:r= -1
   ·have a0:(r== -1)=true:=by rw[x];rfl
    have C:Hid ((m=ct (λc => !decide (y c= -1) && !decide (((b.ev a (xs c) n:Nat):Int)=y c)) (c+1)∧p=ct (λc => !decide (y c= -1)) (c+1))∧Below f.heap.size f wr):=by
     refine⟨⟨?_,?_⟩,g.out.2⟩
     ·show m=ct _ c+if(!decide (y c= -1) && _)=true then 1 else 0
      rw[<-v,x, <-g.out.1.1];rfl
     ·show p=ct _ c+if(!decide (y c= -1))=true then 1 else 0
      rw[<-v,x, <-g.out.1.2];rfl
    clear s v D x g;go_wp2;go_roundw
    case rel=>exact⟨c+1,m,p,E,E,E,X,X,x9,C.out⟩
    case measure=>simp[intOf];omega
   have a0:(r== -1)=false:=aA.2 x;have F:Hid (y c≠ -1):=by show _≠_;rw[<-v];exact x
   clear x;have q:z<b.q:=by rw[s];exact o.out.2.2.2.2.2.2.2.1 c M
   have HC:Hid (∀d x,Calls prog 63 #[.agg #[.int .i64 b.q,.int .i64 b.p,.int .i64 b.m,.int .i64 gen,.slice (some ⟨t,0,none⟩) (b.m+1) u],.slice j n ca,.int .i64 (z:Nat)] (grow (redrawn wr d) x) λm G=>m=.returned (.int .i64 (w:Nat))∧∃B:Regrown,G=grow (redrawn wr B.d) B.os):=λd x=>by
    have B:=al g.out.2 (XQ wr d x);rw[D];exact X0 (DN o.out.1 gen t u q E o.out.2.2.2.2.2.2.2.2.1 (o.out.2.2.2.2.2.2.1.mono B.size) (o.out.2.2.2.1.below B o.out.2.2.2.2.2.2.1) (o.out.2.2.2.2.2.2.2.2.2.1.below B))
   have ad:Hid (decide (((b.ev a (xs c) n:Nat):Int)=y c)=decide (((w:Nat):Int)=r)):=by
    show _=_;rw[D,v,xU (dE o.out.1) z n o.out.2.2.2.2.2.2.2.2.1 q,s]
   have gA:=Z.out.1.below (B:=f.heap.size) g.out.2 (by have:=Z.out.2;omega);have t:=XM gA.c0;have t:=XM gA.c1;have t:=XM gA.c2;have t:=XM gA.c3;have t:=XM gA.c4;have t:=XM N;have t:=XM ab;have ao:Hid (Below f.heap.size f wr):=g.out.2;clear s v D q gA N;by_cases A:((w:Nat):Int)=r
   ·have hz:(((w:Nat):Int) !=r)=false:=by rw[A];simp
    have C:Hid (m=ct (λc => !decide (y c= -1) && !decide (((b.ev a (xs c) n:Nat):Int)=y c)) (c+1)∧p+1=ct (λc => !decide (y c= -1)) (c+1)):=by
     refine⟨?_,?_⟩
     ·show m=ct _ c+if(!decide (y c= -1) && !decide (((b.ev a (xs c) n:Nat):Int)=y c))=true then 1 else 0
      rw[ad.out,aU A, <-g.out.1.1,aq F.out];rfl
     ·show p+1=ct _ c+if(!decide (y c= -1))=true then 1 else 0
      rw[<-g.out.1.2,aq F.out];rfl
    clear A g;go_wp2;refine X6 wL wL ?_;repeat(go_big_quiet_step (first|(go_at_call 63;exact HC.out _ _)))
    refine XZ ?_;intro _ O;obtain⟨⟨P,Q⟩,R⟩:=O;subst R;go_wp2;go_roundw
    case rel=>exact⟨c+1,m,p+1,E,E,E,X,x9,x9,C.out,al ao.out (XQ wr P Q)⟩
    case measure=>simp[intOf];omega
   ·have hz:(((w:Nat):Int) !=r)=true:=dy.2 A
    have C:Hid (m+1=ct (λc => !decide (y c= -1) && !decide (((b.ev a (xs c) n:Nat):Int)=y c)) (c+1)∧p+1=ct (λc => !decide (y c= -1)) (c+1)):=by
     refine⟨?_,?_⟩
     ·show m+1=ct _ c+if(!decide (y c= -1) && !decide (((b.ev a (xs c) n:Nat):Int)=y c))=true then 1 else 0
      rw[ad.out,aq A, <-g.out.1.1,aq F.out];rfl
     ·show p+1=ct _ c+if(!decide (y c= -1))=true then 1 else 0
      rw[<-g.out.1.2,aq F.out];rfl
    clear A g;go_wp2;refine X6 wL wL ?_;repeat(go_big_quiet_step (first|(go_at_call 63;exact HC.out _ _)))
    refine XZ ?_;intro _ O;obtain⟨⟨P,Q⟩,R⟩:=O;subst R;go_wp2;go_roundw
    case rel=>exact⟨c+1,m+1,p+1,E,E,E,x9,x9,x9,C.out,al ao.out (XQ wr P Q)⟩
    case measure=>simp[intOf];omega
  ·have ar:¬(c:Int)<(i:Int):=by omega
   have a1:i=c:=E;subst a1;go_wp2
   go_ret2
   exact⟨by rw[<-g.out.1.1, <-g.out.1.2];rfl,al o.out.2.2.2.2.2.2.2.2.2.2 g.out.2⟩
def nU(a:FD)(d y c e:Nat):Nat->Nat:=λb=>if b<c+1 then a.mul y (a.xp d b)else if b<c+1+e then a.ng (a.xp d (b-(c+1)))else 0
theorem FT(a:bV b)(c y d e:Nat):El b (nU b c y d e):=λf=>by
 unfold nU;split
 ·exact a.bX _ _
 ·split
  ·exact ia a (Ad a _ _)
  ·exact aX a
theorem TJ(c:FD)(d y a b:Nat):Bd (a+1+b) (nU c d y a b):=λe f=>by
 unfold nU;rw[af E,af E]
theorem GP(a:bV b)(d y:Nat){c v:Nat->Nat}(g:El b c):∀m,(∀e,e<m->v e=b.mul y (b.xp d e))->dot b v c m=b.mul y (b.ev c d m)
 |0,_=>(gI a y).symm
 |m+1,f=>by
  show b.ad (dot b v c m) (b.mul (v m) (c m))=b.mul y (b.ad (b.ev c d m) (b.mul (c m) (b.xp d m)));rw[GP a d y g m (λe c=>f e E),f m E,pA a (iQ a _ _ _) (a.bX _ _),a.mul_assoc,a.mul_comm (b.xp d m)]
theorem Bj(e:bV b)(d y a:Nat)(g:El b c):∀K,dot b (nU b d y a K) c (a+1+K)=b.sb (b.mul y (b.ev c d (a+1))) (b.ev (λf=>c (a+1+f)) d K)
 |0=>by
  rw[KQ,GP e d y g (v:=nU b d y a 0) (a+1) (λf h=>ai h)];show _=b.sb _ 0;rw[oF e (e.bX _ _)]
 |K+1=>by
  have h:=Bj e d y a g K;show b.ad (dot b (nU b d y a (K+1)) c (a+1+K)) (b.mul (nU b d y a (K+1) (a+1+K)) (c (a+1+K)))=_
  have i:dot b (nU b d y a (K+1)) c (a+1+K)=dot b (nU b d y a K) c (a+1+K):=th _ λj g=>⟨by
   unfold nU;by_cases g:j<a+1
   ·rw[ai g,ai g]
   ·rw[af g,af g,ai E,ai E],X⟩
  have g:nU b d y a (K+1) (a+1+K)=b.ng (b.xp d K):=by
   unfold nU;rw[af E,ai E,dn]
  rw[i,g,h];show _=b.sb (b.mul y (b.ev c d (a+1))) (b.ad (b.ev (λf=>c (a+1+f)) d K) (b.mul (c (a+1+K)) (b.xp d K)));have g:=e.bX y (b.ev c d (a+1));have h:=iQ e (λf=>c (a+1+f)) d K;have f:=e.bX (c (a+1+K)) (b.xp d K);rw[TK e g h f,e.mul_comm (b.ng _),xf e (Ad e _ _)];rfl
theorem JU(g:bV b){xs y a:Nat->Nat}{i k t:Nat}(q:∀c,c<i->xs c<b.q)(r:oX b k i xs y a<=t):∃f,El b f∧Bd (t+1+(t+k)) f∧f≠db∧∀c,c<i->dot b (nU b (xs c) (y c) t (t+k)) f (t+1+(t+k))=0:=by
 obtain⟨e,j,l,s,u⟩:=S7 g (err:=λc => !decide (b.ev a (xs c) k=y c)) q r
 have m:Bd (t+k) (aZ b k a e):=by
  have:=ko g (a:=a) l k;rw[show k+(t+1)-1=t+k by omega]at this;exact this
 have v:=dG g a e k;obtain⟨f,h⟩:∃f:Nat->Nat,f=λd=>if d<t+1 then e d else aZ b k a e (d-(t+1)):=⟨_,X⟩
 have n:El b f:=λd=>by
  rw[h];show(if d<t+1 then e d else aZ b k a e (d-(t+1)))<b.q;split
  ·exact j d
  ·exact v _
 refine⟨f,n,λd o=>?_,λq=>?_,λc w=>?_⟩
 ·rw[h];show(if d<t+1 then e d else aZ b k a e (d-(t+1)))=0;rw[af E];exact m _ E
 ·have i:=rA q t;rw[h]at i;have p:(if t<t+1 then e t else aZ b k a e (t-(t+1)))=0:=i;rw[ai E,s]at p;cases p
 ·rw[Bj g (xs c) (y c) t n (t+k)];have i:b.ev f (xs c) (t+1)=b.ev e (xs c) (t+1):=wh (xs c) _ λd o=>by rw[h];exact ai o
  have n:(λd=>f (t+1+d))=aZ b k a e:=by
   funext d
   rw[h];show(if t+1+d<t+1 then _ else aZ b k a e (t+1+d-(t+1)))=_;rw[af E,dn]
  have f:b.ev (aZ b k a e) (xs c) (t+k)=b.mul (b.ev a (xs c) k) (b.ev e (xs c) (t+1)):=by
   rw[<-dQ g (xs c) m (show t+k<=k+(t+1) by omega),oq g (xs c) l j k (k+(t+1)) (aa _)]
  have h:b.mul (b.ev a (xs c) k) (b.ev e (xs c) (t+1))=b.mul (y c) (b.ev e (xs c) (t+1)):=by
   by_cases d:b.ev a (xs c) k=y c
   ·rw[d]
   ·rw[u c w (by simp[d]),gI g,gI g]
  rw[i,n,f,h,fA g (g.bX _ _)]
def NX(a:Nat)(b:Nat->Nat):Nat->Nat:=λc=>b (a+1+c)
theorem JS(i:bV b){h y k c:Nat->Nat}(l:g+d+d<=f)(p:∀a,a<f->h a<b.q)(q:∀a j,a<f->j<f->a≠j->h a≠h j)(m:El b c)(r:Bd (d+1+(d+g)) c)(s:c≠db)(t:∀a,a<f->dot b (nU b (h a) (y a) d (d+g)) c (d+1+(d+g))=0)(u:oX b g f h y k<=d):NX d c=aZ b g k (oT (d+1) c)∧cY (oT (d+1) c) (d+1)≠0:=by
 have v:El b (oT (d+1) c):=λe=>by
  unfold oT;split
  ·exact m e
  ·exact aX i
 have o:Bd (d+1) (oT (d+1) c):=λe l=>by unfold oT;exact af E
 have n:NX d c=aZ b g k (oT (d+1) c):=by
  refine L4 i (y:=y) (M:=d+g) E E p q (λe=>m _) (λe l=>r _ E) v o u (λa w=>?_);have p:=t a w;rw[Bj i (h a) (y a) d m (d+g)]at p;have m:b.ev (oT (d+1) c) (h a) (d+1)=b.ev c (h a) (d+1):=wh (h a) _ λe l=>ai l
  rw[m];exact(gX i (i.bX _ _) (iQ i _ _ _) p).symm
 refine⟨n,λm=>s ?_⟩
 have a:oT (d+1) c=db:=by
  have h:=lz o;rw[m]at h
  funext e
  exact h e (fq _)
 rw[a]at n
 funext e
 by_cases l:e<d+1
 ·have:=rA a e;unfold oT at this;rw[ai l]at this;exact this
 ·have h:=rA n (e-(d+1));have a:c (d+1+(e-(d+1)))=aZ b g k db (e-(d+1)):=h;rw[show d+1+(e-(d+1))=e by omega]at a;rw[a,q9 i k g];rfl
def jO(a:Nat)(b:Value)(c:Nat)(d:Nat->Nat)(e:World):Prop:=aV a b (zl c λj=>((d j:Nat):Int)) e
theorem jO.mono{a base' b:Nat}(d:jO a p b c e)(f:base'<=a):jO base' p b c e:=aV.mono d f
theorem Ls{w:World}(h:Sl k f c w)(l:f<=1000000)(e:k=none->g=0)(i:fp k w.heap.size):Calls prog 60 #[.slice k f g] w λm a=>∃l,m=.returned l∧jO w.heap.size l f c a∧Below w.heap.size w a:=by
 have b:Hid (Sl k f c w∧(k=none->g=0)∧fp k w.heap.size):=⟨h,e,i⟩;clear h e i;go_enter func60,ntmps60;go_wp2_with (at_builtin;refine B5 X _ _ X w.heap.size _ [] X (p7 (dR _) (aa _)) k f g (λj=>((c j:Nat):Int)) X ((b.out.1.below ((XK _ _).alloc (aa _) _) b.out.2.2).z) b.out.2.1 x7 oi ?_;intro q a n o);go_ret;exact⟨_,X,n,((XK _ _).alloc (aa _) _).grown o oi (by intro p d;have d:some w.heap.size=some p:=d;cases d;exact aa _)⟩
theorem zU{c:Nat->Nat}(h:Sl k f c e)(B:f<=g)(_hcap:g<=9223372036854775807)(s:k=none->g=0)(t:fp k e.heap.size)(C:f<=1000000):Calls prog 37 #[.slice k f g] e λj b=>∃a,j=.returned a∧jO e.heap.size a (cY c f) c b∧Below e.heap.size e b:=by
 have p:Hid (Sl k f c e∧(k=none->g=0)∧fp k e.heap.size):=⟨h,s,t⟩;clear h s t;have w:=eJ c f;go_enter func37,ntmps37;go_wp2;go_loopw [3] (λq wr=>∃i:Nat,i<=f∧q=.int .i64 i∧Hid (cY c f=cY c i)∧∃d,wr=e.drewN d) (λq _=>(intOf q).toNat)
 case atStart=>exact⟨f,aa _,X,X,0,X⟩
 case round=>
  obtain⟨i,D,rfl,r,d,rfl⟩:=hrel
  have u:Hid (Calls prog 60 #[.slice k (cY c f) g] (e.drewN d) λj b=>∃a,j=.returned a∧jO e.heap.size a (cY c f) c b∧Below e.heap.size (e.drewN d) b):=
   Ls (w:=e.drewN d) (p.out.1.less w) E p.out.2.1 p.out.2.2
  cases i with
  |zero=>
   have l:Hid (cY c f=0):=r.out
   have v:Hid (Calls prog 60 #[.slice k 0 g] (e.drewN d) λj b=>∃a,j=.returned a∧jO e.heap.size a (cY c f) c b∧Below e.heap.size (e.drewN d) b):=by
    have h:=u.out;rw[l.out]at h ⊢;exact h
   cases k with
   |none=>
    go_wp2_with (go_at_call 60;refine v.out.mono ?_;rintro j b ⟨a,rfl,m,n⟩)
    go_ret;exact⟨a,X,m,aO (XK _ _) d|>.trans n⟩
   |some F=>
    go_wp2_with (go_at_call 60;refine v.out.mono ?_;rintro j b ⟨a,rfl,m,n⟩)
    go_ret;exact⟨a,X,m,aO (XK _ _) d|>.trans n⟩
  |succ i=>
   obtain⟨x,y,rfl,G⟩:=p.out.1 i E;by_cases o:c i=0
   ·have l:Hid (cY c f=cY c i):=by show _=_;rw[r.out,cY,ai o]
    have z:(((c i:Nat):Int)==0)=true:=by rw[o];rfl
    clear o;go_wp2;go_roundw
    case rel=>exact⟨i,E,x9,l.out,_,X⟩
    case measure=>simp[intOf]
   ·have l:Hid (cY c f=i+1):=by show _=_;rw[r.out,cY,af o]
    have z:(((c i:Nat):Int)==0)=false:=Xp
    have A:Hid (Calls prog 60 #[.slice (some ⟨x,y,none⟩) (i+1) g] (e.drewN d) λj b=>∃a,j=.returned a∧jO e.heap.size a (cY c f) c b∧Below e.heap.size (e.drewN d) b):=by
     have h:=u.out;rw[l.out]at h ⊢;exact h
    clear o;go_wp2_with (go_at_call 60;refine A.out.mono ?_;rintro j b ⟨a,rfl,m,n⟩);go_ret;exact⟨a,X,m,aO (XK _ _) d|>.trans n⟩
theorem Kc(hD:b∈ak)(gen s t:Nat){q R ca cb:Nat}(hn:q<=1000)(hm:R<=1000)(ha:El b c)(hb:El b a)(ar:Bd q c)(bO:Bd R a)(hA:Sl k q c e)(hB:Sl l R a e)(bm:fp k e.heap.size)(bQ:fp l e.heap.size)(cy:q<=ca)(bk:ca<=9223372036854775807)(bS:k=none->ca=0)(cz:R<=cb)(cA:cb<=9223372036854775807)(bY:l=none->cb=0)(hM:eH b (.slice (some ⟨s,0,none⟩) (b.m+1) t) b.md e)(f:Nat)(hl:cY a R=f+1):Calls prog 38 #[rf b.q b.p b.m gen (.slice (some ⟨s,0,none⟩) (b.m+1) t),.slice k q ca,.slice l R cb] e λn V=>∃vq vr,n=.returned (.tuple #[vq,vr])∧jO e.heap.size vq (cY (dV b a f (b.iv (a f)) (q-f) c) (q-f)) (dV b a f (b.iv (a f)) (q-f) c) V∧cG e.heap.size vr (cY (iE b a f (b.iv (a f)) (q-f) c) q) (iE b a f (b.iv (a f)) (q-f) c) V∧Below e.heap.size e V:=by
 have r:Hid (b∈ak∧El b c∧El b a∧Bd q c∧Bd R a):=⟨hD,ha,hb,ar,bO⟩;have HM:Hid (eH b (.slice (some ⟨s,0,none⟩) (b.m+1) t) b.md e):=hM;have b0:Hid (gN e.heap.size b gen (.slice (some ⟨s,0,none⟩) (b.m+1) t) (e.alloc (.cells #[.int .i64 b.q,.int .i64 b.p,.int .i64 b.m,.int .i64 gen,.slice (some ⟨s,0,none⟩) (b.m+1) t] 32))):=eL b gen _ e;have bz:Below e.heap.size e (e.alloc (.cells #[.int .i64 b.q,.int .i64 b.p,.int .i64 b.m,.int .i64 gen,.slice (some ⟨s,0,none⟩) (b.m+1) t] 32)):=(XK _ _).alloc (aa _) _;have HS:Hid (Sl k q c (e.alloc (.cells #[.int .i64 b.q,.int .i64 b.p,.int .i64 b.m,.int .i64 gen,.slice (some ⟨s,0,none⟩) (b.m+1) t] 32))∧Sl l R a e∧fp k e.heap.size∧fp l e.heap.size∧(k=none->ca=0)∧(l=none->cb=0)∧Below e.heap.size e (e.alloc (.cells #[.int .i64 b.q,.int .i64 b.p,.int .i64 b.m,.int .i64 gen,.slice (some ⟨s,0,none⟩) (b.m+1) t] 32))):=⟨hA.below bz bm,hB,bm,bQ,bS,bY,bz⟩;clear hD ha hb ar bO hM hA hB bm bQ bS bY bz;unfold rf;have⟨m,hQ⟩:=eaa (dV b a f (b.iv (a f)) (q-f) c);have⟨K,hR⟩:=eaa (iE b a f (b.iv (a f)) (q-f) c);rw[<-hQ, <-hR];have S:Hid (m=dV b a f (b.iv (a f)) (q-f) c∧K=iE b a f (b.iv (a f)) (q-f) c∧cY a R=f+1):=⟨hQ,hR,hl⟩;have bm:f+1<=R:=by rw[<-hl];exact eJ _ _
 clear hQ hR hl;go_enter func38,ntmps38;go_wp2_with fail;refine(qw HS.out.1 cy bk HS.out.2.2.2.2.1 (HS.out.2.2.1.mono oi) E).mono ?_;rintro n w1 ⟨va,rfl,bA,bl⟩;have⟨u,bm⟩:=eaa (cY c q);rw[<-bm]at bA;have bz:u<=q:=by rw[bm];exact eJ _ _
 have bO:=bl.size;have bz:=al HS.out.2.2.2.2.2.2 bl
 have a0:Hid (u=cY c q∧cG (e.heap.size+1) va u c w1∧Below e.heap.size e w1∧gN e.heap.size b gen (.slice (some ⟨s,0,none⟩) (b.m+1) t) w1∧Sl l R a w1):=
  ⟨bm,by have h:=bA;simp at h;exact h,bz,b0.out.below bl oi,HS.out.2.1.below bz HS.out.2.2.2.1⟩
 have cB:e.heap.size<w1.heap.size:=by simp at bO;omega
 clear bA bl bz bm bO b0;go_wp2_with fail;refine(qw a0.out.2.2.2.2 cz cA HS.out.2.2.2.2.2.1 (HS.out.2.2.2.1.mono E) E).mono ?_;rintro n o ⟨vb,rfl,bn,ba⟩;rw[S.out.2.2]at bn;have bl:=ba.size;obtain⟨bl,c2,cM,_,_,_,_,_,_⟩:=bn.open;subst cM;obtain⟨F,rfl,c8,b1,b2⟩:=bn.row E;obtain⟨a1,c1,cO,_,_,_,b3,_,_⟩:=a0.out.2.1.open;subst cO
 have B:Hid (u=cY c q∧cG (e.heap.size+1) (.slice a1 u c1) u c o∧Row F (f+1) a o∧Below e.heap.size e o∧gN e.heap.size b gen (.slice (some ⟨s,0,none⟩) (b.m+1) t) o∧fp a1 w1.heap.size):=
  ⟨a0.out.1,a0.out.2.1.below ba (aa _),b2,al a0.out.2.2.1 ba,a0.out.2.2.2.1.below ba cB,b3⟩
 clear bn ba a0 HS b2 b3;by_cases a0:f+1<=u
 ·have⟨nq,a0⟩:=eaa (u-f);have HN:Hid (nq=u-f):=a0;have ba:nq<=1000:=E;clear a0;go_wp2_with (at_make;refine iS X _ _ X _ nq X X (by have:=HN.out;omega) E ?_;intro J b4 bB;have a8:J.cell? ⟨F,f,none⟩=some (.int .i64 (a f:Nat)):=(B.out.2.2.1.below (cH bB (aa _) (λg hk=>by simp at hk)) b1).cell f E);have⟨p,bb⟩:=eaa (b.iv (a f))
  have ar:a f≠0:=by
   have h:=oh a R (by rw[S.out.2.2];omega);rw[S.out.2.2]at h;exact h
  have a0:Below o.heap.size o J:=cH bB (aa _) (λg hk=>by simp at hk);have ba:=a0.size
  have M:Hid (Gv b gen s t a f m F o.heap.size nq e a1 u c1 c nq J∧p=b.iv (a f)∧a f≠0):=
   ⟨⟨B.out.2.1.below a0 (aa _),B.out.2.2.1.below a0 b1,(ji b4).congr (λg hk=>by show 0=if nq<=g then _ else 0;rw[af E]),B.out.2.2.2.2.1.below a0 E,al B.out.2.2.2.1 a0,λv z=>by have:=B.out.2.2.2.2.2 v z;omega⟩,bb,ar⟩
  have⟨v,z⟩:=eaa (a f);rw[<-z]at a8;have k0:=XM M.out.1.box.c0;have k1:=XM M.out.1.box.c1;have k2:=XM M.out.1.box.c2;have k3:=XM M.out.1.box.c3;have k4:=XM M.out.1.box.c4;have k5:=XM a8
  have bc:Hid (∀d A,Calls prog 61 #[.agg #[.int .i64 b.q,.int .i64 b.p,.int .i64 b.m,.int .i64 gen,.slice (some ⟨s,0,none⟩) (b.m+1) t],.int .i64 (v:Nat)] (grow (redrawn J d) A) λn ad=>n=.returned (.int .i64 (p:Nat))∧∃P:Regrown,ad=grow (redrawn J P.d) P.os):=by
   intro d A;have h:=xD r.out.1 gen (v:Nat) (HM.out.below (al M.out.1.vR (XQ J d A)));rw[lW r.out.1 (by rw[z];exact r.out.2.2.1 f) (by rw[z];exact M.out.2.2)]at h;rw[show p=b.pw v (b.q-2)from by rw[M.out.2.1,z];rfl];exact X0 h
  clear bb ar a0 b4 bB a8 z;refine X6 wL wL ?_;repeat(go_big_quiet_step (first|(go_at_call 61;exact bc.out _ _)))
  refine XZ ?_;intro _ a2;obtain⟨⟨dq,osq⟩,a3⟩:=a2;subst a3;have b6:Hid (Gv b gen s t a f m F o.heap.size nq e a1 u c1 c nq (grow (redrawn J dq) osq)∧J.heap.size<=(grow (redrawn J dq) osq).heap.size):=⟨M.out.1.below E (XQ J dq osq),(XQ J dq osq).size⟩;clear k0 k1 k2 k3 k4 k5 bc;go_wp2;go_loopw [1] (λva wr=>∃(C W:Nat) (bd:Option Addr) (w:Nat->Nat),va=.slice bd C W∧C<=u∧Hid (pK C w∧El b w∧iE b a f p (C-f) w=K∧∀i,i<C-f->dV b a f p (C-f) w i=m i)∧Gv b gen s t a f m F o.heap.size nq e bd C W w (C-f) wr∧J.heap.size<=wr.heap.size) (λva _=>U8 va)
  case atStart=>
   have hF:=dE r.out.1;have ht:pK u c:=by rw[B.out.1];exact l5 r.out.2.2.2.1
   have Y:=o8 hF (b:=a) (l:=f) (inv:=p) (n:=u-f) (N:=q-f) r.out.2.1 (ht.1.mono E) E;refine⟨u,c1,a1,c,X,aa _,⟨ht,r.out.2.1,?_,λi _=>?_⟩,?_,b6.out.2⟩
   ·rw[S.out.2.1, <-M.out.2.1];exact Y.1.symm
   ·rw[S.out.1, <-M.out.2.1];exact(rA Y.2 i).symm
   ·have h:=b6.out.1;rw[HN.out]at h ⊢;exact h
  case round=>
   obtain⟨C,W,bd,w,rfl,c9,Z,bg,dc⟩:=hrel;have x:Hid (Gv b gen s t a f m F o.heap.size nq e bd C W w (C-f) wr):=bg;clear bg;by_cases a0:f+1<=C
   ·obtain⟨g,rfl⟩:∃g,C=g+f+1:=⟨C-(f+1),E⟩;rw[show g+f+1-f=g+1 from E]at Z x;obtain⟨Q,rfl,dd,dg,a4⟩:=x.out.own.row E;have a0:=x.out.ne _ X;have cP:Q≠F:=a0.1;have b7:Q≠o.heap.size:=a0.2;have⟨v,z⟩:=eaa (w (g+f));have⟨T,a5⟩:=eaa (m g)
    have HX:Hid (v=w (g+f)∧T=m g∧b.mul (w (g+f)) p=T):=by
     refine⟨z,a5,?_⟩;have h:=Z.out.2.2.2 g E;rw[dV]at h;have h:(if g=g then b.mul (w (g+f)) p else dV b a f p g (hJ b a f p g w) g)=m g:=h;rw[ai X]at h;rw[h,a5]
    have bk:wr.cell? ⟨Q,g+f,none⟩=some (.int .i64 (v:Nat)):=by rw[z];exact a4.cell _ E
    have k0:=XM x.out.box.c0;have k1:=XM x.out.box.c1;have k2:=XM x.out.box.c2;have k3:=XM x.out.box.c3;have k4:=XM x.out.box.c4;have k5:=XM bk
    have bo:Hid (∀d A,Calls prog 34 #[.agg #[.int .i64 b.q,.int .i64 b.p,.int .i64 b.m,.int .i64 gen,.slice (some ⟨s,0,none⟩) (b.m+1) t],.int .i64 (v:Nat),.int .i64 (p:Nat)] (grow (redrawn wr d) A) λn ad=>n=.returned (.int .i64 (T:Nat))∧∃P:Regrown,ad=grow (redrawn wr P.d) P.os):=by
     intro d A;rw[<-HX.out.2.2, <-HX.out.1];exact X0 (nR r.out.1 gen HM.out v p (by rw[HX.out.1];exact Z.out.2.1 _) (by rw[M.out.2.1];exact G6 r.out.1 _) _ (al x.out.vR (XQ wr d A)))
    clear z a5 a4 bk;go_wp2;rw[show((g:Int)+(f:Int)+1-((f:Int)+1))=(g:Int)from E];refine X6 wL wL ?_;repeat(go_big_quiet_step (first|(go_at_call 34;exact bo.out _ _)))
    refine XZ ?_;intro _ a2;obtain⟨⟨dr,b8⟩,a3⟩:=a2;subst a3;have⟨D,a6⟩:=eaa (grow (redrawn wr dr) b8);have av:Below wr.heap.size wr D:=by rw[a6];exact XQ wr dr b8
    have U:Hid (Gv b gen s t a f m F o.heap.size nq e (some ⟨Q,0,none⟩) (g+f+1) W w (g+1) D∧J.heap.size<=D.heap.size):=⟨x.out.below E av,by have:=av.size;omega⟩;rw[<-a6];clear a6 av x k0 k1 k2 k3 k4 k5 bo;obtain⟨xv,x2⟩:∃G,D.cell? ⟨o.heap.size,g,none⟩=some G:=⟨_,U.out.1.Bh.cell g (by have:=HN.out;omega)⟩;have x3:=U.out.1.Bh.free g;have a0:(g:Int)<(nq:Int):=by have:=HN.out;omega
    go_wp2
    have bE:Hid (Gv b gen s t a f m F o.heap.size nq e (some ⟨Q,0,none⟩) (g+f+1) W w g (D.setCell ⟨o.heap.size,g,none⟩ (.int .i64 (T:Nat)))∧J.heap.size<=(D.setCell ⟨o.heap.size,g,none⟩ (.int .i64 (T:Nat))).heap.size):=by
     refine⟨⟨U.out.1.own.setOther _ (λa0 hg=>?_) _,U.out.1.FR.other (XR _ _ _ _ (by show F≠o.heap.size;omega)),U.out.1.Bh.store g T (λj hj=>?_),U.out.1.box.setOther _ (by show e.heap.size≠o.heap.size;omega) _,U.out.1.vR.setCell (by show e.heap.size<=o.heap.size;omega) _,U.out.1.ne⟩,by simp[World.setCell];exact U.out.2⟩
     ·have hg:some Q=some a0:=hg;cases hg;exact b7
     ·show(if g<=j then m j else 0)=if j=g then T else if g+1<=j then m j else 0
      by_cases n:j=g
      ·rw[ai n,ai E,HX.out.2.1,n]
      ·rw[af n];by_cases e2:g<=j
       ·rw[ai e2,ai E]
       ·rw[af e2,af E]
    clear U x2 x3;go_loopw [12] (λi wr=>∃j:Nat,j<=f+1∧i=.int .i64 j∧Gv b gen s t a f m F o.heap.size nq e (some ⟨Q,0,none⟩) (g+f+1) W (BM b a f p g w j) g wr∧J.heap.size<=wr.heap.size) (λi _=>f+1-(intOf i).toNat)
    case atStart=>exact⟨0,E,X,by rw[Du];exact bE.out.1,bE.out.2⟩
    case round=>
     obtain⟨j,hj,rfl,bg,cR⟩:=hrel;have x:Hid (Gv b gen s t a f m F o.heap.size nq e (some ⟨Q,0,none⟩) (g+f+1) W (BM b a f p g w j) g wr):=bg;clear bg bE;by_cases a0:j<f+1
     ·obtain⟨a0,e2,_,_,a4⟩:=x.out.own.row E;cases e2;obtain⟨ax,ht⟩:∃ax:Nat,ax=g+j:=⟨_,X⟩;have⟨y,hy⟩:=eaa (a j);have⟨a0,hu⟩:=eaa (b.mul T y);have⟨rt,ba⟩:=eaa (w (g+j));have⟨zz,bg⟩:=eaa (b.sb rt a0)
      have bk:wr.cell? ⟨Q,ax,none⟩=some (.int .i64 (rt:Nat)):=by
       have h:=a4.cell (g+j) E;rw[NC, <-ba, <-ht]at h;exact h
      have bl:wr.cell? ⟨F,j,none⟩=some (.int .i64 (y:Nat)):=by rw[hy];exact x.out.FR.cell j E
      have bm:(ax:Int)<(g:Int)+(f:Int)+1:=E;have bm:(j:Int)<(f:Int)+1:=E;have bm:IntKind.i64.wrap ((g:Int)+(j:Int))=(ax:Int):=eP E E;have bm:T<b.q:=by rw[HX.out.2.1,S.out.1];exact oo (dE r.out.1) _ _ g
      have bn:y<b.q:=by rw[hy];exact r.out.2.2.1 j
      have bz:rt<b.q:=by rw[ba];exact Z.out.2.1 _
      have k0:=XM x.out.box.c0;have k1:=XM x.out.box.c1;have k2:=XM x.out.box.c2;have k3:=XM x.out.box.c3;have k4:=XM x.out.box.c4;have k5:=XM bk;have k6:=XM bl;have k7:=lR a4.lt (a4.free ax)
      have bo:Hid (∀d A,Calls prog 34 #[.agg #[.int .i64 b.q,.int .i64 b.p,.int .i64 b.m,.int .i64 gen,.slice (some ⟨s,0,none⟩) (b.m+1) t],.int .i64 (T:Nat),.int .i64 (y:Nat)] (grow (redrawn wr d) A) λn ad=>n=.returned (.int .i64 (a0:Nat))∧∃P:Regrown,ad=grow (redrawn wr P.d) P.os):=by
       intro d A;rw[hu];exact X0 (nR r.out.1 gen HM.out T y bm bn _ (al x.out.vR (XQ wr d A)))
      have c0:Hid (∀d A,Calls prog 62 #[.agg #[.int .i64 b.q,.int .i64 b.p,.int .i64 b.m,.int .i64 gen,.slice (some ⟨s,0,none⟩) (b.m+1) t],.int .i64 (rt:Nat),.int .i64 (a0:Nat)] (grow (redrawn wr d) A) λn ad=>n=.returned (.int .i64 (zz:Nat))∧∃P:Regrown,ad=grow (redrawn wr P.d) P.os):=by
       intro d A;have T:a0<b.q:=by rw[hu];exact(dE r.out.1).bX _ _
       have h:=DR r.out.1 gen (.slice (some ⟨s,0,none⟩) (b.m+1) t) (rt:Nat) (a0:Nat) (grow (redrawn wr d) A);rw[xN (dE r.out.1) bz T, <-bg]at h;exact X0 h
      have HV:Hid (∀i,i<g+f+1->BM b a f p g w (j+1) i=if i=ax then zz else BM b a f p g w j i):=by
       intro i _;rw[Dt,ht,bg,ba,hu,hy, <-HX.out.2.2,Cp]
      clear ht hy hu ba bg a4 bk bl;go_wp2;refine oe 20 wL wL ?_;simp only[cW,dC,cV,eF];repeat(go_big_quiet_step (first|(go_at_call 34;exact bo.out _ _)|(go_at_call 62;exact c0.out _ _)))
      refine XZ ?_;intro _ a2;obtain⟨⟨ds,bp⟩,a3⟩:=a2;subst a3;have a7:Hid (Gv b gen s t a f m F o.heap.size nq e (some ⟨Q,0,none⟩) (g+f+1) W (BM b a f p g w j) g (grow (redrawn wr ds) bp)∧wr.heap.size<=(grow (redrawn wr ds) bp).heap.size):=⟨x.out.below E (XQ wr ds bp),(XQ wr ds bp).size⟩;go_wp2;go_roundw
      case rel=>exact⟨j+1,E,x9,⟨a7.out.1.own.store ax zz E HV.out,a7.out.1.FR.other (XR _ _ _ _ (λn=>cP n.symm)),a7.out.1.Bh.other (XR _ _ _ _ (λn=>b7 n.symm)),a7.out.1.box.setOther _ (by show e.heap.size≠Q;omega) _,a7.out.1.vR.setCell (by show e.heap.size<=Q;omega) _,a7.out.1.ne⟩,aK (aK cR a7.out.2) (by simp[World.setCell])⟩
      case measure=>simp[intOf];omega
     ·have N:Hid (Gv b gen s t a f m F o.heap.size nq e (some ⟨Q,0,none⟩) (g+f+1) W (hJ b a f p g w) g wr):=by
       have h:=x.out;have bs:Bd (f+1) a:=by rw[<-S.out.2.2];exact lz r.out.2.2.2.2
       rw[show j=f+1 from E,Hr (dE r.out.1) Z.out.2.1 bs]at h;exact h
      clear x;have⟨O,a9⟩:=eaa (hJ b a f p g w);have⟨I,bw⟩:=eaa (cY O (g+f+1));have hF:=dE r.out.1;have bs:Bd (f+1) a:=by rw[<-S.out.2.2];exact lz r.out.2.2.2.2
      have cc:b.mul (a f) p=1:=by rw[M.out.2.1];exact CW r.out.1 (r.out.2.2.1 f) M.out.2.2
      have bx:Bd (g+f) O:=by
       rw[a9];exact Cq hF Z.out.2.1 r.out.2.2.1 bs cc (λi T=>Z.out.1.1 i E)
      have bM:El b O:=by rw[a9];exact pd hF Z.out.2.1
      have ax:I<=g+f:=by rw[bw,mr bx E];exact eJ _ _
      have bN:pK I O:=by rw[bw,mr bx E];exact l5 bx
      have Y:=o8 hF (b:=a) (l:=f) (inv:=p) (n:=I-f) (N:=g) bM (bN.1.mono E) E
      have a5:∀i,i<g->dV b a f p g O i=m i:=by
       intro i T;have h:=Z.out.2.2.2 i E;rw[dV, <-a9]at h;have h:(if i=g then b.mul (w (g+f)) p else dV b a f p g O i)=m i:=h;rw[af E]at h;exact h
      have c5:Hid (pK I O∧El b O∧iE b a f p (I-f) O=K∧∀i,i<I-f->dV b a f p (I-f) O i=m i):=by
       refine⟨bN,bM,?_,λi T=>?_⟩
       ·rw[<-Y.1];have h:=Z.out.2.2.1;rw[iE, <-a9]at h;exact h
       ·rw[<-Y.2];exact a5 i E
      have HZ:Hid (∀i,I-f<=i->i<g->m i=0):=by
       intro i T h2;rw[<-a5 i h2,Y.2];exact mQ _ _ i T
      rw[<-a9]at N;obtain⟨ax,a0,T,cf,cl,_,cm,cp,cq⟩:=N.out.own.open;simp only[Value.slice.injEq,j7]at T;obtain⟨e1,e2⟩:=T;subst e1 e2
      have HT:Hid (Calls prog 37 #[.slice (some ⟨Q,0,none⟩) (g+f+1) W] wr λn V=>∃G,n=.returned G∧cG wr.heap.size G I O V∧Below wr.heap.size wr V):=by
       have h:=qw cq cf cl cp cm E;rw[<-bw]at h;exact h
      clear a9 bw hF bs cc bx bM bN Y a5 cf cl cm cp cq;go_wp2_with fail;refine HT.out.mono ?_;rintro n w6 ⟨G,rfl,ao,ab⟩;obtain⟨cr,cw,c6,_,_,cx,c7,_,_⟩:=ao.open;subst c6;have Q:=ab.size
      have HR:Hid (Gv b gen s t a f m F o.heap.size nq e cr I cw O (I-f) w6∧J.heap.size<=w6.heap.size):=by
       have hd:=N.out.below E ab;refine⟨⟨ao.mono E,hd.FR,hd.Bh.congr (λi _=>?_),hd.box,hd.vR,λv z=>?_⟩,E⟩
       ·show(if g<=i then m i else 0)=if I-f<=i then m i else 0
        by_cases n:g<=i
        ·rw[ai n,ai E]
        ·rw[af n];by_cases e2:I-f<=i
         ·rw[ai e2,HZ.out i e2 E]
         ·rw[af e2]
       ·have:=cx v z;have J:=N.out.FR.lt;have J:=N.out.Bh.lt;omega
      clear ao ab cx c7;go_wp2;go_roundw
      case rel=>exact⟨I,cw,cr,O,X,E,c5.out,HR.out.1,HR.out.2⟩
      case measure=>
       show I<g+f+1;omega
   ·have N:Hid (K=w∧cY K q=C∧cY m (q-f)=cY m nq∧Row o.heap.size nq m wr):=by
     have I:C-f=0:=E
     have g:K=w:=by
      have h:=Z.out.2.2.1;rw[I]at h;exact h.symm
     have hF:=dE r.out.1;have Y:=o8 hF (b:=a) (l:=f) (inv:=p) (n:=u-f) (N:=q-f) r.out.2.1 ((show Bd u c by rw[B.out.1];exact lz r.out.2.2.2.1).mono E) E;refine⟨g,by rw[g];exact Z.out.1.cY E,?_,x.out.Bh.congr (λi _=>by show(if C-f<=i then m i else 0)=m i;rw[ai E])⟩;refine mr ?_ (by have:=HN.out;omega);rw[S.out.1, <-M.out.2.1,Y.2,HN.out];exact mQ _ _
    have HT:Hid (Calls prog 37 #[.slice (some ⟨o.heap.size,0,none⟩) nq nq] wr λn V=>∃G,n=.returned G∧jO wr.heap.size G (cY m nq) m V∧Below wr.heap.size wr V):=
     zU (N.out.2.2.2.sl (aa _)) (aa _) E (λn=>by cases n) (λv z=>by cases z;exact N.out.2.2.2.lt) E
    go_wp2_with fail
    refine HT.out.mono ?_;rintro n w6 ⟨G,rfl,ao,ab⟩
    have HR:Hid (jO e.heap.size G (cY m (q-f)) m w6∧cG e.heap.size (.slice bd C W) (cY K q) K w6∧Below e.heap.size e w6):=by
     have hd:=x.out.below E ab;refine⟨by rw[N.out.2.2.1];exact ao.mono E,by rw[N.out.2.1,N.out.1];exact hd.own.mono E,hd.vR⟩
    clear ao ab;go_wp2
    go_ret2
    exact⟨G,_,X,HR.out.1,HR.out.2.1,HR.out.2.2⟩
 ·have ar:a f≠0:=by
   have h:=oh a R (by rw[S.out.2.2];omega);rw[S.out.2.2]at h;exact h
  have⟨p,bb⟩:=eaa (b.iv (a f));have⟨v,z⟩:=eaa (a f);have a8:o.cell? ⟨F,f,none⟩=some (.int .i64 (v:Nat)):=by rw[z];exact B.out.2.2.1.cell f E
  have k0:=XM B.out.2.2.2.2.1.c0;have k1:=XM B.out.2.2.2.2.1.c1;have k2:=XM B.out.2.2.2.2.1.c2;have k3:=XM B.out.2.2.2.2.1.c3;have k4:=XM B.out.2.2.2.2.1.c4;have k5:=XM a8
  have bc:Hid (∀d A,Calls prog 61 #[.agg #[.int .i64 b.q,.int .i64 b.p,.int .i64 b.m,.int .i64 gen,.slice (some ⟨s,0,none⟩) (b.m+1) t],.int .i64 (v:Nat)] (grow (redrawn o d) A) λn ad=>n=.returned (.int .i64 (p:Nat))∧∃P:Regrown,ad=grow (redrawn o P.d) P.os):=by
   intro d A;have h:=xD r.out.1 gen (v:Nat) (HM.out.below (al B.out.2.2.2.1 (XQ o d A)));rw[lW r.out.1 (by rw[z];exact r.out.2.2.1 f) (by rw[z];exact ar)]at h;rw[show p=b.pw v (b.q-2)from by rw[bb,z];rfl];exact X0 h
  have N:Hid (K=c∧m=db∧cY K q=u):=by
   have ht:pK u c:=by rw[B.out.1];exact l5 r.out.2.2.2.1
   have Y:=o8 (dE r.out.1) (b:=a) (l:=f) (inv:=b.iv (a f)) (n:=0) (N:=q-f) r.out.2.1 (ht.1.mono E) E;have g:K=c:=by rw[S.out.2.1,Y.1];rfl
   exact⟨g,by rw[S.out.1,Y.2];rfl,by rw[g];exact ht.cY E⟩
  have g:(u:Int)<(f:Int)+1:=E;clear ar bb z a8;go_wp2;refine X6 wL wL ?_;repeat(go_big_quiet_step (first|(go_at_call 61;exact bc.out _ _)))
  refine XZ ?_;intro _ a2;obtain⟨⟨dq,osq⟩,a3⟩:=a2;subst a3;have⟨D,a6⟩:=eaa (grow (redrawn o dq) osq);have av:Below o.heap.size o D:=by rw[a6];exact XQ o dq osq
  have U:Hid (cG (e.heap.size+1) (.slice a1 u c1) u c D∧Below e.heap.size e D):=⟨B.out.2.1.below av (aa _),al B.out.2.2.2.1 av⟩;have g:=av.size;rw[<-a6];clear a6 av k0 k1 k2 k3 k4 k5 bc
  have HT:Hid (Calls prog 37 #[.slice none 0 0] D λn V=>∃G,n=.returned G∧jO D.heap.size G 0 db V∧Below D.heap.size D V):=
   zU (c:=db) (λj hj=>E) (aa _) E (λ_=>rfl) (λv z=>by cases z) E
  go_wp2;refine YP 1 ?_;rw[rounds_succ];go_wp2_with (go_at_call 37;refine HT.out.mono ?_;rintro n w6 ⟨G,rfl,ao,ab⟩)
  have HR:Hid (jO e.heap.size G (cY m (q-f)) m w6∧cG e.heap.size (.slice a1 u c1) (cY K q) K w6∧Below e.heap.size e w6):=by
   refine⟨?_,?_,al U.out.2 ab⟩
   ·rw[N.out.2.1,show cY db (q-f)=0 from EX (n:=q-f) (λ_ _=>rfl) (λ_ _=>rfl) (λh=>absurd X h)];exact ao.mono E
   ·rw[N.out.2.2,N.out.1];exact(U.out.1.below ab (aa _)).mono E
  clear ao ab
  go_ret2
  exact⟨G,_,X,HR.out.1,HR.out.2.1,HR.out.2.2⟩
theorem vP{B:Array Oper}{rest:List Oper}{g:Oper}{i:Act}{C:Exit->Act->World->Prop}(O:g.guard=none)(v w:Operand)(P:g.op=.call { callee:=.builtin .append,args:= #[v,w],argTypes:= #[22,3]})(m:Nat)(h:Value)(a:List Int)(Q:i.eval v=h)(r:aV m h a e)(d:Nat)(R:i.eval w=.int .i64 (d:Int))(Y:a.length+d<=1000000)(S:m<=e.heap.size)(T:∀f b,aV m f (a++List.replicate d 0) b->e.grownBy b h.ownBlock->wpList prog B C rest (i.put g.dst f) b):wpList prog B C (g::rest) i e:=by
 obtain⟨k,n,x,y,o⟩:=X5 lV
 have U:∃f b,(Builtin.append_ #[22,3] g.type #[h,.int .i64 (d:Int)]).run prog e=.ok f b∧aV m f (a++List.replicate d 0) b∧e.grownBy b h.ownBlock:=by
  have V:(a.map (Value.int .i64)).length=a.length:=gp ..
  have s:(a++List.replicate d 0).map (Value.int .i64)=a.map (Value.int .i64)++List.replicate d (.int .i64 0):=by
   rw[dN,List.map_replicate]
  have l:(a++List.replicate d (0:Int)).length=a.length+d:=by rw[aQ,ks]
  have p:∀d,Builtin.zeroCells (Value.int .i64 0).cells d=(List.replicate d (Value.int .i64 0)).toArray:=λd=>by
   apply Array.ext
   ·simp[Builtin.zeroCells,Value.cells]
   ·intro i D F;simp[Builtin.zeroCells,Value.cells,Nat.mod_one]
  have G:∀(i:Nat),i<a.length+d->∀(B:Option Nat),
    aV m (.slice (some ⟨e.heap.size,0,none⟩) (a.length+d) (grownCap e (a.length+d) i 3)) (a++List.replicate d 0) (e.drew.alloc (.cells ((a.map (Value.int .i64)).toArray++Builtin.zeroCells (Value.int .i64 0).cells d++Builtin.zeroCells (Value.int .i64 0).cells (grownCap e (a.length+d) i 3-(a.length+d))) 3))∧
    e.grownBy (e.drew.alloc (.cells ((a.map (Value.int .i64)).toArray++Builtin.zeroCells (Value.int .i64 0).cells d++Builtin.zeroCells (Value.int .i64 0).cells (grownCap e (a.length+d) i 3-(a.length+d))) 3)) B:=λi _ B=>by
   have m:=grownCap_ge e (a.length+d) i 3;have t:=grownCap_le_maxLen e (a.length+d) i 3 Xu;refine⟨⟨by rw[s];simp,.inr ⟨e.heap.size,_,_,by rw[l],S,heap_alloc_new e.drew _,by rw[l];exact m,t,?_,?_⟩⟩,⟨X,X,X,oi,λI z _=>heap_alloc_old e.drew _ z⟩⟩
   ·rw[p,p];simp;omega
   ·rw[s,l,p,p];simp only[Array.toList_append,iJ];rw[<-iJ];have:((a.map (Value.int .i64))++List.replicate d (Value.int .i64 0)).length=(a.length+d)*1:=oi;rw[<-this];exact List.take_left
  by_cases J:d=0
  ·subst J;refine⟨h,e,?_,by rw[List.replicate_zero,j0];exact r,gS _ _⟩;rcases r.2 with⟨rfl,u⟩|⟨c,j,q,rfl,K,A,M,t,W,N⟩
   ·simp[Builtin.append_,run_underlying underlying22,run_underlying underlying3,sizeOf,typeInfo,n,asInt,asIntOf,IntKind.wrap_i64]
   ·simp[Builtin.append_,run_underlying underlying22,run_underlying underlying3,sizeOf,typeInfo,n,asInt,asIntOf,IntKind.wrap_i64,M,storeCells]
  ·rcases r.2 with⟨i,u⟩|⟨c,j,q,i,K,A,M,t,W,N⟩
   ·have m:=Lib.run_append_grow_zeros e 22 3 g.type 3 k (.int .i64 0) .i64 .i64 underlying22 underlying3 n x none a.length 0 (a.map (Value.int .i64)) (by rw[fY.1 u];exact run_firstCells_none e.drew k.size 0 0 0) d E E E E (by rw[o];omega) (growslice_fits E (by rw[o];omega));rw[i];rw[u]at m;refine⟨_,_,m,?_⟩;have:=G 0 E (Value.ownBlock (.slice none 0 0));rw[u]at this;exact this
   ·by_cases u:a.length+d<=j
    ·have B:=run_storeCells_at prog c (a.length*1) 3 (List.replicate d (Value.int .i64 0)) 0 q e A x7 (λM C=>by rw[List.eq_of_mem_replicate C];rfl);simp only[KQ,BJ,ks,iJ]at B;have C:IntKind.i64.wrap (d:Int)=d:=by rw[YH];omega
     refine⟨.slice (some ⟨c,0,none⟩) (a.length+d) j,e.setRow c (q.toList.take (a.length*1)++List.replicate d (Value.int .i64 0)++q.toList.drop (a.length*1+(List.replicate d (Value.int .i64 0)).length)).toArray,?_,⟨by rw[s];simp,.inr ⟨c,j,_,by rw[l],K,setRow_heap e c q _ 3 _ A,by rw[l];exact u,t,?_,?_⟩⟩,?_⟩
     ·have q:¬d*k.size=0:=by rw[y];omega
      have q:¬(281474976710656<(d:Int)*(k.bytes:Int)):=by rw[o];omega
      have t:¬((d:Int)<0):=E;rw[i];simp[Builtin.append_,run_underlying underlying22,run_underlying underlying3,sizeOf,typeInfo,zeroValue,n,x,asInt,asIntOf,C,t,q,J,u,p,Addr.add_lit,y,B,Result.andThen]
     ·simp;omega
     ·rw[s,l,N];have:((a.map (Value.int .i64))++List.replicate d (Value.int .i64 0)).length=(a.length+d)*1:=oi;rw[<-this];exact List.take_left
     ·rw[i];exact⟨X,X,X,oi,λI _ z=>setRow_other e c I _ (λl=>z (by simp[Value.ownBlock,l]))⟩
    ·have m:=Lib.run_append_grow_zeros e 22 3 g.type 3 k (.int .i64 0) .i64 .i64 underlying22 underlying3 n x (some ⟨c,0,none⟩) a.length j (a.map (Value.int .i64)) (run_firstCells_some e.drew k.size a.length ⟨c,0,none⟩ a.length j _ (by rw[V,y];omega) (World.ownsRow.cells (w:=e) r (g:=c) (by rw[i];rfl))) d E E E E (by rw[o];omega) (growslice_fits E (by rw[o];omega));rw[i];exact⟨_,_,m,G j E _⟩
 obtain⟨f,b,m,D,F⟩:=U;exact Lib.wpList_append_run e O v w 22 3 P h _ Q R f b m (T f b D F)
theorem G2{y:Nat->Int}:∀n i,i<n->y i≠ -1->(lD y n)[(lD y i).length]?=some i
 |0,i,a,_=>absurd a E
 |n+1,i,a,b=>by
  have a:lD y (n+1)=if y n= -1 then lD y n else lD y n++[n]:=rfl
  rw[a];by_cases c:i=n
  ·subst c;rw[af b,bU (aa _),fN];rfl
  ·have a:=G2 n i E b;by_cases b:y n= -1
   ·rw[ai b];exact a
   ·rw[af b,bL (b9.1 a).1];exact a
theorem Si{b:Nat->Int}{c:List Int}{j:Nat}{x:Int}(d:c=zl f b)(a:c[j]?=some x):j<f∧b j=x:=by
 rw[d]at a
 have c:j<f:=by
  have:=(b9.1 a).1
  rwa [bq]at this
 rw[kr f b j c]at a;exact⟨c,by simpa using a⟩
theorem mh.at{y:Nat->Int}{d y':Nat->Nat}(e:mh b f c y g d y')(a:Nat)(h:a<f)(i:y a≠ -1):(lD y a).length<g∧d (lD y a).length=c a∧((y' (lD y a).length:Nat):Int)=y a:=by
 have d:=G2 f a h i;have h:=Si (j:=(lD y a).length) (x:=((c a:Nat):Int)) ((ou (λa=>((c a:Nat):Int)) y f).symm.trans e.lx) (by rw[ck,d];rfl);have i:=Si (j:=(lD y a).length) (x:=y a) ((ou y y f).symm.trans e.ly) (by rw[ck,d];rfl);exact⟨h.1,by have:=h.2;omega,i.2⟩
theorem mh.len{y:Nat->Int}{a y':Nat->Nat}(d:mh b f c y g a y'):(lD y f).length=g:=by
 have:=cF List.length d.lx;rw[ou,gp,bq]at this;exact this
theorem Oe(a:bV b)(e:gZ b (cS 0 o) c):c=db:=
 vB (Q:=λc=>c=db) X (λf i d g=>by rw[d,g];exact mD a (mw a)) (λh f d=>by rw[d];exact oE a h) (λc ⟨j,hj,_⟩=>absurd hj E) e
theorem JV(e:bV b){c y:Nat->Nat}(r:g+d+d<=f)(m:d=(f-g) / 2)(l:∀a,a<f->c a<b.q)(s:∀a j,a<f->j<f->a≠j->c a≠c j)(i:Vn b (d+1+(d+g)) f (λa=>nU b (c a) (y a) d (d+g)) q o):(q=0->∀h,¬fB b f g c y h)∧(0<q->El b (o 0)∧Bd (d+1+(d+g)) (o 0)∧∀h,fB b f g c y h->NX d (o 0)=aZ b g h (oT (d+1) (o 0))∧cY (oT (d+1) (o 0)) (d+1)≠0):=by
 have m:∀a,a<f->El b (nU b (c a) (y a) d (d+g)):=λa _=>FT e _ _ _ _
 refine⟨λa h k=>?_,λa=>?_⟩
 ·obtain⟨t,u,v,w,x⟩:=JU e (xs:=c) (y:=y) (a:=h) (k:=g) (t:=d) l (by have:=k.2.2.2;omega);have c:=(i.iff e m t).2 ⟨u,v,x⟩;rw[a]at c;exact w (Oe e c)
 ·have t:=i;obtain⟨_,_,_,u,_,_,c,_,_⟩:=t;have t:gZ b (cS q o) (o 0):=fW e (c.el 0 a) ⟨0,a,X⟩;obtain⟨n,p,z⟩:=(i.iff e m (o 0)).1 t
  have A:o 0≠db:=λi=>by
   have:=c.one 0 a;rw[i]at this;cases this
  exact⟨n,p,λh k=>JS e r l s n p A z (by have:=k.2.2.2;omega)⟩
def BX(c:FD)(d b:Nat)(e y:Nat->Nat)(f:World)(g:Ending)(h:World):Prop:=Below f.heap.size f h∧((∃a,fB c d b e y a∧∃i,g=.returned (.tuple #[i,.int .i64 (oX c b d e y a:Nat),.bool true])∧jO f.heap.size i b a h)∨((∀a,¬fB c d b e y a)∧g=.returned (.tuple #[.slice none 0 0,.int .i64 0,.bool false])))
theorem SY{L:List (Nat×(Nat->Nat))}(o:uH f (.slice k g d) L e){j:Nat}{a:Nat×(Nat->Nat)}(m:L[j]?=some a):∃c h b,k=some ⟨c,0,none⟩∧e.cell? ⟨c,j,none⟩=some (.slice (some ⟨h,0,none⟩) (a.1+1) b)∧Row h (a.1+1) a.2 e∧a.1+1<=b∧b<=9223372036854775807:=by
 obtain⟨i,p,n⟩:=o;obtain⟨o,r,l,_,_,_,q⟩:=p.open;cases l;have o:j<i.length:=by rw[n.1];exact(b9.1 m).1
 obtain⟨c,l,p,_⟩:=q j i[j] (aE o);obtain⟨h,b,q,r,s,t⟩:=n.2 j i[j] a (aE o) m;exact⟨c,h,b,l,by rw[p,q],t,r,s⟩
theorem Uf{f a d b:Nat}(g:Bd a c)(i:a+d=b)(h:aV f p (zl a (λj=>((c j:Nat):Int))++List.replicate d 0) e):jO f p b c e:=by
 unfold jO
 have i:zl b (λj=>((c j:Nat):Int))=zl a (λj=>((c j:Nat):Int))++List.replicate d 0:=by
  refine m9 λj=>?_
  by_cases f:j<a
  ·rw[kr _ _ _ E,bL (by rw[bq];exact f),kr _ _ _ f]
  ·rw[bU Xl,bq];by_cases a:j<b
   ·rw[kr _ _ _ a,jv,ai E,g j E];rfl
   ·rw[en Xl,jv,af E]
 rw[i];exact h
structure Ss(B:Nat)(D:FD)(gen gm cm b o:Nat)(z:Int)(w:World):Prop where
 c0:w.cell? ⟨B,0,none⟩=some (.int .i64 D.q)
 c1:w.cell? ⟨B,1,none⟩=some (.int .i64 D.p)
 c2:w.cell? ⟨B,2,none⟩=some (.int .i64 D.m)
 c3:w.cell? ⟨B,3,none⟩=some (.int .i64 gen)
 c4:w.cell? ⟨B,4,none⟩=some (.slice (some ⟨gm,0,none⟩) (D.m+1) cm)
 c5:w.cell? ⟨b,o,none⟩=some (.int .i64 z)
