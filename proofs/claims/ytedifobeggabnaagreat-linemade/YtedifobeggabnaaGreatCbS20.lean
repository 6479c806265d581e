/- Texts of ours, one behind the other: S20 KA1 KA2 KA3 KA4 KA5 KA6 KA7 S23 S24 S25 S27 S28 KD1 W13 KD2 KD3 KD4 KD5 KD6 KD7 KD8 KD9. -/
import Derived.Test.YtedifobeggabnaaGreatCbQ1
namespace Go.Proofs.YtedifobeggabnaaGreat
set_option maxHeartbeats 16000000
set_option maxRecDepth 100000
open Tryz
variable {Q W:Int}{K N:Nat->Bool}{b:FD}{c e k A x o U:Nat}{g v:Nat->Nat}{R:Nat->Value}{a D y S V:World}{B G:Option Addr}{w:Program}{d:Array Oper}{q:Exit->Act->World->Prop}{u:World->Prop}{t:List Nat}{l:Array Bool}{p T:Oper}{z F C O:Value}{m:Act}{M P:List Int}
theorem Xe{a:Prop}(b:a:=by rw[an];rfl):a:=b
section
open Go.RowKit
theorem BF(a: -9223372036854775808<=Q)(b:Q<=9223372036854775807):IntKind.i64.wrap Q=Q:=by
 rw[YH]
 first|omega|(unfold wrap64;omega)
end
section
open Go.RowKit Go.Sort
theorem gW{b:Func}{c d e f:Tmp}(h:b.results= #[.tmp c,.tmp d,.tmp e,.tmp f])(a:Array Value)(i:Program)(g:World):(results b a).run i g=.ok (.tuple #[a.getD c undef,a.getD d undef,a.getD e undef,a.getD f undef]) g:=by
 simp[results,h]
end
theorem As:∀n,(∀a,a<n->K a=true->N a=true)->ct K n<=ct N n
 |0,_=>aa _
 |n+1,b=>by
  have c:=As n (λa d=>b a E);have c:=b n E;show ct K n+(if K n=true then 1 else 0)<=ct N n+if N n=true then 1 else 0
  by_cases a:K n=true
  ·rw[ai a,ai (c a)];omega
  ·rw[af a];omega
section
open Go.RowKit Go.Sort
theorem wh{e d:Nat->Nat}(a:Nat):∀n,(∀c,c<n->e c=d c)->b.ev e a n=b.ev d a n
 |0,_=>rfl
 |n+1,f=>by
  show b.ad (b.ev e a n) (b.mul (e n) (b.xp a n))=b.ad (b.ev d a n) (b.mul (d n) (b.xp a n));rw[wh a n (λc e=>f c E),f n E]
theorem u0:∀n,(∀a,a<n->K a=N a)->ct K n=ct N n
 |0,_=>rfl
 |n+1,b=>by
  show ct K n+(if K n=true then 1 else 0)=ct N n+if N n=true then 1 else 0
  rw[u0 n (λa c=>b a E),b n E]
theorem OE(a:pK e g)(b:Bd c g):e<=c:=by
 refine Nat.le_of_not_lt λd=>?_
 exact a.2 E (b (e-1) E)
theorem RR(a b:Nat->Bool):∀n,ct (λc=>a c || b c) n<=ct a n+ct b n
 |0=>aa _
 |n+1=>by
  have:=RR a b n;show ct (λc=>a c || b c) n+(if(a n || b n)=true then 1 else 0)<=ct a n+(if a n=true then 1 else 0)+(ct b n+if b n=true then 1 else 0);cases a n<;>cases b n<;>simp<;>omega
def oX(b:FD)(c d:Nat)(e y f:Nat->Nat):Nat:=ct (λa => !decide (b.ev f (e a) c=y a)) d
theorem M6(h:bV b){d y f g:Nat->Nat}(r:e<=c)(i:∀a,a<c->d a<b.q)(k:∀a j,a<c->j<c->a≠j->d a≠d j)(l:El b f)(m:El b g)(n:Bd e f)(o:Bd e g)(p:2*oX b e c d y f<=c-e)(q:2*oX b e c d y g<=c-e):f=g:=by
 refine bK λr=>?_
 have s:=IW h i k l m n o r
 have i:ct (λa => !decide (b.ev f (d a) e=b.ev g (d a) e)) c<=ct (λa => !decide (b.ev f (d a) e=y a) || !decide (b.ev g (d a) e=y a)) c:=As c λa _ h=>by
  by_cases i:b.ev f (d a) e=y a
  ·by_cases k:b.ev g (d a) e=y a
   ·rw[i,k]at h;simp at h
   ·simp[k]
  ·simp[i]
 have h:=RR (λa => !decide (b.ev f (d a) e=y a)) (λa => !decide (b.ev g (d a) e=y a)) c;unfold oX at p q;omega
theorem L4(F:bV b){c y a f d:Nat->Nat}{e k wr M:Nat}(n:k+wr<=M)(h:M+wr<=e)(hx:∀i,i<e->c i<b.q)(hne:∀i j,i<e->j<e->i≠j->c i≠c j)(g:El b f)(l:Bd M f)(o:El b d)(m:Bd (wr+1) d)(p:oX b k e c y a<=wr)(q:∀i,i<e->b.ev f (c i) M=b.mul (y i) (b.ev d (c i) (wr+1))):f=aZ b k a d:=by
 have r:El b (iF b f (aZ b k a d)):=tj F g (dG F _ _ _)
 have h:Bd (k+wr) (aZ b k a d):=by
  have:=ko F (a:=a) m k;rw[show k+(wr+1)-1=k+wr by omega]at this;exact this
 have s:Bd M (iF b f (aZ b k a d)):=λj t=>by
  show b.sb (f j) (aZ b k a d j)=0;rw[l j t,h j E,fA F (aX F)]
 refine uw F g (dG F _ _ _) (bK λl=>?_);have t:=tp F hx hne M r s l
 have h2:ct (λi=>decide (b.ev a (c i) k=y i)) e<=ct (λi=>decide (b.ev (iF b f (aZ b k a d)) (c i) M=0)) e:=As e λi hi l=>by
  have l:b.ev a (c i) k=y i:=nk l;refine aU ?_
  have f:b.ev (aZ b k a d) (c i) M=b.mul (y i) (b.ev d (c i) (wr+1)):=by
   rw[dQ F (c i) h n, <-dQ F (c i) h (show k+wr<=k+(wr+1) by omega),oq F (c i) m o k (k+(wr+1)) (aa _),l]
  rw[AD F (c i) g (dG F _ _ _),q i hi,f,fA F (F.bX _ _)]
 have h3:=s8 (λi=>decide (b.ev a (c i) k=y i)) e;unfold oX at p;omega
def Ej(a:FD)(b:Nat->Bool)(c:Nat->Nat):Nat->Nat->Nat
 |0=>kJ
 |i+1=>if b i=true then aZ a 2 (sN a (c i)) (Ej a b c i)else Ej a b c i
theorem EZ(a:bV b){err:Nat->Bool}(e:∀i,i<c->g i<b.q):∀i,i<=c->El b (Ej b err g i)∧Bd (ct err i+1) (Ej b err g i)∧Ej b err g i (ct err i)=1∧∀j,j<i->err j=true->b.ev (Ej b err g i) (g j) (ct err i+1)=0
 |0,_=>⟨AB a,λj h=>af E,X,λj h=>absurd h E⟩
 |i+1,d=>by
  obtain⟨o,d,p,q⟩:=EZ a (err:=err) e i E;have k:=e i E;by_cases e:err i=true
  ·have l:ct err (i+1)=ct err i+1:=by
    show ct err i+(if err i=true then 1 else 0)=_;rw[ai e]
   have m:Ej b err g (i+1)=aZ b 2 (sN b (g i)) (Ej b err g i):=by
    show(if err i=true then _ else _)=_;rw[ai e]
   rw[l,m];refine⟨dG a _ _ _,?_,?_,λj h f=>?_⟩
   ·have:=ko a (a:=sN b (g i)) d 2;rw[show 2+(ct err i+1)-1=ct err i+1+1 by omega]at this;exact this
   ·have:=nQ a (a:=sN b (g i)) (n:=1) d;rw[show 1+ct err i=ct err i+1 by omega,p]at this;rw[this];show b.mul (if 1=0 then _ else if 1=1 then 1 else 0) 1=1;rw[af E,ai X,mM a (gV a)]
   ·rw[<-dQ a (g j) (n:=ct err i+1+1) (N:=2+(ct err i+1)) (by
     have:=ko a (a:=sN b (g i)) d 2;rw[show 2+(ct err i+1)-1=ct err i+1+1 by omega]at this;exact this) E,oq a (g j) d o 2 _ (aa _)]
    by_cases n:j=i
    ·rw[n,Gp a k k,fA a k,qI a]
    ·rw[q j E f,gI a]
  ·have l:ct err (i+1)=ct err i:=by
    show ct err i+(if err i=true then 1 else 0)=_;rw[af e];rfl
   have m:Ej b err g (i+1)=Ej b err g i:=by
    show(if err i=true then _ else _)=_;rw[af e]
   rw[l,m];refine⟨o,d,p,λj h f=>?_⟩;by_cases n:j=i
   ·rw[n]at f;exact absurd f e
   ·exact q j E f
theorem S7(d:bV b){err:Nat->Bool}(h:∀a,a<c->g a<b.q)(i:ct err c<=e):∃f,El b f∧Bd (e+1) f∧f e=1∧∀a,a<c->err a=true->b.ev f (g a) (e+1)=0:=by
 obtain⟨f,i,k,l⟩:=EZ d (err:=err) h c (aa _);refine⟨kS (e-ct err c) (Ej b err g c),pe d _ f,λj n=>?_,?_,λa h m=>?_⟩
 ·unfold kS;rw[ai E];exact i _ E
 ·unfold kS;rw[ai E,show e-(e-ct err c)=ct err c by omega];exact k
 ·have:=LJ d (b:=Ej b err g c) (g a) (e-ct err c) (ct err c+1);rw[show e-ct err c+(ct err c+1)=e+1 by omega]at this;rw[this,l a h m,gI d]
structure Sn(D:FD)(n:Nat)(xs y:Nat->Nat)(A B S T:Nat->Nat)(lA lB lS lT:Nat):Prop where
 eA:El D A
 eB:El D B
 eS:El D S
 eT:El D T
 tA:pK lA A
 tB:pK lB B
 bS:Bd lS S
 tT:pK lT T
 lt:lB<lA
 ls:lS<lT
 sum:lT+lA=n+2
 WN:∀i,i<n->∀N,lA<=N->∀M,lS<=M->D.ev A (xs i) N=D.mul (y i) (D.ev S (xs i) M)
 VQ:∀i,i<n->∀N,lB<=N->∀M,lT<=M->D.ev B (xs i) N=D.mul (y i) (D.ev T (xs i) M)
theorem Sn.step(d:bV b){f y p m i T h l:Nat->Nat}(g:Sn b c f y p m i T e k A x)(s:pK o h)(t:El b l)(q:pK U l)(w:U<k)(z:p=dk b (aZ b o h m) l)(r:o+k=e+1):Sn b c f y m l T (iF b i (aZ b o h T)) k U x (o+x-1):=by
 have r:2<=o:=by have:=g.lt;omega
 have r:1<=x:=by have:=g.ls;omega
 have u:Bd (o+x-1) (aZ b o h T):=ko d g.tT.1 o
 have B:aZ b o h T (o+x-2)≠0:=by
  obtain⟨a,rfl⟩:∃a,o=a+1:=⟨o-1,E⟩;obtain⟨n,rfl⟩:∃n,x=n+1:=⟨x-1,E⟩;have r:=nQ d (a:=h) (n:=a) g.tT.1;rw[show a+1+(n+1)-2=a+n by omega,r];intro r;have v:h a≠0:=by have:=s.2 E;rwa [dh]at this
  have a:T n≠0:=by have:=g.tT.2 E;rwa [dh]at this
  exact a (oz d v (g.eT _) (aX d) (by rw[r,gI d]))
 have s:∀j,x<=j->i j=0:=λj n=>g.bS j (by have:=g.ls;omega)
 refine⟨g.eB,t,g.eT,tj d g.eS (dG d _ _ _),g.tB,q,g.tT.1,⟨λj n=>?_,λ_=>?_⟩,w,E,by have:=g.sum;omega,g.VQ,λa v C D F G=>?_⟩
 ·show b.sb (i j) (aZ b o h T j)=0;rw[s j E,u j n,fA d (aX d)]
 ·show b.sb (i (o+x-1-1)) (aZ b o h T (o+x-1-1))≠0;rw[s _ E,show o+x-1-1=o+x-2 by omega];intro r;exact B (gX d (aX d) (dG d _ _ _ _) r).symm
 ·
  have r:Bd (o+k-1) (aZ b o h m):=ko d g.tB.1 o
  have r:b.ev p (f a) (o+k)=b.ad (b.mul (b.ev h (f a) o) (b.ev m (f a) k)) (b.ev l (f a) (o+k)):=by
   rw[z,we d (f a) (dG d _ _ _) t,oq d (f a) g.tB.1 g.eB o (o+k) (aa _)]
  have p:=g.WN a v (o+k) E x (by have:=g.ls;omega);have t:=g.VQ a v k (aa _) x (aa _)
  have v:b.ev l (f a) C=b.ev l (f a) (o+k):=by
   rw[dQ d (f a) q.1 D,dQ d (f a) q.1 (show U<=o+k by omega)]
  have m:Bd (o+x-1) (iF b i (aZ b o h T)):=λj n=>by
   show b.sb (i j) (aZ b o h T j)=0;rw[s j E,u j n,fA d (aX d)]
  have n:b.ev (iF b i (aZ b o h T)) (f a) F=b.sb (b.ev i (f a) x) (b.mul (b.ev h (f a) o) (b.ev T (f a) x)):=by
   rw[dQ d (f a) m G, <-dQ d (f a) m (show o+x-1<=o+x by omega),AD d (f a) g.eS (dG d _ _ _),oq d (f a) g.tT.1 g.eT o (o+x) (aa _),dQ d (f a) g.bS (show A<=o+x by have:=g.ls;omega),dQ d (f a) g.bS (show A<=x by have:=g.ls;omega)]
  have g:=iQ d i (f a) x;have m:=d.bX (b.ev h (f a) o) (b.ev T (f a) x);have q:=iQ d l (f a) (o+k);rw[v,n,FB d g m]
  have g:b.ad (b.mul (b.ev h (f a) o) (b.mul (y a) (b.ev T (f a) x))) (b.ev l (f a) (o+k))=b.mul (y a) (b.ev i (f a) x):=by
   rw[<-t, <-r,p]
  have i:b.mul (y a) (b.mul (b.ev h (f a) o) (b.ev T (f a) x))=b.mul (b.ev h (f a) o) (b.mul (y a) (b.ev T (f a) x)):=by
   rw[<-d.mul_assoc,d.mul_comm (y a),d.mul_assoc]
  rw[i, <-g,gQ d,N3 d q (d.bX _ _)]
theorem Sn.last{D:FD}(h:bV D){d y i g l T f:Nat->Nat}(b:Sn D c d y i g l T k A x o)(p:e<=c)(q:c+e+2<=2*k)(r:2*A<c+e+2)(m:∀a,a<c->d a<D.q)(n:∀a j,a<c->j<c->a≠j->d a≠d j)(s:2*oX D e c d y f<=c-e):g=aZ D e f T:=by
 have⟨wr,d⟩:=eaa ((c-e) / 2);have d:o<=wr+1:=by have:=b.sum;omega
 refine L4 h (a:=f) (y:=y) (M:=c-wr) (wr:=wr) E E m n b.eB (λj g=>b.tB.1 j E) b.eT (λj g=>b.tT.1 j E) E (λa i=>?_);exact b.VQ a i (c-wr) E (wr+1) d
theorem zJ(j:b∈ak){N g a:Nat->Nat}{n d e:Nat}(h:El b N)(p:Bd n N)(k:El b a)(o:Bd d a)(q:cY a d≠0)(r:El b g)(l:Bd e g)(s:N=aZ b e g a):b.quo N n a d=g∧b.BN N n a d=db:=by
 have f:=dE j;have⟨c,i⟩:=eaa (cY a d-1);have m:Bd (c+1) a:=by rw[i,show cY a d-1+1=cY a d by omega];exact lz o
 have o:a c≠0:=by rw[i];exact oh a d q
 have q:b.mul (a c) (b.iv (a c))=1:=CW j (k c) o;unfold FD.quo FD.BN;rw[<-i];have⟨d,i⟩:=eaa (n-c);rw[<-i];have i:Bd (d+c) N:=p.mono E;have j:=Av f (b:=a) (l:=c) (inv:=b.iv (a c)) (d+e) h;have p:Bd c (iE b a c (b.iv (a c)) (d+e) N):=u3 f k m q (d+e) h (i.mono E)
 have k:dk b (aZ b (d+e) (dV b a c (b.iv (a c)) (d+e) N) a) (iE b a c (b.iv (a c)) (d+e) N)=dk b (aZ b (d+e) g a) db:=by
  rw[j,mD f (dG f _ _ _),A7 f a l E];exact s
 have g:=LC f m o (oo f _ _) r (rX f _ h) (mw f) (mQ _ _) (l.mono E) p (λ_ _=>rfl) k;have j:=o8 f (b:=a) (inv:=b.iv (a c)) h i (show d<=d+e by omega);exact⟨by rw[<-j.2];exact g.1,by rw[<-j.1];exact g.2⟩
theorem A9{o T:Nat}(E:b∈ak)(r:gO o T b R a){d y:Nat->Int}(p:Arg B c k d a)(s:Arg G e A y a)(t:b.gu c d e y=0)(u:cY (zc e y) e≠0):Calls prog 111 #[.pointer (some ⟨o,0,none⟩),.slice B c k,.slice G e A] a λj g=>∃f,j=.returned (.tuple #[f,.bool (decide (cY (b.BN (zc c d) c (zc e y) e) c=0))])∧cG a.heap.size f (cY (b.quo (zc c d) c (zc e y) e) (c-(cY (zc e y) e-1))) (b.quo (zc c d) c (zc e y) e) g∧Below a.heap.size a g:=by
 have F:Hid (Calls prog 105 #[.pointer (some ⟨o,0,none⟩)] a λj g=>j=.returned (.int .i64 b.q)∧g=a):=xG r
 have v:Hid (Calls prog 108 #[.int .i64 b.q,.slice B c k,.slice G e A] a λj g=>Below a.heap.size a g∧∃f m,j=.returned (.tuple #[f,m,.int .i64 0])∧cG a.heap.size f (cY (b.quo (zc c d) c (zc e y) e) (c-(cY (zc e y) e-1))) (b.quo (zc c d) c (zc e y) e) g∧cG a.heap.size m (cY (b.BN (zc c d) c (zc e y) e) c) (b.BN (zc c d) c (zc e y) e) g):=by
  refine(Dg E p s).mono ?_;rintro j g ⟨o,⟨_,_,f,m,i,w,x⟩|⟨_,i,_⟩|⟨i,_⟩⟩
  ·exact⟨o,f,m,i,w,x⟩
  ·exact absurd i u
  ·exact absurd t i
 have⟨l,o⟩:=eaa (cY (b.BN (zc c d) c (zc e y) e) c);rw[<-o]at v ⊢;have E:l<=c:=by rw[o];exact eJ _ _
 have E:=p.qL;clear r p s t u o;go_enter func111,ntmps111;go_wp2_with fail;refine F.out.mono ?_;rintro j g ⟨rfl,q⟩;have q:=q.symm;subst q;go_wp2_with fail;refine v.out.mono ?_;rintro j z ⟨C,f,m,rfl,D,I⟩;have n:Hid (Below a.heap.size a z∧cG a.heap.size f (cY (b.quo (zc c d) c (zc e y) e) (c-(cY (zc e y) e-1))) (b.quo (zc c d) c (zc e y) e) z):=⟨C,D⟩;obtain⟨K,M,rfl,_⟩:=I;clear C D;by_cases i:l=0
 ·subst i;go_wp2
  go_ret2
  exact⟨f,X,n.out.2,n.out.1⟩
 ·have w:((l:Int)==0)=false:=by rw[aA];omega
  have x:decide ((l:Int)=0)=false:=by rw[eV];omega
  have J:Hid (decide (l=0)=false):=by show _=_;rw[eV];exact i
  clear i;go_wp2
  go_ret2
  exact⟨f,by rw[J.out];rfl,n.out.2,n.out.1⟩
theorem Kk(d:Nat)(a:Int)(e f:Option Addr)(b g i j:Nat)(k:b<=1000)(l:0<=a)(m:a<=1000)(c:World):Calls prog 103 #[.agg #[.pointer (some ⟨d,0,none⟩),.int .i64 a,.slice e b g,.slice f i j]] c λk l=>k=.returned (.int .i64 ((b:Int)-a))∧Below c.heap.size c l:=by
 go_enter func103,ntmps103;go_wp2;go_ret;exact⟨by first|rfl|go_num,(XK _ _).alloc (aa _) _⟩
end
section
open Go
def wpAnyL(g:Program)(a:Array Oper)(b:Exit->Act->World->Prop)(h:World->Prop)(L:List Nat):Nat->Array Bool->Act->World->Prop
 |0,s,c,d=>Region.ready .any a s=[]∧b .normal c d
 |f+1,s,c,d=>(Region.ready .any a s=[]->b .normal c d)∧∀e∈Region.ready .any a s,wpOp g a b e (λj i=>(e ∉ L->h i)∧wpAnyL g a b h L f (s.setIfInBounds e true) j i) c d
theorem xZ:∀(f:Nat) (b:Array Bool) (c:Act) (e:World),wpAnyL w d q u t f b c e->wpAny w .any d q f b c e
 |0,_,_,_,a=>a
 |f+1,_,_,_,a=>⟨a.1,λg h=>wpOp_mono (λi j k=>xZ f _ i j k.2) (a.2 g h)⟩
theorem GN(b:l.getD c false=true):l[c]?=some true:=by
 rcases aR c l.size with a|a
 ·rw[au a];simp[a]at b;rw[b]
 ·simp[Array.getElem?_eq_none a]at b
def Closed(e:Array Oper)(a:Array Bool):Prop:=∀b c,e[b]?=some c->a.getD b true=true->∀d∈c.after,Region.binds .any d=true->a[d.on]?=some true
def pO(a:Array Oper)(b:Array Bool):Bool:=(List.range a.size).all λc => !(b.getD c true) || ((a[c]?).map λe=>e.after.all λd => !(Region.binds .any d) || (b[d.on]? ==some true)).getD true
theorem IJ(f:pO d l=true):Closed d l:=by
 intro c g e h b i j
 have k:c<d.size:=by
  rcases aR c d.size with a|a
  ·exact a
  ·rw[bC a]at e;cases e
 have a:=aM.1 f c (bj.2 k);rw[h,e]at a;have c:(g.after.all λb => !(Region.binds .any b) || (l[b.on]? ==some true))=true:=by simpa using a
 have a:=Array.all_eq_true'.1 c b i;rw[j]at a;simpa using a
theorem Ce(m:Closed d l){j:Nat}(n:j∈Region.ready .any d l):Closed d (l.setIfInBounds j true):=by
 intro c o e f b g h;obtain⟨r,s,i,p⟩:=Yn.1 n
 have a:l[b.on]?=some true:=by
  by_cases k:j=c
  ·subst k;rw[e]at i;cases i;exact GN (p b g h)
  ·rw[getD_set_ne true k]at f;exact m c o e f b g h
 rw[jZ];split
 ·rename_i q;split
  ·rfl
  ·rename_i t;rw[<-q]at a;rw[bC E]at a;cases a
 ·exact a
def BB(a:Array Oper):Nat->Nat->Nat->Bool
 |0,j,b=>rp a j b
 |n+1,j,b=>rp a j b || (List.range a.size).any λc=>rp a j c && BB a n c b
theorem rq{j b:Nat}(e:d[j]?=some p)(f:∀a∈p.after,Region.binds .any a=true->l[a.on]?=some true)(c:rp d j b=true):l[b]?=some true:=by
 unfold rp at c;rw[e]at c;obtain⟨a,g,e⟩:=Array.any_eq_true'.1 (show(p.after.any λa=>Region.binds .any a && a.on==b)=true from c);rw[aI,br]at e;rw[<-e.2];exact f a g e.1
theorem uD(g:Closed d l):∀(n j:Nat) (b:Oper),d[j]?=some b->(∀f∈b.after,Region.binds .any f=true->l[f.on]?=some true)->BB d n j c=true->l[c]?=some true
 |0,j,b,e,hall,a=>rq e hall a
 |n+1,j,b,e,hall,a=>by
  have a:(rp d j c || (List.range d.size).any λb=>rp d j b && BB d n b c)=true:=a;rw[iB]at a;rcases a with a|a
  ·exact rq e hall a
  ·obtain⟨b,h,f⟩:=uV.1 a;rw[aI]at f;have i:=rq e hall f.1;have k:=bj.1 h;obtain⟨a,e⟩:∃a,d[b]?=some a:=⟨d[b],au k⟩;refine uD g n b a e (g b a e ?_) f.2;simp[Array.getD_eq_getD_getElem?,i]
def wZ(a:Array Oper)(L:List Nat)(b:Nat):Bool:=L.all λj=>BB a 3 j b
theorem L6{a j:Nat}(b:Closed d l)(c:wZ d t a=true)(e:l.getD a true=false)(f:j∈Region.ready .any d l):j ∉ t:=by
 intro a;obtain⟨_,g,h,i⟩:=Yn.1 f;have f:=uD b 3 j g h (λk m n=>GN (i k m n)) (aM.1 c j a);simp[Array.getD_eq_getD_getElem?,f]at e
theorem wpAnyL_first(v:d[c]?=some p)(B:∀(j:Nat) (C:Oper) m n,d[j]?=some C->C.op≠.select m n)(M:∀C e f,q (.panic C) (e.put p.dst z) f->q (.panic C) e f)(N:wZ d t c=true):∀(o:Nat) (a:Array Bool) (e:Act) (f:World),(∀j i,d[j]?=some i->j≠c->a.getD j true=false->(∀b∈i.after,Region.binds .any b=true->b.on≠c)->p.apart d i=true)->c∈Region.ready .any d a->Closed d a->YieldsIf w d u p z e->u f->wpAnyL w d q u t o (a.setIfInBounds c true) (e.put p.dst z) f->wpAnyL w d q u t (o+1) a e f:=by
 intro o;induction o with
 |zero=>
  intro a e f _ g _ s r H;refine⟨λx=>(by rw[x]at g;cases g),λj l=>?_⟩;by_cases h:j=c
  ·subst h;exact s.wpOp v r ⟨λ_=>r,H⟩
  ·have:=Ym l h;rw[H.1]at this;cases this
 |succ o O=>
  intro a e f D g E s r H;refine⟨λx=>(by rw[x]at g;cases g),λj l=>?_⟩;by_cases h:j=c
  ·subst h;exact s.wpOp v r ⟨λ_=>r,H⟩
  ·have k:=H.2 j (Ym l h);have F:j ∉ t:=L6 E N (Yn.1 g).1 l;obtain⟨G,i,y,e⟩:=Yn.1 l
   have P:∀b∈i.after,Region.binds .any b=true->b.on≠c:=λb f o r=>by
    have k:=e b f o;have I:=(Yn.1 g).1;rw[r]at k;rcases aR c a.size with A|A
    ·simp[A]at I k;rw[I]at k;cases k
    ·simp[Array.getElem?_eq_none A]at k
   have Q:=wpOp_putIf y (D j i y h G P) (λm n=>B c p m n v) (λm n=>B j i m n y) M s k
   have R:∀e ok,d[e]?=some ok->e≠c->(a.setIfInBounds j true).getD e true=false->
     (∀b∈ok.after,Region.binds .any b=true->b.on≠c)->p.apart d ok=true:=λe ok f i J k=>by
    refine D e ok f i ?_ k;by_cases K:j=e
    ·subst K;exact G
    ·rw[getD_set_ne true K]at J;exact J
   refine wpOp_mono (λe f b=>⟨λ_=>b.2.1 F,O (a.setIfInBounds j true) e f R (Ym g (Ne.symm h)) (Ce E l) b.1 (b.2.1 F) ?_⟩) Q;rw[tZ _ _ h];exact b.2.2
theorem mT(b:d[c]?=some p)(g:Region.noSelect d=true)(h:Region.free .any d l c=true)(i:(Region.ready .any d l).contains c=true)(j:pO d l=true)(k:wZ d t c=true)(n:∀f m a,q (.panic f) (m.put p.dst z) a->q (.panic f) m a)(o:u a)(r:YieldsIf w d u p z m)(f:wpAnyL w d q u t e (l.setIfInBounds c true) (m.put p.dst z) a):wpAnyL w d q u t (e+1) l m a:=
 wpAnyL_first b (YM g) n k e l m a (Region.free_spec b h) (by simpa using i) (IJ j) r o f
theorem lL(b:Nat){v:Value}(e:u a)(f:∀a,u a->(execOp m.eval p).run w a=.ok (.value v) a)(h:wpAnyL w d q u t c (l.setIfInBounds b true) (m.put p.dst v) a)(g:d[b]?=some p:=by rw[an];rfl)(i:Region.wanted p (yielded d m.tmps)=true:=by rfl)(j:Region.noSelect d=true:=by decide +kernel)(k:Region.free .any d l b=true:=by decide +kernel)(n:(Region.ready .any d l).contains b=true:=by decide +kernel)(o:pO d l=true:=by decide +kernel)(r:wZ d t b=true:=by decide +kernel)(s:∀b m a,q (.panic b) (m.put p.dst v) a->q (.panic b) m a:=by exact λ_ _ _ h=>h):wpAnyL w d q u t (c+1) l m a:=mT g j k n o r s e (I ⟨i,f⟩) h
theorem dT(b:Nat)(e:u a)(h:wpAnyL w d q u t c (l.setIfInBounds b true) (m.put p.dst z) a)(f:d[b]?=some p:=by rw[an];rfl)(g:Region.wanted p (yielded d m.tmps)=true:=by rfl)(i:∀a,u a->(execOp m.eval p).run w a=.ok (.value z) a:=by intro wz hSz;obtain⟨z0,z1,z2,z3,z4,z5⟩:=hSz;go_simp;first|done|with_reducible rfl)(j:Region.noSelect d=true:=by decide +kernel)(k:Region.free .any d l b=true:=by decide +kernel)(n:(Region.ready .any d l).contains b=true:=by decide +kernel)(o:pO d l=true:=by decide +kernel)(r:wZ d t b=true:=by decide +kernel)(s:∀b m a,q (.panic b) (m.put p.dst z) a->q (.panic b) m a:=by exact λ_ _ _ h=>h):wpAnyL w d q u t (c+1) l m a:=mT f j k n o r s e (I ⟨g,i⟩) h
theorem mI(b:Nat)(e:u a)(h:wpAnyL w d q u t c (l.setIfInBounds b true) (m.put p.dst z) a)(f:d[b]?=some p:=by rw[an];rfl)(g:Region.wanted p (yielded d m.tmps)=true:=by rfl)(i:∀a,u a->(execOp m.eval p).run w a=.ok (.value z) a:=by intro wz hSz;obtain⟨z0,z1,z2,z3,z4⟩:=hSz;go_simp;first|done|with_reducible rfl)(j:Region.noSelect d=true:=by decide +kernel)(k:Region.free .any d l b=true:=by decide +kernel)(n:(Region.ready .any d l).contains b=true:=by decide +kernel)(o:pO d l=true:=by decide +kernel)(r:wZ d t b=true:=by decide +kernel)(s:∀b m a,q (.panic b) (m.put p.dst z) a->q (.panic b) m a:=by exact λ_ _ _ h=>h):wpAnyL w d q u t (c+1) l m a:=mT f j k n o r s e (I ⟨g,i⟩) h
theorem tY(b:Nat)(e:u a)(h:wpAnyL w d q u t c (l.setIfInBounds b true) (m.put p.dst z) a)(f:d[b]?=some p:=by rw[an];rfl)(g:Region.wanted p (yielded d m.tmps)=true:=by rfl)(i:∀a,u a->(execOp m.eval p).run w a=.ok (.value z) a:=by intro wz hSz;obtain⟨z0,z1⟩:=hSz;go_simp;first|done|with_reducible rfl)(j:Region.noSelect d=true:=by decide +kernel)(k:Region.free .any d l b=true:=by decide +kernel)(n:(Region.ready .any d l).contains b=true:=by decide +kernel)(o:pO d l=true:=by decide +kernel)(r:wZ d t b=true:=by decide +kernel)(s:∀b m a,q (.panic b) (m.put p.dst z) a->q (.panic b) m a:=by exact λ_ _ _ h=>h):wpAnyL w d q u t (c+1) l m a:=mT f j k n o r s e (I ⟨g,i⟩) h
theorem bR{i:Nat}(k:Region.ready .any d l=[i])(r:d[i]?=some p)(s:∀g:Act->World->Prop,(∀f b,(i ∉ t->u b)->wpAnyL w d q u t c (l.setIfInBounds i true) f b->g f b)->if Region.wanted p (yielded d m.tmps)=true then Oper.wp w p m a g q else g (m.put p.dst undef) a):wpAnyL w d q u t (c+1) l m a:=by
 refine⟨λn=>(by rw[k]at n;cases n),λj o=>?_⟩;rw[k,fJ]at o;subst o;have e:=s (λf b=>(j ∉ t->u b)∧wpAnyL w d q u t c (l.setIfInBounds j true) f b) (λf b e v=>⟨e,v⟩);unfold wpOp;simp only[r];split
 ·rename_i h;rw[ai h]at e;exact I e
 ·rename_i h;rw[af h]at e;exact e
theorem fX(b:Region.ready .any d l=[])(c:q .normal m a):wpAnyL w d q u t 0 l m a:=⟨b,c⟩
theorem jb{S:World->Prop}(L:List Nat)(b:w.follows .mixedOrders=true)(e:wpAnyL w d q S L d.size (Array.replicate d.size false) m a.drew):(Code.region c d true).wp w q m a:=
 YT b (xZ _ _ _ _ e)
theorem xX{i k:Nat}(r:Region.ready .any d l=[i,k])(v:d[i]?=some p)(x:d[k]?=some T)(y:∀g:Act->World->Prop,(∀f b,(i ∉ t->u b)->wpAnyL w d q u t c (l.setIfInBounds i true) f b->g f b)->if Region.wanted p (yielded d m.tmps)=true then Oper.wp w p m a g q else g (m.put p.dst undef) a)(z:∀g:Act->World->Prop,(∀f b,(k ∉ t->u b)->wpAnyL w d q u t c (l.setIfInBounds k true) f b->g f b)->if Region.wanted T (yielded d m.tmps)=true then Oper.wp w T m a g q else g (m.put T.dst undef) a):wpAnyL w d q u t (c+1) l m a:=by
 refine⟨λs=>(by rw[r]at s;cases s),λj n=>?_⟩;rw[r,az,fJ]at n;rcases n with n|n
 ·subst n;have e:=y (λf b=>(j ∉ t->u b)∧wpAnyL w d q u t c (l.setIfInBounds j true) f b) (λf b e o=>⟨e,o⟩);unfold wpOp;simp only[v];split
  ·rename_i h;rw[ai h]at e;exact I e
  ·rename_i h;rw[af h]at e;exact e
 ·subst n;have e:=z (λf b=>(j ∉ t->u b)∧wpAnyL w d q u t c (l.setIfInBounds j true) f b) (λf b e o=>⟨e,o⟩);unfold wpOp;simp only[x];split
  ·rename_i h;rw[ai h]at e;exact I e
  ·rename_i h;rw[af h]at e;exact e
end
section
open Go.RowKit Go.Sort
def Wu(b c d e:Nat)(f g:Value)(h:Int)(a:World):Prop:=a.cell? ⟨b,2,none⟩=some f∧a.cell? ⟨b,3,none⟩=some g∧a.cell? ⟨c,d+e,none⟩=some (.int .i64 h)
def pV(a y:Nat->Int):Nat->List Int
 |0=>[]
 |r+1=>if y r= -1 then pV a y r else pV a y r++[a r]
theorem AM(a y:Nat->Int):∀r,(pV a y r).length<=r
 |0=>aa _
 |r+1=>by
  have:=AM a y r;show(if y r= -1 then pV a y r else pV a y r++[a r]).length<=r+1;split
  ·omega
  ·rw[aQ];show _+1<=_;omega
def gA(a:Nat)(b:Int)(c d:Value):Nat->Value:=λj=>if j=0 then .pointer (some ⟨a,0,none⟩)else if j=1 then .int .i64 b else if j=2 then c else d
structure KM(B8 B base F:Nat)(k:Int)(vx vy:Value)(lx ly:List Int)(w:World):Prop where
 res:∃f,bD B8 4 151 f w
 box:bD B 4 151 (gA F k vx vy) w
 ox:aV base vx lx w
 oy:aV base vy ly w
 ne:vx.ownBlock=none∨vx.ownBlock≠vy.ownBlock
 l8:B8<base
 lB:B<base
 n8:B8≠B
 le:base<=w.heap.size
theorem aV.lK(b:aV c z M a)(d:e<c):aV c z M (a.setCell ⟨e,k,none⟩ F):=
 b.same (λd f=>XR a ⟨e,k,none⟩ F d (by have:=(b.lt d f).1;intro g;simp at g;omega))
theorem KM.put{d g y:Int}(b:KM c e k A d z F M P a)(f:Below k a D)(h:aV k C (M++[g]) D)(i:aV k O (P++[y]) D)(j:C.ownBlock=none∨C.ownBlock≠O.ownBlock):KM c e k A d C O (M++[g]) (P++[y]) ((D.setCell ⟨e,2,none⟩ C).setCell ⟨e,3,none⟩ O):=by
 obtain⟨d,g⟩:=b.res;refine⟨⟨d,((g.below f b.l8).setOther _ b.n8 _).setOther _ b.n8 _⟩,?_,(h.lK b.lB).lK b.lB,(i.lK b.lB).lK b.lB,j,b.l8,b.lB,b.n8,?_⟩
 ·refine(((b.box.below f b.lB).store 2 C).store 3 O).congr (λd g=>?_);have:d=0∨d=1∨d=2∨d=3:=E;rcases this with rfl|rfl|rfl|rfl<;>rfl
 ·have:=f.size;have:=b.le;show k<=((D.setCell _ _).setCell _ _).heap.size;simp;omega
theorem Lb(b:z.ownBlock=none∨z.ownBlock≠F.ownBlock)(d:C.ownBlock=some c)(a:C.ownBlock=z.ownBlock∨C.ownBlock=some e)(h:∀f,F.ownBlock=some f->f<k)(i:k<=e):C.ownBlock≠F.ownBlock:=by
 intro g;rcases a with a|a
 ·rcases b with b|b
  ·rw[a,b]at d;cases d
  ·exact b (a.symm.trans g)
 ·have:=h e (g.symm.trans a);omega
def sa(a:Array Value):Nat->Value:=λj=>a.getD j undef
theorem iV(b:World)(a:Array Value)(c:TypeId)(d:Nat)(e:a.size=d):bD b.heap.size d c (sa a) (b.alloc (.cells a c)):=by
 refine⟨a,dR _,e,λc b=>?_⟩;unfold sa;rw[<-e]at b;simp[Array.getD,b]
def WE(c:Nat)(d y:Nat->Int)(e:Nat)(f:Int)(a:World)(g:Value)(wr:World):Prop:=∃(b:Nat) (h i:Value),b<=c∧g=.int .i64 (b:Nat)∧Hid (KM a.heap.size (a.heap.size+1) (a.heap.size+2) e f h i (pV d y b) (pV y y b) wr∧Below a.heap.size a wr)
theorem EF(b:Below c a D)(d:Below e D y)(f:c<=e):Below c a y:=b.trans (d.mono f)
theorem KM.mid(b:KM c e k A Q z F M P a)(g:Below a.heap.size a D)(h:D.grownBy y z.ownBlock)(l:Below y.heap.size y S):aV k F P S∧Below k a S:=by
 have n:=b.ox.below g (λd f=>(b.ox.lt d f).2);have o:=b.oy.below g (λd f=>(b.oy.lt d f).2)
 have m:aV k F P y:=o.kept h (by
  rcases b.ne with i|i
  ·rw[i];cases p:F.ownBlock
   ·exact I X
   ·exact J (λj=>by cases j)
  ·exact J (λj=>i j.symm))
 have i:Below k a D:=g.mono b.le;have j:Below k D y:=cH h (aK b.le g.size) (λd f=>(n.lt d f).1);refine⟨m.below l (λd f=>(m.lt d f).2),(i.trans j).trans (l.mono ?_)⟩;exact aK (aK b.le g.size) h.size
theorem KM.fin(f:KM c e k A Q z F M P a)(j:Below a.heap.size a D)(b:D.grownBy y z.ownBlock)(l:Below y.heap.size y S)(m:S.grownBy V F.ownBlock)(n:aV k C (M++[W]) y)(g:C.ownBlock=some x)(p:C.ownBlock=z.ownBlock∨C.ownBlock=some D.heap.size)(q:O.ownBlock=F.ownBlock∨O.ownBlock=some S.heap.size):Below k a V∧aV k C (M++[W]) V∧(C.ownBlock=none∨C.ownBlock≠O.ownBlock):=by
 have h:=f.mid j b l;have o:=Lb f.ne g p (λb d=>(f.oy.lt b d).2) j.size;have j:=n.below l (λb d=>(n.lt b d).2);refine⟨h.2.trans (cH m (aK f.le h.2.size) (λb d=>(h.1.lt b d).1)),j.kept m (J o),J (λi=>?_)⟩;rcases q with b|b
 ·exact o (i.trans b)
 ·have:=(j.lt x g).2;rw[g,b]at i;cases i;omega
theorem sJ(a:World)(b:Value):(a.alloc (.cells #[b] 3)).cell? ⟨a.heap.size,0,none⟩=some b:=oi
theorem LS{F:Nat}(M:Int){N y:Nat->Int}(hX:Arg B c e N a)(hY:Arg G c k y a)(hn:c<=64):Calls prog 102 #[.pointer (some ⟨F,0,none⟩),.slice B c e,.int .i64 M,.slice G c k] a λa7 w'=>∃R S,a7=.returned (.agg #[.pointer (some ⟨F,0,none⟩),.int .i64 M,R,S])∧aV a.heap.size R (pV N y c) w'∧aV a.heap.size S (pV y y c) w'∧Below a.heap.size a w':=by
 have⟨w0,a0⟩:=eaa ((a.alloc (.cells #[.pointer none,.int .i64 0,.slice none 0 0,.slice none 0 0] 151)).alloc (.cells #[.pointer (some ⟨F,0,none⟩),.int .i64 M,.slice none 0 0,.slice none 0 0] 151));have bp:Below a.heap.size a w0:=by rw[a0];exact((XK _ _).alloc (aa _) _).alloc oi _
 have bn:w0.heap.size=a.heap.size+2:=by rw[a0];simp
 have bs:Hid (KM a.heap.size (a.heap.size+1) (a.heap.size+2) F M (.slice none 0 0) (.slice none 0 0) [] [] w0):=by
  have⟨m,O⟩:=eaa (a.alloc (.cells #[.pointer none,.int .i64 0,.slice none 0 0,.slice none 0 0] 151));have s1:m.heap.size=a.heap.size+1:=by rw[O];simp
  have r8:bD a.heap.size 4 151 (sa #[.pointer none,.int .i64 0,.slice none 0 0,.slice none 0 0]) m:=by
   rw[O];exact iV _ _ _ _ X
  rw[<-O]at a0
  have r9:bD m.heap.size 4 151 (sa #[.pointer (some ⟨F,0,none⟩),.int .i64 M,.slice none 0 0,.slice none 0 0]) w0:=by
   rw[a0];exact iV _ _ _ _ X
  rw[s1]at r9;refine⟨⟨sa #[.pointer none,.int .i64 0,.slice none 0 0,.slice none 0 0],?_⟩,r9.congr (λbn ho=>?_),aV.nil _ _,aV.nil _ _,I X,E,E,E,E⟩
  ·rw[a0];exact r8.alloc _
  ·have:bn=0∨bn=1∨bn=2∨bn=3:=by omega
   rcases this with rfl|rfl|rfl|rfl<;>rfl
 have HA:Hid (Arg B c e N a∧Arg G c k y a∧Below a.heap.size a w0):=⟨hX,hY,bp⟩;clear hX hY bp;go_enter func102,ntmps102;go_wp2;rw[<-a0];clear a0;go_loopw [17] (λvi wr=>WE c N y F M a vi wr) (λvi _=>c-(intOf vi).toNat)
 case atStart=>exact⟨0,_,_,E,X,bs.out,HA.out.2.2⟩
 case round=>
  obtain⟨j,R,S,hr,rfl,d⟩:=hrel;rename World=>wr;clear bs;by_cases a0:j<c
  ·have bw:(j:Int)<(c:Int):=by omega
   have p:(0:Int)<=(j:Int):=E;obtain⟨bn,ow,bO,bQ⟩:=(HA.out.2.1.below d.out.2).sl j a0;obtain⟨bx,ox,bz,bA⟩:=(HA.out.1.below d.out.2).sl j a0;have gA:bx<a.heap.size:=HA.out.1.lt _ bz;subst bO bz;have⟨s,ao⟩:=eaa (y j);have⟨q,hx⟩:=eaa (N j);rw[<-ao]at bQ;rw[<-hx]at bA;by_cases hm:s= -1
   ·have HR:Hid (pV N y (j+1)=pV N y j∧pV y y (j+1)=pV y y j):=⟨ai (by rw[<-ao];exact hm),ai (by rw[<-ao];exact hm)⟩;subst hm;clear ao hx;go_wp2;go_roundw
    case rel=>exact⟨j+1,R,S,E,x9,by rw[HR.out.1,HR.out.2];exact d.out.1,d.out.2⟩
    case measure=>simp[intOf];omega
   ·have a0:(s != -1)=true:=dy.2 hm
    have HR:Hid (pV N y (j+1)=pV N y j++[q]∧pV y y (j+1)=pV y y j++[s]):=by
     refine⟨?_,?_⟩
     ·show(if y j= -1 then _ else _)=_;rw[af (by rw[<-ao];exact hm),hx]
     ·show(if y j= -1 then _ else _)=_;rw[af (by rw[<-ao];exact hm),ao]
    have a8:=AM N y j;have a9:=AM y y j;have⟨f,a0⟩:=eaa (pV N y j);have⟨l,bn⟩:=eaa (pV y y j);rw[<-a0, <-bn]at HR d;rw[<-a0]at a8;rw[<-bn]at a9;clear a0 bn ao hx hm;have r:(j:Int)<(c:Int):=bw;have ba:=d.out.1.le;have⟨o,bo⟩:=eaa (a.heap.size+2);rw[<-bo]at d ba
    have K:Hid (∀wx,Below o wr wx->Wu (a.heap.size+1) bx ox j R S q wx):=λwx ao=>by
     have h1:=d.out.1.box.below ao (by have:=d.out.1.lB;omega);refine⟨h1.cell 2 E,h1.cell 3 E,?_⟩;rw[(iN ao).1 bx (ox+j) E];exact bA
    have ao:a.heap.size+1<wr.heap.size:=E;go_wp2;refine XU ?_;have ab:=K.out _ (XK o wr).drew;refine jb (S:=Wu (a.heap.size+1) bx ox j R S q) [14,15,16] wL ?_;refine lL 0 (v:=?_) ab ?_ ?_;rotate_left
    ·intro U t;obtain⟨V,W,Y⟩:=t;go_simp;first|done|with_reducible rfl|(simp only[p,r,l7,ek,aN];first|done|with_reducible rfl)|(simp[p,r];first|done|with_reducible rfl)
    try simp only[Act.put,ae,ah,ag]
    refine lL 1 (v:=?_) ab ?_ ?_;rotate_left
    ·intro U t;obtain⟨V,W,Y⟩:=t;go_simp;first|done|with_reducible rfl|(simp only[p,r,l7,ek,aN];first|done|with_reducible rfl)|(simp[p,r];first|done|with_reducible rfl)
    try simp only[Act.put,ae,ah,ag]
    refine lL 2 (v:=?_) ab ?_ ?_;rotate_left
    ·intro U t;obtain⟨V,W,Y⟩:=t;go_simp;first|done|with_reducible rfl|(simp only[p,r,l7,ek,aN];first|done|with_reducible rfl)|(simp[p,r];first|done|with_reducible rfl)
    try simp only[Act.put,ae,ah,ag]
    refine lL 3 (v:=?_) ab ?_ ?_;rotate_left
    ·intro U t;obtain⟨V,W,Y⟩:=t;go_simp;first|done|with_reducible rfl|(simp only[p,r,l7,ek,aN];first|done|with_reducible rfl)|(simp[p,r];first|done|with_reducible rfl)
    try simp only[Act.put,ae,ah,ag]
    refine lL 4 (v:=?_) ab ?_ ?_;rotate_left
    ·intro U t;obtain⟨V,W,Y⟩:=t;go_simp;first|done|with_reducible rfl|(simp only[p,r,l7,ek,aN];first|done|with_reducible rfl)|(simp[p,r];first|done|with_reducible rfl)
    try simp only[Act.put,ae,ah,ag]
    refine lL 5 (v:=?_) ab ?_ ?_;rotate_left
    ·intro U t;obtain⟨V,W,Y⟩:=t;go_simp;first|done|with_reducible rfl|(simp only[p,r,l7,ek,aN];first|done|with_reducible rfl)|(simp[p,r];first|done|with_reducible rfl)
    try simp only[Act.put,ae,ah,ag]
    refine lL 8 (v:=?_) ab ?_ ?_;rotate_left
    ·intro U t;obtain⟨V,W,Y⟩:=t;go_simp;first|done|with_reducible rfl|(simp only[p,r,l7,ek,aN];first|done|with_reducible rfl)|(simp[p,r];first|done|with_reducible rfl)
    try simp only[Act.put,ae,ah,ag]
    refine lL 9 (v:=?_) ab ?_ ?_;rotate_left
    ·intro U t;obtain⟨V,W,Y⟩:=t;go_simp;first|done|with_reducible rfl|(simp only[p,r,l7,ek,aN];first|done|with_reducible rfl)|(simp[p,r];first|done|with_reducible rfl)
    try simp only[Act.put,ae,ah,ag]
    refine lL 10 (v:=?_) ab ?_ ?_;rotate_left
    ·intro U t;obtain⟨V,W,Y⟩:=t;go_simp;first|done|with_reducible rfl|(simp only[p,r,l7,ek,aN];first|done|with_reducible rfl)|(simp[p,r];first|done|with_reducible rfl)
    try simp only[Act.put,ae,ah,ag]
    refine xX (i:=6) (k:=11) wL Xe Xe (λi b=>?_) (λi b=>?_)
    ·have g:Hid _:=b;clear b;go_simp;have⟨m,O⟩:=eaa (wr.drew.alloc (.cells #[.int .i64 q] 3))
     have w:Hid (Below wr.heap.size wr m∧m.heap.size=wr.heap.size+1∧m.cell? ⟨wr.heap.size,0,none⟩=some (.int .i64 q)):=by
      rw[O];exact⟨(XK _ _).drew.alloc (aa _) _,oi,by have h:=sJ wr.drew (.int .i64 q);exact h⟩
     have bb:(wr.alloc (.cells #[.int .i64 q] 3)).drew=m:=by rw[O];rfl
     first|rw[bb]|rw[<-O]
     refine g.out _ _ (λ_=>K.out _ (w.out.1.mono ba)) ?_;clear g i;try simp only[Act.put,ae,ah,ag]
     clear O bb;refine xX (i:=7) (k:=11) wL Xe Xe (λi b=>?_) (λi b=>?_)
     ·refine dx x8 _ _ x8 o _ f x8 (d.out.1.ox.below w.out.1 (λbc hb=>(d.out.1.ox.lt bc hb).2)) ⟨wr.heap.size,0,none⟩ 1 q x8 w.out.2.2 E (by have:=w.out.2.1;omega) ?_;intro u v n ab ao a0;have a1:Hid (aV o (.slice (some ⟨u,0,none⟩) (f.length+1) v) (f++[q]) n∧m.grownBy n R.ownBlock∧(Value.ownBlock (.slice (some ⟨u,0,none⟩) (f.length+1) v)=R.ownBlock∨Value.ownBlock (.slice (some ⟨u,0,none⟩) (f.length+1) v)=some m.heap.size)):=⟨ab,ao,a0⟩;clear ab ao a0;have M2:Hid (Below o wr n):=(d.out.1.mid w.out.1 a1.out.2.1 (XK _ _)).2;refine b _ _ (λ_=>K.out _ (M2.out)) ?_;clear b i;try simp only[Act.put,ae,ah,ag]
      have bd:=K.out _ M2.out;refine lL 13 (v:=?_) bd ?_ ?_;rotate_left
      ·intro U t;obtain⟨V,W,Y⟩:=t;go_simp;first|done|with_reducible rfl|(simp only[p,r,l7,ek,aN];first|done|with_reducible rfl)|(simp[p,r];first|done|with_reducible rfl)
      try simp only[Act.put,ae,ah,ag]
      refine bR (i:=11) wL Xe (λi b=>?_);have g:Hid _:=b;clear b;go_simp;have⟨D,ao⟩:=eaa (n.alloc (.cells #[.int .i64 s] 3))
      have ab:Hid (Below n.heap.size n D∧D.heap.size=n.heap.size+1∧D.cell? ⟨n.heap.size,0,none⟩=some (.int .i64 s)):=by
       rw[ao];exact⟨(XK _ _).alloc (aa _) _,oi,oi⟩
      first|rw[<-ao]|skip
      refine g.out _ _ (λ_=>K.out _ ((d.out.1.mid w.out.1 a1.out.2.1 ab.out.1).2)) ?_;clear g i;try simp only[Act.put,ae,ah,ag]
      clear ao;refine bR (i:=12) wL Xe (λi b=>?_);refine dx x8 _ _ x8 o _ l x8 (d.out.1.mid w.out.1 a1.out.2.1 ab.out.1).1 ⟨n.heap.size,0,none⟩ 1 s x8 ab.out.2.2 E (by have:=(d.out.1.mid w.out.1 a1.out.2.1 ab.out.1).2.size;omega) ?_;intro x z A ar av ax;have Z:Hid (aV o (.slice (some ⟨x,0,none⟩) (l.length+1) z) (l++[s]) A∧D.grownBy A S.ownBlock∧(Value.ownBlock (.slice (some ⟨x,0,none⟩) (l.length+1) z)=S.ownBlock∨Value.ownBlock (.slice (some ⟨x,0,none⟩) (l.length+1) z)=some D.heap.size)):=⟨ar,av,ax⟩;clear ar av ax;have C:Hid (Below o wr A∧aV o (.slice (some ⟨u,0,none⟩) (f.length+1) v) (f++[q]) A∧_):=d.out.1.fin w.out.1 a1.out.2.1 ab.out.1 Z.out.2.1 a1.out.1 X a1.out.2.2 Z.out.2.2;refine b _ _ (λ_=>K.out _ (C.out.1)) ?_;clear b i;try simp only[Act.put,ae,ah,ag]
      have HF:Hid (KM a.heap.size (a.heap.size+1) o F M (.slice (some ⟨u,0,none⟩) (f.length+1) v) (.slice (some ⟨x,0,none⟩) (l.length+1) z) (f++[q]) (l++[s]) ((A.setCell ⟨a.heap.size+1,2,none⟩ (.slice (some ⟨u,0,none⟩) (f.length+1) v)).setCell ⟨a.heap.size+1,3,none⟩ (.slice (some ⟨x,0,none⟩) (l.length+1) z))):=d.out.1.put C.out.1 C.out.2.1 Z.out.1 C.out.2.2;have J:=d.out.1.box.below C.out.1 d.out.1.lB;have c2:=J.cell 2 E;have f2:=J.free 2;have c3:=J.cell 3 E;have f3:=J.free 3;clear J;have HW:Hid (Below a.heap.size a ((A.setCell ⟨a.heap.size+1,2,none⟩ (.slice (some ⟨u,0,none⟩) (f.length+1) v)).setCell ⟨a.heap.size+1,3,none⟩ (.slice (some ⟨x,0,none⟩) (l.length+1) z))):=((EF d.out.2 C.out.1 E).setCell (show a.heap.size<=a.heap.size+1 from kP _) _).setCell (show a.heap.size<=a.heap.size+1 from kP _) _;refine bR (i:=14) wL Xe (λi b=>?_);have g:Hid _:=b;clear b;go_simp;refine g.out _ _ (λh=>absurd oi h) ?_;clear g i;try simp only[Act.put,ae,ah,ag]
      refine bR (i:=15) wL Xe (λi b=>?_);have g:Hid _:=b;clear b;go_simp;refine g.out _ _ (λh=>absurd oi h) ?_;clear g i;try simp only[Act.put,ae,ah,ag]
      refine bR (i:=16) wL Xe (λi b=>?_);have g:Hid _:=b;clear b;go_simp;refine g.out _ _ (λh=>absurd oi h) ?_;clear g i;try simp only[Act.put,ae,ah,ag]
      refine fX wL (XY ?_);clear c2 f2 c3 f3;go_wp2;go_roundw
      case rel=>exact⟨j+1,_,_,E,x9,by rw[HR.out.1,HR.out.2, <-bo];exact HF.out,HW.out⟩
      case measure=>simp[intOf];omega
     ·have g:Hid _:=b;clear b;go_simp;have⟨n,a2⟩:=eaa (m.alloc (.cells #[.int .i64 s] 3))
      have ad:Hid (Below m.heap.size m n∧n.heap.size=m.heap.size+1∧n.cell? ⟨m.heap.size,0,none⟩=some (.int .i64 s)):=by
       rw[a2];exact⟨(XK _ _).alloc (aa _) _,oi,oi⟩
      first|rw[<-a2]|skip
      refine g.out _ _ (λ_=>K.out _ ((al w.out.1 ad.out.1).mono ba)) ?_;clear g i;try simp only[Act.put,ae,ah,ag]
      clear a2;have P:Hid (Below wr.heap.size wr n∧n.cell? ⟨wr.heap.size,0,none⟩=some (.int .i64 q)):=⟨al w.out.1 ad.out.1,((iN ad.out.1).1 wr.heap.size 0 (by have:=w.out.2.1;omega)).trans w.out.2.2⟩;refine bR (i:=7) wL Xe (λi b=>?_);refine dx x8 _ _ x8 o _ f x8 (d.out.1.ox.below P.out.1 (λbc hb=>(d.out.1.ox.lt bc hb).2)) ⟨wr.heap.size,0,none⟩ 1 q x8 P.out.2 E (by have:=P.out.1.size;omega) ?_;intro u v D bg bk bl;have Q:Hid (aV o (.slice (some ⟨u,0,none⟩) (f.length+1) v) (f++[q]) D∧n.grownBy D R.ownBlock∧(Value.ownBlock (.slice (some ⟨u,0,none⟩) (f.length+1) v)=R.ownBlock∨Value.ownBlock (.slice (some ⟨u,0,none⟩) (f.length+1) v)=some n.heap.size)):=⟨bg,bk,bl⟩;clear bg bk bl;have M3:Hid (Below o wr D):=(d.out.1.mid P.out.1 Q.out.2.1 (XK _ _)).2;refine b _ _ (λ_=>K.out _ (M3.out)) ?_;clear b i;try simp only[Act.put,ae,ah,ag]
      have bd:=K.out _ M3.out;refine lL 13 (v:=?_) bd ?_ ?_;rotate_left
      ·intro U t;obtain⟨V,W,Y⟩:=t;go_simp;first|done|with_reducible rfl|(simp only[p,r,l7,ek,aN];first|done|with_reducible rfl)|(simp[p,r];first|done|with_reducible rfl)
      try simp only[Act.put,ae,ah,ag]
      refine bR (i:=12) wL Xe (λi b=>?_);refine dx x8 _ _ x8 o _ l x8 (d.out.1.mid P.out.1 Q.out.2.1 (XK _ _)).1 ⟨m.heap.size,0,none⟩ 1 s x8 (Q.out.2.1.cell ad.out.2.2 (λa7=>by have h:m.heap.size<wr.heap.size:=(d.out.1.ox.lt _ a7.symm).2;have:=w.out.2.1;omega)) E (by have:=M3.out.size;omega) ?_;intro x z A ar av ax;have Z:Hid (aV o (.slice (some ⟨x,0,none⟩) (l.length+1) z) (l++[s]) A∧D.grownBy A S.ownBlock∧(Value.ownBlock (.slice (some ⟨x,0,none⟩) (l.length+1) z)=S.ownBlock∨Value.ownBlock (.slice (some ⟨x,0,none⟩) (l.length+1) z)=some D.heap.size)):=⟨ar,av,ax⟩;clear ar av ax;have C:Hid (Below o wr A∧aV o (.slice (some ⟨u,0,none⟩) (f.length+1) v) (f++[q]) A∧_):=d.out.1.fin P.out.1 Q.out.2.1 (XK _ _) Z.out.2.1 Q.out.1 X Q.out.2.2 Z.out.2.2;refine b _ _ (λ_=>K.out _ (C.out.1)) ?_;clear b i;try simp only[Act.put,ae,ah,ag]
      have HF:Hid (KM a.heap.size (a.heap.size+1) o F M (.slice (some ⟨u,0,none⟩) (f.length+1) v) (.slice (some ⟨x,0,none⟩) (l.length+1) z) (f++[q]) (l++[s]) ((A.setCell ⟨a.heap.size+1,2,none⟩ (.slice (some ⟨u,0,none⟩) (f.length+1) v)).setCell ⟨a.heap.size+1,3,none⟩ (.slice (some ⟨x,0,none⟩) (l.length+1) z))):=d.out.1.put C.out.1 C.out.2.1 Z.out.1 C.out.2.2;have J:=d.out.1.box.below C.out.1 d.out.1.lB;have c2:=J.cell 2 E;have f2:=J.free 2;have c3:=J.cell 3 E;have f3:=J.free 3;clear J;have HW:Hid (Below a.heap.size a ((A.setCell ⟨a.heap.size+1,2,none⟩ (.slice (some ⟨u,0,none⟩) (f.length+1) v)).setCell ⟨a.heap.size+1,3,none⟩ (.slice (some ⟨x,0,none⟩) (l.length+1) z))):=((EF d.out.2 C.out.1 E).setCell (show a.heap.size<=a.heap.size+1 from kP _) _).setCell (show a.heap.size<=a.heap.size+1 from kP _) _;refine bR (i:=14) wL Xe (λi b=>?_);have g:Hid _:=b;clear b;go_simp;refine g.out _ _ (λh=>absurd oi h) ?_;clear g i;try simp only[Act.put,ae,ah,ag]
      refine bR (i:=15) wL Xe (λi b=>?_);have g:Hid _:=b;clear b;go_simp;refine g.out _ _ (λh=>absurd oi h) ?_;clear g i;try simp only[Act.put,ae,ah,ag]
      refine bR (i:=16) wL Xe (λi b=>?_);have g:Hid _:=b;clear b;go_simp;refine g.out _ _ (λh=>absurd oi h) ?_;clear g i;try simp only[Act.put,ae,ah,ag]
      refine fX wL (XY ?_);clear c2 f2 c3 f3;go_wp2;go_roundw
      case rel=>exact⟨j+1,_,_,E,x9,by rw[HR.out.1,HR.out.2, <-bo];exact HF.out,HW.out⟩
      case measure=>simp[intOf];omega
    ·have g:Hid _:=b;clear b;go_simp;have⟨m,O⟩:=eaa (wr.drew.alloc (.cells #[.int .i64 s] 3))
     have w:Hid (Below wr.heap.size wr m∧m.heap.size=wr.heap.size+1∧m.cell? ⟨wr.heap.size,0,none⟩=some (.int .i64 s)):=by
      rw[O];exact⟨(XK _ _).drew.alloc (aa _) _,oi,by have h:=sJ wr.drew (.int .i64 s);exact h⟩
     have bb:(wr.alloc (.cells #[.int .i64 s] 3)).drew=m:=by rw[O];rfl
     first|rw[bb]|rw[<-O]
     refine g.out _ _ (λ_=>K.out _ (w.out.1.mono ba)) ?_;clear g i;try simp only[Act.put,ae,ah,ag]
     clear O bb;refine bR (i:=6) wL Xe (λi b=>?_);have g:Hid _:=b;clear b;go_simp;have⟨n,a2⟩:=eaa (m.alloc (.cells #[.int .i64 q] 3))
     have ad:Hid (Below m.heap.size m n∧n.heap.size=m.heap.size+1∧n.cell? ⟨m.heap.size,0,none⟩=some (.int .i64 q)):=by
      rw[a2];exact⟨(XK _ _).alloc (aa _) _,oi,oi⟩
     first|rw[<-a2]|skip
     refine g.out _ _ (λ_=>K.out _ ((al w.out.1 ad.out.1).mono ba)) ?_;clear g i;try simp only[Act.put,ae,ah,ag]
     clear a2;have P:Hid (Below wr.heap.size wr n∧n.cell? ⟨wr.heap.size,0,none⟩=some (.int .i64 s)):=⟨al w.out.1 ad.out.1,((iN ad.out.1).1 wr.heap.size 0 (by have:=w.out.2.1;omega)).trans w.out.2.2⟩;refine bR (i:=7) wL Xe (λi b=>?_);refine dx x8 _ _ x8 o _ f x8 (d.out.1.ox.below P.out.1 (λbc hb=>(d.out.1.ox.lt bc hb).2)) ⟨m.heap.size,0,none⟩ 1 q x8 ad.out.2.2 E (by have:=P.out.1.size;omega) ?_;intro u v D bg bk bl;have Q:Hid (aV o (.slice (some ⟨u,0,none⟩) (f.length+1) v) (f++[q]) D∧n.grownBy D R.ownBlock∧(Value.ownBlock (.slice (some ⟨u,0,none⟩) (f.length+1) v)=R.ownBlock∨Value.ownBlock (.slice (some ⟨u,0,none⟩) (f.length+1) v)=some n.heap.size)):=⟨bg,bk,bl⟩;clear bg bk bl;have M3:Hid (Below o wr D):=(d.out.1.mid P.out.1 Q.out.2.1 (XK _ _)).2;refine b _ _ (λ_=>K.out _ (M3.out)) ?_;clear b i;try simp only[Act.put,ae,ah,ag]
     have bd:=K.out _ M3.out;refine lL 13 (v:=?_) bd ?_ ?_;rotate_left
     ·intro U t;obtain⟨V,W,Y⟩:=t;go_simp;first|done|with_reducible rfl|(simp only[p,r,l7,ek,aN];first|done|with_reducible rfl)|(simp[p,r];first|done|with_reducible rfl)
     try simp only[Act.put,ae,ah,ag]
     refine bR (i:=12) wL Xe (λi b=>?_);refine dx x8 _ _ x8 o _ l x8 (d.out.1.mid P.out.1 Q.out.2.1 (XK _ _)).1 ⟨wr.heap.size,0,none⟩ 1 s x8 (Q.out.2.1.cell P.out.2 (λa7=>by have h:wr.heap.size<wr.heap.size:=(d.out.1.ox.lt _ a7.symm).2;omega)) E (by have:=M3.out.size;omega) ?_;intro x z A ar av ax;have Z:Hid (aV o (.slice (some ⟨x,0,none⟩) (l.length+1) z) (l++[s]) A∧D.grownBy A S.ownBlock∧(Value.ownBlock (.slice (some ⟨x,0,none⟩) (l.length+1) z)=S.ownBlock∨Value.ownBlock (.slice (some ⟨x,0,none⟩) (l.length+1) z)=some D.heap.size)):=⟨ar,av,ax⟩;clear ar av ax;have C:Hid (Below o wr A∧aV o (.slice (some ⟨u,0,none⟩) (f.length+1) v) (f++[q]) A∧_):=d.out.1.fin P.out.1 Q.out.2.1 (XK _ _) Z.out.2.1 Q.out.1 X Q.out.2.2 Z.out.2.2;refine b _ _ (λ_=>K.out _ (C.out.1)) ?_;clear b i;try simp only[Act.put,ae,ah,ag]
     have HF:Hid (KM a.heap.size (a.heap.size+1) o F M (.slice (some ⟨u,0,none⟩) (f.length+1) v) (.slice (some ⟨x,0,none⟩) (l.length+1) z) (f++[q]) (l++[s]) ((A.setCell ⟨a.heap.size+1,2,none⟩ (.slice (some ⟨u,0,none⟩) (f.length+1) v)).setCell ⟨a.heap.size+1,3,none⟩ (.slice (some ⟨x,0,none⟩) (l.length+1) z))):=d.out.1.put C.out.1 C.out.2.1 Z.out.1 C.out.2.2;have J:=d.out.1.box.below C.out.1 d.out.1.lB;have c2:=J.cell 2 E;have f2:=J.free 2;have c3:=J.cell 3 E;have f3:=J.free 3;clear J;have HW:Hid (Below a.heap.size a ((A.setCell ⟨a.heap.size+1,2,none⟩ (.slice (some ⟨u,0,none⟩) (f.length+1) v)).setCell ⟨a.heap.size+1,3,none⟩ (.slice (some ⟨x,0,none⟩) (l.length+1) z))):=((EF d.out.2 C.out.1 E).setCell (show a.heap.size<=a.heap.size+1 from kP _) _).setCell (show a.heap.size<=a.heap.size+1 from kP _) _;refine bR (i:=14) wL Xe (λi b=>?_);have g:Hid _:=b;clear b;go_simp;refine g.out _ _ (λh=>absurd oi h) ?_;clear g i;try simp only[Act.put,ae,ah,ag]
     refine bR (i:=15) wL Xe (λi b=>?_);have g:Hid _:=b;clear b;go_simp;refine g.out _ _ (λh=>absurd oi h) ?_;clear g i;try simp only[Act.put,ae,ah,ag]
     refine bR (i:=16) wL Xe (λi b=>?_);have g:Hid _:=b;clear b;go_simp;refine g.out _ _ (λh=>absurd oi h) ?_;clear g i;try simp only[Act.put,ae,ah,ag]
     refine fX wL (XY ?_);clear c2 f2 c3 f3;go_wp2;go_roundw
     case rel=>exact⟨j+1,_,_,E,x9,by rw[HR.out.1,HR.out.2, <-bo];exact HF.out,HW.out⟩
     case measure=>simp[intOf];omega
  ·have bw:¬(j:Int)<(c:Int):=by omega
   have bS:j=c:=E;subst bS;obtain⟨f8,T⟩:=d.out.1.res;have bm:=d.out.1.box;have⟨f,a8⟩:=eaa (pV N y j);have⟨l,a9⟩:=eaa (pV y y j);rw[<-a8, <-a9]at d;obtain⟨a3,a4,bB⟩:=d.out.1.ox.form;obtain⟨a5,a6,bE⟩:=d.out.1.oy.form;have⟨nx,bM⟩:=eaa (f.length);have⟨ny,bN⟩:=eaa (l.length);rw[<-bM]at bB;rw[<-bN]at bE;subst bB bE;have c0:wr.cell? ⟨a.heap.size+1,0,none⟩=some (.pointer (some ⟨F,0,none⟩)):=bm.cell 0 E;have c1:wr.cell? ⟨a.heap.size+1,1,none⟩=some (.int .i64 M):=bm.cell 1 E;have c2:wr.cell? ⟨a.heap.size+1,2,none⟩=some (.slice a3 nx a4):=bm.cell 2 E;have c3:wr.cell? ⟨a.heap.size+1,3,none⟩=some (.slice a5 ny a6):=bm.cell 3 E;have HZ:Hid (f=pV N y j∧l=pV y y j):=⟨a8,a9⟩;clear a8 a9 bM bN;have d0:=T.cell 0 E;have d1:=T.cell 1 E;have d2:=T.cell 2 E;have d3:=T.cell 3 E;have e0:=T.free 0;have e1:=T.free 1;have e2:=T.free 2;have e3:=T.free 3;clear T bm;go_wp2;have⟨b,i⟩:=eaa ((((wr.setCell ⟨a.heap.size,0,none⟩ (.pointer (some ⟨F,0,none⟩))).setCell ⟨a.heap.size,1,none⟩ (.int .i64 M)).setCell ⟨a.heap.size,2,none⟩ (.slice a3 nx a4)).setCell ⟨a.heap.size,3,none⟩ (.slice a5 ny a6));obtain⟨f8,T⟩:=d.out.1.res
   have g:bD a.heap.size 4 151 (upd (upd (upd (upd f8 0 (.pointer (some ⟨F,0,none⟩))) 1 (.int .i64 M)) 2 (.slice a3 nx a4)) 3 (.slice a5 ny a6)) b:=by
    rw[i];exact(((T.store 0 _).store 1 _).store 2 _).store 3 _
   have q0:b.cell? ⟨a.heap.size,0,none⟩=some (.pointer (some ⟨F,0,none⟩)):=g.cell 0 E;have q1:b.cell? ⟨a.heap.size,1,none⟩=some (.int .i64 M):=g.cell 1 E;have q2:b.cell? ⟨a.heap.size,2,none⟩=some (.slice a3 nx a4):=g.cell 2 E;have q3:b.cell? ⟨a.heap.size,3,none⟩=some (.slice a5 ny a6):=g.cell 3 E
   have H9:Hid (aV a.heap.size (.slice a3 nx a4) f b∧aV a.heap.size (.slice a5 ny a6) l b∧Below a.heap.size a b):=by
    have b:=d.out.1.l8;rw[i];exact⟨((((d.out.1.ox.lK b).lK b).lK b).lK b).mono E,((((d.out.1.oy.lK b).lK b).lK b).lK b).mono E,(((d.out.2.setCell (aa _) _).setCell (aa _) _).setCell (aa _) _).setCell (aa _) _⟩
   rw[<-i];clear i T g c0 c1 c2 c3 d0 d1 d2 d3 e0 e1 e2 e3;refine X2 (v:=.agg #[.pointer (some ⟨F,0,none⟩),.int .i64 M,.slice a3 nx a4,.slice a5 ny a6]) (by simp[results,results102,go_sem,q0,q1,q2,q3]) X ?_;exact⟨_,_,X,by rw[<-HZ.out.1];exact H9.out.1,by rw[<-HZ.out.2];exact H9.out.2.1,H9.out.2.2⟩
def zr(a:FD)(b:Nat->Nat)(c:Nat):Nat->Nat:=Ej a (λ_=>true) b c
theorem At:∀i,ct (λ_=>true) i=i
 |0=>rfl
 |i+1=>by show ct (λ_=>true) i+1=_;rw[At i]
theorem AX(e:bV b)(f:∀a,a<c->g a<b.q)(a:Nat)(h:a<=c):El b (zr b g a)∧Bd (a+1) (zr b g a)∧zr b g a a=1∧∀j,j<a->b.ev (zr b g a) (g j) (a+1)=0:=by
 have d:=EZ e (err:=λ_=>true) f a h;rw[At]at d;exact⟨d.1,d.2.1,d.2.2.1,λj a=>d.2.2.2 j a X⟩
theorem M5(a:bV b)(d:∀e,e<c->g e<b.q)(f:e<c):aZ b (e+1) (zr b g e) (sN b (g e))=zr b g (e+1):=by
 obtain⟨h,i,_,_⟩:=AX a d e E;rw[J1 a h (yd a (d e f)) i (yb _)];show aZ b 2 (sN b (g e)) (Ej b (λ_=>true) g e)=if true=true then aZ b 2 (sN b (g e)) (Ej b (λ_=>true) g e)else Ej b (λ_=>true) g e
 rw[ai X]
theorem Cs(a:World)(b c:Value):(a.alloc (.cells #[b,c] 3)).cell? ⟨a.heap.size,0,none⟩=some b∧(a.alloc (.cells #[b,c] 3)).cell? ⟨a.heap.size,1,none⟩=some c:=⟨oi,oi⟩
def WH(e:FD)(f:Nat)(g:Nat->Nat)(b:World)(h i:Value)(wr:World):Prop:=∃(a:Nat) (c:Option Addr) (d:Nat),a<=f∧h=.slice c (a+1:Nat) d∧i=.int .i64 (a:Nat)∧Hid (Arg c (a+1) d (λj=>((zr e g a j:Nat):Int)) wr∧Below b.heap.size b wr)
theorem AZ{s T:Nat}(F:b∈ak)(G:gO s T b R a)(I:Sl B c g a)(J:fp B a.heap.size)(K:∀f,f<c->g f<b.q)(v:c<=64):Calls prog 106 #[.pointer (some ⟨s,0,none⟩),.slice B c e] a λk m=>∃t u,k=.returned (.slice t (c+1:Nat) u)∧Arg t (c+1) u (λj=>((zr b g c j:Nat):Int)) m∧Below a.heap.size a m:=by
 have l:Hid (gO s T b R a∧b∈ak∧Sl B c g a∧fp B a.heap.size∧∀f,f<c->g f<b.q):=⟨G,F,I,J,K⟩;have⟨v,w⟩:=eaa (a.alloc (.cells #[.int .i64 1] 3))
 have M:Hid (Arg (some ⟨a.heap.size,0,none⟩) 1 1 (λj=>((zr b g 0 j:Nat):Int)) v∧Below a.heap.size a v):=by
  rw[w];refine⟨⟨λj V=>⟨a.heap.size,0,X,?_⟩,λi q=>by cases q;simp,E,λk=>(by cases k),E,E⟩,(XK _ _).alloc (aa _) _⟩;have:j=0:=E;subst this;show(a.alloc (.cells #[.int .i64 1] 3)).cell? ⟨a.heap.size,0,none⟩=some (Value.int .i64 ((1:Nat):Int));exact sJ a _
 clear G F I J K;go_enter func106,ntmps106;go_wp2;rw[<-w];clear w;go_loopw [5,11] (λW x wr=>WH b c g a W x wr) (λ_ x _=>c-(intOf x).toNat)
 case atStart=>exact⟨0,_,_,E,X,X,M.out⟩
 case round=>
  obtain⟨f,t,u,Y,rfl,rfl,r⟩:=hrel;rename World=>wr;clear M;by_cases z:f<c
  ·have Z:(f:Int)<(c:Int):=by omega
   have v:(0:Int)<=(f:Int):=E;obtain⟨v,w,ab,ad⟩:=(l.out.2.2.1.below r.out.2 l.out.2.2.2.1) f z;subst ab;have⟨i,q⟩:=eaa (g f);rw[<-q]at ad;have v:=l.out.1.below r.out.2 l.out.1.qY l.out.1.sg;have HS:Hid (Calls prog 105 #[.pointer (some ⟨s,0,none⟩)] wr λk m=>k=.returned (.int .i64 b.q)∧m=wr):=xG v;have w:i<b.q:=by rw[q];exact l.out.2.2.2.2 f z
   have ao:Hid (Calls prog 119 #[.pointer (some ⟨s,0,none⟩),.int .i64 (i:Nat)] wr λk m=>k=.returned (.int .i64 (b.ng i:Nat))∧∃c,m=wr.drewN c):=Hj l.out.2.1 v w;have N:Hid (i=g f∧i<b.q):=⟨q,w⟩;clear q v w;go_wp2_with fail;refine HS.out.mono ?_;rintro k m ⟨rfl,A⟩;have A:=A.symm;subst A;go_wp2_with fail;refine ao.out.mono ?_;rintro k w2 ⟨rfl,d,rfl⟩;have⟨n,C⟩:=eaa ((wr.drewN d).alloc (.cells #[.int .i64 (b.ng i:Nat),.int .i64 1] 3))
   have D:Hid (Below wr.heap.size wr n∧Arg (some ⟨wr.heap.size,0,none⟩) 2 2 (λj=>((sN b i j:Nat):Int)) n):=by
    rw[C];refine⟨(aO (XK _ _) d).alloc (aa _) _,λj V=>⟨wr.heap.size,0,X,?_⟩,λy hy=>by cases hy;simp,E,λk=>(by cases k),E,E⟩;have:j=0∨j=1:=E;rcases this with rfl|rfl
    ·exact(Cs (wr.drewN d) _ _).1
    ·exact(Cs (wr.drewN d) _ _).2
   have HM:Hid (Calls prog 109 #[.int .i64 b.q,.slice t (f+1:Nat) u,.slice (some ⟨wr.heap.size,0,none⟩) 2 2] n λk m=>∃o p,k=.returned (.tuple #[.slice o (f+1+1:Nat) p,.int .i64 0])∧Arg o (f+1+1) p (λj=>((zr b g (f+1) j:Nat):Int)) m∧Below n.heap.size n m):=by
    have n:=dE l.out.2.1;obtain⟨q,s,v,_⟩:=AX n l.out.2.2.2.2 f Y;obtain⟨w,O,m3,_⟩:=AX n l.out.2.2.2.2 (f+1) E;have w:=yd n N.out.2;have x:zc (f+1) (λj=>((zr b g f j:Nat):Int))=zr b g f:=pH s;have s:zc 2 (λj=>((sN b i j:Nat):Int))=sN b i:=pH (yb i)
    have ar:b.gu (f+1) (λj=>((zr b g f j:Nat):Int)) 2 (λj=>((sN b i j:Nat):Int))=0:=by
     unfold FD.gu;rw[ai (kQ q E)];exact kQ w E
    have q:cY (zr b g f) (f+1)=f+1:=jB (λ_=>by rw[dh,v];omega);have v:cY (sN b i) 2=2:=jB (λ_=>by show sN b i 1≠0;unfold sN;simp);have w:aZ b (f+1) (zr b g f) (sN b i)=zr b g (f+1):=by rw[N.out.1];exact M5 n l.out.2.2.2.2 z
    refine(Di l.out.2.1 (r.out.1.below D.out.1) D.out.2).mono ?_;rw[x,s,q,v,w];rintro k m ⟨av,⟨_,_,a0,rfl,P⟩|⟨_,Q,_⟩|⟨Q,_⟩⟩
    ·have i:cY (zr b g (f+1)) (f+1+2)=f+1+1:=EX (O.mono E) O (λ_=>by rw[dh,m3];omega);rw[i]at P;obtain⟨o,p,rfl,hA⟩:=P.arg E;exact⟨o,p,X,hA,av⟩
    ·omega
    ·exact absurd ar Q
   go_wp2_with fail
   rw[<-C];clear C;refine HM.out.mono ?_;rintro k S ⟨o,p,rfl,hA4,U⟩;have H4:Hid (Arg o (f+1+1) p (λj=>((zr b g (f+1) j:Nat):Int)) S∧Below a.heap.size a S):=⟨hA4,al (al r.out.2 D.out.1) U⟩;clear hA4 U;go_wp2;go_roundw
   case rel=>exact⟨f+1,o,p,E,X,x9,H4.out⟩
   case measure=>simp[intOf];omega
  ·have Z:¬(f:Int)<(c:Int):=by omega
   have ax:f=c:=E;subst ax;go_wp2;go_ret;exact⟨t,u,X,r.out.1,r.out.2⟩
theorem QM(j:b∈ak)(h:El b g)(k:El b v)(l:pK c g)(d:pK e v)(n:e≠0)(a:e<=c):El b (b.quo g c v e)∧pK (c-e+1) (b.quo g c v e)∧El b (b.BN g c v e)∧pK (cY (b.BN g c v e) c) (b.BN g c v e)∧cY (b.BN g c v e) c<e∧g=dk b (aZ b (c-e+1) (b.quo g c v e) v) (b.BN g c v e)∧cY (b.quo g c v e) (c-(cY v e-1))=c-e+1:=by
 have f:=dE j;have o:cY v e=e:=jB d.2;obtain⟨a,i⟩:∃a,e=a+1:=⟨e-1,E⟩;have m:Bd (a+1) v:=by rw[<-i];exact d.1
 have p:v a≠0:=by have:=d.2 n;rwa [i,dh]at this
 have n:b.mul (v a) (b.iv (v a))=1:=CW j (k a) p;unfold FD.quo FD.BN;rw[o,i,dh];obtain⟨d,o⟩:∃d,c=d+1+a:=⟨c-(a+1),E⟩;rw[show c-a=d+1 by omega,show c-(a+1)+1=d+1 by omega];have j:=Av f (b:=v) (l:=a) (inv:=b.iv (v a)) (d+1) h;have i:Bd a (iE b v a (b.iv (v a)) (d+1) g):=u3 f k m n (d+1) h (by rw[<-o];exact l.1);have n:=mQ (D:=b) (b:=v) (l:=a) (inv:=b.iv (v a)) (d+1) g
 have o:dV b v a (b.iv (v a)) (d+1) g d≠0:=λp=>by
  have q:=rA j (d+a);have k:b.ad (aZ b (d+1) (dV b v a (b.iv (v a)) (d+1) g) v (d+a)) (iE b v a (b.iv (v a)) (d+1) g (d+a))=g (d+a):=q;rw[nQ f m,p,qI f,i (d+a) E,b5 f (aX f)]at k;have:=l.2 E;rw[show c-1=d+a by omega]at this;exact this k.symm
 have k:pK (d+1) (dV b v a (b.iv (v a)) (d+1) g):=⟨n,λ_=>by rw[dh];exact o⟩
 have l:cY (iE b v a (b.iv (v a)) (d+1) g) c<=a:=by
  have:=mr i (show a<=c by omega);rw[this];exact eJ _ _
 exact⟨oo f _ _,k,rX f _ h,l5 (i.mono E),E,j.symm,jB k.2⟩
def yN(c:FD)(g d:Nat)(j y:Nat->Nat)(e:World)(k:Ending)(h:World):Prop:=Below e.heap.size e h∧∃i ok f a,k=.returned (.tuple #[i,.bool ok])∧cG e.heap.size i f a h∧El c a∧pK f a∧f<=128∧∀b,El c b->Bd d b->2*oX c d g j y b<=g-d->ok=true∧a=b
def VC(s:FD)(e t:Nat)(u y:Nat->Nat)(f:World)(v w x z:Value)(wr:World):Prop:=∃(g h i k:Option Addr) (l m n o a c d b:Nat) (p q r T:Nat->Nat),v=.slice g a l∧w=.slice h c m∧x=.slice i d n∧z=.slice k b o∧a<=65∧b<=65∧e+t+2<=2*a∧Hid (Arg g a l (λj=>((p j:Nat):Int)) wr∧Arg h c m (λj=>((q j:Nat):Int)) wr∧Arg i d n (λj=>((r j:Nat):Int)) wr∧Arg k b o (λj=>((T j:Nat):Int)) wr)∧Hid (Sn s e u y p q r T a c d b∧Below f.heap.size f wr)
theorem zK(f:b∈ak)(e a:Nat->Nat)(c d:Nat):El b (b.quo e c a d)∧Bd (c-(cY a d-1)) (b.quo e c a d):=by
 unfold FD.quo;exact⟨oo (dE f) _ _,mQ _ _⟩
def U9:Value->Nat
 |.slice _ a _=>a
 |_=>0
theorem Au:∀n,cY db n=0
 |0=>rfl
 |n+1=>by
  show(if db n=0 then cY db n else n+1)=0;rw[ai (show db n=0 from rfl),Au n]
theorem vT{P T:Nat}(hD:b∈ak)(a1:gO P T b R a){l y:Nat->Nat}(hX:Arg B c k (λj=>((l j:Nat):Int)) a)(hY:Arg G c A (λj=>((y j:Nat):Int)) a)(hn:c<=64)(I:1<=e)(hk:e<=c)(hx:∀f,f<c->l f<b.q)(bn:∀f j,f<c->j<c->f≠j->l f≠l j)(hy:∀f,f<c->y f<b.q):Calls prog 88 #[.agg #[.pointer (some ⟨P,0,none⟩),.int .i64 (e:Nat),.slice B c k,.slice G c A]] a (yN b c e l y a):=by
 have⟨p,ao⟩:=eaa (a.alloc (.cells #[.pointer (some ⟨P,0,none⟩),.int .i64 (e:Nat),.slice B c k,.slice G c A] 151));have ar:Below a.heap.size a p:=by rw[ao];exact(XK _ _).alloc (aa _) _
 have I:p.heap.size=a.heap.size+1:=by rw[ao];simp
 have r0:bD a.heap.size 4 151 (sa #[.pointer (some ⟨P,0,none⟩),.int .i64 (e:Nat),.slice B c k,.slice G c A]) p:=by rw[ao];exact iV _ _ _ _ X
 have av:Hid (∀I,Below p.heap.size p I->I.cell? ⟨a.heap.size,0,none⟩=some (.pointer (some ⟨P,0,none⟩))∧I.cell? ⟨a.heap.size,1,none⟩=some (.int .i64 (e:Nat))∧I.cell? ⟨a.heap.size,2,none⟩=some (.slice B c k)∧I.cell? ⟨a.heap.size,3,none⟩=some (.slice G c A)):=λI hb=>by
  have h:=r0.below hb E;exact⟨h.cell 0 E,h.cell 1 E,h.cell 2 E,h.cell 3 E⟩
 have s:Hid (b∈ak∧gO P T b R p∧Arg B c k (λj=>((l j:Nat):Int)) p∧Arg G c A (λj=>((y j:Nat):Int)) p∧Below a.heap.size a p):=⟨hD,a1.below ar a1.qY a1.sg,hX.below ar,hY.below ar,ar⟩;have Z:Hid ((∀f,f<c->l f<b.q)∧(∀f j,f<c->j<c->f≠j->l f≠l j)∧∀f,f<c->y f<b.q):=⟨hx,bn,hy⟩;have a2:Hid (∀I,Below p.heap.size p I->gO P T b R I):=λI hb=>s.out.2.1.below hb s.out.2.1.qY s.out.2.1.sg
 clear hD a1 hX hY ar r0 hx bn hy;obtain⟨b0,b1,b2,b3⟩:=av.out p (XK _ _);go_enter func88,ntmps88;go_wp2_with fail;rw[<-ao];refine(xG (a2.out p (XK _ _))).mono ?_;rintro m u ⟨rfl,hw⟩;have hw:=hw.symm;subst hw;clear ao;have I:a.heap.size<p.heap.size:=E;go_wp2_with fail;refine(AZ s.out.1 (a2.out p (XK _ _)) s.out.2.2.1.sl s.out.2.2.1.lt Z.out.1 hn).mono ?_;rintro m w1 ⟨ax,ca,rfl,hA1,bb⟩;have H1:Hid (Below p.heap.size p w1∧Arg ax (c+1) ca (λj=>((zr b l c j:Nat):Int)) w1):=⟨bb,hA1⟩;obtain⟨b0,b1,b2,b3⟩:=av.out w1 bb;clear hA1 bb;go_wp2_with fail
 have ao:Hid (Calls prog 107 #[.int .i64 b.q,.slice B c k,.slice G c A] w1 λm u=>Below w1.heap.size w1 u∧∃C Q S,m=.returned (.tuple #[C,.int .i64 0])∧cG w1.heap.size C Q S u∧Q<=c∧El b S∧pK Q S∧∀j,j<c->b.vl S (l j)=y j):=by
  have i:=dE s.out.1
  have I:b.jG c (λj=>((l j:Nat):Int))=0:=by
   unfold FD.jG;rw[af E,ai (iM.2 (λj v=>jT (Z.out.1 j v)))]
  have ar:b.jG c (λj=>((y j:Nat):Int))=0:=by
   unfold FD.jG;rw[af E,ai (iM.2 (λj v=>jT (Z.out.2.2 j v)))]
  have ab:b.gu c (λj=>((l j:Nat):Int)) c (λj=>((y j:Nat):Int))=0:=by
   unfold FD.gu;rw[ai I];exact ar
  have I:∀j,j<c->zc c (λj=>((l j:Nat):Int)) j=l j:=λj v=>by unfold zc;rw[ai v];exact aN _
  have zy:∀j,j<c->zc c (λj=>((y j:Nat):Int)) j=y j:=λj v=>by unfold zc;rw[ai v];exact aN _
  refine(D9 s.out.1 (s.out.2.2.1.below H1.out.1) (s.out.2.2.2.1.below H1.out.1)).mono ?_;rintro m u ⟨U,⟨_,_,_,C,Q,S,h1,J,h3,h4,h5,h6⟩|⟨_,_,x,_⟩|⟨_,x,_⟩|⟨x,_⟩⟩
  ·exact⟨U,C,Q,S,h1,J,h3,h4,h5,λj v=>by have:=h6 j v;rw[I j v,zy j v]at this;exact this⟩
  ·obtain⟨f,j,ar,v,m⟩:=x;rw[I f E,I j v]at m;exact absurd m (Z.out.2.1 f j E v E)
  ·exact absurd X x
  ·exact absurd ab x
 refine ao.out.mono ?_;rintro m w2 ⟨bp,v2,Q,S,rfl,bs,cf,bw,a3,bx⟩;obtain⟨bo,cb,rfl,hA2⟩:=bs.arg E;have⟨w3,a4⟩:=eaa (w2.alloc (.cells #[.int .i64 1] 3))
 have H3:Hid (VC b c e l y a (.slice ax (c+1:Nat) ca) (.slice bo Q cb) (.slice none 0 0) (.slice (some ⟨w2.heap.size,0,none⟩) 1 1) w3∧Below p.heap.size p w3):=by
  have i:=dE s.out.1;have I:Below w2.heap.size w2 w3:=by rw[a4];exact(XK _ _).alloc (aa _) _
  have bc:=al bp I;obtain⟨n1,n2,n3,n4⟩:=AX i Z.out.1 c (aa _);refine⟨⟨ax,bo,none,some ⟨w2.heap.size,0,none⟩,ca,cb,0,1,c+1,Q,0,1,zr b l c,S,db,kJ,X,X,X,X,E,E,E,⟨H1.out.2.below bc,hA2.below I,Pl _ _,?_⟩,⟨n1,bw,mw i,AB i,⟨n2,λ_=>by rw[dh,n3];omega⟩,a3,λ_ _=>rfl,⟨λj v=>af E,λ_=>by show kJ 0≠0;unfold kJ;simp⟩,E,E,E,λf hi bz hN bA hM=>?_,λf hi bz hN bA hM=>?_⟩,?_⟩,al H1.out.1 bc⟩
  ·rw[a4];refine⟨λj v=>⟨w2.heap.size,0,X,?_⟩,λbN hx=>by cases hx;simp,E,λm=>(by cases m),E,E⟩;have:j=0:=E;subst this;exact sJ w2 _
  ·rw[dQ i (l f) n2 hN,n4 f hi,E5 i,gI i]
  ·have I:b.ev S (l f) bz=y f:=by
    rw[dQ i (l f) a3.1 hN, <-dQ i (l f) a3.1 (show Q<=1000 by omega)];exact bx f hi
   have Q:b.ev kJ (l f) bA=1:=by
    rw[dQ i (l f) (show Bd 1 kJ from λj v=>af E) hM];show b.ad 0 (b.mul 1 1)=1;rw[mM i (gV i),gC i (gV i)]
   rw[I,Q,mM i (Z.out.2.2 f hi)]
  ·exact al s.out.2.2.2.2 (al H1.out.1 bc)
 obtain⟨b0,b1,b2,b3⟩:=av.out w3 H3.out.2;have f:a.heap.size<w3.heap.size:=by have:=H3.out.2.size;omega
 clear bs hA2 bp bw a3 bx H1;go_wp2;rw[<-a4];clear a4;go_loopw [5,6,8,9] (λva vb vs vt wr=>VC b c e l y a va vb vs vt wr∧Hid (Below p.heap.size p wr)) (λ_ vb _ _ _=>U9 vb)
 case atStart=>exact⟨H3.out.1,H3.out.2⟩
 case round=>
  obtain⟨⟨ax,bo,so,tt,ca,cb,cs,a5,D,q,lS,r,a0,z,a6,o,rfl,rfl,rfl,rfl,cl,cm,hA2,V,W⟩,HW⟩:=hrel;rename World=>wr;clear H3 b0 b1 b2 b3;obtain⟨b0,b1,b2,b3⟩:=av.out wr HW.out;have f:q<D:=W.out.1.lt;have f:a.heap.size<wr.heap.size:=by have:=HW.out.size;omega
  by_cases hc:c+e+2<=2*q
  ·have bd:(c:Int)+(e:Int)<=2*((q:Int)-1):=by omega
   have bO:2*((q:Int)-1)>=(c:Int)+(e:Int):=bd;have d:=W.out.1;obtain⟨K,q2,q3,q4,q5,q6,q7⟩:=QM s.out.1 d.eA d.eB d.tA d.tB E E;have⟨t,hQ⟩:=eaa (b.quo a0 D z q);have⟨M,hC⟩:=eaa (b.BN a0 D z q);have⟨g,bg⟩:=eaa (D-q+1);have⟨F,bk⟩:=eaa (cY M D)
   have bQ:Hid (Calls prog 108 #[.int .i64 b.q,.slice ax D ca,.slice bo q cb] wr λm u=>Below wr.heap.size wr u∧∃qo qc N O,m=.returned (.tuple #[.slice qo g qc,.slice N F O,.int .i64 0])∧Arg qo g qc (λj=>((t j:Nat):Int)) u∧Arg N F O (λj=>((M j:Nat):Int)) u):=by
    have f:zc D (λj=>((a0 j:Nat):Int))=a0:=pH d.tA.1;have zB:zc q (λj=>((z j:Nat):Int))=z:=pH d.tB.1
    have ab:b.gu D (λj=>((a0 j:Nat):Int)) q (λj=>((z j:Nat):Int))=0:=by
     unfold FD.gu;rw[ai (kQ d.eA E)];exact kQ d.eB E
    have h:=Dg s.out.1 V.out.1 V.out.2.1;rw[f,zB]at h;refine h.mono ?_;rintro m u ⟨U,⟨_,_,C,cp,rfl,J,h3⟩|⟨_,x,_⟩|⟨x,_⟩⟩
    ·rw[q7, <-bg, <-hQ]at J;rw[<-hC, <-bk]at h3;obtain⟨qo,qc,rfl,a7⟩:=J.arg E;obtain⟨N,O,rfl,a8⟩:=h3.arg (by have:=eJ M D;omega);exact⟨U,qo,qc,N,O,X,a7,a8⟩
    ·exact absurd x (by rw[jB d.tB.2];omega)
    ·exact absurd ab x
   rw[<-hQ]at K q2 q6;rw[<-hC, <-bk]at q4 q5;rw[<-hC]at q3 q6;rw[<-bg]at q2 q6;have HS:Hid (Sn b c l y z M o (iF b a6 (aZ b g t o)) q F r (g+r-1)∧El b t∧pK g t∧g+q=D+1):=⟨d.step (dE s.out.1) q2 q3 q4 q5 q6 E,K,q2,E⟩;have f:g<=65:=E;have f:F<q:=q5;have bS:r+D=c+2:=d.sum;clear K q2 q3 q4 q5 q6 q7 hQ hC bk d bg;go_wp2_with fail;refine bQ.out.mono ?_;rintro m w4 ⟨bB,qo,qc,N,O,rfl,a7,a8⟩;have H4:Hid (Below wr.heap.size wr w4∧Arg qo g qc (λj=>((t j:Nat):Int)) w4∧Arg N F O (λj=>((M j:Nat):Int)) w4):=⟨bB,a7,a8⟩;clear bB a7 a8;have⟨n,f⟩:=eaa (g+r-1);have bY:n<=65:=by have:=HS.out.2.2.2;omega
   have ad:Hid (n=g+r-1):=f;clear f bS
   have b4:Hid (Calls prog 109 #[.int .i64 b.q,.slice qo g qc,.slice tt r a5] w4 λm u=>Below w4.heap.size w4 u∧∃po pc,m=.returned (.tuple #[.slice po n pc,.int .i64 0])∧Arg po n pc (λj=>((aZ b g t o j:Nat):Int)) u):=by
    have i:=dE s.out.1;have d:=W.out.1;have I:zc g (λj=>((t j:Nat):Int))=t:=pH HS.out.2.2.1.1;have zT:zc r (λj=>((o j:Nat):Int))=o:=pH d.tT.1
    have ab:b.gu g (λj=>((t j:Nat):Int)) r (λj=>((o j:Nat):Int))=0:=by
     unfold FD.gu;rw[ai (kQ HS.out.2.1 E)];exact kQ d.eT E
    have Q:cY t g=g:=jB HS.out.2.2.1.2;have d2:cY o r=r:=jB d.tT.2;have a9:Bd n (aZ b g t o):=by rw[ad.out];exact ko i d.tT.1 g
    have b6:aZ b g t o (n-1)≠0:=by
     obtain⟨K,D⟩:∃K,g=K+1:=⟨g-1,by have:=HS.out.2.2.2;omega⟩;have f:=d.ls;obtain⟨f,v⟩:∃f,r=f+1:=⟨r-1,E⟩;have m:=nQ i (a:=t) (n:=K) (b:=o) (m:=f) (by rw[<-v];exact d.tT.1);rw[ad.out,D,v,show K+1+(f+1)-1-1=K+f by omega,m];intro S;have ao:t K≠0:=by have:=HS.out.2.2.1.2 E;rwa [D,dh]at this
     have D:o f≠0:=by have:=d.tT.2 E;rwa [v,dh]at this
     exact D (oz i ao (d.eT _) (aX i) (by rw[S,gI i]))
    have h:=Di s.out.1 H4.out.2.1 (V.out.2.2.2.below H4.out.1);rw[I,zT,Q,d2]at h;refine h.mono ?_;rintro m u ⟨U,⟨_,_,C,rfl,J⟩|⟨_,x,_⟩|⟨x,_⟩⟩
    ·rw[EX (a9.mono (show n<=g+r by have:=ad.out;omega)) a9 (λ_=>b6)]at J;obtain⟨po,pc,rfl,ba⟩:=J.arg E;exact⟨U,po,pc,X,ba⟩
    ·have:=ad.out;omega
    ·exact absurd ab x
   go_wp2_with fail
   refine b4.out.mono ?_;rintro m w ⟨bl,po,pc,rfl,ba⟩;have Y:Hid (Below wr.heap.size wr w∧Arg po n pc (λj=>((aZ b g t o j:Nat):Int)) w∧Arg N F O (λj=>((M j:Nat):Int)) w):=⟨al H4.out.1 bl,ba,H4.out.2.2.below bl⟩;clear bl ba b0 b1 b2 b3;obtain⟨b0,b1,b2,b3⟩:=av.out w (al HW.out Y.out.1);have f:a.heap.size<w.heap.size:=by have:=Y.out.1.size;omega
   have f:max lS n=n:=by have:=W.out.1.ls;have:=ad.out;have:=HS.out.2.2.2;omega
   have v:Hid (max lS n=n):=f;clear f
   have b7:Hid (Calls prog 110 #[.pointer (some ⟨P,0,none⟩),.slice so lS cs,.int .i64 1,.slice po n pc] w λm u=>m=.returned (.slice (some ⟨w.heap.size,0,none⟩) n n)∧Arg (some ⟨w.heap.size,0,none⟩) n n (λj=>((iF b a6 (aZ b g t o) j:Nat):Int)) u∧Below w.heap.size w u):=by
    have i:=dE s.out.1;have d:=W.out.1;have a9:Bd n (aZ b g t o):=by rw[ad.out];exact ko i d.tT.1 g
    have h:=IQ s.out.1 (ca:=cs) (cb:=pc) (t:=1) (a2.out w (al HW.out Y.out.1)) (show lS<=1000 by have:=d.ls;omega) (show n<=1000 by omega) d.eS (dG i t o g) d.bS a9 (V.out.2.2.1.below Y.out.1).sl Y.out.2.1.sl (V.out.2.2.1.below Y.out.1).lt Y.out.2.1.lt (gV i);rw[v.out,rb i (dG i t o g)]at h;refine h.mono ?_;rintro m u ⟨rfl,hr,U⟩;exact⟨X,⟨hr.sl (aa _),λbN hx=>by cases hx;exact hr.lt,E,λm=>(by cases m),aa _,E⟩,U⟩
   go_wp2_with fail
   refine b7.out.mono ?_;rintro m w6 ⟨rfl,hA6,bm⟩;have f:Hid (Below wr.heap.size wr w6∧Arg (some ⟨w.heap.size,0,none⟩) n n (λj=>((iF b a6 (aZ b g t o) j:Nat):Int)) w6∧Arg N F O (λj=>((M j:Nat):Int)) w6):=⟨al Y.out.1 bm,hA6,Y.out.2.2.below bm⟩
   have HR:Hid (VC b c e l y a (.slice bo q cb) (.slice N F O) (.slice tt r a5) (.slice (some ⟨w.heap.size,0,none⟩) n n) w6∧Below p.heap.size p w6):=by
    refine⟨⟨bo,N,tt,some ⟨w.heap.size,0,none⟩,cb,O,a5,n,q,F,r,n,z,M,o,iF b a6 (aZ b g t o),X,X,X,X,E,bY,hc,⟨V.out.2.1.below f.out.1,f.out.2.2,V.out.2.2.2.below f.out.1,f.out.2.1⟩,?_,al W.out.2 f.out.1⟩,al HW.out f.out.1⟩;rw[ad.out];exact HS.out.1
   clear hA6 bm;go_wp2;go_roundw
   case rel=>exact⟨HR.out.1,HR.out.2⟩
   case measure=>simp[U9];omega
  ·have bd:¬(c:Int)+(e:Int)<=2*((q:Int)-1):=by omega
   have bO:¬2*((q:Int)-1)>=(c:Int)+(e:Int):=bd
   have b8:Hid (Calls prog 111 #[.pointer (some ⟨P,0,none⟩),.slice bo q cb,.slice tt r a5] wr (yN b c e l y wr)):=by
    have i:=dE s.out.1;have d:=W.out.1;have zB:zc q (λj=>((z j:Nat):Int))=z:=pH d.tB.1;have zT:zc r (λj=>((o j:Nat):Int))=o:=pH d.tT.1
    have ab:b.gu q (λj=>((z j:Nat):Int)) r (λj=>((o j:Nat):Int))=0:=by
     unfold FD.gu;rw[ai (kQ d.eB E)];exact kQ d.eT E
    have d2:cY o r=r:=jB d.tT.2;have bE:r≠0:=by have:=d.ls;omega
    have h:=A9 s.out.1 (a2.out wr HW.out) V.out.2.1 V.out.2.2.2 ab (by rw[zT,d2];exact bE);rw[zB,zT]at h;refine h.mono ?_;rintro m u ⟨C,rfl,ho,U⟩;obtain⟨f,g⟩:=zK s.out.1 z o q r;refine⟨U,C,_,_,_,X,ho,f,l5 g,by have:=eJ (b.quo z q o r) (q-(cY o r-1));omega,λu n p t=>?_⟩;have f:=d.last i hk hA2 E Z.out.1 Z.out.2.1 t;obtain⟨u1,u2⟩:=zJ s.out.1 d.eB d.tB.1 d.eT d.tT.1 (by rw[d2];exact bE) n p f;refine⟨?_,u1⟩;rw[u2];exact aU (Au q)
   go_wp2_with fail
   refine b8.out.mono ?_;rintro m w7 ⟨bM,C,ok,lf,cc,rfl,h1,J,h3,h4,h5⟩;have H7:Hid (yN b c e l y a (.returned (.tuple #[C,.bool ok])) w7):=⟨al W.out.2 bM,C,ok,lf,cc,X,h1.mono W.out.2.size,J,h3,h4,h5⟩;clear bM h1 J h3 h4 h5;go_wp2
   go_ret2
   exact H7.out
def lD(y:Nat->Int):Nat->List Nat
 |0=>[]
 |r+1=>if y r= -1 then lD y r else lD y r++[r]
theorem ou(a y:Nat->Int):∀r,pV a y r=(lD y r).map a
 |0=>rfl
 |r+1=>by
  show(if y r= -1 then pV a y r else pV a y r++[a r])=(if y r= -1 then lD y r else lD y r++[r]).map a;by_cases b:y r= -1
  ·rw[ai b,ai b];exact ou a y r
  ·rw[af b,af b,dN,ou a y r];rfl
theorem vf{y:Nat->Int}:∀r i,i∈lD y r->i<r∧y i≠ -1
 |0,i,a=>by simp[lD]at a
 |r+1,i,a=>by
  have a:i∈(if y r= -1 then lD y r else lD y r++[r]):=a;by_cases b:y r= -1
  ·rw[ai b]at a;have:=vf r i a;exact⟨E,this.2⟩
  ·rw[af b]at a;rcases j4.1 a with a|a
   ·have:=vf r i a;exact⟨E,this.2⟩
   ·rw[fJ.1 a];exact⟨E,b⟩
theorem Fj(y:Nat->Int):∀r,(lD y r).Pairwise (·< ·)
 |0=>List.Pairwise.nil
 |r+1=>by
  show(if y r= -1 then lD y r else lD y r++[r]).Pairwise (·< ·);by_cases a:y r= -1
  ·rw[ai a];exact Fj y r
  ·rw[af a,List.pairwise_append];refine⟨Fj y r,oi,λa b d c=>?_⟩;rw[fJ.1 c];exact(vf r a b).1
theorem G3(y:Nat->Int):∀r,(lD y r).length<=r
 |0=>aa _
 |r+1=>by
  have:=G3 y r;show(if y r= -1 then lD y r else lD y r++[r]).length<=r+1;split
  ·omega
  ·rw[aQ];show _+1<=_;omega
theorem Mt{a:Nat->Int}:t.map a=zl t.length λj=>a (t.getD j 0):=by
 refine m9 λj=>?_
 by_cases a:j<t.length
 ·rw[kr _ _ _ a,ck,aE a,aG,aE a];rfl
 ·rw[ck,en E,en Xl];rfl
theorem Fi(y:Nat->Int)(a:Nat->Bool):∀r,ct (λj=>a ((lD y r).getD j 0)) (lD y r).length=ct (λb => !decide (y b= -1) && a b) r
 |0=>rfl
 |r+1=>by
  have c:=Fi y a r;have d:lD y (r+1)=if y r= -1 then lD y r else lD y r++[r]:=rfl
  show _=ct (λb => !decide (y b= -1) && a b) r+if(!decide (y r= -1) && a r)=true then 1 else 0
  rw[d, <-c];by_cases b:y r= -1
  ·rw[ai b,af (by simp[b])];rfl
  ·rw[af b,aQ];show ct _ (lD y r).length+(if a ((lD y r++[r]).getD (lD y r).length 0)=true then 1 else 0)=_
   have c:(lD y r++[r]).getD (lD y r).length 0=r:=by
    rw[aG,bU (aa _),fN];rfl
   have d:ct (λj=>a ((lD y r++[r]).getD j 0)) (lD y r).length=ct (λj=>a ((lD y r).getD j 0)) (lD y r).length:=u0 _ λj e=>by
    rw[aG,bL e, <-aG]
   rw[c,d]
   congr 1
   simp[b]
structure mh(D:FD)(n:Nat)(c:Nat->Nat)(y:Nat->Int)(m:Nat)(c' y':Nat->Nat):Prop where
 lx:pV (λi=>((c i:Nat):Int)) y n=zl m λj=>((c' j:Nat):Int)
 ly:pV y y n=zl m λj=>((y' j:Nat):Int)
 le:m<=n
 cq:∀j,j<m->c' j<D.q
 ne:∀i j,i<m->j<m->i≠j->c' i≠c' j
 yq:∀j,j<m->y' j<D.q
 many:m=ct (λi => !decide (y i= -1)) n
 oX:∀k a,oX D k m c' y' a=ct (λi => !decide (y i= -1) && !decide (((D.ev a (c i) k:Nat):Int)=y i)) n
theorem LU{D:FD}{y:Nat->Int}(l:∀b,b<c->g b<D.q)(r:∀b j,b<c->j<c->b≠j->g b≠g j)(f:∀b,b<c->y b= -1∨D.has (y b)=true):∃a d y',mh D c g y a d y':=by
 have⟨a,h⟩:=eaa (lD y c)
 have k:∀j,j<a.length->a.getD j 0<c∧y (a.getD j 0)≠ -1:=λj d=>by
  have e:a.getD j 0∈lD y c:=by rw[<-h,aG,aE d];exact uW d
  exact vf c _ e
 have p:∀j,j<a.length->∃i:Nat,y (a.getD j 0)=(i:Int)∧i<D.q:=λj d=>by
  rcases f _ (k j d).1 with e|e
  ·exact absurd e (k j d).2
  ·exact fT e
 refine⟨a.length,λj=>g (a.getD j 0),λj=>(y (a.getD j 0)).toNat,⟨?_,?_,by rw[h];exact G3 y c,λj d=>l _ (k j d).1,λb j m d o=>?_,λj d=>?_,?_,λn f=>?_⟩⟩
 ·rw[ou, <-h];exact Mt
 ·rw[ou, <-h,Mt];refine Ef λj d=>?_
  obtain⟨i,l,_⟩:=p j d;show y (a.getD j 0)=((y (a.getD j 0)).toNat:Int);rw[l];simp
 ·have s:a.Pairwise (·< ·):=by rw[h];exact Fj y c
  have q:∀f (o:f<a.length),a.getD f 0=a[f]:=λf o=>by rw[aG,aE o];rfl
  refine r _ _ (k b m).1 (k j d).1 (λo=>?_);rw[q b m,q j d]at o;have k:=List.pairwise_iff_getElem.1 s;rcases aR b j with e|e
  ·have:=k b j m d e;omega
  ·have:=k j b d m E;omega
 ·obtain⟨i,l,k⟩:=p j d;show(y (a.getD j 0)).toNat<D.q;rw[l];simpa using k
 ·have e:=Fi y (λ_=>true) c;rw[At, <-h]at e;rw[e];exact u0 c λb _=>oi
 ·have e:=Fi y (λb => !decide (((D.ev f (g b) n:Nat):Int)=y b)) c;rw[<-e, <-h];unfold Go.Proofs.YtedifobeggabnaaGreat.oX;refine u0 _ λj d=>?_
  obtain⟨i,l,_⟩:=p j d;show(!decide (D.ev f (g (a.getD j 0)) n=(y (a.getD j 0)).toNat))= !decide (((D.ev f (g (a.getD j 0)) n:Nat):Int)=y (a.getD j 0));rw[l]
  congr 1
  refine fK.2 (Iff.intro (λo=>?_) (λo=>?_))
  ·rw[o];simp
  ·have b:D.ev f (g (a.getD j 0)) n=i:=by omega
   rw[b];simp
def fB(d:FD)(b a:Nat)(e y c:Nat->Nat):Prop:=El d c∧Bd a c∧a<=b∧2*oX d a b e y c<=b-a
theorem IU:∀args a,(callFunc 88 args).run prog a=.ok (.enter 88 args) a:=
 enters_of func88 wL X
theorem fB.one(j:b∈ak){l f y' a h:Nat->Nat}{y:Nat->Int}(i:mh b c l y e f y')(d:fB b e k f y' a)(g:fB b e k f y' h):a=h:=
 Go.Proofs.YtedifobeggabnaaGreat.M6 (dE j) d.2.2.1 i.cq i.ne d.1 g.1 d.2.1 g.2.1 d.2.2.2 g.2.2.2
