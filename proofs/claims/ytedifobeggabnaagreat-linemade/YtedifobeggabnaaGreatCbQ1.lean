/- Texts of ours, one behind the other: Q1 Q2 W11 Q3 Q4 Q5 Q6 I1 I3 I4 S12 S13. -/
import Derived.Test.YtedifobeggabnaaGreatCbW10
namespace Go.Proofs.YtedifobeggabnaaGreat
variable {p:Program}{l:Array Oper}{q:Exit->Act->World->Prop}{v:World->Prop}{d b m o:Nat}{w:Array Bool}{t:Act}{u:World}{c:FD}{a g:Nat->Nat}{i x:Nat->Nat->Nat}
section
open Go.RowKit
end
section
open Go.RowKit Go.Sort
end
section
open Go
def jK(g:Program)(a:Array Oper)(b:Exit->Act->World->Prop)(h:World->Prop)(L:Nat):Nat->Array Bool->Act->World->Prop
 |0,s,c,d=>Region.ready .any a s=[]∧b .normal c d
 |f+1,s,c,d=>(Region.ready .any a s=[]->b .normal c d)∧∀e∈Region.ready .any a s,wpOp g a b e (λj i=>(e≠L->h i)∧jK g a b h L f (s.setIfInBounds e true) j i) c d
theorem ya:∀(f:Nat) (b:Array Bool) (c:Act) (e:World),jK p l q v d f b c e->wpAny p .any l q f b c e
 |0,_,_,_,a=>a
 |f+1,_,_,_,a=>⟨a.1,λg h=>wpOp_mono (λi j k=>ya f _ i j k.2) (a.2 g h)⟩
def rp(b:Array Oper)(L c:Nat):Bool:=((b[L]?).map λd=>d.after.any λa=>Region.binds .any a && a.on==c).getD false
theorem xY{L i:Nat}{e:Oper}(h:Region.ready .any l w=[i])(n:l[i]?=some e)(o:∀f:Act->World->Prop,(∀c a,(i≠L->v a)->jK p l q v L d (w.setIfInBounds i true) c a->f c a)->if Region.wanted e (yielded l t.tmps)=true then Oper.wp p e t u f q else f (t.put e.dst undef) u):jK p l q v L (d+1) w t u:=by
 refine⟨λk=>(by rw[h]at k;cases k),λj m=>?_⟩;rw[h,fJ]at m;subst m;have b:=o (λc a=>(j≠L->v a)∧jK p l q v L d (w.setIfInBounds j true) c a) (λc a b r=>⟨b,r⟩);unfold wpOp;simp only[n];split
 ·rename_i g;rw[ai g]at b;exact I b
 ·rename_i g;rw[af g]at b;exact b
theorem Ec(a:Region.ready .any l w=[])(b:q .normal t u):jK p l q v d 0 w t u:=⟨a,b⟩
theorem Ed{S:World->Prop}(L:Nat)(a:p.follows .mixedOrders=true)(b:jK p l q S L l.size (Array.replicate l.size false) t u.drew):(Code.region d l true).wp p q t u:=
 YT a (ya _ _ _ _ b)
end
section
open Go.RowKit Go.Sort
theorem aV.form{b:Value}{c:List Int}(e:aV d b c u):∃f a,b=.slice f c.length a:=by
 rcases e.2 with⟨b,c⟩|⟨g,a,h,f,_⟩
 ·exact⟨none,0,by rw[b,c]⟩
 ·exact⟨_,a,f⟩
end
section
open Go.RowKit
end
section
open Go.RowKit Go.Sort
def Vn(a:FD)(b i:Nat)(j:Nat->Nat->Nat)(f:Nat)(h:Nat->Nat->Nat):Prop:=∃c g e k,Eh a b c g e∧(∀d,gZ a (cS c g) d↔gZ a (cS i j) d)∧Eh a b f h k∧(∀d,gZ a (cS f h) d↔gZ a (cS (lE c e b) (sj a g e c b)) d)∧f=lE c e b
end
def dot(a:FD)(b c:Nat->Nat):Nat->Nat
 |0=>0
 |j+1=>a.ad (dot a b c j) (a.mul (b j) (c j))
theorem pb(a:bV c)(b d:Nat->Nat):∀j,dot c b d j<c.q
 |0=>aX a
 |j+1=>oK a (pb a b d j) (a.bX _ _)
theorem mu(d:bV c)(a b:Nat->Nat):∀n,dot c a b n=dot c b a n
 |0=>rfl
 |n+1=>by
  show c.ad (dot c a b n) (c.mul (a n) (b n))=c.ad (dot c b a n) (c.mul (b n) (a n));rw[mu d a b n,d.mul_comm (a n)]
theorem Ay(a:bV c)(b:Nat->Nat):∀n,dot c db b n=0
 |0=>rfl
 |n+1=>by
  show c.ad (dot c db b n) (c.mul 0 (b n))=0;rw[Ay a b n,qI a,b5 a (aX a)]
theorem Ax(d:bV c)(e:El c a)(f:El c g)(b:Nat->Nat):∀n,dot c (dk c a g) b n=c.ad (dot c a b n) (dot c g b n)
 |0=>(b5 d (aX d)).symm
 |n+1=>by
  show c.ad (dot c (dk c a g) b n) (c.mul (c.ad (a n) (g n)) (b n))=c.ad (c.ad (dot c a b n) (c.mul (a n) (b n))) (c.ad (dot c g b n) (c.mul (g n) (b n)));rw[Ax d e f b n,vK d (e n) (f n),UD d (pb d _ _ _) (pb d _ _ _) (d.bX _ _) (d.bX _ _)]
theorem ti(e:bV c)(a:Nat)(b d:Nat->Nat):∀n,dot c (aP c a b) d n=c.mul a (dot c b d n)
 |0=>(gI e a).symm
 |n+1=>by
  show c.ad (dot c (aP c a b) d n) (c.mul (c.mul a (b n)) (d n))=c.mul a (c.ad (dot c b d n) (c.mul (b n) (d n)));rw[ti e a b d n,pA e (pb e _ _ _) (e.bX _ _),e.mul_assoc]
theorem u4(b:bV c){f:(Nat->Nat)->Prop}(j:gZ c f a)(k:∀h,f h->dot c h g d=0):dot c a g d=0:=by
 obtain⟨e,i,rfl⟩:=j;induction e with
 |nil=>exact Ay b g d
 |cons y e l=>
  show dot c (dk c (aP c y.1 y.2) (sf c e)) g d=0;rw[Ax b (dw b _ _) (ov b e),ti b,k _ (i y (List.mem_cons_self ..)),gI b,l (λf h=>i f (eU _ h)),b5 b (aX b)]
theorem th{a a' b b':Nat->Nat}:∀n,(∀j,j<n->a j=a' j∧b j=b' j)->dot c a b n=dot c a' b' n
 |0,_=>rfl
 |n+1,d=>by
  show c.ad (dot c a b n) (c.mul (a n) (b n))=c.ad (dot c a' b' n) (c.mul (a' n) (b' n));rw[th n (λj a=>d j E),(d n E).1,(d n E).2]
theorem Az(d:bV c){a b:Nat->Nat}{j v:Nat}(f:b j=0):∀n,j<n->dot c a (λe=>if e=j then v else b e) n=c.ad (dot c a b n) (c.mul (a j) v)
 |0,h=>absurd h E
 |n+1,h=>by
  show c.ad (dot c a (λe=>if e=j then v else b e) n) (c.mul (a n) (if n=j then v else b n))=c.ad (c.ad (dot c a b n) (c.mul (a n) (b n))) (c.mul (a j) v);by_cases g:n=j
  ·subst g;rw[ai X,f,gI d,b5 d (pb d _ _ _),th (a':=a) (b':=b) n (λe i=>⟨X,af E⟩)]
  ·rw[af g,Az d f n E,g7 d (pb d _ _ _) (d.bX _ _) (d.bX _ _),gQ d (c.mul (a j) v), <-g7 d (pb d _ _ _) (d.bX _ _) (d.bX _ _)]
theorem LF(e:bV c)(f:a d<c.q)(h:d<b):dot c a (λg=>if g=d then 1 else 0) b=a d:=by
 have g:=Az e (a:=a) (b:=db) (j:=d) (v:=1) X b h;rw[mM e f,mu e a db,Ay e,gC e f]at g;exact g
theorem G9(a:bV c){K:Nat}{R:Nat->Nat->Nat}(b d:Nat->Nat)(e:∀f,f<K->El c (R f)):∀k,k<=K->gZ c (cS K R) (RX c R b d k)
 |0,_=>Bp c _
 |k+1,g=>qy a (G9 a b d e k E) (jY a _ (fW a (e k E) ⟨k,E,X⟩))
theorem G8(a:bV c){K:Nat}{R:Nat->Nat->Nat}{p b:Nat->Nat}(d:El c b)(f:∀e j,e<K->j<K->R e (p j)=if e=j then 1 else 0){j:Nat}(g:j<K):∀k,k<=K->RX c R p b k (p j)=if j<k then b (p j)else 0
 |0,_=>XF
 |k+1,i=>by
  show c.ad (RX c R p b k (p j)) (c.mul (b (p k)) (R k (p j)))=_;rw[G8 a d f g k E,f k j E g];by_cases h:k=j
  ·subst h;rw[af E,ai X,ai E,mM a (d _),gC a (d _)]
  ·rw[af h,gI a];by_cases b:j<k
   ·rw[ai b,ai E,b5 a (d _)]
   ·rw[af b,af E,b5 a (aX a)]
theorem Cn(f:bV c){a b:Nat->Nat}:∀n,d<n->(∀j,j<n->j≠d->c.mul (a j) (b j)=0)->dot c a b n=c.mul (a d) (b d)
 |0,h,_=>absurd h E
 |n+1,h,g=>by
  show c.ad (dot c a b n) (c.mul (a n) (b n))=_;by_cases i:n=d
  ·subst i
   have k:∀e,e<=n->dot c a b e=0:=λe=>by
    induction e with
    |zero=>intro _;rfl
    |succ e l=>
     intro m;show c.ad (dot c a b e) (c.mul (a e) (b e))=0;rw[l E,g e E E,b5 f (aX f)]
   rw[k n (aa _),gC f (f.bX _ _)]
  ·rw[g n E i,b5 f (pb f _ _ _)];exact Cn f n E (λj e=>g j E)
theorem GU(e:∀c,c<d->a c≠b):∀n,b<n->∃c,c<lE d a n∧AE d a n c=b
 |0,h=>absurd h E
 |n+1,h=>by
  by_cases f:b=n
  ·subst f;exact⟨lE d a b,by rw[pX e];omega,AF d a b⟩
  ·obtain⟨c,f,g⟩:=GU e n E;refine⟨c,?_,by rw[pj f];exact g⟩;by_cases e:∀c,c<d->a c≠n
   ·rw[pX e];omega
   ·rw[xg e];exact f
theorem GO(e:bV c)(f:Eh c d b i a)(g:m<b)(h:o<d)(k:∀j,j<b->a j≠o):∀r,r<=b->dot c (i m) (BL c i a o r) d=if m<r then 0 else i m o
 |0,_=>by rw[af E];exact LF e (f.el m g o) h
 |r+1,l=>by
  have l:BL c i a o (r+1)=λn=>if n=a r then c.ng (i r o)else BL c i a o r n:=rfl
  have n:BL c i a o r (a r)=0:=by
   rw[xk r (λj q l=>by have:=f.mono j r q E;omega),af (k r E)]
  rw[l,Az e n d (f.lt r E),GO e f g h k r E];by_cases p:m=r
  ·subst p;rw[af E,ai E,f.one m g,FJ e (ia e (f.el m g o)),o5 e (f.el m g o)]
  ·rw[f.zero m r g E p,qI e];by_cases h:m<r
   ·rw[ai h,ai E,b5 e (aX e)]
   ·rw[af h,af E,b5 e (f.el m g o)]
theorem Dc(h:bV c)(k:Eh c d b i a){e j:Nat}(f:e<b)(g:j<lE b a d):dot c (i e) (sj c i a b d j) d=0:=by
 have e:=tn d j g;have g:=GO h k f e.1 e.2 b (aa _);rw[ai f]at g;exact g
theorem Nt(e:bV c)(q:Eh c d b i a)(r:El c g)(u:Bd d g)(t:∀h,h<b->dot c (i h) g d=0):gZ c (cS (lE b a d) (sj c i a b d)) g:=by
 have s:=G9 e (K:=lE b a d) (R:=sj c i a b d) (AE b a d) g (λh _=>Nk e q.el d h) (lE b a d) (aa _);have⟨k,v⟩:=eaa (RX c (sj c i a b d) (AE b a d) g (lE b a d));rw[<-v]at s;have w:El c k:=s.el e
 have A:∀f,c.sb (g f) (k f)=0:=by
  have B:∀h,h<b->dot c (i h) (iF c g k) d=0:=λh n=>by
   have l:dot c g (i h) d=0:=by rw[mu e];exact t h n
   have t:dot c k (i h) d=0:=u4 e s (λx ⟨j,m,hx⟩=>by rw[hx,mu e];exact Dc e q n m)
   have x:iF c g k=dk c g (aP c (c.ng 1) k):=by
    funext f
    show c.sb (g f) (k f)=c.ad (g f) (c.mul (c.ng 1) (k f));rw[e.mul_comm,xf e (gV e),mM e (w f)];rfl
   rw[mu e,x,Ax e r (dw e _ _),ti e,l,t,gI e,b5 e (aX e)]
  have z:∀f,f<d->(∀j,j<b->a j≠f)->c.sb (g f) (k f)=0:=λf x t=>by
   obtain⟨j,m,C⟩:=GU t d x;have o:=G8 e (K:=lE b a d) (R:=sj c i a b d) (p:=AE b a d) r (λI J D u=>A0 D u) m (lE b a d) (aa _);rw[ai m,C, <-v]at o;rw[o,fA e (r f)]
  intro f;by_cases x:f<d
  ·by_cases t:∀j,j<b->a j≠f
   ·exact z f x t
   ·obtain⟨h,n,l⟩:∃h,h<b∧a h=f:=bK (λy=>t (λj m l=>y ⟨j,m,l⟩));subst l
    have o:=Cn e (a:=i h) (b:=iF c g k) d (q.lt h n) (λj m F=>by
     by_cases t:∀p,p<b->a p≠j
     ·show c.mul (i h j) (c.sb (g j) (k j))=0;rw[z j m t,gI e]
     ·obtain⟨p,G,l⟩:∃p,p<b∧a p=j:=bK (λy=>t (λj m l=>y ⟨j,m,l⟩));subst l;rw[q.zero h p n G (λl=>F (by rw[l])),qI e])
    rw[B h n,q.one h n]at o;have m:c.mul 1 (c.sb (g (a h)) (k (a h)))=0:=o.symm;rw[FJ e (lM e (r _) (w _))]at m;exact m
  ·have o:k f=0:=by
    have p:∀m,m<=lE b a d->RX c (sj c i a b d) (AE b a d) g m f=0:=λm t=>L8 e _ _ _ f m (λh n=>by rw[FH q.lt E f E,gI e])
    rw[v];exact p _ (aa _)
   rw[o,u f E,fA e (aX e)]
 have l:g=k:=by
  funext f
  exact gX e (r f) (w f) (A f)
 rw[l];exact s
theorem Vn.iff(a:bV c)(h:Vn c d b i m x)(r:∀f,f<b->El c (i f))(g:Nat->Nat):gZ c (cS m x) g↔El c g∧Bd d g∧∀f,f<b->dot c (i f) g d=0:=by
 obtain⟨n,o,p,s,l,q,t,k,_⟩:=h;rw[k g];constructor
 ·intro o;refine⟨o.el a,?_,λf k=>?_⟩
  ·exact vB (Q:=Bd d) (λ_ _=>rfl) (λh s p t g n=>by show c.ad (h g) (s g)=0;rw[p g n,t g n,b5 a (aX a)]) (λu h p g n=>by show c.mul u (h g)=0;rw[p g n,gI a]) (λh ⟨j,hj,e⟩=>by rw[e];exact FH l.lt hj) o
  ·have g:=(q _).2 (fW a (r f k) ⟨f,k,X⟩);refine u4 a g (λh ⟨j,hj,e⟩=>?_);rw[e,mu a];exact u4 a o (λg ⟨n,hl,ex⟩=>by rw[ex,mu a];exact Dc a l hj hl)
 ·rintro⟨g,n,o⟩;refine Nt a l g n (λf k=>?_);have g:=(q _).1 (fW a (l.el f k) ⟨f,k,X⟩);exact u4 a g (λh ⟨j,hj,e⟩=>by rw[e];exact o j hj)
