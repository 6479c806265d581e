/- Texts of ours, one behind the other: ZD2 ZD3 ZD4 ZD5 ZL0 ZL1 ZD6 ZD7. -/
import Derived.Test.YtedifobeggabnaaGreatCbZC23
namespace Go.Proofs.YtedifobeggabnaaGreat
variable {ab:Nat->Nat}{r y:World}{e s:Frame}{o N:List Frame}{v:Goroutine}{z:Array Event}{u:List Item}{m C D A Z:Nat}{i:Code}{p:Act}{Y:Event}{M:Nat->Prop}{U:Array Value}{T ad:Trace}
theorem Xt{a:Prop}(b:a:=by simp[mL]):a:=b
section
open Go.Conc (G)
def jl(a:List Item):List Frame->List Frame
 |[]=>[]
 |[f]=>[{ f with todo:=f.todo++a }]
 |f::b::c=>f::jl a (b::c)
def GL:List Frame->Goroutine
 |[]=>default
 |f::a=>G f a
def St(e:Program)(f:List Item)(a:Frame)(g h:World)(i:Array Event)(j:List Frame)(k:Goroutine):Prop:=
 (∃d:Frame,k=G { d with todo:=d.todo++f } j∧∀b c,stepG e true (G { a with todo:=a.todo++b } c) g=.go (G { d with todo:=d.todo++b } c) h i)∨
 (∃d:Frame,k=G d ({ a with todo:=a.todo++f }::j)∧a.todo≠[]∧∀b c,stepG e true (G { a with todo:=a.todo++b } c) g=.go (G d ({ a with todo:=a.todo++b }::c)) h i)
def Shut(a:List Item):Prop:=∀id b c,exitTo id (b++a)=some c->∃d,exitTo id b=some d∧c=d++a
theorem DX:Shut []:=λid c a b=>⟨a,by simpa using b,oi⟩
theorem Ki(d:Code):Shut [.code d]:=by
 intro id b;induction b with
 |nil=>intro c a;simp[exitTo]at a
 |cons e b f=>
  intro c a;cases e with
  |inBlock g=>
   simp only[exitTo,ll]at a ⊢;split at a
   ·grind
   ·grind
  |_=>
   have⟨b,d,e⟩:=f c (by simpa [exitTo]using a);exact⟨b,by simpa [exitTo]using d,e⟩
section
variable {P:Program}{S:Nat->Prop}{F:Fx}{V a:World}
theorem wm(id:Nat)(d:List Item):∀(b c:List Item),exitTo id b=some c->exitTo id (b++d)=some (c++d)
 |[],_,a=>by simp[exitTo]at a
 |x::b,c,a=>by
  cases x<;>simp only[exitTo,ll]at a ⊢ <;> try exact wm id d b c a
  split at a
  ·grind
  ·rename_i e;rw[af e];exact wm id d b c a
theorem kZ{c:Frame}(a:c.todo≠[])(b:Value)(d:List Item):({ c with todo:=c.todo++d }:Frame).finish b={ c.finish b with todo:=(c.finish b).todo++d }:=by
 have⟨g,h,todo,i,j,k,round⟩:=c;have a:todo≠[]:=a;cases todo with
 |nil=>exact absurd X a
 |cons e l=>
  cases e with
  |inRegion m f=>cases f<;>rfl
  |code c=>rfl
  |_=>rfl
def K4:Result Next->Prop
 |.halt x _=>Hk x
 |.ok (.value _) _ |.ok .skip _ |.ok (.enter _ _) _=>True
 |.ok _ _=>False
def rG(P:Program)(V:World)(a:Frame):Prop:=∀b d rest f c,a.todo=.inRegion b (d::rest)::f->b[d]?=some c->Region.wanted c (yielded b a.tmps)=true->∀e g,(execOp a.eval c).runT P V #[]=(e,g)->K4 e
theorem QC{b c:Next}(a:NR S F ab b c)(d e:World):K4 (.ok b d)∧K4 (.ok c e):=by
 cases b<;>first|exact a.elim|(obtain⟨_,rfl⟩:=a;exact⟨trivial,trivial⟩)|(obtain⟨_,_,rfl⟩:=a;exact⟨trivial,trivial⟩)|(cases a;exact⟨trivial,trivial⟩)
theorem Cy(E:KL P S F)(I:uG P F)(k:kN P S F e)(K:e.mode=.run)(s:ni S F id V r)(b:stepG P true (G e o) V=.go v a z)(M:∀N,v.frame.mode≠.panicking N)(O:∀j n,V.drawn<=j->j<a.drawn->V.tape j n=r.tape (r.drawn+(j-V.drawn)) n):rG P r e:=by
 intro c d rest f l N x Q R T U;have⟨g,h,W,Y,Z,ab,round⟩:=e;have t:Z=.run:=K;have e2:=k.defers;have e3:=k.kind;have e4:=k.round;have e5:W=.inRegion c (d::rest)::f:=N;subst t e2 e3 e4 e5
 have K:stepG P true (G ⟨g,h,.inRegion c (d::rest)::f,[],.run,.normal,none⟩ o) V=stepG.apply P true ⟨g,h,.inRegion c (d::rest)::f,[],.run,.normal,none⟩ o none (execOp (Frame.eval ⟨g,h,.inRegion c (d::rest)::f,[],.run,.normal,none⟩) l) V:=by
  simp[G,stepG,stepG.exec,stepG.oper,Frame.oper?,x,Q]
 rw[K]at b;have K:=k.todo (.inRegion c (d::rest)) oi l (bh x)
 have N:∀i,mP F i->bG S F (Frame.eval ⟨g,h,.inRegion c (d::rest)::f,[],.run,.normal,none⟩ i)∧Frame.eval ⟨g,h,.inRegion c (d::rest)::f,[],.run,.normal,none⟩ i=bI id (Frame.eval ⟨g,h,.inRegion c (d::rest)::f,[],.run,.normal,none⟩ i):=λi Q=>by
  have x:=(ot (f:=id) k.tmps i Q).1;exact⟨x,(kK x).symm⟩
 have u:=qz (P:=P) (S:=S) (F:=F) (f:=id) E I.enter N (λy=>rfl) (o:=l) K;unfold stepG.apply at b;cases q:(execOp (Frame.eval ⟨g,h,.inRegion c (d::rest)::f,[],.run,.normal,none⟩) l).runT P V #[]with
 |mk r0 E0=>
  rw[q]at b;cases r0 with
  |halt i m=>
   exfalso;have A:=u.CH s.cl q;cases i with
   |panic y=>
    simp[GStep.after]at b;obtain⟨rfl,_,_⟩:=b;exact absurd X (M _)
   |stuck av=>simp[GStep.after]at b
   |unsupported ad=>cases ad<;>first|(simp[GStep.after]at b;done)|exact absurd rfl (A _)
   |_=>exact A.elim
  |ok ao m=>
   have ar:m.drawn<=a.drawn∨m=a:=by
    have k:=u.run (V':=m) (W:=V) (ni.refl s.cl) q (λj n B p=>XD);have⟨n',C,E',t,p,w,h4,h5,h6⟩:=k;refine J ?_;cases ao with
    |value y=>simp[GStep.after]at b;exact b.2.1
    |skip=>simp[GStep.after]at b;exact b.2.1
    |enter ax args=>simp[GStep.after]at b;exact b.2.1
    |_=>exact w.elim
   have⟨n',C,E',t,p,w,h4,h5,h6⟩:=u.run (V':=m) (W:=r) s q (λj n B p=>O j n B (by rcases ar with b|b;omega;rw[<-b];exact p));have b:=p #[];have D:(execOp (Frame.eval ⟨g,h,.inRegion c (d::rest)::f,[],.run,.normal,none⟩) l).runT P r #[]=(R,T):=U;rw[b]at D;cases D;exact(QC w m C).2
theorem Bz(T:Shut u)(w:kN P S F e)(U:rG P V e)(W:e.mode=.run)(B:e.todo≠[])(b:stepG P true (G { e with todo:=e.todo++u } o) V=.go v a z)(Y:∀Z,v.frame.mode≠.panicking Z):St P u e V a z o v:=by
 have⟨g,c,todo,ab,ad,ao,round⟩:=e;have e1:ad=.run:=W;have e2:=w.defers;have e3:=w.kind;have e4:=w.round;subst e1 e2 e3 e4;have ht:=w.todo;have B:todo≠[]:=B
 dsimp only at b
 cases todo with
 |nil=>exact absurd X B
 |cons m f=>
  have K:=ht m oi;rw[ll]at b;cases m with
  |code n=>
   cases n with
   |ret=>
    simp only[G,stepG,stepG.exec]at b;obtain⟨rfl,rfl,rfl⟩:=b;exact I ⟨⟨g,c,.code .ret::f,[],.returning,.normal,none⟩,X,λi j=>Xg⟩
   |skip=>
    simp only[G,stepG,stepG.exec,GStep.go.injEq]at b;obtain⟨rfl,rfl,rfl⟩:=b;exact I ⟨⟨g,c,f,[],.run,.normal,none⟩,X,λi j=>Xg⟩
   |seq p l=>
    simp only[G,stepG,stepG.exec,GStep.go.injEq]at b;obtain⟨rfl,rfl,rfl⟩:=b;exact I ⟨⟨g,c,.code p:: .code l::f,[],.run,.normal,none⟩,X,λi j=>Xg⟩
   |block id l=>
    simp only[G,stepG,stepG.exec,GStep.go.injEq]at b;obtain⟨rfl,rfl,rfl⟩:=b;exact I ⟨⟨g,c,.code l:: .inBlock id::f,[],.run,.normal,none⟩,X,λi j=>Xg⟩
   |loop l=>
    simp only[G,stepG,stepG.exec,GStep.go.injEq]at b;obtain⟨rfl,rfl,rfl⟩:=b;exact I ⟨⟨g,c,.code l:: .inLoop l::f,[],.run,.normal,none⟩,X,λi j=>Xg⟩
   |region id h d=>
    cases d with
    |true=>
     simp[G,stepG,stepG.exec,choose,Sem.run,Question.forced,Question.cut]at b;obtain⟨rfl,rfl,rfl⟩:=b;exact I ⟨⟨g,c,.inRegion h _::f,[],.run,.normal,none⟩,X,λi j=>by simp[G,stepG,stepG.exec,choose,Sem.run,Question.forced,Question.cut]⟩
    |false=>
     simp only[G,stepG,stepG.exec,rv,ek,GStep.go.injEq]at b;obtain⟨rfl,rfl,rfl⟩:=b;exact I ⟨⟨g,c,.inRegion h (List.range h.size)::f,[],.run,.normal,none⟩,X,λi j=>Xg⟩
   |cond n p l=>
    simp only[G,stepG,stepG.exec]at b;cases C:(Frame.eval ⟨g,c,.code (.cond n p l)::(f++u),[],.run,.normal,none⟩ n)with
    |bool M=>
     rw[C]at b;simp only[GStep.go.injEq]at b;obtain⟨rfl,rfl,rfl⟩:=b;refine I ⟨⟨g,c,.code (if M then p else l)::f,[],.run,.normal,none⟩,X,λi j=>?_⟩;have w:(Frame.eval ⟨g,c,.code (.cond n p l)::(f++i),[],.run,.normal,none⟩ n)=.bool M:=C;simp[G,stepG,stepG.exec,w]
    |_=>rw[C]at b;cases b
   |exit id=>
    simp only[G,stepG,stepG.exec]at b;cases D:exitTo id (f++u)with
    |none=>rw[D]at b;cases b
    |some k'=>
     rw[D]at b;simp only[uZ,GStep.go.injEq]at b;obtain⟨rfl,rfl,rfl⟩:=b;obtain⟨N,ar,rfl⟩:=T id f k' D;exact I ⟨⟨g,c,N,[],.run,.normal,none⟩,X,λi j=>by simp[G,stepG,stepG.exec,wm id i f N ar]⟩
   |_=>exact K.elim
  |inBlock id=>
   simp only[G,stepG,stepG.exec,GStep.go.injEq]at b;obtain⟨rfl,rfl,rfl⟩:=b;exact I ⟨⟨g,c,f,[],.run,.normal,none⟩,X,λi j=>Xg⟩
  |inLoop l=>
   simp only[G,stepG,stepG.exec,GStep.go.injEq]at b;obtain⟨rfl,rfl,rfl⟩:=b;exact I ⟨⟨g,c,.code l:: .inLoop l::f,[],.run,.normal,none⟩,X,λi j=>Xg⟩
  |inRegion h av=>
   cases av with
   |nil=>
    simp only[G,stepG,stepG.exec,GStep.go.injEq]at b;obtain⟨rfl,rfl,rfl⟩:=b;exact I ⟨⟨g,c,f,[],.run,.normal,none⟩,X,λi j=>Xg⟩
   |cons k rest=>
    by_cases q:(Option.map (λm=>Region.wanted m (yielded h c)) h[k]?).getD false=true
    ·cases x:h[k]? with
     |none=>rw[x]at q;cases q
     |some y=>
      have r:Region.wanted y (yielded h c)=true:=by rw[x]at q;exact q
      have A:∀(i:List Item) (j:List Frame),stepG P true (G ⟨g,c,.inRegion h (k::rest)::(f++i),[],.run,.normal,none⟩ j) V=stepG.apply P true ⟨g,c,.inRegion h (k::rest)::(f++i),[],.run,.normal,none⟩ j none (execOp (Frame.eval ⟨g,c,.inRegion h (k::rest)::f,[],.run,.normal,none⟩) y) V:=by
       intro i j
       have ev:Frame.eval ⟨g,c,.inRegion h (k::rest)::(f++i),[],.run,.normal,none⟩=Frame.eval ⟨g,c,.inRegion h (k::rest)::f,[],.run,.normal,none⟩:=by
        funext m;cases m<;>rfl
       simp[G,stepG,stepG.exec,stepG.oper,Frame.oper?,x,r,ev]
      have l:=A u o;rw[l]at b;unfold stepG.apply at b;cases s:(execOp (Frame.eval ⟨g,c,.inRegion h (k::rest)::f,[],.run,.normal,none⟩) y).runT P V #[]with
      |mk O ax=>
       rw[s]at b;have Q:=U h k rest f y X x r O ax s;cases O with
       |halt m V'=>
        have R:Hk m:=Q;cases m with
        |panic E=>
         simp[GStep.after]at b;obtain⟨rfl,_,_⟩:=b;exact absurd X (Y _)
        |stuck a2=>simp[GStep.after]at b
        |unsupported a0=>cases a0<;>first|(simp[GStep.after]at b;done)|exact absurd rfl (R _)
        |_=>exact R.elim
       |ok a1 V'=>
        cases a1 with
        |value E=>
         simp[GStep.after]at b;obtain⟨rfl,rfl,rfl⟩:=b;refine I ⟨Frame.finish ⟨g,c,.inRegion h (k::rest)::f,[],.run,.normal,none⟩ E,cF (λt=>G t o) (kZ (c:=⟨g,c,.inRegion h (k::rest)::f,[],.run,.normal,none⟩) oi E u),λi j=>?_⟩;show stepG P true (G ⟨g,c,.inRegion h (k::rest)::(f++i),[],.run,.normal,none⟩ j) V=_;rw[A];unfold stepG.apply;rw[s];simp[GStep.after,Frame.finish,G]
        |skip=>
         simp[GStep.after]at b;obtain⟨rfl,rfl,rfl⟩:=b;refine I ⟨Frame.finish ⟨g,c,.inRegion h (k::rest)::f,[],.run,.normal,none⟩ undef,cF (λt=>G t o) (kZ (c:=⟨g,c,.inRegion h (k::rest)::f,[],.run,.normal,none⟩) oi undef u),λi j=>?_⟩;show stepG P true (G ⟨g,c,.inRegion h (k::rest)::(f++i),[],.run,.normal,none⟩ j) V=_;rw[A];unfold stepG.apply;rw[s];simp[GStep.after,Frame.finish,G]
        |enter a3 args=>
         simp[GStep.after]at b;obtain⟨rfl,rfl,rfl⟩:=b;refine J ⟨_,X,oi,λi j=>?_⟩;show stepG P true (G ⟨g,c,.inRegion h (k::rest)::(f++i),[],.run,.normal,none⟩ j) V=_;rw[A];unfold stepG.apply;rw[s];simp[GStep.after,G]
        |_=>exact Q.elim
    ·have r:(Option.map (λm=>Region.wanted m (yielded h c)) h[k]?).getD false=false:=by simpa using q
     simp[G,stepG,stepG.exec,r]at b;obtain⟨rfl,rfl,rfl⟩:=b;exact I ⟨Frame.finish ⟨g,c,.inRegion h (k::rest)::f,[],.run,.normal,none⟩ undef,cF (λt=>G t o) (kZ (c:=⟨g,c,.inRegion h (k::rest)::f,[],.run,.normal,none⟩) oi undef u),λi j=>by simp[G,stepG,stepG.exec,r,Frame.finish]⟩
  |_=>exact K.elim
theorem Iq(j:uG P F){fr i:Frame}(d:kN P S F fr)(k:fr.mode=.returning)(b:stepG P true (G fr (i::o)) V=.go v a z):∃c,v=G (i.finish c) o∧∀e f,stepG P true (G fr (e::f)) V=.go (G (e.finish c) f) a z:=by
 have _e:=j;have⟨y,l,A,m,n,p,round⟩:=fr;have q:n=.returning:=k;have r:=d.defers;have s:=d.kind;subst q r s;have⟨t,g,i,j⟩:=d.fn.1;cases h:(results t l).runT P V #[]with
 |mk u B=>
  cases u with
  |halt w x=>
   exfalso;simp only[G,stepG,unwind,g,h]at b;cases w<;>simp[GStep.after]at b
  |ok c x=>
   simp only[G,stepG,unwind,g,h]at b;simp[GStep.after,doReturn]at b;obtain⟨rfl,rfl,rfl⟩:=b;refine⟨c,X,λe f=>?_⟩;simp only[G,stepG,unwind,g,h];simp[GStep.after,doReturn]
def Ev:List Frame->Prop
 |[]=>True
 |[_]=>True
 |_::a::b=>a.todo≠[]∧Ev (a::b)
theorem Rq(D:uG P F){b f g bs:List Frame}(i:kN P S F e)(E:e.mode=.run->rG P V e)(I:e.mode=.returning->b≠[])(n:Ev (e::b)){k:List Item}(J:b=[]->e.todo≠[]∨k=[])(o:stepG P true (G e (b++g)) V=.go (G s (f++g)) a z)(K:∀M,s.mode≠.panicking M):stepG P true (GL (jl k (e::b)++bs)) V=.go (GL (jl k (s::f)++bs)) a z∧Ev (s::f):=by
 rcases i.mode with m|m
 ·by_cases q:e.todo=[]
  ·
   cases b with
   |nil=>
    rcases J rfl with c|rfl
    ·exact absurd q c
    ·have⟨N,O,todo,r,t,u,round⟩:=e;have j:t=.run:=m;have d:=i.defers;have v:=i.kind;have w:=i.round;have x:todo=[]:=q;subst j d v w x;simp only[G,stepG,stepG.exec]at o;injection o with y A B
     injection y with C p
     subst C A B;have:=(bT p).symm;subst this;exact⟨by simp[jl,GL,G,stepG,stepG.exec],trivial⟩
   |cons c b=>
    have⟨N,O,todo,r,t,u,round⟩:=e;have j:t=.run:=m;have d:=i.defers;have v:=i.kind;have w:=i.round;have x:todo=[]:=q;subst j d v w x;simp only[G,stepG,stepG.exec]at o;injection o with y A B
    injection y with C p
    subst C A B;have p:c::(b++g)=f++g:=p;have:=(bT (as:=c::b) (by simpa using p)).symm;subst this;refine⟨?_,n⟩;cases b<;>simp[jl,GL,G,stepG,stepG.exec]
  ·rcases Bz DX i (E m) m q (by rw[j0];exact o) K with⟨p,h,l⟩|⟨Q,h,R,l⟩
   ·rw[j0]at h;have j:s=p:=cF Goroutine.frame h;have d:f++g=b++g:=cF Goroutine.callers h;have d:=bT d;subst j d;cases f with
    |nil=>exact⟨l k bs,trivial⟩
    |cons c b=>
     refine⟨?_,n⟩;have:=l [] (jl k (c::b)++bs);simpa [jl,GL]using this
   ·rw[j0]at h;have j:s=Q:=cF Goroutine.frame h;have d:f++g=(e::b)++g:=cF Goroutine.callers h;have d:=bT d;subst j d;refine⟨?_,R,n⟩;cases b with
    |nil=>exact l k bs
    |cons c b=>
     have:=l [] (jl k (c::b)++bs);simpa [jl,GL]using this
 ·cases b with
  |nil=>exact absurd X (I m)
  |cons c b=>
   have⟨p,h,l⟩:=Iq D i m o;have j:=cF Goroutine.frame h;have d:f++g=b++g:=cF Goroutine.callers h;have d:=bT d;subst j d;have T:=n.1;cases f with
   |nil=>
    refine⟨?_,trivial⟩;have:=l { c with todo:=c.todo++k } bs;rw[kZ T]at this;exact this
   |cons U b=>
    refine⟨?_,n.2.1,n.2.2⟩;exact l c (jl k (U::b)++bs)
end
end
section
open Go.Conc (G solo)
section
variable {P:Program}{Q:Nat->Prop}{F:Fx}{B:Nat}{a f:Frame}{b d:List Frame}{V g:World}{c:Frame->List Frame->World->Prop}
theorem JY:∀(g:Nat) (e:List Frame) (a:Frame) (V:World) (b:List PanicEntry),a.mode=.panicking b->a.defers=[]->(∃m,P.funcs[a.fn]?=some m)->(∀c,c∈e->c.defers=[]∧(∃m,P.funcs[c.fn]?=some m))->∀f j k,runN P g (lone a (e++[cj P]) V)=.next (lone f j k)->∃h,f.mode=.panicking h:=by
 intro g;induction g with
 |zero=>
  intro e a V b l _ _ _ f j k d;simp only[runN,Stepped.next.injEq]at d
  have i:a=f:=by
   have:=cF (λn=>n.gs) d;simp only[lone,ju,iD,Goroutine.mk.injEq]at this;exact this.1.1
  rw[<-i];exact⟨b,l⟩
 |succ g u=>
  intro e a V b l p v q f j k d;have⟨C,r⟩:=v;cases e with
  |nil=>
   have o:stepG P true (G a ([]++[cj P])) V=.go (G ((cj P).raise b) []) V #[]:=by
    simp[G,stepG,unwind,l,p,Frame.catches,r]
   simp only[runN,ij o]at d;have⟨D,E,F,w⟩:=rU (P:=P) (chain:=b++[]) (l:=[]) V;have i:(cj P).raise b={ cj P with mode:=.panicking (b++[])}:=rfl;rw[i]at d;have x:=runN_ended (P:=P) (fC w) g _ d;subst x;simp only[runN,Stepped.next.injEq]at d
   have i:f={ cj P with mode:=.panicking (b++[])}:=by
    have:=cF (λn=>n.gs) d;simp only[lone,solo,G,ju,iD,Goroutine.mk.injEq]at this;grind
   rw[i];exact⟨_,X⟩
  |cons c e=>
   have o:stepG P true (G a (c::e++[cj P])) V=.go (G (c.raise b) (e++[cj P])) V #[]:=by
    simp[G,stepG,unwind,l,p,Frame.catches,r]
   simp only[runN,ij o]at d;have s:=q c oi
   have y:∃h,(c.raise b).mode=.panicking h:=by
    unfold Frame.raise;grind
   have t:(c.raise b).defers=c.defers∧(c.raise b).fn=c.fn:=by
    unfold Frame.raise;grind
   have⟨h,z⟩:=y;exact u e (c.raise b) V h z (t.1.trans s.1) (by rw[t.2];exact s.2) (λA B=>q A (by simp[B])) f j k d
theorem vS(p:uJ P Q F B)(f:l6 P Q F B a [] V)(q:a.mode=.returning)(c:runN P (m+1) (lone a ([]++[cj P]) V)=.next (lone e [cj P] r)):False:=by
 have _e:=p;have⟨j,g,k,s,t,u,round⟩:=a;have v:t=.returning:=q;have w:=f.fr.defers;have x:=f.fr.kind;subst v w x;have⟨y,l,E,I⟩:=f.fr.fn.1;cases n:(results y g).runT P V #[]with
 |mk z J=>
  cases z with
  |halt A h=>
   have b:∃i o d,stepG P true (G (⟨j,g,k,[],.returning,.normal,round⟩:Frame) ([]++[cj P])) V=.ended i o d:=by
    simp only[G,stepG,unwind,l,n];cases A<;>simp[GStep.after]
   have⟨i,o,d,b⟩:=b;simp only[runN,fC b]at c;cases c
  |ok K h=>
   have b:∃d,stepG P true (G (⟨j,g,k,[],.returning,.normal,round⟩:Frame) ([]++[cj P])) V=.go (G (cj P) []) h d:=by
    simp only[G,stepG,unwind,l,n];simp[GStep.after,doReturn,cj,Frame.finish]
   have⟨d,b⟩:=b;simp only[runN,ij b]at c;have⟨i,M,N,C⟩:=rU (P:=P) (chain:=[]) (l:=[]) h;have D:=runN_ended (P:=P) (fC (fr:=cj P) C) m _ c;subst D;simp only[runN,Stepped.next.injEq,lone,solo,G,Machine.mk.injEq,ju,iD,Goroutine.mk.injEq,jy]at c;have:=c.2.2;simp at this
theorem AT(m:uJ P Q F B):∀(k:Nat) (a:Frame) (b:List Frame) (V:World),l6 P Q F B a b V->∀i l,runN P k (lone a (b++[cj P]) V)=.next (lone i [cj P] l)->(∀n,i.mode≠.panicking n)->c i [] l->KO P [cj P] c k a b V:=by
 intro k;induction k with
 |zero=>
  intro a b V _ i l h _ q;simp only[runN,Stepped.next.injEq,lone,Machine.mk.injEq,ju,iD,Goroutine.mk.injEq,jy]at h;obtain⟨rfl,rfl,o⟩:=h
  have o:b=[]:=by
   simp_all
  subst o;exact q
 |succ k z=>
  intro a b V e i l h u q;rcases G7 (cb:=[cj P]) m e with p|⟨r,rfl⟩
  ·cases j:stepG P true (G a (b++[cj P])) V with
   |go O g v=>
    rw[j]at p;rcases p with⟨n,rfl⟩|w
    ·exfalso;simp only[runN,ij j]at h;have x:=e.fr;have⟨A,C,_,_⟩:=x.fn.1
     have⟨D,s⟩:=JY k b { a with mode:=.panicking n } g n X x.defers ⟨A,C⟩ (λt o=>by
      have:=e.cs t o;have⟨E,I,_,_⟩:=this.fn.1;exact⟨this.defers,E,I⟩) i [cj P] l h
     exact u D s
    ·have K:a.mode=.returning->b≠[]:=by
      rintro r rfl;exact vS m e r h
     have⟨y,f,d,s,M,N,t⟩:=wY m.yA m.fns e.le e.cf e.fr e.cs e.blk K j w;subst s;simp only[runN,ij j]at h;exact J ⟨f,d,g,v,j,w,z f d g ⟨M,N,t,aK e.le y.1,y.2⟩ i l h u q⟩
   |ended R S v=>
    exfalso;have:=fC j;simp[runN,this]at h
   |_=>rw[j]at p;exact p.elim
  ·exact(vS m e r h).elim
def Pg(c:FuncId)(d:Act->World->Prop)(a:Frame)(b:List Frame)(V:World):Prop:=b=[]∧a.mode=.returning∧a.fn=c∧d ⟨a.tmps,a.defers⟩ V
theorem Rm{h:Act->World->Prop}(j:uJ P Q F B)(k:l6 P Q F B (e.at p [.code i]) [] V)(n:∀T d,i.wp P (λb p o=>(b=.normal∨b=.ret)∧h p o) p (dZ V T d)):yV P [cj P] (Pg e.fn h) (e.at p [.code i]) [] V:=by
 intro T d;have⟨b,c,f,⟨q,l⟩,m⟩:=n T d e [] [cj P];rcases q with rfl|rfl
 ·have⟨a,g⟩:=m;refine⟨a+1,AT j (a+1) _ [] _ (k.dZ T d) { e.at c []with mode:=.returning } f ?_ (λr=>oi) ⟨X,X,X,l⟩⟩;rw[runN_add];have s:runN P a (lone (e.at p [.code i]) ([]++[cj P]) (dZ V T d))=.next (lone (e.at c []) [cj P] f):=g;rw[s];simp only[runN,step_end]
 ·have⟨t,a,g⟩:=m;exact⟨a,AT j a _ [] _ (k.dZ T d) { e.at c t with mode:=.returning } f g (λr=>oi) ⟨X,X,X,l⟩⟩
end
end
section
open Go.Conc (G)
section
variable {P:Program}{Q a:Nat->Prop}{F:Fx}{B:Nat}{g:Frame}{f d:List Frame}{V:World}{c:Frame->List Frame->World->Prop}{b:(Nat->Prop)->Goroutine->World->Prop}{k:List Item}
def iL(a:Nat->Prop)(B:Nat)(V:World)(b:Nat):Prop:=a b∨(B<=b∧b<V.heap.size)
theorem PK{V d:World}(f:∀c,Q c->a c)(b:EvS (n9 Q B) V d Y):OU (iL a B d) d.heap.size Y:=by
 have⟨g,wr,h⟩:=Y;have e:∀c,n9 Q B c->c<d.heap.size->iL a B d c:=λc h i=>h.imp (f c) λj=>⟨j,i⟩
 cases g with
 |cell k=>exact⟨b.2.1,e _ b.1 b.2.1⟩
 |obj l=>exact⟨b.2.1,e _ b.1 b.2.1⟩
 |mark m=>exact b
 |output=>exact b.elim
 |goroutines=>exact b.elim
theorem FQ(a:Event):yj id a=a:=by
 have⟨b,wr,c⟩:=a;cases b<;>simp[yj,kp]
end
end
section
open Go.Conc
open Go.ConcN (sumTo upd sumTo_upd upd_ne upd_same)
section
variable {P:Program}{Q c O d:Nat->Prop}{F:Fx}{B:Nat}{q:Frame}{n l:List Frame}{V j w:World}{f:(Nat->Prop)->Goroutine->World->Prop}{k:List Item}{a:Value->World->Prop}{g t:Goroutine}
theorem iL.self(c:Nat->Prop)(V:World):iL c V.heap.size V=c:=by
 funext b
 refine propext ⟨λa=>a.resolve_right E,I⟩
def Et(P:Program)(e:Nat->Prop)(a:Value->World->Prop)(_:Nat->Prop)(g:Goroutine)(w:World):Prop:=g.status=.running∧∃b c,stepG P true g w=.ended (.done b) w c∧(∀d,d∈c->OU e w.heap.size d)∧a b w
end
end
section
open Go.Conc
def Eo(d:Program):Nat->Code->(Act->World->Prop)->Act->World->Prop
 |n+1,.seq e y,c,a,b=>e.wp d (λf a b=>f=.normal∧Eo d n y c a b) a b
 |_,_,c,a,b=>c a b
def Ky:Nat->Code->Code
 |n+1,.seq _ y=>Ky n y
 |_,a=>a
def nX:Nat->Code->Code
 |n+1,.seq a y=> .seq a (nX n y)
 |_,_=> .exit 0
theorem T4(a:nX m i=.exit 0):Ky m i=i:=by
 cases m with
 |zero=>cases i<;>rfl
 |succ m=>cases i<;>first|rfl|cases a
theorem T5(a:nX m i≠.exit 0):∃b c y,m=b+1∧i=.seq c y∧nX m i=.seq c (nX b y):=by
 cases m with
 |zero=>exact absurd (by cases i<;>rfl) a
 |succ m=>cases i<;>first|exact absurd rfl a|exact⟨m,_,_,rfl,rfl,rfl⟩
def Iy(b:FuncId)(c:Act->World->Prop)(a:Frame)(d:List Frame)(e:World):Prop:=d=[]∧a.mode=.run∧a.todo=[.code (.exit 0)]∧a.fn=b∧c ⟨a.tmps,a.defers⟩ e
def sd(b:List Item)(a:Frame):List Frame->Frame
 |[]=>{ a with todo:=a.todo++b }
 |_::_=>a
structure VW(Q:Nat->Prop)(F:Fx)(B:Nat)(W0 V W:World):Prop where
 Em:ni (n9 Q B) F id V W
 Up:∀b,F.cl b->Q b∧b<V.heap.size∧RH V b∧W.heap[b]?=W0.heap[b]?
 old:∀b,b<B->¬Q b->W.heap[b]?=W0.heap[b]?
 le:B<=W.heap.size
section
variable {P:Program}{Q O0:Nat->Prop}{F:Fx}{B:Nat}{b:Frame}{R:Act->World->Prop}{V W W0:World}{Stop:(Nat->Prop)->Goroutine->World->Prop}{bs:List Frame}{f:FuncId}
theorem KE(i:List Frame):∀(a:Nat) (c:Code) (d:Act) (e:World),Eo P a c R d e->∃f g,R f g∧Steps P (lone (b.at d [.code (nX a c)]) i e) (lone (b.at f [.code (.exit 0)]) i g):=by
 intro a;induction a with
 |zero=>intro c d e h;cases c<;>exact⟨d,e,h,⟨0,X⟩⟩
 |succ a j=>
  intro c d e h;cases c with
  |seq o y=>
   obtain⟨p,k,l,⟨rfl,m⟩,n⟩:=h b [.code (nX a y)] i;have⟨f,g,a,c⟩:=j y k l m;exact⟨f,g,a,Steps.trans (Steps.one step_seq) (Steps.trans n c)⟩
  |_=>exact⟨d,e,h,⟨0,X⟩⟩
theorem OD(c:uJ P Q F B)(e:l6 P Q F B (b.at p [.code (nX m i)]) [] V)(f:∀T d,Eo P m i R p (dZ V T d)):yV P [cj P] (Iy b.fn R) (b.at p [.code (nX m i)]) [] V:=by
 intro T d;have⟨g,h,j,a,k⟩:=KE (b:=b) [cj P] m i p _ (f T d);exact⟨a,AT c a _ [] _ (e.dZ T d) (b.at g [.code (.exit 0)]) h k (λf=>by simp[Frame.at]) ⟨X,X,X,X,j⟩⟩
theorem kN.strip(a:kN P M F { e with todo:=e.todo++u }):kN P M F e:=⟨a.fn,a.tmps,λb c=>a.todo b (fR _ c),a.defers,a.kind,a.round,a.mode⟩
theorem rG.strip(a:rG P W { e with todo:=e.todo++u }):rG P W e:=λb c rest d f g h i j k l=>by
 refine a b c rest (d++u) f (by show e.todo++u=_;rw[g];rfl) h i j k ?_;rw[<-l]
 congr 2
theorem ri(a:kN P M F e):jr id e=e:=by
 have⟨b,c,d,f,g,h,round⟩:=e;unfold jr
 congr 1
 exact(bf λb c=>kK (a.tmps b c)).trans (jc _)
theorem sW(b:List Item)(c:Frame)(a:List Frame):jl b (c::a)=sd b c a::jl b a:=by cases a<;>rfl
theorem wS(b:e.todo≠[])(a:Value):(sd u e o).finish a=sd u (e.finish a) o:=by
 cases o with
 |nil=>exact kZ b a u
 |cons d o=>rfl
theorem J8(hP:uG P F)(D:kN P M F (sd [.code (nX m i)] e o))(Y:(sd [.code (nX m i)] e o).mode=.run->rG P W (sd [.code (nX m i)] e o))(hr:(sd [.code (nX m i)] e o).mode=.returning->o≠[])(p:Ev (e::o))(h:stepG P true (G (sd [.code (nX m i)] e o) (jl [.code (nX m i)] o++[cj P])) W=.go (G s (N++[cj P])) r z)(Z:∀q,s.mode≠.panicking q):∃J q K t,Ky K t=Ky m i∧s=sd [.code (nX K t)] J q∧N=jl [.code (nX K t)] q∧Ev (J::q)∧stepG P true (G (sd [.code i] e o) (jl [.code i] o++bs)) W=.go (G (sd [.code t] J q) (jl [.code t] q++bs)) r z:=by
 rcases D.mode with g|g
 ·cases o with
  |nil=>
   have f:=kN.strip D;have ab:=rG.strip (Y g);have O:e.mode=.run:=g;by_cases l:e.todo=[]
   ·by_cases n:nX m i=.exit 0
    ·exfalso;have⟨E,I,todo,u,v,w,round⟩:=e;have c:v=.run:=g;have a:=f.defers;have x:=f.kind;have A:=f.round;have B:todo=[]:=l;subst c a x A B;simp[sd,n,G,stepG,stepG.exec,exitTo]at h
    ·obtain⟨ad,ao,y,rfl,rfl,ar⟩:=T5 n;have⟨E,I,todo,u,v,w,round⟩:=e;have c:v=.run:=g;have a:=f.defers;have x:=f.kind;have A:=f.round;have B:todo=[]:=l;subst c a x A B;simp only[sd,ar,yu,G,stepG,stepG.exec]at h;injection h with Q R n
     injection Q with S k
     subst S R n;have k:=(bT (as:=[]) k).symm;subst k;exact⟨⟨E,I,[.code ao],[],.run,.normal,none⟩,[],ad,y,X,X,X,trivial,by simp[sd,jl,G,stepG,stepG.exec]⟩
   ·rcases Bz (Ki _) f ab O l h Z with⟨C,b,j⟩|⟨T,b,U,j⟩
    ·have c:s={ C with todo:=C.todo++[.code (nX m i)]}:=cF Goroutine.frame b;have a:=bT (cF Goroutine.callers b);subst c a;exact⟨C,[],m,i,X,X,X,trivial,j [.code i] bs⟩
    ·have c:s=T:=cF Goroutine.frame b;have a:N++[cj P]=[{ e with todo:=e.todo++[.code (nX m i)]}]++[cj P]:=cF Goroutine.callers b;have a:=bT a;subst c a;exact⟨s,[e],m,i,X,X,X,⟨U,trivial⟩,j [.code i] bs⟩
  |cons d o=>
   have f:kN P M F e:=D;have O:e.mode=.run:=g;by_cases l:e.todo=[]
   ·have⟨E,I,todo,u,v,w,round⟩:=e;have c:v=.run:=g;have a:=f.defers;have x:=f.kind;have A:=f.round;have B:todo=[]:=l;subst c a x A B;simp only[sd,G,stepG,stepG.exec]at h;injection h with Q R n
    injection Q with S k
    subst S R n;have k:=(bT k).symm;subst k;exact⟨⟨E,I,[],[],.returning,.normal,none⟩,d::o,m,i,X,X,X,p,by simp[sd,G,stepG,stepG.exec]⟩
   ·rcases Bz DX f (Y g) O l (by rw[j0];exact h) Z with⟨C,b,j⟩|⟨T,b,U,j⟩
    ·rw[j0]at b;have c:s=C:=cF Goroutine.frame b;have a:=bT (cF Goroutine.callers b);subst c a;refine⟨s,d::o,m,i,X,X,X,p,?_⟩;have:=j [] (jl [.code i] (d::o)++bs);simpa [sd,jl]using this
    ·rw[j0]at b;have c:s=T:=cF Goroutine.frame b;have a:N++[cj P]=(e::jl [.code (nX m i)] (d::o))++[cj P]:=cF Goroutine.callers b;have a:=bT a;subst c a;refine⟨s,e::d::o,m,i,X,X,X,⟨U,p⟩,?_⟩;have:=j [] (jl [.code i] (d::o)++bs);simpa [sd,jl]using this
 ·cases o with
  |nil=>exact absurd X (hr g)
  |cons d o=>
   rw[sW]at h;have⟨V,b,j⟩:=Iq hP (fr:=e) D g h;have hd:=p.1;have c:=cF Goroutine.frame b;have a:=bT (cF Goroutine.callers b);subst c a;refine⟨d.finish V,o,m,i,X,wS hd V,X,?_,?_⟩
   ·cases o with
    |nil=>trivial
    |cons av o=>exact p.2
   ·rw[sW];have:=j (sd [.code i] d o) (jl [.code i] o++bs);rw[wS hd]at this;exact this
theorem LI(d:∀b,Q b->O0 b)(a:r.heap.size=y.heap.size)(e:EvS (n9 Q B) V r Y):OU (iL O0 B y) y.heap.size Y:=by
 have c:=PK (B:=B) d e;rw[a]at c;have d:iL O0 B r=iL O0 B y:=by unfold iL;rw[a]
 rwa [d]at c
theorem VW.size(a:VW Q F B W0 V W):V.heap.size=W.heap.size:=by
 have:=a.Em.tI V.heap.size (aa _);have:V.heap.size=W.heap.size+(V.heap.size-V.heap.size):=this;omega
theorem Bx{d:Nat}(g:∀b,Q b->O0 b)(j:r.heap.size=y.heap.size)(f:ky (n9 Q B) id (dZ V W.tape d) r (W.at d) y)(k:∀a,a∈z->EvS (n9 Q B) (dZ V W.tape d) r a):Ph (iL O0 B W) (iL O0 B y) (W.at d) y z:=by
 have h:W.heap.size<=y.heap.size:=by have:=f.size;have a:(W.at d).heap.size=W.heap.size:=rfl;omega
 refine⟨f.tape,f.os,f.out,h,λb c l=>f.other b c λi m o a=>l ?_,λb c=>c.imp id λe=>⟨e.1,aj e.2 h⟩,λb c=>?_,λa n=>LI g j (k a n)⟩
 ·have a:i=b:=a;subst a;exact m.imp (g i) λe=>⟨e,c⟩
 ·rcases c with e|⟨f,g⟩
  ·exact I (I e)
  ·by_cases a:b<W.heap.size
   ·exact I (J ⟨f,a⟩)
   ·exact J ⟨Nat.le_of_not_lt a,g⟩
theorem VW.next{d:Nat}(a:VW Q F B W0 V W)(o:ni (n9 Q B) F id r y)(c:ky (n9 Q B) id (dZ V W.tape d) r (W.at d) y):VW Q F B W0 r y:=
 ⟨o,λb e=>by
  have⟨h,i,⟨j,k,l⟩,p⟩:=a.Up b e;have m:=c.E8 b (I h) i ⟨j,k,l⟩
  exact⟨h,aj i c.le,⟨j,k,m.1.trans l⟩,m.2.trans p⟩,λb e n=>(c.other b (aj e a.le) λq f s g=>by
   have g:q=b:=g;subst g;rcases f with f|f
   ·exact n f
   ·omega).trans (a.old b e n),aK a.le (by have:=c.size;have g:(W.at d).heap.size=W.heap.size:=rfl;omega)⟩
theorem VW.dZ(a:VW Q F B W0 V W)(d:Nat):ni (n9 Q B) F id (Go.Proofs.YtedifobeggabnaaGreat.dZ V W.tape d) (W.at d):=⟨⟨a.Em.cl.blk,a.Em.cl.tI,a.Em.cl.wt⟩,a.Em.blk,a.Em.inj,a.Em.tI⟩
theorem Rn{tl:Code}(k:uJ P Q F B)(hQ:∀b,Q b->O0 b)(I:∀l V T d,R l V->R l (dZ V T d))(ao:∀a V W,l6 P Q F B a [] V->VW Q F B W0 V W->a.mode=.run->a.todo=[]->a.fn=f->R ⟨a.tmps,a.defers⟩ V->Wk P Stop (iL O0 B W) (G { a with todo:=[.code tl]} bs) W):∀a c g e V W,Ky g e=tl->l6 P Q F B (sd [.code (nX g e)] a c) (jl [.code (nX g e)] c) V->VW Q F B W0 V W->yV P [cj P] (Iy f R) (sd [.code (nX g e)] a c) (jl [.code (nX g e)] c) V->Ev (a::c)->Wk P Stop (iL O0 B W) (G (sd [.code e] a c) (jl [.code e] c++bs)) W:=by
 have ar:∀l V T d,R l (dZ V T d)↔R l V:=λl V T d=>⟨λh=>by have:=I l _ V.tape V.drawn h;exact this,I l V T d⟩
 have J:∀a c V T d,l6 P Q F B a c V->(Iy f R a c (dZ V T d)↔Iy f R a c V):=λa c V T d _=>by
  unfold Iy;rw[ar]
 intro a c g e V W K i y t hb;have M:=yV.acc k J i t;generalize hs:((sd [.code (nX g e)] a c,jl [.code (nX g e)] c,V):Ux)=av at M;induction M generalizing a c g e V W with
 |_ av _ ih=>
  subst hs;by_cases z:Iy f R (sd [.code (nX g e)] a c) (jl [.code (nX g e)] c) V
  ·have⟨N,e2,o,e4,e5⟩:=z;cases c with
   |cons d c=>rw[sW]at N;cases N
   |nil=>
    have o:a.todo++[.code (nX g e)]=[.code (.exit 0)]:=o
    have A:a.todo=[]:=by
     cases t:a.todo with
     |nil=>rfl
     |cons h r=>rw[t]at o;have:=cF List.length o;simp at this
    rw[A]at o;have e7:nX g e=.exit 0:=by simpa using o
    have O:=T4 e7;rw[K]at O;subst O;have hL:l6 P Q F B a [] V:=⟨kN.strip i.fr,λe s=>by simp at s,i.blk,i.le,i.cf⟩;have:=ao a V W hL y e2 A e4 e5;have e9:sd [.code tl] a []={ a with todo:=[.code tl]}:=by simp[sd,A]
    rw[e9];exact this
  ·refine Wk.mk X λd=>?_
   have⟨a7,a8,C,u,v,w,x,ax⟩:=t.next k J i z W.tape d;have m:=i.dZ W.tape d;have p:∀b,gG Q B (dZ V W.tape d).heap.size b->n9 Q B b:=λb i=>i.imp id js
   have S:=qh k m v;have a0:(sd [.code (nX g e)] a c).mode=.returning->c≠[]:=λn D=>S n (by rw[D];rfl)
   have q:=y.Em;have U:ni (n9 Q B) F id (dZ V W.tape d) (W.at d):=⟨⟨q.cl.blk,q.cl.tI,q.cl.wt⟩,q.blk,q.inj,q.tI⟩
   have Y:∀j n,(dZ V W.tape d).drawn<=j->j<C.drawn->(dZ V W.tape d).tape j n=(W.at d).tape ((W.at d).drawn+(j-(dZ V W.tape d).drawn)) n:=λj n x _=>by
    have x:d<=j:=x;show W.tape j n=W.tape (d+(j-d)) n
    congr 1
    omega
   have hi:=sG (main:=true) (bs:=[cj P]) (f:=id) (W:=W.at d) k.yA k.fns (m.fr.mono p) (λe s=>(m.cs e s).mono p) U S v w Y;have⟨a9,ba,E,D,a1,a2,Z,a3,ab,a4⟩:=hi;obtain⟨rfl,rfl⟩:=yO D;have em:∀r:List Frame,(∀h,h∈r->kN P (n9 Q B) F h)->r.map (jr id)=r:=λr hl=>(jk λh hx=>ri (hl h hx)).trans oi
   have ee:u.map (yj id)=u:=(bf λh _=>FQ h).trans oi;rw[ri (m.fr.mono p),em _ (λe s=>(m.cs e s).mono p),ri a1,em _ a2,ee]at Z;obtain⟨a5,a6,m1,c1,q1,rfl,rfl,q4,q5⟩:=J8 (bs:=bs) k.fns (m.fr.mono p) (λhm=>Cy k.yA k.fns (m.fr.mono p) hm U v w Y) a0 hb Z w;have ad:=y.next a3 ab;exact⟨_,E,u,iL O0 B E,q5,Bx hQ ad.size ab a4,ih (_,_,C) ⟨z,W.tape,d,u,v,w⟩ a5 a6 m1 c1 C E (q1.trans K) x ad ax q4 X⟩
theorem OQ{n:Nat}(o:uJ P Q F W.heap.size)(r:∀b,Q b->O0 b)(s:VW Q F W.heap.size W0 V W)(a:l6 P Q F W.heap.size (b.at p []) [] V)(j:uT P F (nX n i))(t:∀T d,Eo P n i R p (dZ V T d))(u:∀p V T d,R p V->R p (dZ V T d))(v:∀k e f,R k e->l6 P Q F W.heap.size (b.at k []) [] e->VW Q F W.heap.size W0 e f->Wk P Stop (iL O0 W.heap.size f) (G (b.at k [.code (Ky n i)]) bs) f):Wk P Stop O0 (G (b.at p [.code i]) bs) W:=by
 have q:l6 P Q F W.heap.size (b.at p [.code (nX n i)]) [] V:=⟨⟨a.fr.fn,a.fr.tmps,λk g=>by
  have g:k∈[Item.code (nX n i)]:=g;simp at g;subst g;exact j,a.fr.defers,a.fr.kind,a.fr.round,a.fr.mode⟩,λi j=>by simp at j,a.blk,a.le,a.cf⟩
 have w:=OD o q t;have x:b.kind=.normal:=a.fr.kind
 have:=Rn (O0:=O0) (bs:=bs) (W0:=W0) (f:=b.fn) (R:=R) (tl:=Ky n i) (Stop:=Stop) o r u (λc e f l y a g j z=>by
  have h:c=b.at ⟨c.tmps,c.defers⟩ []:=by
   have⟨A,K,todo,M,B,C,round⟩:=c;have D:B=.run:=a;have E:todo=[]:=g;have I:=l.fr.kind;have m:=l.fr.round;have J:A=b.fn:=j;subst D E I m J;simp[Frame.at,x]
  have a:=l;rw[h]at a;have m:({ c with todo:=[.code (Ky n i)]}:Frame)=b.at ⟨c.tmps,c.defers⟩ [.code (Ky n i)]:=by rw[h];rfl
  rw[m];exact v _ e f z a y) (b.at p []) [] n i V W X q s w trivial
 have h:=iL.self O0 W;rw[h]at this;exact this
end
section
variable {P:Program}{Q O0:Nat->Prop}{F:Fx}{B:Nat}{b:Frame}{R:Act->World->Prop}{V W W0:World}{Stop:(Nat->Prop)->Goroutine->World->Prop}{bs:List Frame}{a:Frame->List Frame->World->Prop}
theorem K5(b:Frame)(c:List Frame):GL (jl [] (b::c)++bs)=G b (c++bs):=by
 have:∀a:List Frame,jl [] a=a:=by
  intro a;induction a with
  |nil=>rfl
  |cons e a d=>cases a with
   |nil=>simp[jl]
   |cons y a=>rw[jl,d]
 rw[this];rfl
theorem Ip(f:uJ P Q F B)(R:∀b,Q b->O0 b)(y:∀c e V T d,l6 P Q F B c e V->(a c e (dZ V T d)↔a c e V))(S:∀c e V W,l6 P Q F B c e V->VW Q F B W0 V W->a c e V->Wk P Stop (iL O0 B W) (G c (e++bs)) W):∀c e V W,l6 P Q F B c e V->VW Q F B W0 V W->yV P [cj P] a c e V->Ev (c::e)->Wk P Stop (iL O0 B W) (G c (e++bs)) W:=by
 intro c e V W h s z U;have A:=yV.acc f y h z;generalize Y:((c,e,V):Ux)=Z at A;induction A generalizing c e V W with
 |_ Z _ ih=>
  subst Y;by_cases t:a c e V
  ·exact S c e V W h s t
  ·refine Wk.mk X λd=>?_
   have⟨ab,ad,u,n,o,p,q,ao⟩:=z.next f y h t W.tape d;have g:=h.dZ W.tape d;have i:∀b,gG Q B (dZ V W.tape d).heap.size b->n9 Q B b:=λb h=>h.imp id js
   have C:=qh f g o;have k:=s.Em;have D:ni (n9 Q B) F id (dZ V W.tape d) (W.at d):=⟨⟨k.cl.blk,k.cl.tI,k.cl.wt⟩,k.blk,k.inj,k.tI⟩
   have E:∀j m,(dZ V W.tape d).drawn<=j->j<u.drawn->(dZ V W.tape d).tape j m=(W.at d).tape ((W.at d).drawn+(j-(dZ V W.tape d).drawn)) m:=λj m q _=>by
    have q:d<=j:=q;show W.tape j m=W.tape (d+(j-d)) m
    congr 1
    omega
   have hi:=sG (main:=true) (bs:=[cj P]) (f:=id) (W:=W.at d) f.yA f.fns (g.fr.mono i) (λv w=>(g.cs v w).mono i) D C o p E;have⟨a2,a3,x,ar,av,ax,I,a0,K,a1⟩:=hi;obtain⟨rfl,rfl⟩:=yO ar;have M:∀r:List Frame,(∀l,l∈r->kN P (n9 Q B) F l)->r.map (jr id)=r:=λr hl=>(jk λl hx=>ri (hl l hx)).trans oi
   have ee:n.map (yj id)=n:=(bf λl _=>FQ l).trans oi;rw[ri (g.fr.mono i),M _ (λv w=>(g.cs v w).mono i),ri av,M _ ax,ee]at I;have⟨N,q4⟩:=Rq (bs:=bs) (k:=[]) f.fns (g.fr.mono i) (λhm=>Cy f.yA f.fns (g.fr.mono i) hm D o p E) C U (λ_=>J X) I p;rw[K5,K5]at N;have O:=s.next a0 K;exact⟨_,x,n,iL O0 B x,N,Bx R O.size K a1,ih (_,_,u) ⟨t,W.tape,d,n,o,p⟩ ab ad u x q O ao q4 X⟩
theorem Lf{Post:Value->World->Prop}(v:uJ P Q F W.heap.size)(w:∀b,Q b->O0 b)(x:VW Q F W.heap.size W0 V W)(N:qB (gG Q W.heap.size V.heap.size) F V)(O:KJ F W.heap.size V){n:FuncId}(R:F.fn n)(q:∀a,a∈U->bG (gG Q W.heap.size V.heap.size) F a)(S:∀T d,Calls P n U (Go.Proofs.YtedifobeggabnaaGreat.dZ V T d) λg Y=>∃a,g=.returned a∧Post a Y)(y:∀a V T d,Post a V->Post a (Go.Proofs.YtedifobeggabnaaGreat.dZ V T d))(Z:∀a c f,Post a c->VW Q F W.heap.size W0 c f->bG (gG Q W.heap.size c.heap.size) F a->qB (gG Q W.heap.size c.heap.size) F c->Wk P Stop (iL O0 W.heap.size f) (G (e.finish a) bs) f):Wk P Stop O0 (G (Frame.enter P n U .normal) (e::bs)) W:=by
 have⟨ht,hk⟩:=sI v R q N (by rw[x.size];exact aa _) O S
 have:=Ip (O0:=O0) (bs:=e::bs) (W0:=W0) (Stop:=Stop) v w (λh z V T d ab=>xR y h z V T d ab) (λh z c f i A hT=>by
  obtain⟨rfl,v0,ad,ao⟩:=hT;refine Wk.mk X λd=>?_
  have⟨_,a,hl,hp⟩:=(xR y h [] c f.tape d i).2 ⟨X,v0,ad,ao⟩;have o:=i.dZ f.tape d;have B:∀b,gG Q W.heap.size c.heap.size b->n9 Q W.heap.size b:=λb r=>r.imp id js
  have C:=A.dZ d;have⟨hm,hd,ar,p,av,ax⟩:=hl;have s:=gh (P:=P) (S:=n9 Q W.heap.size) (F:=F) (f:=id) p (o.fr.mono B).tmps;have a0:=gh (P:=P) (S:=gG Q W.heap.size c.heap.size) (F:=F) (f:=id) p i.fr.tmps;have a1:=ri (o.fr.mono B);have a2:h.tmps.map (bI id)=h.tmps:=cF Frame.tmps a1;rw[a2]at s;cases t:(results p h.tmps).runT P (Go.Proofs.YtedifobeggabnaaGreat.dZ c f.tape d) #[]with
  |mk a3 k=>
   have g:=Sem.runT_fst P (results p h.tmps) (Go.Proofs.YtedifobeggabnaaGreat.dZ c f.tape d) #[];rw[t,ax]at g;have g:a3=.ok a (Go.Proofs.YtedifobeggabnaaGreat.dZ c f.tape d):=g;subst g
   have D:bG (gG Q W.heap.size c.heap.size) F a:=by
    have⟨⟨a',q⟩,_⟩:=SR.tight s C.cl a0 o.blk t (λb i u=>absurd u E);exact q.1
   have⟨v',l,E',m,I,h6,h7,J,h9⟩:=s.run C t (λj a9 i u=>absurd u E);have m:k=E':=by simpa using m
   subst m;obtain⟨_,rfl⟩:=h6;rw[kK D]at I;have a4:=A.next h7 J
   have a5:stepG P true (G h (e::bs)) (f.at d)=.go (G (e.finish a) bs) l (seen P h.fn k):=by
    have⟨ba,bb,bc,a6,a7,a8,round⟩:=h;have m:a7=.returning:=hm;have e2:a6=[]:=hd;have e3:a8=.normal:=ar;subst m e2 e3;simp only[G,stepG,unwind,av];have K:=I #[];have ee:k.map (yj id)=k:=(bf λr _=>FQ r).trans oi;rw[ee]at K;rw[K];simp[GStep.after,doReturn]
   have M:VW Q F W.heap.size W0 (Go.Proofs.YtedifobeggabnaaGreat.dZ c f.tape d) l:=a4;exact⟨_,l,_,iL O0 W.heap.size l,a5,Bx w M.size J (λg he=>h9 g (mE P h.fn k g he)),Z a (Go.Proofs.YtedifobeggabnaaGreat.dZ c f.tape d) l hp M D o.blk⟩) (Frame.enter P n U .normal) [] V W hk x ht trivial
 have g:=iL.self O0 W;rw[g]at this;exact this
theorem PN(j:uJ P Q F W.heap.size)(n:∀b,Q b->O0 b)(o:VW Q F W.heap.size W0 V W)(h:l6 P Q F W.heap.size (b.at p [.code i]) [] V)(q:∀T d,i.wp P (λe p k=>(e=.normal∨e=.ret)∧R p k) p (dZ V T d))(g:∀p V T d,R p V->R p (dZ V T d))(r:∀k c f l,R k c->VW Q F W.heap.size W0 c f->Wk P Stop (iL O0 W.heap.size f) (G { b.at k l with mode:=.returning } bs) f):Wk P Stop O0 (G (b.at p [.code i]) bs) W:=by
 have s:=Rm j h q;have k:∀p V T d,R p (dZ V T d)↔R p V:=λp V T d=>⟨λq=>by have:=g p _ V.tape V.drawn q;exact this,g p V T d⟩
 have q:∀a g c T d,l6 P Q F W.heap.size a g c->(Pg b.fn R a g (dZ c T d)↔Pg b.fn R a g c):=λa g c T d _=>by
  unfold Pg;rw[k]
 have t:b.kind=.normal:=h.fr.kind
 have:=Ip (O0:=O0) (bs:=bs) (W0:=W0) (Stop:=Stop) j n q (λa g c f m u v=>by
  obtain⟨rfl,w,x,y⟩:=v
  have e:a={ b.at ⟨a.tmps,a.defers⟩ a.todo with mode:=.returning }:=by
   have⟨z,I,l,J,mode,A,round⟩:=a;have B:mode=.returning:=w;have C:=m.fr.kind;have D:=m.fr.round;have E:z=b.fn:=x;subst B C D E;simp[Frame.at,t]
  have g:=r ⟨a.tmps,a.defers⟩ c f a.todo y u;rw[<-e]at g;exact g) _ _ V W h o s trivial
 have e:=iL.self O0 W;rw[e]at this;exact this
end
def KU(c:Nat->Prop)(d:TypeId)(b:Nat->Option (Nat×Nat)):Fx:=⟨c,λa=>((b a).map (·.1)).getD 0,λa=>(b a).isSome=true,d⟩
def Ap(b c:Nat)(d:Array Value):Array Value:=Array.ofFn (n:=c) λa=>if a.1<b then .int .i64 0 else d.getD a.1 undef
theorem pP(b a:Nat)(c:Array Value):(Ap b a c).size=a:=by simp[Ap]
def VT(b a:Nat)(d:TypeId):Obj->Obj
 |.cells c _ _=> .cells (Ap b a c) d (0,a)
 |e=>e
def dA(c:TypeId)(d:Nat->Option (Nat×Nat))(a:World):World:={ a with heap:=a.heap.mapIdx λe b=>match d e with
 |some (f,g)=>VT f g c b
 |none=>b }
section
variable {l:Nat->Prop}{wt:TypeId}{W:World}{Q:Nat->Prop}{K:Nat->Option (Nat×Nat)}
theorem jP:(dA wt K W).heap.size=W.heap.size:=by simp[dA]
theorem qR(a:K m=none):(dA wt K W).heap[m]?=W.heap[m]?:=by
 simp only[dA,Array.getElem?_mapIdx,a];cases W.heap[m]?<;>rfl
theorem nF{a:TypeId}{b:Nat×Nat}(c:K m=some (C,D))(d:W.heap[m]?=some (.cells U a b)):(dA wt K W).heap[m]?=some (.cells (Ap C D U) wt (0,D)):=by
 simp only[dA,Array.getElem?_mapIdx,d,c];rfl
theorem s0{a:Value}(c:K m=some (C,D))(b:C<=A)(d:A<D)(e:W.cell? ⟨m,A,none⟩=some a):(dA wt K W).cell? ⟨m,A,none⟩=some a:=by
 have⟨f,h,i,g,_,b⟩:=fS e;have b:f[A]?=some a:=b;simp only[World.cell?,nF c g];have a:¬A<C:=E;simp[Ap,d,a,b]
theorem Aq(o:∀a c d,K a=some (c,d)->∃e k m,W.heap[a]?=some (.cells e k m)∧d<=e.size∧∀f,c<=f->f<d->bG (λa=>(K a).isSome=true∨Q a) (KU l wt K) (e.getD f undef))(v:∀a,Q a->K a=none∧∃n,W.heap[a]?=some n∧vH (λa=>(K a).isSome=true∨Q a) (KU l wt K) n):VW (λa=>(K a).isSome=true∨Q a) (KU l wt K) W.heap.size W (dA wt K W) W∧qB (gG (λa=>(K a).isSome=true∨Q a) W.heap.size (dA wt K W).heap.size) (KU l wt K) (dA wt K W)∧KJ (KU l wt K) W.heap.size (dA wt K W):=by
 have s:(dA wt K W).heap.size=W.heap.size:=jP
 have w:∀a,(K a).isSome=true->a<W.heap.size:=λa b=>by
  have⟨⟨c,d⟩,h⟩:=di.1 b;have⟨e,k,m,i,_⟩:=o a c d h;exact aC i
 have p:∀a,((K a).isSome=true∨Q a)->gG (λa=>(K a).isSome=true∨Q a) W.heap.size (dA wt K W).heap.size a:=λa b=>I b
 have r:KJ (KU l wt K) W.heap.size (dA wt K W):=⟨λa b h=>by have:=w a h;omega,λa h=>by
  have⟨⟨c,d⟩,g⟩:=di.1 h;have⟨e,k,m,i,_⟩:=o a c d g;exact⟨Ap c d e,by rw[nF g i,pP];rfl⟩⟩
 have u:qB (gG (λa=>(K a).isSome=true∨Q a) W.heap.size (dA wt K W).heap.size) (KU l wt K) (dA wt K W):=λa b A=>by
  rcases b with(b|b)|b
  ·have⟨⟨c,d⟩,g⟩:=di.1 b;have⟨e,k,m,i,x,t⟩:=o a c d g;refine⟨_,nF g i,λA y=>?_⟩;unfold Ap at y;obtain⟨f,rfl⟩:=Array.mem_ofFn.1 y;split
   ·simp[bG]
   ·exact bG.mono p (t _ E f.2)
  ·have⟨g,n,j,q⟩:=v a b;exact⟨n,(qR g).trans j,q.mono p⟩
  ·rw[s]at b;omega
 refine⟨⟨⟨y7 u (by rw[s];exact aa _) r,λa n b j=>?_,λ_ _ _ _ h=>h,λa b=>by show a=_;omega⟩,λa h=>?_,λ_ _ _=>rfl,aa _⟩,u,r⟩
 ·rcases b with(b|b)|b
  ·have⟨⟨c,d⟩,g⟩:=di.1 b;have⟨e,k,m,i,x,t⟩:=o a c d g;rw[nF g i]at j;cases j;refine⟨_,i,e,k,m,X,⟨λu=>absurd b u,λ_=>⟨by rw[pP];exact x,λf r p=>?_⟩⟩,λu=>absurd b u,I b⟩
   have r:c<=f:=by
    have h:(KU l wt K).lo a=c:=by simp[KU,g]
    rw[h]at r;exact r
   have p:f<d:=by rw[pP]at p;exact p
   have u:f<e.size:=E;have x:¬f<c:=E;have y:e.getD f undef=e[f]:=by simp[u]
   unfold Ap;rw[Array.getElem?_ofFn,dif_pos p,au u];show some e[f]=some (bI id (if f<c then _ else e.getD f undef));rw[af x,kK (t f r p),y]
  ·have⟨g,f,z,q⟩:=v a b;rw[qR g]at j;rw[j]at z;cases z;refine⟨n,j,?_⟩;have:=vO (f:=id) q a
   rwa [NT q]at this
  ·have:=aC j;omega
 ·have⟨⟨c,d⟩,g⟩:=di.1 h;have⟨e,k,m,i,_⟩:=o a c d g;exact⟨I h,by rw[s];exact w a h,⟨Ap c d e,wt,by rw[nF g i,pP]⟩,X⟩
end
end
section
open Go.Conc
open Go.ConcN (sumTo upd sumTo_upd upd_ne upd_same)
section
variable {P:Program}{O1:Nat->Prop}{a:Value->World->Prop}{b:Nat->Prop}
def Sm(P:Program)(O1:Nat->Prop)(a:Value->World->Prop)(b:Nat->Prop)(i:Nat)(j:Machine)(f:Trace):Prop:=
 ∃(c:Array Goroutine) (g:Goroutine) (e:World) (k:Option (Nat×Nat)) (h:Nat->Nat),j=crowd c e k∧c[0]?=some g∧Leavers P f c h∧kX b e.heap.size f∧(∀d,Et P O1 a O1 g (e.at d))∧i=sumTo c.size h
theorem LH(W:∀F,O1 F->¬b F)(G:Nat)(s:Machine)(g:Trace)(Y:Sm P O1 a b G s g):(∃I e q,stepT P s=(.ended I e,q)∧Good P a s I e (g++q))∨(∃J q K,stepT P s=(.next J,q)∧K<G∧Sm P O1 a b K J (g++q)):=by
 obtain⟨m,t,e,Z,h,rfl,u,n,M,z,rfl⟩:=Y;have A:=(z e.drawn).1;have⟨c,f,d,B,o,N,O⟩:=crowd_pick (P:=P) (w:=e) (sl:=Z) (mX n u A) ⟨0,t,u,A⟩;rcases cL c with rfl|ab
 ·obtain rfl:f=t:=by rw[u]at o;exact(cC o).symm
  have⟨_,ad,C,ao,ar,av⟩:=z d;have D:=runT_many_ended (P:=P) (sl:=B) (i:=0) o (show stepG P (0==0) f (e.at d)=_ from ao);have Q:=M.own (w':=e.at d) (aa _) W (fn:=f.frame.fn) (pos:=f.frame.place) ar;refine .inl ⟨_,_,_,O.trans D,ad,X,av,Q.clean,Q.over,⟨λv i=>?_,X⟩,λj v i k=>?_⟩
  ·have⟨j,k⟩:=List.mem_iff_getElem?.1 i;rw[mJ]at k;exact⟨_,(n.old (1+j) v E (by simpa [crowd]using k)).leaves⟩
  ·have p:=n.old j v E i;refine⟨h j,?_⟩
   have w:(g++MemOp.ofEvents 0 f.frame.fn f.frame.place C).deaf j (g++MemOp.ofEvents 0 f.frame.fn f.frame.place C).size=Deaf g j:=
    X4 g (g:=j) (g':=0) E _ (λR r=>by obtain⟨w,_,rfl⟩:=XP r;rfl)
   rw[w];exact p.hears _
 ·have p:=n.old c f ab o;have ax:(c==0)=false:=x7;have S:=(aL.1 o).1;cases T:h c with
  |zero=>rw[T]at p;rw[p.1]at N;cases N
  |succ l=>
   rw[T]at p;rcases p with⟨hf,_⟩|⟨_,U,C,hm,a0,a1⟩
   ·grind
   have D:=X9 (P:=P) (sl:=B) (i:=c) o (by rw[ax];exact a0 (e.at d));have a2:((m.map (woken P f U (e.at d))).setIfInBounds c U).size=m.size:=oi
   have a4:sumTo m.size (upd h c l)+(l+1)=sumTo m.size h+l:=by
    have:=Yf h l id S
    simp_all
   refine .inr ⟨_,_,sumTo m.size (upd h c l),O.trans D,E,_,t,e.at d,B,upd h c l,X,?_,⟨λj v k i=>?_,λj k=>by
    rw[X4 g (g:=j) (g':=c) (by simp at k;omega) _ (λR r=>by obtain⟨w,_,rfl⟩:=XP r;rfl)];exact n.above j (by simpa using k)⟩,M.appMute E hm,λd'=>z d',by rw[a2]⟩
   ·have a3:c≠0:=by omega
    rw[ay a3,df,u];simp[woken_run A]
   ·by_cases x:c=j
    ·subst x;rw[aJ (by simpa using S)]at i;obtain rfl:=cC i;rw[XT,Deaf_own];exact a1
    ·rw[ay x,df]at i;obtain⟨y,hy,rfl⟩:=cE.1 i;have V:=n.old j y k hy;rw[YD V,upd_ne h l (Ne.symm x),X4 g (g:=j) (g':=c) x _ (λR r=>by obtain⟨w,_,rfl⟩:=XP r;rfl)];exact V
def rJ(P:Program)(a:Value->World->Prop)(e:Machine)(h:Trace):Prop:=∃f b c d g,runNT P (f+1) e h=(.ended c d,g)∧runN P f e=.next b∧step P b=.ended c d∧Good P a b c d g
theorem rJ.after{b c:Machine}(d:runNT P m b T=(.next c,ad))(e:rJ P a c ad):rJ P a b T:=by
 have⟨f,g,h,i,j,k,l,n,o⟩:=e;refine⟨m+f,g,h,i,j,?_,?_,n,o⟩
 ·rw[fh,runNT_add,d];exact k
 ·rw[runN_add, <-runNT_fst P m b T,d];exact l
theorem GR(g:∀e,O1 e->¬b e){c:Array Goroutine}{f:Option (Nat×Nat)}(h:c[0]?=some v)(i:Leavers P T c ab)(j:kX b r.heap.size T)(k:∀d,Et P O1 a O1 v (r.at d)):rJ P a (crowd c r f) T:=
 run_of_inv Nat.lt_wfRel.wf (Sm P O1 a b) (Good P a) (LH g) _ _ _ ⟨c,v,r,f,ab,X,h,i,j,k,X⟩
def jd(P:Program)(a:Value->World->Prop)(b g:Nat->Prop)(h:World->Trace->Prop)(i:Goroutine)(d:World):Prop:=
 ∀(f:Array Goroutine) (j:Option (Nat×Nat)) (e:Trace) (k:Nat->Nat),f[0]?=some i->Leavers P e f k->kX b d.heap.size e->(∀c,g c->c<d.heap.size∧¬b c)->(∀c,b c->c<d.heap.size)->h d e->rJ P a (crowd f d j) e
theorem iP{Stop:(Nat->Prop)->Goroutine->World->Prop}{i:World->Trace->Prop}{S1:(Nat->Prop)->World->Trace->Prop}(k:Wk P Stop M v r)(m:∀c e f g,i r f->yr M c r e f g->S1 c e g)(n:∀c h e,(∀d,Stop c h (e.at d))->jd P a b c (S1 c) h e):jd P a b M i v r:=by
 intro o p f q s t u j l w;have⟨F,x,h,e,y,g,z,c,A,G,B,C,D,E,i⟩:=Ud k o p f q s t u j l;refine rJ.after A (n c h e C x y g z B D E (λf k=>?_) (λf k=>aj (l f k) i.size) (m _ _ _ _ w i));rcases i.new f k with c|c
 ·exact⟨aj (j f c).1 i.size,(j f c).2⟩
 ·grind
end
end
section
open Go.Conc
open Go.ConcR (KK WgAt stA smA rd wr mk Payload DC0 Bk)
open Go.ConcN (WgLive CTag WD RelBy sumTo upd upd_same upd_ne sumTo_congr sumTo_upd cnt Vc PermW)
section
variable {K:m8}{Sh0 O:Nat->Prop}{x:pI K.P}{gs:Array Goroutine}{w:World}{t:Trace}{a:Goroutine}{q:Nat->Nat}
def mL(K:m8)(q:Nat->Nat)(a:Nat)(O:Nat->Prop)(sO rO sB rB:Nat)(uS rE:Bool):pI K.P where
 j:=0
 next:=0
 nt:=0
 tk:=sU
 hs:=λ_=>fO K.P 0
 md:=⟨20,K.H-1,a,O,0⟩
 Dn:=dU
 ca:=λ_=>false
 cl:=λ_=>false
 q:=q
 buf:= #[]
 sO:=sO
 rO:=rO
 sB:=sB
 rB:=rB
 uS:=uS
 rE:=rE
 st:=0
 sm:=0
theorem lj:∀(j:Nat),sumTo j (λ_=>0)=0
 |0=>rfl
 |j+1=>by simp only[sumTo];rw[lj j]
theorem IK{uS rE:Bool}(B:1<=K.H)(Q:K.nb=gs.size)(ab:K.p0=t.size)(G:K.w0=w)(j:gs[0]?=some a)(J:Leavers K.P t gs q)(o:kX Sh0 w.heap.size t)(h:H0 K (AtKdS K (nZ K (K.H-1))) m O a w)(x:∀b,O b->b<w.heap.size∧¬Sh0 b∧¬nW K b∧¬K.rd b)(mb:∀b,K.rd b->b<w.heap.size∧¬Sh0 b∧¬nW K b)(R:∀r,r∈t->La (λb=>¬nW K b) r.act)(S:WgAt K.ty K.Wg w 0 0)(T:jz K w 0 0)(U:w.heap[K.cO]?=some (.chan 0 #[] false C D uS))(V:w.heap[K.cB]?=some (.chan K.N #[] false A Z rE)):iI K (mL K q m O C D A Z uS rE) (ry Sh0) gs w t:=by
 have B:=(aL.1 j).1
 have p:∀e b,gv K (mL K q m O C D A Z uS rE) e b->e=0∧O b:=by
  intro e b d;rcases d with d|⟨l,g,_⟩
  ·exact d
  ·exact absurd g Xt
 have M:∀e,uN K (mL K q m O C D A Z uS rE) e->e=0:=by
  intro e h;rcases h with h|⟨N,z⟩
  ·exact h
  ·have z:e<K.nb+0:=z;omega
 have P:∀i,(∀b,oL i=some b->¬Sh0 b)->(∃b,oL i=some b)->∀c a,touchAt t c=some a->a.loc=i->Knows t 0 c:=by
  intro i s ⟨b,d⟩ c a j k
  have u:a.loc.isMemory=true:=by
   rw[k];cases i<;>simp[oL]at d<;>rfl
  rcases o.known c a j u with f|⟨⟨f,B,c2⟩,_⟩
  ·exact f
  ·rw[k]at B;grind
 refine⟨⟨λb _=>by rw[G],λe b d=>(x b (p e b d).2).1,⟨λe B b N z=>by rw[(p e b N).1,(p B b z).1],λe b d=>(x b (p e b d).2).2.2.2,λe b d u=>(x b (p e b d).2).2.2.1 u,λb d u=>(mb b d).2.2 u⟩,
   λe b d=>⟨(x b (p e b d).2).2.2.1,λB=>B⟩,λb d=>⟨(mb b d).2.2,(mb b d).1⟩,λb d=>d.elim,by rw[G];exact⟨X,X,X⟩⟩,
  ⟨⟨λc r y n F u=>?_,λe h i s c a j k=>?_,λe h i s c a j k _=>?_,o.clean⟩,o.seen,o.hears,λl g=>absurd g Xt,λc n=>?_,⟨E,λc n W=>?_⟩,λl g=>absurd g Xt,λf=>absurd f Xt,⟨t,#[],oi,o.over,o.known,λr p=>by simp at p⟩⟩,
  ⟨by rw[Q];rfl,E,by show 0<=K.H;omega,λc e o _ h=>J.old c e o h,λl g=>absurd g Xt,⟨a,j,I ⟨X,X,by show 0+(K.H-1)+1=K.H;omega,X,X,h⟩⟩⟩,?_⟩
 ·have⟨b,d,o⟩:=u;exact absurd o (R r (bh n) y F b d)
 ·rw[M e h]at s ⊢;have⟨b,d,Y⟩:=s;refine P i (λf v=>?_) ⟨b,d⟩ c a j k;rw[d]at v;cases v;grind
 ·rw[M e h];have⟨b,d,Y⟩:=s;refine P i (λf v=>?_) ⟨b,d⟩ c a j k;rw[d]at v;cases v;grind
 ·have n:K.nb+0<=c:=n;exact J.above c E
 ·have:t[c]?=none:=by rw[ru];omega
  simp[Trace.act?,this]at W
 ·have e0:(sumTo K.N λc=>if(λ_=>false:Nat->Bool) c then K.er c else 0)=0:=by simpa using lj K.N
  have e1:(sumTo K.N λc=>if(λ_=>false:Nat->Bool) c then 1 else 0)=0:=by simpa using lj K.N
  refine⟨S,?_,U,V,?_,fq _,λf=>absurd f Xt,λy F=>by simp[mL]at F,λc d b=>by simp[mL,sU]at b,λl g=>absurd g Xt,λl _ g=>absurd g Xt,λc n=>absurd n Xt,by simp[mL,sumTo],λc _=>⟨λf=>absurd f Xt,λf=>absurd f.1 Xt⟩,λc _=>⟨λf=>absurd f Xt,λf=>absurd f.2.1 Xt⟩,λf=>absurd f Xt,λ_ l g=>absurd g Xt⟩
  ·show Go.ConcN.Mode 0 _ (.sp (K.H-1) 5) 0 0;have:=Go.ConcN.Mode.opn (tag:=.sp (K.H-1) 5) (j:=0) (D:=dj K (mL K q m O C D A Z uS rE)) trivial (λl g=>E) (λvs k=>by cases k);simpa [Vc,sumTo,Go.ConcN.pend]using this
  ·show jz K w ((sumTo K.N λc=>if(λ_=>false:Nat->Bool) c then K.er c else 0:Nat):Int) ((sumTo K.N λc=>if(λ_=>false:Nat->Bool) c then 1 else 0:Nat):Int);rw[e0,e1];exact T
structure Sk(K:m8)(Sh0:Nat->Prop)(x:pI K.P)(gs:Array Goroutine)(w:World)(t:Trace):Prop where
 main:∃a,gs[0]?=some a∧∀w1,dW K.rd (gz K) x.md.O w w1->K.Fin x.tk x.md.O a w1
 WU:∃q,Leavers K.P t gs q
 past:kX (λb=>Sh0 b∨b=K.Wg) w.heap.size t
 all:∀i,i<K.N->∃v,x.tk i=some v∧K.GM i v w∧∀b,K.Mv v b->b<w.heap.size∧¬nW K b
 xQ:jz K w (sumTo K.N K.er:Nat) (sumTo K.N (λi=>if K.ls i then 1 else 0):Nat)
 own:∀b,x.md.O b->b<w.heap.size∧¬nW K b∧¬K.rd b
 Ek:qF K w
 fix:w.tape=K.w0.tape∧w.os=K.w0.os∧w.output=K.w0.output
 lv:gz K w
 wg:K.Wg<w.heap.size
theorem Un.quits{b d:Nat}(a:Un K 1 b d v w):QuitsD K.P b d v:=by
 letI:Payload:=⟨K.et⟩
 rcases a with a|a
 ·exact Go.ConcN.WSit.quits a X
 ·exact Go.ConcN.WSit.quits a X
theorem Pq(e:iI K x (ry Sh0) gs w t)(hf:ua K x gs w):Sk K Sh0 x gs w t:=by
 have⟨Z,a,ha,a1⟩:=hf;have bb:=e.iy.one;have ab:=e.cu.mode;rw[iX (s:=1) (r:=x.md.r) (n:=0) (d:=0) (O:=dU) Z X]at ab;have⟨hq,_,_⟩:=ab.fin_inv (tag:=.ret) trivial
 have M:∀d,d<x.j->(x.hs d).st=1:=by
  intro d g;have:=hq d g;have N:(dj K x d).stage=if 14<=(x.hs d).st then 7 else(x.hs d).st:=rfl
  rw[N]at this;split at this<;>omega
 have⟨q,q1,q2,q3,q4⟩:=e.iG.acq E;have⟨u,O,p,t1,t2,t3⟩:=e.iG.old;have⟨l1,l2,l3,l4⟩:=e.cu.C4
 have v:x.next=K.N∧x.md.d0=0∧x.j=K.H:=by
  have⟨P,_,Q⟩:=e.iy.main;rcases Q with c|c|c|c|c|c|c|c|c|c|c|c|c|c|c|c|c|c|c|⟨_,c0,h,C,_⟩
  all_goals first|(exact⟨C,c0,h⟩)|(exfalso;have:=c.1;omega)
 have ad:∀d,d<x.j->∃m,kY K t d m∧m<q∧HappensBefore t m q:=by
  intro d g;have⟨m,l,D⟩:=q4 d g;exact⟨m,l,D,.single (.inr ⟨.marked D (.inr l.rel.act) q1 (λb f _=>e.iG.norel.2 b (by have:=l.ge;omega)),l.rel.heard,q3⟩)⟩
 have ao:∃n,t[q]?=some n∧n.g=0:=by
  have⟨n,j,r⟩:=cE.1 q2;exact⟨n,j,r⟩
 have ar:∀b o,t[b]?=some o->u.size<=b->o.act.touch?≠none->o.g=0∨∃d,d<x.j∧o.g=K.nb+d:=by
  intro b o f bc a2;rw[p]at f
  have:o∈O:=by
   rcases X1 f with⟨z,_⟩|⟨_,hu⟩
   ·omega
   ·exact hu
  rcases t3 o this with c|⟨h,C⟩|c
  ·exact I c
  ·exact J ⟨o.g-K.nb,by rw[v.2.2];omega,E⟩
  ·exact absurd c a2
 refine⟨⟨a,ha,a1⟩,⟨λb=>if b<K.nb then x.q b else(x.hs (b-K.nb)).fu,λb R h0 hg=>?_,λb f=>e.iG.above b (by rw[<-e.iy.size];exact f)⟩,⟨e.iG.T6.nr,λb P f Q=>?_,?_,e.iG.deaf0.trans v.2.1,e.iG.seen⟩,λb f=>?_,?_,λi k=>?_,e.mem.Ek,e.mem.fix,e.cu.lv,l1⟩
 ·rcases Uu e hg with⟨rfl,_⟩|⟨_,f,bd⟩|⟨d,g,rfl,hs⟩
  ·omega
  ·grind
  ·show QuitsD K.P (if K.nb+d<K.nb then _ else(x.hs (K.nb+d-K.nb)).fu) _ R;rw[af E,dn,e.iG.qK d g];have a3:=M d g;rcases hs with c|c|c|c|c|c|c|c|c|⟨_,_,hw⟩
   all_goals first|(rw[a3]at hw;exact hw.quits)|(exfalso;have:=c.1;omega)
 ·have⟨n,j,av⟩:=Yl f;by_cases z:b<u.size
  ·have a4:u[b]?=some n:=by rw[p,getElem?_append_old z]at j;exact j
   rcases t2 b P (by rw[YF a4];exact av) Q with c|⟨⟨i,S,T⟩,C⟩
   ·exact I (by rw[p];exact c.app O)
   ·exact J ⟨⟨i,S,I T⟩,C⟩
  ·rcases ar b n j E (by rw[av];simp)with c|⟨d,g,c⟩
   ·have:=knows_own j;rw[c]at this;exact I this
   ·have⟨m,l,D,k⟩:=ad d g;have s:t.g? b=some (K.nb+d):=by simp[Trace.g?,j,c]
    rcases cJ b m with h|h|h
    ·have⟨U,V,r⟩:=ao;exact I ⟨q,U,V,r,J (.trans (.single (.inl ⟨h,K.nb+d,s,l.rel.g⟩)) k)⟩
    ·have⟨U,V,r⟩:=ao;subst h;exact I ⟨q,U,V,r,J k⟩
    ·have⟨⟨i,S,T⟩,W⟩:=l.wg b P h s f;exact J ⟨⟨i,S,J T⟩,W⟩
 ·intro b R s a5 A;have⟨n,j,r⟩:=cE.1 s;by_cases z:b<u.size
  ·rw[p]at A s ⊢;have⟨jx,hj,k⟩:=t1 b R (by simpa [Trace.g?,getElem?_append_old z]using s) a5 ((counts_old z).1 A)
   have a6:jx<u.size:=by
    have⟨y,F,_⟩:=cE.1 hj;exact lt_size_of_getElem? F
   exact⟨jx,by simpa [Trace.g?,getElem?_append_old a6]using hj,hb_app O k⟩
  ·have⟨y,F,_⟩:=A;have⟨z',ax,a7⟩:=Yl F;rw[j]at ax;cases ax;rcases ar b n j E (by rw[a7];simp)with c|⟨d,g,c⟩
   ·omega
   ·have⟨m,l,D,k⟩:=ad d g;have a0:t.g? b=some (K.nb+d):=by simp[Trace.g?,j,c]
    rcases cJ b m with h|h|h
    ·exact⟨q,q2,.trans (.single (.inl ⟨h,K.nb+d,a0,l.rel.g⟩)) k⟩
    ·grind
    ·exact absurd ⟨y,F, ‹_›⟩ (l.rel.after b h a0)
 ·have a8:b<x.next:=by rw[v.1];exact f
  have G:∃B,x.tk b=some B:=by
   rcases e.cu.cover b a8 with c|⟨B,c⟩|⟨d,g,c,_⟩
   ·exact c
   ·rw[e.cu.emp Z]at c;simp at c
   ·grind
  have⟨B,G⟩:=G;have⟨W,b4⟩:=e.cu.tk b B G;exact⟨B,G,W,λi k=>⟨(e.mem.pS i (b4 i k)).2,(e.mem.pS i (b4 i k)).1⟩⟩
 ·have p:=e.cu.xQ;have a9:∀b,b<K.N->x.ca b=true:=λb f=>(e.cu.ca b f).2 ⟨by rw[v.1];exact f,λd g c=>by have:=M d g;omega⟩
  have ba:∀b,b<K.N->x.cl b=K.ls b:=λb f=>by
   cases hl:K.ls b with
   |true=>exact(e.cu.cl b f).2 ⟨hl,by rw[v.1];exact f,λd g c=>by have:=M d g;omega⟩
   |false=>
    cases A:x.cl b with
    |false=>rfl
    |true=>have:=((e.cu.cl b f).1 A).1;rw[hl]at this;cases this
  have e1:(sumTo K.N λb=>if x.ca b then K.er b else 0)=sumTo K.N K.er:=Yd λb f=>by rw[a9 b f];rfl
  have N:(sumTo K.N λb=>if x.cl b then 1 else 0)=sumTo K.N (λb=>if K.ls b then 1 else 0):=Yd λb f=>by rw[ba b f]
  rw[e1,N]at p;exact p
 ·have Y:gv K x 0 i:=I ⟨X,k⟩;exact⟨e.mem.own 0 i Y,(e.mem.ld 0 i Y).1,e.mem.nj.ownRd 0 i Y⟩
