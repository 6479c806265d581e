/- Texts of ours, one behind the other: ZA1 ZA2 ZA3 ZA4 ZA5 ZA6 ZA7 ZA8 ZA9. -/
import Derived.Test.YtedifobeggabnaaGreatCbQ0
import Derived.Calls
import Derived.Conc.Events
namespace Go.Proofs.YtedifobeggabnaaGreat
variable {G av:Nat->Prop}{e:Addr}{d M:Nat}{b z:Value}{Z:Type}{ab:Nat->Nat}{j ad:Array Value}{y N O:World}{p T:Obj}{K:Event}{B:Mode}{t A ao:Array Event}{i ar:TypeId}{Y:Option Addr}{C D w:Option Value}{s:BinOp}
abbrev YN:=@Go.Sem.runT_bind'
theorem XB{a:Prop}(b:a:=by simp[bI]):a:=b
section
def kp(b:Nat->Nat)(a:Addr):Addr:={ a with block:=b a.block }
def bI(b:Nat->Nat):Value->Value
 |.pointer a=> .pointer (a.map (kp b))
 |.slice a c d=> .slice (a.map (kp b)) c d
 |.func fn first captured=> .func fn (first.map (bI b)) (captured.map (bI b))
 |.agg cs=> .agg (cs.map (bI b))
 |.tuple cs=> .tuple (cs.map (bI b))
 |v=>v
structure Fx where
 fn:Nat->Prop
 lo:Nat->Nat
 cl:Nat->Prop
 wt:TypeId
def oS(c:Nat->Prop)(b:Fx)(a:Addr):Prop:=c a.block∧(b.cl a.block->b.lo a.block<=a.off)
theorem oS.add{b:Fx}(a:oS G b e)(c:Nat):oS G b (e.add c):=by
 unfold Addr.add;split
 ·exact a
 ·exact⟨a.1,λb=>aK (a.2 b) (uX _ _)⟩
def KL(b:Program)(d:Nat->Prop)(c:Fx):Prop:=(∀a,d a->b.globals.size<=a)∧∀a,c.cl a->b.info? c.wt=none
def ShR(a:Fx)(b:Nat)(c d:Option (TypeId×Nat)):Prop:=(¬a.cl b->d=c)∧(a.cl b->∃e y,c=some (a.wt,e)∧d=some y)
theorem ShR.some{a:Fx}{b c:Option (TypeId×Nat)}(e:ShR a d b c):c.isSome=b.isSome:=by
 by_cases f:a.cl d
 ·obtain⟨g,y,rfl,rfl⟩:=e.2 f;rfl
 ·rw[e.1 f]
def bG(d:Nat->Prop)(c:Fx):Value->Prop
 |.bool _ |.int _ _ |.nilFunc=>True
 |.pointer a=>∀e,a=some e->oS d c e
 |.slice a _ _=>∀e,a=some e->oS d c e
 |.func fn first captured=>(∃f,fn=.func f∧c.fn f)∧first= #[]∧∀b,b∈captured->bG d c b
 |.agg cs=>∀b,b∈cs->bG d c b
 |.tuple cs=>∀b,b∈cs->bG d c b
 |_=>False
def vH(b:Nat->Prop)(d:Fx):Obj->Prop
 |.cells c _ _=>∀e,e∈c->bG b d e
 |.number a _=>oS b d a
 |_=>False
def OX(b:Nat->Nat):Obj->Obj
 |.cells c d e=> .cells (c.map (bI b)) d e
 |.number a f=> .number (kp b a) f
 |g=>g
theorem bG.mono{f:Fx}(c:∀g,G g->av g):∀ {b:Value},bG G f b->bG av f b
 |.bool _,_ |.int _ _,_ |.nilFunc,_=>by simp[bG]
 |.pointer a,x=>by rw[bG]at x ⊢;exact λy d=>⟨c _ (x y d).1,(x y d).2⟩
 |.slice a _ _,x=>by rw[bG]at x ⊢;exact λy d=>⟨c _ (x y d).1,(x y d).2⟩
 |.func fn first captured,x=>by rw[bG]at x ⊢;exact⟨x.1,x.2.1,λb e=>bG.mono c (x.2.2 b e)⟩
 |.agg cs,x=>by rw[bG]at x ⊢;exact λb e=>bG.mono c (x b e)
 |.tuple cs,x=>by rw[bG]at x ⊢;exact λb e=>bG.mono c (x b e)
 |.float _ _,x|.complex _ _ _,x|.string _,x|.map _,x|.chan _,x|.iface _ _,x|.nilIface,x=>by simp[bG]at x
theorem jV{f:Fx}{e g:Nat->Nat}(b:∀c,G c->e c=g c):∀ {a:Value},bG G f a->bI e a=bI g a
 |.bool _,_ |.int _ _,_ |.nilFunc,_=>XB
 |.pointer none,_=>XB
 |.pointer (some d),x=>by rw[bG]at x;simp[bI,kp,b _ (x d X).1]
 |.slice none _ _,_=>XB
 |.slice (some d) _ _,x=>by rw[bG]at x;simp[bI,kp,b _ (x d X).1]
 |.func fn first captured,x=>by
  rw[bG]at x;rw[bI,bI,x.2.1];simp only[RG,Value.func.injEq,j7];exact bf λa c=>jV b (x.2.2 a c)
 |.agg cs,x=>by
  rw[bG]at x;rw[bI,bI];simp only[Value.agg.injEq];exact bf λa c=>jV b (x a c)
 |.tuple cs,x=>by
  rw[bG]at x;rw[bI,bI];simp only[Value.tuple.injEq];exact bf λa c=>jV b (x a c)
 |.float _ _,x|.complex _ _ _,x|.string _,x|.map _,x|.chan _,x|.iface _ _,x|.nilIface,x=>by simp[bG]at x
theorem kK{b:Fx}:∀ {a:Value},bG G b a->bI id a=a
 |.bool _,_ |.int _ _,_ |.nilFunc,_=>XB
 |.pointer none,_=>XB
 |.pointer (some c),_=>by simp[bI,kp]
 |.slice none _ _,_=>XB
 |.slice (some c) _ _,_=>by simp[bI,kp]
 |.func fn first captured,x=>by
  rw[bG]at x;rw[bI,x.2.1];simp only[RG,Value.func.injEq,j7];exact(bf λa b=>kK (x.2.2 a b)).trans (jc _)
 |.agg cs,x=>by
  rw[bG]at x;rw[bI];simp only[Value.agg.injEq];exact(bf λa b=>kK (x a b)).trans (jc _)
 |.tuple cs,x=>by
  rw[bG]at x;rw[bI];simp only[Value.tuple.injEq];exact(bf λa b=>kK (x a b)).trans (jc _)
 |.float _ _,x|.complex _ _ _,x|.string _,x|.map _,x|.chan _,x|.iface _ _,x|.nilIface,x=>by simp[bG]at x
theorem ql(a:Nat->Nat):bI a U=U:=by simp[undef,bI]
theorem k9(a:Nat->Prop)(b:Fx):bG a b undef:=by simp[undef,bG]
theorem rQ(a:Nat->Nat){c:Fx}(d:bG G c b):(bI a b).cells=b.cells.map (bI a):=by
 cases b<;>simp[bI,Value.cells]<;>simp[bG]at d
theorem rP{c:Fx}(a:bG G c b):∀d,d∈b.cells->bG G c d:=by
 cases b<;>simp[Value.cells]<;>first|exact a|(simp[bG]at a;done)|(rw[bG]at a;exact a)
def Hk:Halt->Prop
 |.panic _ |.stuck _=>True
 |.unsupported u=>∀a,u≠.initOrder a
 |_=>False
def dM(b:Program)(c:Sem Z):Prop:=∀d e,∃a f g,Hk a∧c.runT b d e=(.halt a f,g)
def Iw:Mark->Prop
 |.noRoom|.extern _=>True
 |_=>False
def SR(d:Program)(e:Nat->Prop)(i:Fx)(f:Nat->Nat)(j:Z->Z->Prop):Sem Z->Sem Z->Prop
 |.pure a,g=>∃p,g=.pure p∧j a p
 |.load m a k,g=>dM d (.load m a k)∨∃b,g=.load m (kp f a) b∧m=.plain∧oS e i a∧∀l,bG e i l->SR d e i f j (k l) (b (bI f l))
 |.store m a l k,g=>dM d (.store m a l k)∨∃b,g=.store m (kp f a) (bI f l) b∧m=.plain∧oS e i a∧bG e i l∧SR d e i f j k b
 |.new o k,g=>dM d (.new o k)∨∃b,g=.new (OX f o) b∧vH e i o∧∀r,e r->¬i.cl r->SR d e i f j (k r) (b (f r))
 |.shape r k,g=>dM d (.shape r k)∨∃b,g=.shape (f r) b∧e r∧∀s t,ShR i r s t->SR d e i f j (k s) (b t)
 |.freeze a n k,_=>dM d (.freeze a n k)
 |.frozen a k,_=>dM d (.frozen a k)
 |.getObj r k,g=>dM d (.getObj r k)∨∃b,g=.getObj (f r) b∧e r∧∀o,vH e i o->SR d e i f j (k o) (b (OX f o))
 |.setObj r o k,_=>dM d (.setObj r o k)
 |.choose q k,g=>dM d (.choose q k)∨∃b,g=.choose q b∧∀n,SR d e i f j (k n) (b n)
 |.sys c k,_=>dM d (.sys c k)
 |.program k,g=>dM d (.program k)∨∃b,g=.program b∧SR d e i f j (k d) (b d)
 |.mark m k,g=>dM d (.mark m k)∨∃b,g=.mark m b∧Iw m∧SR d e i f j k b
 |.halt h,_=>Hk h
section
variable {P:Program}{S:Nat->Prop}{F:Fx}{f:Nat->Nat}{a c:Type}{R:a->a->Prop}{Q:c->c->Prop}
theorem SR.dead{d e:Sem a}(b:dM P d):SR P S F f R d e:=by
 cases d with
 |pure h=>have⟨_,_,_,_,c⟩:=b default #[];simp[Sem.runT]at c
 |halt i=>have⟨_,_,_,g,c⟩:=b default #[];simp only[Sem.runT,cK,Result.halt.injEq]at c;obtain⟨⟨rfl,_⟩,_⟩:=c;exact g
 |load _ _ _|store _ _ _ _|new _ _|shape _ _|getObj _ _|choose _ _|program _|mark _ _=>exact I b
 |freeze _ _ _|frozen _ _|setObj _ _ _|sys _ _=>exact b
theorem bJ{s:Sem a}(b:dM P s)(d:a->Sem c):dM P (s.bind d):=by
 intro d e;have⟨f,g,h,i,j⟩:=b d e;refine⟨f,g,h,i,?_⟩;rw[YN,j]
theorem SR.bind{o p:Sem a}{h w:a->Sem c}(b:SR P S F f R o p)(y:∀i q,R i q->SR P S F f Q (h i) (w q)):SR P S F f Q (o.bind h) (p.bind w):=by
 induction o generalizing p with
 |pure i=>
  obtain⟨q,rfl,r⟩:=b;exact y _ _ r
 |load x i d e=>
  rcases b with b|⟨j,rfl,s,k,g⟩
  ·exact SR.dead (bJ b h)
  ·exact J ⟨_,X,s,k,λo t=>e o (g o t)⟩
 |store x i o d e=>
  rcases b with b|⟨j,rfl,s,k,t,g⟩
  ·exact SR.dead (bJ b h)
  ·exact J ⟨_,X,s,k,t,e g⟩
 |new m d e=>
  rcases b with b|⟨j,rfl,u,g⟩
  ·exact SR.dead (bJ b h)
  ·exact J ⟨_,X,u,λl r o=>e l (g l r o)⟩
 |shape l d e=>
  rcases b with b|⟨j,rfl,k,g⟩
  ·exact SR.dead (bJ b h)
  ·exact J ⟨_,X,k,λv o p=>e v (g v o p)⟩
 |getObj l d e=>
  rcases b with b|⟨j,rfl,k,g⟩
  ·exact SR.dead (bJ b h)
  ·exact J ⟨_,X,k,λm u=>e m (g m u)⟩
 |choose B d e=>
  rcases b with b|⟨j,rfl,g⟩
  ·exact SR.dead (bJ b h)
  ·exact J ⟨_,X,λn=>e n (g n)⟩
 |program d e=>
  rcases b with b|⟨j,rfl,g⟩
  ·exact SR.dead (bJ b h)
  ·exact J ⟨_,X,e P g⟩
 |mark x d e=>
  rcases b with b|⟨j,rfl,z,g⟩
  ·exact SR.dead (bJ b h)
  ·exact J ⟨_,X,z,e g⟩
 |freeze i n d _=>exact SR.dead (bJ (s:=.freeze i n d) b h)
 |frozen i d _=>exact SR.dead (bJ (s:=.frozen i d) b h)
 |setObj l m d _=>exact SR.dead (bJ (s:=.setObj l m d) b h)
 |sys d A _=>exact SR.dead (bJ (s:=.sys d A) b h)
 |halt v=>exact b
theorem SR.bind'{b d:Sem a}{e g:a->Sem c}(j:SR P S F f R b d)(k:∀h i,R h i->SR P S F f Q (e h) (g i)):SR P S F f Q (b >>= e) (d >>= g):=SR.bind j k
theorem SR.ret{c b:a}(d:R c b):SR P S F f R (Pure.pure c) (Pure.pure b):=⟨b,X,d⟩
end
def RQ(c:Fx)(f:Nat->Nat)(d:Nat)(a e:Array Value):Prop:=(¬c.cl d->e=a.map (bI f))∧(c.cl d->a.size<=e.size∧∀b,c.lo d<=b->b<a.size->e[b]?=(a[b]?).map (bI f))
theorem RQ.get{a:Fx}(f:RQ a ab d j ad)(g:a.cl d->a.lo d<=M)(c:j[M]?=some b):ad[M]?=some (bI ab b):=by
 by_cases e:a.cl d
 ·rw[(f.2 e).2 M (g e) (aL.1 c).1,c];rfl
 ·rw[f.1 e,df,c];rfl
theorem RQ.set{a:Fx}(b:RQ a ab d j ad)(c:Nat)(e:Value):RQ a ab d (j.setIfInBounds c e) (ad.setIfInBounds c (bI ab e)):=by
 refine⟨λa=>by rw[b.1 a,Array.map_setIfInBounds],λa=>?_⟩;have⟨c,e⟩:=b.2 a;grind
theorem Uc(c:Fx)(a:Nat->Nat)(d:Nat)(b:Array Value):RQ c a d b (b.map (bI a)):=⟨λ_=>rfl,λ_=>⟨oi,λe _ _=>oi⟩⟩
def Alike(b:Fx)(g:Nat->Nat)(d:Nat):Obj->Obj->Prop
 |.cells c j k,e=>∃h i f,e=.cells h i f∧RQ b g d c h∧(¬b.cl d->i=j)∧(b.cl d∨f=k∨f=(0,0))
 |.number a l,e=>e=.number (kp g a) l
 |_,_=>False
structure Cl(S:Nat->Prop)(F:Fx)(V:World):Prop where
 blk:∀b,S b->b<V.heap.size->∃o,V.heap[b]?=some o∧vH S F o
 tI:∀b,V.heap.size<=b->S b∧¬F.cl b
 wt:∀b,F.cl b->∃c,V.heap[b]?=some (.cells c F.wt (0,c.size))
structure ni(S:Nat->Prop)(F:Fx)(f:Nat->Nat)(V W:World):Prop where
 cl:Cl S F V
 blk:∀b o,S b->V.heap[b]?=some o->∃o',W.heap[f b]?=some o'∧Alike F f b o o'
 inj:∀a b,S a->S b->f a=f b->a=b
 tI:∀b,V.heap.size<=b->f b=W.heap.size+(b-V.heap.size)
def RH(b:World)(c:Nat):Prop:=∃a d,b.heap[c]?=some (.cells a d (0,a.size))
def yj(b:Nat->Nat)(c:Event):Event:=
 { c with loc:=match c.loc with |.cell a=> .cell (kp b a) |.obj r=> .obj (b r)|l=>l }
def EvS(c:Nat->Prop)(e d:World)(b:Event):Prop:=
 match b.loc with
 |.cell a=>c a.block∧a.block<d.heap.size∧b.sync=false∧(b.write=true->¬RH e a.block)
 |.obj r=>c r∧r<d.heap.size∧b.write=false∧b.sync=false
 |.mark m=>Iw m
 |_=>False
structure ky(S:Nat->Prop)(f:Nat->Nat)(V V' W W':World):Prop where
 OA:V'.tape=V.tape
 V7:V'.os=V.os
 TA:V'.output=V.output
 tape:W'.tape=W.tape
 os:W'.os=W.os
 out:W'.output=W.output
 le:V.heap.size<=V'.heap.size
 size:W'.heap.size=W.heap.size+(V'.heap.size-V.heap.size)
 dr:V.drawn<=V'.drawn
 drawn:W'.drawn=W.drawn+(V'.drawn-V.drawn)
 other:∀b,b<W.heap.size->(∀x,S x->x<V.heap.size->f x≠b)->W'.heap[b]?=W.heap[b]?
 E8:∀x,S x->x<V.heap.size->RH V x->V'.heap[x]?=V.heap[x]?∧W'.heap[f x]?=W.heap[f x]?
 Sz:∀x,x<V.heap.size->¬S x->V'.heap[x]?=V.heap[x]?
section
variable {P:Program}{S:Nat->Prop}{F:Fx}{f:Nat->Nat}{a:Type}{R:a->a->Prop}{V V' W:World}
theorem aC(a:y.heap[d]?=some p):d<y.heap.size:=(aL.1 a).1
theorem ky.refl(V W:World):ky S f V V W W:=⟨X,X,X,X,X,X,aa _,E,aa _,E,λ_ _ _=>rfl,λ_ _ _ _=>⟨X,X⟩,λ_ _ _=>rfl⟩
theorem ky.trans {d h g e i j:World}(k:∀c,d.heap.size<=c->f c=e.heap.size+(c-d.heap.size))(a:ky S f d h e i)(b:ky S f h g i j):ky S f d g e j where
 OA:=b.OA.trans a.OA
 V7:=b.V7.trans a.V7
 TA:=b.TA.trans a.TA
 tape:=b.tape.trans a.tape
 os:=b.os.trans a.os
 out:=b.out.trans a.out
 le:=aK a.le b.le
 size:=by have:=a.le;have:=b.le;have:=a.size;have:=b.size;omega
 dr:=aK a.dr b.dr
 drawn:=by have:=a.dr;have:=b.dr;have:=a.drawn;have:=b.drawn;omega
 other:=λc i j=>by
  refine(b.other c (by have:=a.size;omega) λd e g=>?_).trans (a.other c i j);grind
 E8:=λd e g i=>by
  have j:=a.E8 d e g i;have k:RH h d:=by have⟨l,m,n⟩:=i;exact⟨l,m,j.1.trans n⟩
  have c:=b.E8 d e (aj g a.le) k;grind
 Sz:=λd g e=>(b.Sz d (aj g a.le) e).trans (a.Sz d g e)
theorem EvS.UP(c:∀b,S b->b<y.heap.size->RH y b->RH N b)(a:EvS S N O K):EvS S y O K:=by
 unfold EvS at a ⊢;split at a<;>try exact a
 refine⟨a.1,a.2.1,a.2.2.1,λd b=>a.2.2.2 d ?_⟩;refine c _ a.1 ?_ b;have⟨a,c,K⟩:=b;grind
theorem EvS.Vf(b:N.heap.size<=O.heap.size)(a:EvS S y N K):EvS S y O K:=by
 unfold EvS at a ⊢;grind
theorem fS(a:V.cell? e=some b):∃c d f,V.heap[e.block]?=some (.cells c d f)∧e.spot=none∧c[e.off]?=some b:=by
 unfold World.cell? at a;split at a
 ·rename_i c d f g
  simp_all
 ·cases a
theorem Cl.sk(d:Cl S F V)(f:S e.block)(g:V.cell? e=some b):bG S F b:=by
 have⟨j,k,l,a,_,h⟩:=fS g;have⟨g,c,i⟩:=d.blk _ f (aC a);rw[a]at c;cases c;exact i _ (bh h)
theorem LL(a:Program){b:Bool}(g:∀c d,y.heap[e.block]?≠some (.view c d)):∃f,y.farLoad a e b=.error f:=by
 unfold World.farLoad
 simp_all
theorem IX(a:Program){v:Value}{b:Bool}(g:∀c d,y.heap[e.block]?≠some (.view c d)):∃f,y.farStore a e v b=.error f:=by
 unfold World.farStore
 simp_all
theorem Cl.noView(c:Cl S F V)(e:S d):∀a f,V.heap[d]?≠some (.view a f):=by
 intro f y a;have⟨f,b,g⟩:=c.blk _ e (aC a);rw[a]at b;cases b;exact g
theorem Ca(c:ni S F f V W)(a:oS S F e)(d:V.cell? e=some b):W.cell? (kp f e)=some (bI f b):=by
 have⟨m,n,o,g,h,i⟩:=fS d;have⟨d,j,k⟩:=c.blk _ _ a.1 g;obtain⟨p,q,r,rfl,l,_⟩:=k;simp[World.cell?,kp,j,h,l.get a.2 i]
theorem E9(c:ni S F f V W)(g:S e.block)(h:V.cell? e=some b)(a:V.frozen? e=false):W.frozen? (kp f e)=false:=by
 have⟨m,n,o,d,_,p⟩:=fS h;have⟨h,i,j⟩:=c.blk _ _ g d;obtain⟨q,r,s,rfl,_,_,k⟩:=j;unfold World.frozen? at a ⊢;rw[d]at a;show(match W.heap[f e.block]? with|some (.cells _ _ (d,g))=>decide (d<=e.off) && decide (e.off<g)|_=>false)=false;rw[i];rcases k with l|rfl|rfl
 ·exfalso;have⟨d,g⟩:=c.cl.wt _ l;grind
 ·exact a
 ·simp
theorem heap_setCell(d:World)(a:Addr)(e:Value)(b:Nat):(d.setCell a e).heap[b]?=if b=a.block then(d.heap[b]?).map (λ|.cells c f g=> .cells (if a.spot.isSome then c else c.setIfInBounds a.off e) f g|h=>h)else d.heap[b]?:=by
 unfold World.setCell;grind
theorem size_setCell(a:World)(b:Addr)(c:Value):(a.setCell b c).heap.size=a.heap.size:=by simp[World.setCell]
theorem Cl.setCell(h:Cl S F V){v:Value}(k:bG S F v):Cl S F (V.setCell e v):=by
 refine⟨λb i c=>?_,λb c=>h.tI b (by rw[size_setCell]at c;exact c),λb i=>?_⟩;rotate_left
 ·have⟨a,j⟩:=h.wt b i;rw[heap_setCell];split
  ·rw[j];refine⟨if e.spot.isSome then a else a.setIfInBounds e.off v,?_⟩;split<;>simp
  ·exact⟨a,j⟩
 rw[size_setCell]at c;have⟨l,m,g⟩:=h.blk b i c;rw[heap_setCell];split
 ·rw[m];refine⟨_,X,?_⟩;cases l with
  |cells a n o=>
   intro d f;split at f
   ·exact g d f
   ·rcases dY f with f|rfl
    ·exact g d f
    ·exact k
  |number _ _=>exact g
  |_=>exact g.elim
 ·grind
theorem Cl.push(b:Cl S F V)(d:vH S F p):Cl S F { V with heap:=V.heap.push p }:=by
 refine⟨λa c d=>?_,λa d=>b.tI a (by simp at d;omega),λa c=>?_⟩;rotate_left
 ·have⟨e,f⟩:=b.wt a c;grind
 simp only[cZ]at d;rw[cv];split
 ·grind
 ·exact b.blk a c E
theorem Cl.drew(a:Cl S F V)(b:Nat):Cl S F { V with drawn:=b }:=⟨a.blk,a.tI,a.wt⟩
theorem lY{b:Value->Sem a}{c:a}(g:∀f h,V.heap[e.block]?≠some (.view f h))(d:(Sem.load B e b).runT P V t=(.ok c V',A)):∃f,V.cell? e=some f∧(b f).runT P V (t.push ⟨.cell e,false,B==.atomic⟩)=(.ok c V',A):=by
 simp only[Sem.runT]at d;split at d
 ·grind
 ·have⟨b,c⟩:=LL (b:=B==.atomic) P g;grind
theorem sz{c:Value->Sem a}(d:V.cell? e=some b):(Sem.load B e c).runT P V t=(c b).runT P V (t.push ⟨.cell e,false,B==.atomic⟩):=by
 simp only[Sem.runT,d]
theorem xd:(Mode.plain==Mode.atomic)=false:=rfl
def One:Value->Prop
 |.agg _ |.tuple _=>False
 |_=>True
theorem One.rn(a:One b):One (bI f b):=by cases b<;>simp[One,bI]at a ⊢
theorem kT{c:Sem a}(d:One b)(f:V.cell? e=some z)(g:V.frozen? e=false):(Sem.store B e b c).runT P V t=c.runT P (V.setCell e b) (t.push ⟨.cell e,true,B==.atomic⟩):=by
 cases b<;>simp[Sem.runT,f,g]<;>exact d.elim
theorem kU{g:Sem a}{h:a}(k:∀l m,V.heap[e.block]?≠some (.view l m))(c:(Sem.store B e b g).runT P V t=(.ok h V',A)):One b∧∃d,V.cell? e=some d∧V.frozen? e=false∧g.runT P (V.setCell e b) (t.push ⟨.cell e,true,B==.atomic⟩)=(.ok h V',A):=by
 have i:One b:=by
  cases b<;>first|trivial|(simp[Sem.runT]at c)
 refine⟨i,?_⟩;cases f:V.cell? e with
 |none=>
  have⟨g,n⟩:=IX (v:=b) (b:=B==.atomic) P k;cases b<;>simp[Sem.runT,f,n]at c
 |some d=>
  cases j:V.frozen? e with
  |true=>cases b<;>simp[Sem.runT,f,j]at c
  |false=>exact⟨d,X,X,by rw[<-kT i f j];exact c⟩
theorem mS{e:Obj->Sem a}{f:a}(b:(Sem.getObj d e).runT P V t=(.ok f V',A)):∃c,V.heap[d]?=some c∧(∀g h i,c≠.cells g h i)∧(e c).runT P V (t.push ⟨.obj d,false,c.isChan⟩)=(.ok f V',A):=by
 simp only[Sem.runT]at b;split at b
 ·cases b
 ·grind
 ·cases b
theorem uy{b:Obj->Sem a}(c:V.heap[d]?=some p)(e:∀f g h,p≠.cells f g h):(Sem.getObj d b).runT P V t=(b p).runT P V (t.push ⟨.obj d,false,p.isChan⟩):=by
 cases p<;>first|exact absurd rfl (e _ _ _)|simp only[Sem.runT,c]
theorem dM.no{s:Sem a}(b:dM P s){c:a}(d:s.runT P V t=(.ok c V',A)):False:=by
 have⟨c,d,e,_,f⟩:=b V t;grind
theorem Cl.shr(b:Cl S F V)(a:Nat):ShR F a (V.shape? a) (V.shape? a):=by
 refine⟨λ_=>rfl,λc=>?_⟩;have⟨d,e⟩:=b.wt a c;have b:V.shape? a=some (F.wt,d.size):=by unfold World.shape?;rw[e]
 grind
theorem SR.GQ{n r:Sem a}(c:SR P S F f R n r)(h:Cl S F V){k:a}(b:n.runT P V t=(.ok k V',A)):V.drawn<=V'.drawn:=by
 induction n generalizing r V t with
 |pure o=>simp only[Sem.runT,cK,Result.ok.injEq]at b;obtain⟨⟨_,rfl⟩,_⟩:=b;exact aa _
 |load s o d e=>
  rcases c with c|⟨i,rfl,v,j,g⟩
  ·exact(c.no b).elim
  ·have⟨n,p,b⟩:=lY (h.noView j.1) b;exact e n (g n (h.sk j.1 p)) h b
 |store s o n d e=>
  rcases c with c|⟨i,rfl,v,j,p,g⟩
  ·exact(c.no b).elim
  ·have⟨_,n,_,_,b⟩:=kU (h.noView j.1) b;have:=e g (h.setCell p) b;exact this
 |new q d e=>
  rcases c with c|⟨i,rfl,m,g⟩
  ·exact(c.no b).elim
  ·simp only[Sem.runT]at b;have n:=h.tI _ (aa _);have:=e _ (g _ n.1 n.2) (h.push m) b;exact this
 |shape l d e=>
  rcases c with c|⟨i,rfl,j,g⟩
  ·exact(c.no b).elim
  ·simp only[Sem.runT]at b;exact e _ (g _ _ (h.shr l)) h b
 |getObj l d e=>
  rcases c with c|⟨i,rfl,j,g⟩
  ·exact(c.no b).elim
  ·have⟨q,m,_,b⟩:=mS b;have⟨n,u,w⟩:=h.blk l j (aC m);rw[m]at u;cases u;exact e _ (g _ w) h b
 |choose z d e=>
  rcases c with c|⟨i,rfl,g⟩
  ·exact(c.no b).elim
  ·simp only[Sem.runT]at b;split at b
   ·grind
   ·exact aK (kP _) (e _ (g _) (h.drew _) b)
 |program d e=>
  rcases c with c|⟨i,rfl,g⟩
  ·exact(c.no b).elim
  ·simp only[Sem.runT]at b;exact e _ g h b
 |mark s d e=>
  rcases c with c|⟨i,rfl,B,g⟩
  ·exact(c.no b).elim
  ·simp only[Sem.runT]at b;exact e g h b
 |freeze k x d _=>exact(dM.no (s:=.freeze k x d) c b).elim
 |frozen k d _=>exact(dM.no (s:=.frozen k d) c b).elim
 |setObj l q d _=>exact(dM.no (s:=.setObj l q d) c b).elim
 |sys d y _=>exact(dM.no (s:=.sys d y) c b).elim
 |halt o=>simp[Sem.runT]at b
theorem Alike.obj(e:Alike F f d p T)(g:∀a b c,p≠.cells a b c):T=OX f p∧(∀a b c,T≠.cells a b c)∧T.isChan=false∧p.isChan=false:=by
 cases p with
 |cells a b c=>exact absurd X (g a b c)
 |number h i=>cases e;exact⟨X,(λ_ _ _ e=>by cases e),X,X⟩
 |_=>exact e.elim
theorem Kh(b:ni S F f V W)(i:S d):ShR F d (V.shape? d) (W.shape? (f d)):=by
 by_cases n:d<V.heap.size
 ·have⟨j,c,_⟩:=b.cl.blk d i n;have⟨n,k,e⟩:=b.blk d j i c;refine⟨λa=>?_,λa=>?_⟩
  ·unfold World.shape?;rw[c,k];cases j with
   |cells g r s=>
    obtain⟨l,m,o,rfl,p,q,_⟩:=e;simp[p.1 a,q a]
   |number t u=>cases e;rfl
   |_=>exact e.elim
  ·have⟨g,h⟩:=b.cl.wt d a;rw[c]at h;cases h;obtain⟨l,m,o,rfl,_⟩:=e;exact⟨g.size,(m,l.size),by unfold World.shape?;rw[c],by unfold World.shape?;rw[k]⟩
 ·have h:=b.tI d E;have c:V.heap[d]?=none:=by rw[ru];omega
  have e:W.heap[f d]?=none:=by rw[ru];omega
  have a:=(b.cl.tI d E).2;refine⟨λ_=>?_,λg=>absurd g a⟩;unfold World.shape?;rw[c,e]
theorem ni.setCell(a:ni S F f V W){v:Value}(i:S e.block)(n:bG S F v):ni S F f (V.setCell e v) (W.setCell (kp f e) (bI f v)):=by
 refine⟨a.cl.setCell n,λb o c d=>?_,a.inj,λb c=>by rw[size_setCell]at c ⊢;rw[size_setCell];exact a.tI b c⟩;rw[heap_setCell]at d;rw[heap_setCell];by_cases g:b=e.block
 ·subst g;rw[ai X]at d;rw[ai (show f e.block=(kp f e).block from rfl)];obtain⟨p,q,rfl⟩:=cE.1 d;have⟨w,n,h⟩:=a.blk _ _ i q;rw[n];refine⟨_,X,?_⟩;cases p with
  |cells j x y=>
   obtain⟨k,r,s,rfl,l,t,u⟩:=h;refine⟨_,r,s,X,?_,t,u⟩;show RQ F f e.block (if e.spot.isSome then j else j.setIfInBounds e.off v) (if e.spot.isSome then k else k.setIfInBounds e.off (bI f v));split
   ·exact l
   ·exact l.set _ _
  |number m z=>cases h;rfl
  |_=>exact h.elim
 ·rw[af g]at d;have h:f b≠(kp f e).block:=λm=>g (a.inj _ _ c i m)
  rw[af h];exact a.blk b o c d
theorem vO(b:vH S F p)(a:Nat):Alike F f a p (OX f p):=by
 cases p with
 |cells c d e=>exact⟨_,d,e,X,Uc F f a c,λ_=>rfl,J (I X)⟩
 |number g h=>rfl
 |_=>exact b.elim
theorem ni.push(c:ni S F f V W)(e:vH S F p):ni S F f { V with heap:=V.heap.push p } { W with heap:=W.heap.push (OX f p)}:=by
 refine⟨c.cl.push e,λa g d b=>?_,c.inj,λa d=>?_⟩
 ·have b:(V.heap.push p)[a]?=some g:=b;rw[cv]at b ⊢;split at b
  ·rename_i i;cases b;have:=c.tI a E;rw[ai E];exact⟨_,X,vO e a⟩
  ·have⟨h,j,k⟩:=c.blk a g d b;grind
 ·simp only[cZ]at d ⊢;rw[c.tI a E];omega
theorem ni.drew(a:ni S F f V W)(b c:Nat):ni S F f { V with drawn:=b } { W with drawn:=c }:=⟨a.cl.drew b,a.blk,a.inj,a.tI⟩
theorem Cz(c:V.cell? e=some b)(d:V.frozen? e=false):¬RH V e.block:=by
 rintro⟨f,i,g⟩;have⟨i,j,k,a,_,h⟩:=fS c;rw[g]at a;cases a;have a:=(aL.1 h).1;unfold World.frozen? at d;grind
theorem ky.setCell(h:ni S F f V W){v a:Value}(d:S e.block)(g:V.cell? e=some a)(i:V.frozen? e=false):ky S f V (V.setCell e v) W (W.setCell (kp f e) (bI f v)):=by
 have⟨a,b,j,c,_,_⟩:=fS g;refine⟨X,X,X,X,X,X,by rw[size_setCell];exact aa _,by rw[size_setCell,size_setCell];omega,aa _,by show W.drawn=W.drawn+(V.drawn-V.drawn);omega,λl _ b=>?_,λa b j k=>?_,λa j b=>?_⟩
 ·rw[heap_setCell,af (λa=>b e.block d (aC c) a.symm)]
 ·have c:a≠e.block:=λy=>Cz g i (y▸k)
  have g:f a≠(kp f e).block:=λy=>c (h.inj _ _ b d y)
  rw[heap_setCell,heap_setCell,af c,af g];grind
 ·have c:a≠e.block:=λy=>b (by rw[y];exact d)
  rw[heap_setCell,af c]
theorem ky.push(b:ni S F f V W)(a c:Obj):ky S f V { V with heap:=V.heap.push a } W { W with heap:=W.heap.push c }:=by
 refine⟨X,X,X,X,X,X,oi,oi,aa _,by show W.drawn=W.drawn+(V.drawn-V.drawn);omega,λg h _=>?_,λa c d e=>?_,λa d _=>?_⟩
 ·grind
 ·have⟨g,h,d⟩:=e;have⟨e,g,_⟩:=b.blk a _ c d;grind
 grind
theorem kq{V1 W1:World}{i:Sem a}{j:a}{e:Array Event}(m:ni S F f V W)(k:ky S f V V1 W W1)(n:∀h,h∈e->EvS S V V1 h)(o:ao=t++e)(p:∃(g:a) (b:World) (c:Array Event),A=ao++c∧(∀d,i.runT P W1 d=(.ok g b,d++c.map (yj f)))∧R j g∧ni S F f V' b∧ky S f V1 V' W1 b∧∀e,e∈c->EvS S V1 V' e){l:Sem a}(q:∀d,l.runT P W d=i.runT P W1 (d++e.map (yj f))):∃(g:a) (b:World) (c:Array Event),A=t++c∧(∀d,l.runT P W d=(.ok g b,d++c.map (yj f)))∧R j g∧ni S F f V' b∧ky S f V V' W b∧∀e,e∈c->EvS S V V' e:=by
 have⟨g,b,c,l,r,s,u,j,v⟩:=p;refine⟨g,b,e++c,by rw[l,o,Array.append_assoc],λd=>by rw[q,r];simp,s,u,k.trans m.tI j,λh i=>?_⟩;rcases cn.1 i with i|i
 ·exact(n h i).Vf j.le
 ·refine(v h i).UP λy g j l=>?_
  have⟨b,c,d⟩:=l;exact⟨b,c,(k.E8 y g j ⟨b,c,d⟩).1.trans d⟩
theorem SR.run{C D:Sem a}(d:SR P S F f R C D)(c:ni S F f V W){r:a}(b:C.runT P V t=(.ok r V',A))(m:∀u s,V.drawn<=u->u<V'.drawn->V.tape u s=W.tape (W.drawn+(u-V.drawn)) s):∃(w:a) (E:World) (G:Array Event),A=t++G∧(∀k,D.runT P W k=(.ok w E,k++G.map (yj f)))∧R r w∧ni S F f V' E∧ky S f V V' W E∧∀I,I∈G->EvS S V V' I:=by
 induction C generalizing D V W t with
 |pure o=>
  obtain⟨w,rfl,Y⟩:=d;simp only[Sem.runT,cK,Result.ok.injEq]at b;obtain⟨⟨rfl,rfl⟩,rfl⟩:=b;exact⟨w,W,#[],oi,λk=>by simp[Sem.runT],Y,c,ky.refl V W,λI Z=>by simp at Z⟩
 |load x o j i=>
  rcases d with d|⟨p,rfl,rfl,g,h⟩
  ·exact(d.no b).elim
  ·have⟨z,v,b⟩:=lY (c.cl.noView g.1) b;have⟨_,_,_,J,_,_⟩:=fS v;refine kq c (ky.refl V W) (e:= #[⟨.cell o,false,false⟩]) (λy e=>?_) X (i z (h z (c.cl.sk g.1 v)) c b m) (λk=>by rw[sz (Ca c g v),xd];simp[yj]);have e:y=⟨.cell o,false,false⟩:=by simpa using e
   subst e;exact⟨g.1,aC J,X,λab=>by cases ab⟩
 |store x o z j i=>
  rcases d with d|⟨p,rfl,rfl,g,v,h⟩
  ·exact(d.no b).elim
  ·have⟨O,a0,l,K,b⟩:=kU (c.cl.noView g.1) b;have⟨_,_,_,J,_,_⟩:=fS l;refine kq c (ky.setCell (v:=z) c g.1 l K) (e:= #[⟨.cell o,true,false⟩]) (λy e=>?_) X (i h (c.setCell g.1 v) b m) (λk=>by rw[kT O.rn (Ca c g l) (E9 c g.1 l K),xd];simp[yj]);have e:y=⟨.cell o,true,false⟩:=by simpa using e
   subst e;exact⟨g.1,by rw[size_setCell];exact aC J,X,λ_=>Cz l K⟩
 |new n j i=>
  rcases d with d|⟨p,rfl,l,h⟩
  ·exact(d.no b).elim
  ·simp only[Sem.runT]at b;have B:=c.cl.tI _ (aa V.heap.size);have M:f V.heap.size=W.heap.size:=by rw[c.tI _ (aa _)];omega
   exact kq c (ky.push c n (OX f n)) (e:= #[]) (λy e=>by simp at e) oi (i _ (h _ B.1 B.2) (c.push l) b m) (λk=>by simp[Sem.runT,M])
 |shape q j i=>
  rcases d with d|⟨p,rfl,g,h⟩
  ·exact(d.no b).elim
  ·simp only[Sem.runT]at b;exact kq c (ky.refl V W) (e:= #[]) (λy e=>by simp at e) oi (i _ (h _ _ (Kh c g)) c b m) (λk=>by simp[Sem.runT])
 |getObj q j i=>
  rcases d with d|⟨p,rfl,g,h⟩
  ·exact(d.no b).elim
  ·have⟨n,l,B,b⟩:=mS b;have⟨o1,Q,hk⟩:=c.cl.blk q g (aC l);rw[l]at Q;cases Q;have⟨o',ad,ao⟩:=c.blk q n g l;obtain⟨rfl,ar,av,T⟩:=ao.obj B;refine kq c (ky.refl V W) (e:= #[⟨.obj q,false,n.isChan⟩]) (λy e=>?_) X (i _ (h _ hk) c b m) (λk=>by rw[uy ad ar];simp[yj,av,T]);have e:y=⟨.obj q,false,n.isChan⟩:=by simpa using e
   subst e;exact⟨g,aC l,X,T⟩
 |choose s j i=>
  rcases d with d|⟨p,rfl,h⟩
  ·exact(d.no b).elim
  ·simp only[Sem.runT]at b;split at b
   ·rename_i N;exact kq c (ky.refl V W) (e:= #[]) (λy e=>by simp at e) oi (i _ (h _) c b m) (λk=>by simp[Sem.runT,N])
   ·rename_i N;have U:=SR.GQ (h _) (c.cl.drew _) b;have U:V.drawn+1<=V'.drawn:=U
    have M:V.tape V.drawn s=W.tape W.drawn s:=by
     grind
    refine kq c (V1:={ V with drawn:=V.drawn+1 }) (W1:={ W with drawn:=W.drawn+1 }) ?_ (e:= #[]) (λy e=>by simp at e) oi (i _ (h _) (c.drew _ _) b λu s O h2=>?_) (λk=>by simp[Sem.runT,N,M])
    ·exact⟨X,X,X,X,X,X,aa _,by show W.heap.size=W.heap.size+(V.heap.size-V.heap.size);omega,kP _,by show W.drawn+1=W.drawn+(V.drawn+1-V.drawn);omega,λ_ _ _=>rfl,λ_ _ _ _=>⟨X,X⟩,λ_ _ _=>rfl⟩
    grind
 |program j i=>
  rcases d with d|⟨p,rfl,h⟩
  ·exact(d.no b).elim
  ·simp only[Sem.runT]at b;exact kq c (ky.refl V W) (e:= #[]) (λy e=>by simp at e) oi (i _ h c b m) (λk=>by simp[Sem.runT])
 |mark x j i=>
  rcases d with d|⟨p,rfl,hb,h⟩
  ·exact(d.no b).elim
  ·simp only[Sem.runT]at b;refine kq c (ky.refl V W) (e:= #[⟨.mark x,false,true⟩]) (λy e=>?_) X (i h c b m) (λk=>by simp[Sem.runT,yj]);have e:y=⟨.mark x,false,true⟩:=by simpa using e
   subst e;exact hb
 |freeze r ax j _=>exact(dM.no (s:=.freeze r ax j) d b).elim
 |frozen r j _=>exact(dM.no (s:=.frozen r j) d b).elim
 |setObj q n j _=>exact(dM.no (s:=.setObj q n j) d b).elim
 |sys j k2 _=>exact(dM.no (s:=.sys j k2) d b).elim
 |halt o=>simp[Sem.runT]at b
end
def VR(b:Nat->Prop)(c:Fx)(d:Nat->Nat)(a e:Value):Prop:=bG b c a∧e=bI d a
def AR(b:Nat->Prop)(c:Fx)(d:Nat->Nat)(a e:Addr):Prop:=oS b c a∧e=kp d a
def NR(b:Nat->Prop)(a:Fx)(c:Nat->Nat):Next->Next->Prop
 |.value v,n=>bG b a v∧n=.value (bI c v)
 |.skip,n=>n=.skip
 |.enter g args,n=>a.fn g∧(∀v,v∈args->bG b a v)∧n=.enter g (args.map (bI c))
 |_,_=>False
def Tv:Fx:=⟨λ_=>False,λ_=>0,λ_=>False,0⟩
def uY:Value->Prop:=bG (λ_=>False) Tv
theorem uY.ok(a:uY b)(g:Nat->Prop)(h:Fx):bG g h b:=by
 have:∀ {b:Value},bG (λ_=>False) Tv b->bG g h b:=by
  intro b;induction b using bI.induct with
  |case1 i=>intro a;rw[bG]at a ⊢;exact λd e=>(a d e).1.elim
  |case2 i q r=>intro a;rw[bG]at a ⊢;exact λd e=>(a d e).1.elim
  |case3 s i t j k=>intro a;rw[bG]at a;have⟨⟨u,_,l⟩,_⟩:=a;exact l.elim
  |case4 m f=>intro a;rw[bG]at a ⊢;exact λb c=>f b c (a b c)
  |case5 m f=>intro a;rw[bG]at a ⊢;exact λb c=>f b c (a b c)
  |case6 b j k n o p=>
   intro a;cases b<;>first|exact absurd rfl (j _)|exact absurd rfl (k _ _ _)|exact absurd rfl (n _ _ _)|exact absurd rfl (o _)|exact absurd rfl (p _)|(simp[bG]at a ⊢)
 exact this a
theorem uY.rn(a:uY b)(c:Nat->Nat):bI c b=b:=(jV (g:=id) (λ_ d=>d.elim) a).trans (kK a)
section
variable {P:Program}{S:Nat->Prop}{F:Fx}{f:Nat->Nat}{α a:Type}{R:α->α->Prop}
def NH(P:Program){α:Type}(b:Sem α):Prop:=∀c d a e f,b.runT P c d=(.halt a e,f)->Hk a
theorem dM.nh{a:Sem α}(b:dM P a):NH P a:=by
 intro a c d e f g;have⟨y,_,_,d,e⟩:=b a c;grind
theorem lX(a:α):NH P (pure a:Sem α):=λ_ _ _ _ _ b=>by cases b
theorem pY{c:Sem α}{d:α->Sem a}(n:NH P c)(o:∀e,NH P (d e)):NH P (c >>= d):=by
 intro f g i j k b;have b:(c.bind d).runT P f g=(.halt i j,k):=b;rw[YN]at b;cases l:c.runT P f g with
 |mk p m=>
  rw[l]at b;cases p with
  |ok e h=>exact o e h m i j k b
  |halt y h=>
   simp only[cK,Result.halt.injEq]at b;exact b.1.1▸n f g y h m l
theorem QA{b:Program->Sem a}(c:NH P (b P)):NH P (program >>= b):=λd e f g h i=>c d e f g h i
theorem tH(a:Question):NH P (choose a):=by
 intro b c d e f a;simp only[choose,Sem.runT]at a;grind
theorem Tu(a:Obj):NH P (newObj a):=λ_ _ _ _ _ b=>by cases b
theorem Nc(a:Nat):NH P (shape a):=λ_ _ _ _ _ b=>by cases b
theorem JR(a:Addr):NH P (frozen a):=λ_ _ _ _ _ b=>by cases b
theorem Qz(a:Mark):NH P (mark a):=λ_ _ _ _ _ b=>by cases b
theorem si(b:String):NH P (stuck b:Sem α):=by
 intro c d e f g a;have a:(Result.halt (Halt.stuck b) c,d)=(Result.halt e f,g):=a;simp only[cK,Result.halt.injEq]at a;rw[<-a.1.1]
 trivial
theorem kD(a:Halt)(b:Hk a):dM P (.halt a:Sem α):=λc d=>⟨a,c,d,b,X⟩
theorem fi{c:Sem α}{e:α->Sem a}(k:NH P c)(f:∀g,dM P (e g)):dM P (c >>= e):=by
 intro h i;show ∃f b d,Hk f∧(c.bind e).runT P h i=_;rw[YN];cases l:c.runT P h i with
 |mk m d=>
  cases m with
  |ok g b=>exact f g b d
  |halt j b=>exact⟨j,b,d,k h i j b d l,X⟩
theorem aB(a:String):dM P (stuck a:Sem α):=kD _ trivial
theorem aT(a:Unsupported)(b:∀g,a≠.initOrder g:=by intro g h;cases h):dM P (unsupported a:Sem α):=kD _ b
theorem Nf(a:TypeId):NH P (underlying a):=by
 unfold underlying;refine QA ?_;split
 ·exact lX _
 ·exact si _
theorem zt(a:TypeId):NH P (elemOf a):=by
 unfold elemOf;refine pY (Nf a) λd=>?_
 split
 ·exact lX _
 ·exact si _
theorem Ng(a:TypeId)(b:Value):NH P (newVar a b):=by
 unfold newVar newRow;exact pY (Tu _) λ_=>lX _
theorem dK(a:RuntimeError):dM P (runtimePanic a:Sem α):=by
 unfold runtimePanic;have c:∀ {b:Program->Sem α},dM P (b P)->dM P (program >>= b):=λd e f=>d e f
 refine c ?_;cases a with
 |typeAssertion g h i j=>exact fi (zt _) λ_=>fi (Ng _ _) λ_=>kD _ trivial
 |panicNil=>exact fi (zt _) λ_=>fi (Ng _ _) λ_=>kD _ trivial
 |_=>exact kD _ trivial
theorem o7(a:IntKind)(b y:Int)(c:BoundsCode):dM P (boundsPanic a b y c:Sem α):=by
 unfold boundsPanic;split
 ·exact fi (pY (tH _) λ_=>lX _) λ_=>dK _
 ·exact fi (lX _) λ_=>dK _
theorem oG:SR P S F f (λa b=>P=a∧P=b) program program:=J ⟨_,X,_,X,X,X⟩
theorem Ko(a:Question):SR P S F f (λb c=>b=c) (choose a) (choose a):=J ⟨_,X,λd=>⟨d,X,X⟩⟩
theorem lZ(a:TypeId):SR P S F f (λb c=>b=c∧P.info? a=some b) (typeInfo a) (typeInfo a):=by
 unfold typeInfo;refine SR.bind' oG ?_;rintro _ _ ⟨rfl,rfl⟩;cases d:P.info? a with
 |none=>exact SR.dead (aB _)
 |some e=>exact SR.ret ⟨X,X⟩
theorem dF(a:TypeId):SR P S F f (λb c=>b=c∧P.underlying a=some b) (underlying a) (underlying a):=by
 unfold underlying;refine SR.bind' oG ?_;rintro _ _ ⟨rfl,rfl⟩;cases d:P.underlying a with
 |none=>exact SR.dead (aB _)
 |some e=>exact SR.ret ⟨X,X⟩
def BZ(P:Program)(c:TypeId):Prop:=∀a b,P.info? c=some a->a.zero=some b->uY b
theorem qA(b:BZ P i):SR P S F f (λa c=>a=c∧uY a) (zeroValue i) (zeroValue i):=by
 unfold zeroValue;refine SR.bind' (lZ i) ?_;rintro d _ ⟨rfl,e⟩;cases h:d.zero with
 |none=>exact SR.dead (aT _)
 |some g=>exact SR.ret ⟨X,b _ _ e h⟩
theorem jE(a:TypeId):SR P S F f (λb c=>b=c) (sizeOf a) (sizeOf a):=by
 unfold sizeOf;refine SR.bind' (lZ a) ?_;rintro d _ ⟨rfl,e⟩;exact SR.ret X
theorem Ol(a:TypeId):SR P S F f (λb c=>b=c) (isAgg a) (isAgg a):=by
 unfold isAgg;refine SR.bind' (dF a) ?_;rintro d _ ⟨rfl,e⟩;split<;>exact SR.ret X
theorem o6(a:Addr)(b:Nat):kp f (a.add b)=(kp f a).add b:=by
 unfold Addr.add kp;split<;>rfl
theorem Ig(a:oS S F e):SR P S F f (VR S F f) (load e) (load (kp f e)):=J ⟨_,X,X,a,λ_ b=>⟨_,X,b,X⟩⟩
theorem Oq(a:oS S F e)(c:bG S F b):SR P S F f (λ_ _=>True) (store e b) (store (kp f e) (bI f b)):=J ⟨_,X,X,a,c,⟨_,X,trivial⟩⟩
def CR(S:Nat->Prop)(F:Fx)(f:Nat->Nat)(a c:Array Value):Prop:=(∀b,b∈a->bG S F b)∧c=a.map (bI f)
theorem Bq(h:oS S F e)(b:Nat):∀(a:Nat) (c EC:Array Value),CR S F f c EC->SR P S F f (CR S F f) (loadCellsFrom e a b c) (loadCellsFrom (kp f e) a b EC):=by
 induction b with
 |zero=>intro a c EC d;exact SR.ret d
 |succ b i=>
  intro a c EC d;unfold loadCellsFrom;have b:(kp f e).add a=kp f (e.add a):=(o6 e a).symm;rw[b];refine SR.bind' (Ig (h.add _)) ?_;rintro l _ ⟨j,rfl⟩;refine i (a+1) _ _ ⟨λk g=>?_,by rw[d.2];simp⟩;rcases Array.mem_push.1 g with g|rfl
  ·exact d.1 k g
  ·exact j
theorem D5(b:oS S F e)(a:Nat):SR P S F f (CR S F f) (loadCells e a) (loadCells (kp f e) a):=Bq b a 0 _ _ ⟨λd c=>by simp at c,oi⟩
theorem mZ{a:Addr}(g:oS S F a):∀(c:List Value) (b:Nat),(∀d,d∈c->bG S F d)->SR P S F f (λ_ _=>True) (storeCells a c b) (storeCells (kp f a) (c.map (bI f)) b):=by
 intro c;induction c with
 |nil=>intro b _;exact SR.ret trivial
 |cons d c h=>
  intro b e;have i:(kp f a).add b=kp f (a.add b):=(o6 a b).symm;show SR P S F f _ (store (a.add b) d >>= λ_=>storeCells a c (b+1)) (store ((kp f a).add b) (bI f d) >>= λ_=>storeCells (kp f a) (c.map (bI f)) (b+1));rw[i];refine SR.bind' (Oq (g.add _) (e d oi)) ?_;intro _ _ _;exact h (b+1) λc d=>e c (by simp[d])
theorem No(b:∀a,a∈j->bG S F a):bG S F (.agg j):=by rw[bG];exact b
theorem lJ(a:Array Value):bI f (.agg a)=.agg (a.map (bI f)):=by rw[bI]
theorem qZ(a:oS S F e):bG S F (.pointer (some e)):=by rw[bG];rintro b ⟨⟩;exact a
theorem eu(a:Addr):bI f (.pointer (some a))=.pointer (some (kp f a)):=by rw[bI];rfl
theorem nP(a:oS S F e):bG S F (.slice (some e) d M):=by rw[bG];rintro b ⟨⟩;exact a
theorem zP(a:Addr)(b c:Nat):bI f (.slice (some a) b c)=.slice (some (kp f a)) b c:=by rw[bI];rfl
theorem ok_int(a:IntKind)(b:Int):bG S F (.int a b):=by simp[bG]
theorem da(a:IntKind)(b:Int):bI f (.int a b)=.int a b:=XB
theorem pZ(a:Bool):bG S F (.bool a):=by simp[bG]
theorem fV(a:Bool):bI f (.bool a)=.bool a:=XB
theorem xM(a:TypeId)(b:oS S F e):SR P S F f (VR S F f) (loadVar a e) (loadVar a (kp f e)):=by
 unfold loadVar;refine SR.bind' (Ol a) ?_;rintro g _ rfl;split
 ·refine SR.bind' (jE a) ?_;rintro c _ rfl;refine SR.bind' (D5 b c) ?_;rintro h _ ⟨d,rfl⟩;exact SR.ret ⟨No d,(lJ _).symm⟩
 ·exact Ig b
theorem D7(a:TypeId)(d:oS S F e)(c:bG S F b):SR P S F f (λ_ _=>True) (storeVar a e b) (storeVar a (kp f e) (bI f b)):=by
 unfold storeVar;rw[rQ f c];refine SR.bind' (jE a) ?_;rintro g _ rfl;rw[Array.size_map];split
 ·exact SR.dead (bJ (aB _) _)
 ·have:=mZ (P:=P) (F:=F) (f:=f) d b.cells.toList 0 (λa g=>rP c a (by simpa using g));simpa using this
theorem Om{o:Obj}(b:vH S F o):SR P S F f (λa c=>(S a∧¬F.cl a)∧c=f a) (newObj o) (newObj (OX f o)):=J ⟨_,X,b,λ_ d e=>⟨_,X,⟨d,e⟩,X⟩⟩
theorem Bu(a:TypeId){c:Array Value}(e:∀b,b∈c->bG S F b):SR P S F f (AR S F f) (newRow a c) (newRow a (c.map (bI f))):=by
 unfold newRow;refine SR.bind' (Om (o:=.cells c a) e) ?_;rintro g _ ⟨d,rfl⟩;exact SR.ret ⟨⟨d.1,λa=>absurd a d.2⟩,X⟩
theorem Ot(a:TypeId)(c:bG S F b):SR P S F f (AR S F f) (newVar a b) (newVar a (bI f b)):=by
 unfold newVar;rw[rQ f c];exact Bu a (rP c)
theorem sE(a:bG S F b):SR P S F f (AR S F f) (Instr.sureAddr b) (Instr.sureAddr (bI f b)):=by
 unfold Instr.sureAddr;split
 ·rename_i c;rw[eu];rw[bG]at a;exact SR.ret ⟨a c X,X⟩
 ·exact SR.dead (aB _)
theorem xL(h:bG S F b):SR P S F f (λa c=>a=c) (asIntOf b) (asIntOf (bI f b)):=by
 cases b with
 |int d e=>rw[da];exact SR.ret X
 |pointer a=>cases a<;>first|exact SR.dead (aB _)|exact SR.dead (aT _)
 |_=>exact SR.dead (aB _)
theorem Bs(a:bG S F b):SR P S F f (λc d=>c=d) (asInt b) (asInt (bI f b)):=by
 unfold asInt;refine SR.bind' (xL a) ?_;rintro e _ rfl;exact SR.ret X
theorem Q8:SR P S F f (λa c=>a=c) (asBool b) (asBool (bI f b)):=by
 cases b with
 |bool d=>rw[fV];exact SR.ret X
 |_=>exact SR.dead (aB _)
end
section
variable {P:Program}{S:Nat->Prop}{F:Fx}{f:Nat->Nat}{a c:Type}{R:a->a->Prop}
theorem pE(a:S d):SR P S F f (ShR F d) (shape d) (shape (f d)):=J ⟨_,X,a,λ_ b c=>⟨b,X,c⟩⟩
theorem Oj(b:S d):SR P S F f (λa c=>vH S F a∧c=OX f a) (getObj d) (getObj (f d)):=J ⟨_,X,b,λ_ e=>⟨_,X,e,X⟩⟩
theorem Ii(a:S d):SR P S F f (λb c=>b=none∧c=none) (viewAt d) (viewAt (f d)):=by
 unfold viewAt;refine SR.bind' (pE a) ?_;intro c e g;rw[g.some];split
 ·exact SR.ret ⟨X,X⟩
 ·refine SR.bind' (Oj a) ?_;rintro h _ ⟨i,rfl⟩;cases h with
  |cells j k l=>exact SR.ret ⟨X,X⟩
  |number b m=>exact SR.ret ⟨X,X⟩
  |_=>exact i.elim
def VI(S:Nat->Prop)(F:Fx)(f:Nat->Nat)(b c:Option (Addr×Bool)):Prop:=(∀a,b=some a->oS S F a.1)∧c=b.map λa=>(kp f a.1,a.2)
theorem zY(c:S d):SR P S F f (VI S F f) (numberAt d) (numberAt (f d)):=by
 unfold numberAt;refine SR.bind' (pE c) ?_;intro b g h;rw[h.some];split
 ·exact SR.ret ⟨(λb a=>by cases a),X⟩
 ·refine SR.bind' (Oj c) ?_;rintro i _ ⟨e,rfl⟩;cases i with
  |cells j k l=>exact SR.ret ⟨(λb a=>by cases a),X⟩
  |number m n=>exact SR.ret ⟨(λb a=>by cases a;exact e),X⟩
  |_=>exact e.elim
theorem kL(c:oS S F e):SR P S F f (λa d=>oS S F a.1∧d=(kp f a.1,a.2)) (behindNumber e) (behindNumber (kp f e)):=by
 unfold behindNumber;refine SR.bind' (zY c.1) ?_;rintro b _ ⟨g,rfl⟩;cases b with
 |none=>exact SR.ret ⟨c,X⟩
 |some b=>exact SR.ret ⟨g b X,X⟩
theorem D3(c:oS S F e)(a:Bool):SR P S F f (VR S F f) (asNumber e a) (asNumber (kp f e) a):=by
 unfold asNumber;refine SR.bind' (Om (o:=.number e a) c) ?_;rintro d _ ⟨b,rfl⟩;exact SR.ret ⟨qZ ⟨b.1,λa=>absurd a b.2⟩,by rw[eu];rfl⟩
theorem Kt(a:oS S F e):SR P S F f (λ_ _=>True) (noView e) (noView (kp f e)):=by
 unfold noView;refine SR.bind' (Ii a.1) ?_;rintro _ _ ⟨rfl,rfl⟩;exact SR.ret trivial
theorem Kn(d:oS S F e)(g:¬F.cl e.block):SR P S F f (λa c=>a=c) (byteOf e) (byteOf (kp f e)):=by
 unfold byteOf;show SR P S F f _ (match e.spot with|some h=>_|_=>_) (match e.spot with|some h=>_|_=>_);split
 ·exact SR.ret X
 ·refine SR.bind' oG ?_;rintro _ _ ⟨rfl,rfl⟩;refine SR.bind' (Kt d) ?_;intro _ _ _;refine SR.bind' (pE d.1) ?_;intro a c i;obtain rfl:=i.1 g;cases c with
  |none=>exact SR.dead (aB _)
  |some a=>
   have⟨b,_⟩:=a;show SR P S F f _ (if _ then _ else _) (if _ then _ else _);split
   ·exact SR.ret X
   ·show SR P S F f _ (match byteOfCell P P.depth b (e.off % P.cellsOf b)with|some a=>_|_=>_) (match byteOfCell P P.depth b (e.off % P.cellsOf b)with|some a=>_|_=>_);split
    ·exact SR.ret X
    ·exact SR.dead (aB _)
def Wh(P:Program)(d:Field):Prop:=∀a,P.info? d.type=some a->a.size≠0
theorem yK(c:oS S F e)(d:Field)(g:Wh P d):SR P S F f (AR S F f) (fieldPlace e d) (fieldPlace (kp f e) d):=by
 unfold fieldPlace sizeOf;refine SR.bind' (R:=λe h=>e=h∧e≠0) ?_ ?_
 ·refine SR.bind' (lZ d.type) ?_;rintro a _ ⟨rfl,i⟩;exact SR.ret (show a.size=a.size∧a.size≠0 from⟨X,g a i⟩)
 rintro j _ ⟨rfl,b⟩;rw[af b,af b];exact SR.ret ⟨c.add _,(o6 e _).symm⟩
def VD(P:Program)(b:TypeId):Prop:=∀a,P.underlying b=some (.struct a)->∀d,d∈a->Wh P d
theorem F8(a:TypeId)(e:VD P a)(g:bG S F b)(c:Nat):SR P S F f (VR S F f) (Instr.fieldAt a b c) (Instr.fieldAt a (bI f b) c):=by
 unfold Instr.fieldAt;refine SR.bind' (dF a) ?_;rintro d _ ⟨rfl,h⟩;split
 ·rename_i m;split
  ·rename_i n i;refine SR.bind' (sE g) ?_;rintro o _ ⟨j,rfl⟩;refine SR.bind' (yK j _ (e _ h _ (by first|exact bh i|exact KI _))) ?_;rintro k _ ⟨l,rfl⟩;exact SR.ret ⟨qZ l,(eu k).symm⟩
  ·exact SR.dead (aB _)
 ·exact SR.dead (aB _)
end
section
variable {P:Program}{S:Nat->Prop}{F:Fx}{f:Nat->Nat}{a c:Type}{R:a->a->Prop}
theorem D2(a:bG S F (.slice Y d M)):∀b,Y=some b->oS S F b:=by rw[bG]at a;exact a
theorem dI(a:Option Addr)(b c:Nat):bI f (.slice a b c)=.slice (a.map (kp f)) b c:=by rw[bI]
theorem ok_slice(b:∀a,Y=some a->oS S F a):bG S F (.slice Y d M):=by rw[bG];exact b
theorem F9(i:TypeId)(m:bG S F b)(l:bG S F z):SR P S F f (VR S F f) (Instr.indexAt i b z) (Instr.indexAt i (bI f b) (bI f z)):=by
 unfold Instr.indexAt;refine SR.bind' (xL l) ?_;rintro p _ rfl;have⟨q,z⟩:=p
 dsimp (config:={ zeta:=false }) only
 extract_lets jp
 have n:∀a:Option Addr×Nat×TypeId,(∀y,a.1=some y->oS S F y)->SR P S F f (VR S F f) (jp a) (jp (a.1.map (kp f),a.2)):=by
  rintro⟨r,j,e⟩ s;refine SR.bind' (dF i) ?_;rintro d _ ⟨rfl,_⟩;cases r with
  |none=>exact SR.dead (o7 _ _ _ _)
  |some c=>
   have k:=s c X;show SR P S F f _ (if _ then _ else _) (if _ then _ else _);split
   ·refine SR.bind' (jE e) ?_;rintro o _ rfl;exact SR.ret ⟨qZ (k.add _),by rw[eu,o6]⟩
   ·apply SR.dead
    have t:∀(a:Bool) (l:Unsupported),(∀g,l≠.initOrder g)->dM P (if a=true then(unsupported l:Sem Value)else boundsPanic q z j .index):=by
     intro a l u;cases a
     ·exact o7 _ _ _ _
     ·exact aT _ u
    exact t _ _ (λg h=>by cases h)
 clear_value jp
 refine SR.bind' (dF i) ?_;rintro d _ ⟨rfl,_⟩;cases d with
 |array j e=>
  refine SR.bind' (sE m) ?_;rintro c _ ⟨k,rfl⟩;exact n (some c,j,e) (λy v=>by cases v;exact k)
 |slice e=>
  cases b with
  |slice c o w=>rw[dI];exact n (c,o,e) (D2 m)
  |_=>exact SR.dead (bJ (aB _) _)
 |_=>exact SR.dead (bJ (aB _) _)
theorem sC(c:bG S F b)(y:Nat)(a:BoundsCode):SR P S F f (λd e=>d=e) (Instr.sliceBound b y a) (Instr.sliceBound (bI f b) y a):=by
 unfold Instr.sliceBound;refine SR.bind' (xL c) ?_;rintro g _ rfl;have⟨h,i⟩:=g;show SR P S F f _ (if _ then _ else _) (if _ then _ else _);split
 ·exact SR.ret X
 ·exact SR.dead (o7 _ _ _ _)
theorem tV(k:Bool)(h i:Nat)(n:∀a,C=some a->bG S F a)(l:∀a,D=some a->bG S F a)(o:∀a,w=some a->bG S F a):SR P S F f (λd e=>d=e) (Instr.sliceBounds k h i C D w) (Instr.sliceBounds k h i (C.map (bI f)) (D.map (bI f)) (w.map (bI f))):=by
 unfold Instr.sliceBounds;have p:(w.map (bI f)).isSome=w.isSome:=by cases w<;>rfl
 rw[p]
 extract_lets jp jp'
 have m:∀g,SR P S F f (λd e=>d=e) (jp g) (jp' g):=by
  intro g
  dsimp (config:={ zeta:=false }) only[jp,jp']
  extract_lets ja ja'
  have j:∀b,SR P S F f (λd e=>d=e) (ja b) (ja' b):=by
   intro b;cases C with
   |none=>exact SR.ret X
   |some c=>
    refine SR.bind' (sC (n c X) _ _) ?_;rintro q _ rfl;exact SR.ret X
  clear_value ja ja'
  cases D with
  |none=>
   cases w with
   |none=>exact j h
   |some c=>exact SR.dead (bJ (aB _) _)
  |some c=>
   cases w with
   |none=>
    refine SR.bind' (sC (l c X) _ _) ?_;rintro b _ rfl;exact j b
   |some r=>
    refine SR.bind' (sC (l c X) _ _) ?_;rintro b _ rfl;exact j b
 clear_value jp jp'
 cases w with
 |none=>exact m i
 |some c=>
  refine SR.bind' (sC (o c X) _ _) ?_;rintro g _ rfl;exact m g
theorem Sa(a:Prop)[Decidable a](b c:Addr):kp f (if a then b else c)=if a then kp f b else kp f c:=by split<;>rfl
theorem Oo(i:TypeId)(g:bG S F b)(k:∀b,C=some b->bG S F b)(l:∀b,D=some b->bG S F b)(m:∀b,w=some b->bG S F b):SR P S F f (VR S F f) (Instr.slice i b C D w) (Instr.slice i (bI f b) (C.map (bI f)) (D.map (bI f)) (w.map (bI f))):=by
 unfold Instr.slice;refine SR.bind' (dF i) ?_;rintro d _ ⟨rfl,_⟩;cases d with
 |string=>cases b<;>first|exact SR.dead (aB _)|(simp[bG]at g)
 |slice elem=>
  cases b with
  |slice a h n=>
   rw[dI];refine SR.bind' (tV true h n k l m) ?_;rintro j _ rfl;have⟨o,p,q⟩:=j;refine SR.bind' (jE elem) ?_;rintro r _ rfl;have c:=D2 g;cases a with
   |none=>exact SR.ret ⟨ok_slice (λy e=>by split at e<;>cases e),by rw[dI];split<;>rfl⟩
   |some a=>
    refine SR.ret ⟨ok_slice (λy e=>?_),?_⟩
    ·split at e<;>cases e
     ·exact c a X
     ·exact(c a X).add _
    ·rw[dI];split
     ·rfl
     ·simp[o6]
  |_=>exact SR.dead (aB _)
 |pointer s=>
  have t:SR P S F f (AR S F f) (asAddr b) (asAddr (bI f b)):=by
   cases b with
   |pointer a=>
    cases a with
    |none=>exact SR.dead (dK .nilDeref)
    |some a=>rw[eu];rw[bG]at g;exact SR.ret ⟨g a X,X⟩
   |_=>exact SR.dead (aB _)
  refine SR.bind' t ?_;rintro a _ ⟨c,rfl⟩;refine SR.bind' (dF s) ?_;rintro d _ ⟨rfl,_⟩;cases d with
  |array h elem=>
   refine SR.bind' (tV false h h k l m) ?_;rintro j _ rfl;have⟨o,p,q⟩:=j;refine SR.bind' (jE elem) ?_;rintro r _ rfl;refine SR.ret ⟨nP (by split<;>first|exact c|(exact c.add _)),?_⟩;rw[zP,Sa,o6]
  |_=>exact SR.dead (aB _)
 |_=>exact SR.dead (aB _)
theorem Gb(a:TypeId)(c:bG S F b)(e:∀b,C=some b->bG S F b)(g:∀b,D=some b->bG S F b)(h:∀b,w=some b->bG S F b):SR P S F f (VR S F f) (Instr.sliceAt a b C D w) (Instr.sliceAt a (bI f b) (C.map (bI f)) (D.map (bI f)) (w.map (bI f))):=by
 unfold Instr.sliceAt;refine SR.bind' (dF a) ?_;rintro d _ ⟨rfl,_⟩;cases d with
 |array i elem=>
  refine SR.bind' (sE c) ?_;rintro l _ ⟨j,rfl⟩;refine SR.bind' (tV false i i e g h) ?_;rintro k _ rfl;have⟨m,n,o⟩:=k;refine SR.bind' (jE elem) ?_;rintro p _ rfl;refine SR.ret ⟨nP (by split<;>first|exact j|(exact j.add _)),?_⟩;rw[zP,Sa,o6]
 |_=>exact Oo a c e g h
theorem Of(b:BZ P i):SR P S F f (VR S F f) (Instr.alloc i true (.tuple #[])) (Instr.alloc i true (.tuple #[])):=by
 unfold Instr.alloc;refine SR.bind' (qA b) ?_;rintro e _ ⟨rfl,a⟩;have b:=Ot (P:=P) (f:=f) i (a.ok S F);rw[a.rn]at b;refine SR.bind' b ?_;rintro c _ ⟨d,rfl⟩;exact SR.ret ⟨qZ d,(eu c).symm⟩
theorem TR(a:TypeId)(c:bG S F b):SR P S F f (VR S F f) (Instr.box a b) (Instr.box a (bI f b)):=by
 unfold Instr.box;refine SR.bind' (Ot a c) ?_;rintro d _ ⟨e,rfl⟩;exact SR.ret ⟨qZ e,(eu d).symm⟩
theorem Ks(a:TypeId)(c:bG S F b):SR P S F f (VR S F f) (Instr.loadAt a b) (Instr.loadAt a (bI f b)):=by
 unfold Instr.loadAt;refine SR.bind' (sE c) ?_;rintro e _ ⟨d,rfl⟩;exact xM a d
theorem Gc(a:TypeId)(c:bG S F b)(d:bG S F z):SR P S F f (λ_ _=>True) (Instr.storeAt a b z) (Instr.storeAt a (bI f b) (bI f z)):=by
 unfold Instr.storeAt;refine SR.bind' (sE c) ?_;rintro g _ ⟨e,rfl⟩;exact D7 a e d
theorem F7(d:bG S F b)(a:Nat):SR P S F f (VR S F f) (Instr.extract b a) (Instr.extract (bI f b) a):=by
 unfold Instr.extract;cases b with
 |tuple c=>
  rw[bI];show SR P S F f _ (match c[a]? with|some b=>_|none=>_) (match(c.map (bI f))[a]? with|some b=>_|none=>_);rw[bG]at d;cases e:c[a]? with
  |none=>exact SR.dead (aB _)
  |some g=>simp only[df,e,Option.map_some];exact SR.ret ⟨d g (bh e),X⟩
 |_=>exact SR.dead (aB _)
end
section
variable {P:Program}{S:Nat->Prop}{F:Fx}{f:Nat->Nat}{a c:Type}{R:a->a->Prop}
theorem Q4(f:Nat)(d:Value->Value):∀(b:List (Value×Nat)) (c:Array Value),(b.foldl (λe (a:Value×Nat)=>e.setIfInBounds (f+a.2) a.1) c).map d=(b.map λa=>(d a.1,a.2)).foldl (λe (a:Value×Nat)=>e.setIfInBounds (f+a.2) a.1) (c.map d):=by
 intro b;induction b with
 |nil=>intro c;rfl
 |cons a b g=>intro c;simp only[RJ,ud];rw[g,Array.map_setIfInBounds]
theorem FW(h:Nat){f:Value->Prop}:∀(c:List (Value×Nat)) (e:Array Value),(∀b,b∈c->f b.1)->(∀a,a∈e->f a)->∀a,a∈c.foldl (λi (b:Value×Nat)=>i.setIfInBounds (h+b.2) b.1) e->f a:=by
 intro c;induction c with
 |nil=>intro e _ g a d;exact g a d
 |cons b c j=>
  intro e b g;refine j _ (λy c=>b y (by simp[c])) λa d=>?_
  rcases dY d with d|rfl
  ·exact g a d
  ·grind
theorem GV(g:Nat->Option (Nat×Nat)):∀(c:List (Nat×Value)) (a:Array Value),(∀d,d∈c->bG S F d.2)->(∀b,b∈a->bG S F b)->Instr.fill g (a.map (bI f)) (c.map λd=>(d.1,bI f d.2))=(Instr.fill g a c).map (λa=>a.map (bI f))∧∀h,Instr.fill g a c=some h->∀b,b∈h->bG S F b:=by
 intro c;induction c with
 |nil=>intro a _ j;exact⟨X,λh k=>by cases k;exact j⟩
 |cons d c o=>
  intro a c j;have⟨l,e⟩:=d;have m:=c (l,e) oi;simp only[ud,Instr.fill];cases p:g l with
  |none=>exact⟨X,λh k=>by cases k⟩
  |some n=>
   have⟨i,q⟩:=n;simp only[rQ f m,Array.size_map];split
   ·grind
   ·have d:((e.cells.map (bI f)).zipIdx.foldl (λc (y:Value×Nat)=>c.setIfInBounds (i+y.2) y.1) (a.map (bI f)))=(e.cells.zipIdx.foldl (λc (y:Value×Nat)=>c.setIfInBounds (i+y.2) y.1) a).map (bI f):=by
     rw[<-jL, <-jL,Q4]
     congr 1
     simp[Array.zipIdx_map]
    have d:∀b,b∈(e.cells.zipIdx.foldl (λc (y:Value×Nat)=>c.setIfInBounds (i+y.2) y.1) a)->bG S F b:=by
     rw[<-jL];refine FW i _ _ (λy a=>?_) j;have:=iH.1 a;have⟨r,s⟩:=y;exact rP m _ (bh (Array.mk_mem_zipIdx_iff_getElem?.1 this))
    grind
theorem nO(a:uY b):(b.cells.map (bI f))=b.cells∧∀c,c∈b.cells->bG S F c:=by
 refine⟨?_,rP (a.ok S F)⟩;rw[<-rQ f (a.ok (λ_=>False) Tv),a.rn]
theorem On:∀(a:List Field),SR P S F f (λb c=>b=c) (a.mapM λd=>do pure (d.offset, <-sizeOf d.type)) (a.mapM λd=>do pure (d.offset, <-sizeOf d.type)):=by
 intro a;induction a with
 |nil=>exact SR.ret X
 |cons d a e=>
  rw[List.mapM_cons];refine SR.bind' (R:=λb c=>b=c) ?_ ?_
  ·refine SR.bind' (jE d.type) ?_;rintro g _ rfl;exact SR.ret X
  ·rintro h _ rfl;refine SR.bind' e ?_;rintro y _ rfl;exact SR.ret X
theorem Og (l : BZ P i) {b : Array (Nat × Value)} (q : ∀ a, a ∈ b -> bG S F a.2) :
   SR P S F f (VR S F f) (Instr.build i b) (Instr.build i (b.map λa=>(a.1,bI f a.2))):=by
 unfold Instr.build
 refine SR.bind' (qA l) ?_
 rintro c _ ⟨rfl,l⟩
 refine SR.bind' (dF i) ?_
 rintro d _ ⟨rfl,_⟩
 have o:=nO (S:=S) (F:=F) (f:=f) l
 have r:∀a,a∈b.toList->bG S F a.2:=λa e=>q a (iH.1 e)
 have p : ∀ h, SR P S F f (VR S F f) (match Instr.fill h c.cells b.toList with | some l => pure (.agg l) | none => stuck "x") (match Instr.fill h c.cells (b.map λa => (a.1, bI f a.2)).toList with | some l => pure (.agg l) | none => stuck "x") := by
   intro h
   have:=GV (f:=f) h b.toList c.cells r o.2
   rw[o.1]at this
   rw[lk,this.1]
   cases e:Instr.fill h c.cells b.toList with
   | none=>exact SR.dead (aB _)
   | some k=>exact SR.ret ⟨No (this.2 k e),(lJ k).symm⟩
 cases d with
 | struct fields=>
   simp only[Array.mapM_eq_mapM_toList]
   refine SR.bind' (R:=λh m=>h=m) ?_ ?_
   · show SR P S F f _ (Functor.map List.toArray _) (Functor.map List.toArray _)
     rw[<-bind_pure_comp]
     refine SR.bind' (On _) ?_
     rintro t _ rfl
     exact SR.ret X
   · rintro n _ rfl
     have:=p (n[·]?)
     revert this
     cases Instr.fill (n[·]?) c.cells b.toList with
     | none=>intro _;exact SR.dead (aB _)
     | some k=>
       cases Instr.fill (n[·]?) c.cells (b.map λa=>(a.1,bI f a.2)).toList with
       | none=>rintro⟨m,e,_⟩;cases e
       | some s=>exact id
 | array g elem=>
   refine SR.bind' (jE elem) ?_
   rintro g _ rfl
   have:=p (λj=>some (j*g,g))
   revert this
   cases Instr.fill (λj=>some (j*g,g)) c.cells b.toList with
   | none=>intro _;exact SR.dead (aB _)
   | some k=>
     cases Instr.fill (λj=>some (j*g,g)) c.cells (b.map λa=>(a.1,bI f a.2)).toList with
     | none=>rintro⟨m,e,_⟩;cases e
     | some s=>exact id
 | _=>exact SR.dead (aB _)
theorem Iv(d:∀b,b∈j->bG S F b)(e:j.map (bI f)=j)(a:Nat):bG S F (j[a % j.size]!)∧bI f (j[a % j.size]!)=j[a % j.size]! :=by
 by_cases b:0<j.size
 ·have d:a % j.size<j.size:=bZ _ b;grind
 ·have c:j= #[]:=oH E;subst c;have b:(#[]:Array Value)[a % (#[]:Array Value).size]! =.bool default:=by simp;rfl
  rw[b];exact⟨pZ _,fV _⟩
theorem sQ(d:∀b,b∈j->bG S F b)(e:j.map (bI f)=j)(c:Nat):(((Array.range c).map (λa=>j[a % j.size]!)).map (bI f)=(Array.range c).map (λa=>j[a % j.size]!))∧∀b,b∈(Array.range c).map (λa=>j[a % j.size]!)->bG S F b:=by
 refine⟨?_,λb g=>?_⟩
 ·rw[Array.map_map];exact bf λa _=>(Iv d e a).2
 ·obtain⟨a,_,rfl⟩:=Er.1 g;exact(Iv d e a).1
theorem yI(l:∀k,P.underlying i=some (.slice k)->BZ P k)(c:Nat){g:Array (Nat×Value)}(m:∀b,b∈g->bG S F b.2):SR P S F f (VR S F f) (Instr.buildSlice i c g) (Instr.buildSlice i c (g.map λb=>(b.1,bI f b.2))):=by
 unfold Instr.buildSlice;refine SR.bind' (dF i) ?_;rintro d _ ⟨rfl,n⟩;cases d with
 |slice elem=>
  refine SR.bind' (jE elem) ?_;rintro e _ rfl;show SR P S F f _ (if _ then _ else _) (if _ then _ else _);split
  ·exact SR.dead (bJ (aT _) _)
  ·extract_lets jp jp'
   have o:∀a:Array Value,(∀k,k∈a->bG S F k)->a.map (bI f)=a->SR P S F f (VR S F f) (jp a) (jp' a):=by
    intro a p q;have k:=sQ p q (c*e);have:=GV (f:=f) (λj=>some (j*e,e)) g.toList _ (λb h=>m b (iH.1 h)) k.2;rw[k.1]at this
    dsimp (config:={ zeta:=false }) only[jp,jp']
    rw[lk,this.1];cases h:Instr.fill (λj=>some (j*e,e)) ((Array.range (c*e)).map (λj=>a[j % a.size]!)) g.toList with
    |none=>exact SR.dead (aB _)
    |some r=>
     refine SR.bind' (Bu elem (this.2 r h)) ?_;rintro s _ ⟨t,rfl⟩;exact SR.ret ⟨nP t,(zP s c c).symm⟩
   clear_value jp jp'
   split
   ·simp_all
   ·refine SR.bind' (qA (l elem n)) ?_;rintro u _ ⟨rfl,v⟩;have:=nO (S:=S) (F:=F) (f:=f) v;exact o u.cells this.2 this.1
 |_=>exact SR.dead (aB _)
theorem Ih(a:Nat):SR P S F f (λ_ _=>True) (askRoom a) (askRoom a):=by
 unfold askRoom;split
 ·exact J ⟨_,X,trivial,_,X,trivial⟩
 ·exact SR.ret trivial
theorem Bt(g:∀a,P.underlying i=some (.slice a)->BZ P a)(c:bG S F b)(h:bG S F z):SR P S F f (VR S F f) (Instr.makeSlice i b z) (Instr.makeSlice i (bI f b) (bI f z)):=by
 unfold Instr.makeSlice;refine SR.bind' (dF i) ?_;rintro d _ ⟨rfl,j⟩;cases d with
 |slice elem=>
  refine SR.bind' (Bs c) ?_;rintro b _ rfl;refine SR.bind' (Bs h) ?_;rintro z _ rfl;refine SR.bind' (lZ elem) ?_;rintro s _ ⟨rfl,_⟩;show SR P S F f _ (if _ then _ else _) (if _ then _ else _);split
  ·apply SR.dead;split
   ·exact bJ (dK _) _
   ·split
    ·exact bJ (dK _) _
    ·exact fi (tH _) λ_=>bJ (dK _) _
  ·refine SR.bind' (Ih _) ?_;intro _ _ _;refine SR.bind' (jE elem) ?_;rintro k _ rfl
   extract_lets nn jp
   have l:∀a:Array Value,(∀c,c∈a->bG S F c)->a.map (bI f)=a->SR P S F f (VR S F f) (jp a) (jp a):=by
    intro a m n;have e:=sQ m n ((IntKind.i64.wrap z).toNat*k);have a:=Bu (P:=P) (f:=f) elem e.2;rw[e.1]at a;refine SR.bind' a ?_;rintro o _ ⟨p,rfl⟩;exact SR.ret ⟨nP p,(zP o _ _).symm⟩
   clear_value jp
   split
   ·simp_all
   ·refine SR.bind' (qA (g elem j)) ?_;rintro q _ ⟨rfl,r⟩;have:=nO (S:=S) (F:=F) (f:=f) r;exact l q.cells this.2 this.1
 |_=>exact SR.dead (aB _)
end
section
variable {P:Program}{S:Nat->Prop}{F:Fx}{f:Nat->Nat}{a c:Type}{R:a->a->Prop}
theorem Nb(a:Value):NH P (asInt a):=by
 unfold asInt;refine pY ?_ λ_=>lX _
 cases a with
 |int c d=>exact lX _
 |pointer b=>
  cases b with
  |none=>exact si _
  |some b=>exact(aT .addressObserved).nh
 |_=>exact si _
theorem fD:bI f (.pointer none)=.pointer none:=XB
theorem qv:bI f .nilFunc=.nilFunc:=XB
theorem s9{b:Program->Sem a}(c:dM P (b P)):dM P (program >>= b):=λd e=>c d e
theorem sF(g:TypeId)(h:Array TypeId){y:Value}(l:∀m,F.cl m->P.info? F.wt=none)(a:oS S F e)(n:bG S F y):SR P S F f (VR S F f) (Builtin.unsafeAdd_ h g #[.pointer (some e),y]) (Builtin.unsafeAdd_ h g #[.pointer (some (kp f e)),bI f y]):=by
 unfold Builtin.unsafeAdd_;refine SR.bind' (Bs n) ?_;rintro d _ rfl;show SR P S F f _ (if _ then _ else _) (if _ then _ else _);split
 ·refine SR.bind' (Ii a.1) ?_;rintro _ _ ⟨rfl,rfl⟩;exact SR.ret ⟨qZ a,(eu e).symm⟩
 ·show SR P S F f _ (if _ then _ else _) (if _ then _ else _);split
  ·exact SR.dead (bJ (aT _) _)
  ·refine SR.bind' (pE a.1) ?_;intro i o j;by_cases b:F.cl e.block
   ·obtain⟨p,y,rfl,rfl⟩:=j.2 b;apply SR.dead;refine s9 ?_;have g:P.cellsOf F.wt=0:=by unfold Program.cellsOf;rw[l _ b];rfl
    have h:cellAtBytes P P.depth F.wt (p / P.cellsOf F.wt) e.off d=none:=by unfold cellAtBytes;simp[g]
    rw[h];exact aT _
   obtain rfl:=j.1 b;cases o with
   |none=>exact SR.dead (aT _)
   |some i=>
    have⟨c,k⟩:=i;refine SR.bind' oG ?_;rintro _ _ ⟨rfl,rfl⟩;show SR P S F f _ (match cellAtBytes P P.depth c (k / P.cellsOf c) e.off d with|some g=>_|none=>_) (match cellAtBytes P P.depth c (k / P.cellsOf c) e.off d with|some g=>_|none=>_);split
    ·exact SR.ret ⟨qZ ⟨a.1,λc=>absurd c b⟩,by rw[eu];rfl⟩
    ·exact SR.dead (aT _)
theorem nV(n:∀b,F.cl b->P.info? F.wt=none)(c:TypeId){e y:Value}(m:bG S F e)(o:bG S F y):SR P S F f (VR S F f) (movedNumber c e y) (movedNumber c (bI f e) (bI f y)):=by
 unfold movedNumber;refine SR.bind' (dF c) ?_;rintro d _ ⟨rfl,_⟩
 extract_lets jp jp'
 have p:SR P S F f (VR S F f) (jp ()) (jp' ()):=by
  dsimp (config:={ zeta:=false }) only[jp,jp']
  cases e with
  |pointer q=>
   cases q with
   |none=>
    apply SR.dead;unfold Builtin.unsafeAdd_;refine fi (Nb _) λi=>?_
    show dM P (if _ then _ else _);split
    ·exact aT _
    ·show dM P (if _ then _ else _);split
     ·exact bJ (aT _) _
     ·exact aT _
   |some j=>
    rw[eu];rw[bG]at m;refine SR.bind' (kL (m j X)) ?_;rintro r _ ⟨s,rfl⟩;have⟨b,t⟩:=r;refine SR.bind' (sF c #[] n s o) ?_;rintro u _ ⟨a,rfl⟩;cases u with
    |pointer l=>
     cases l with
     |none=>rw[fD];exact SR.ret ⟨a,fD.symm⟩
     |some l=>rw[eu];rw[bG]at a;exact D3 (a l X) t
    |int v i=>rw[da];exact SR.ret ⟨a,(da v i).symm⟩
    |bool b=>rw[fV];exact SR.ret ⟨a,(fV b).symm⟩
    |slice j i k=>rw[dI];exact SR.ret ⟨a,(dI j i k).symm⟩
    |nilFunc=>rw[qv];exact SR.ret ⟨a,qv.symm⟩
    |func w j b=>rw[bI];exact SR.ret ⟨a,by rw[bI]⟩
    |agg k=>rw[lJ];exact SR.ret ⟨a,(lJ k).symm⟩
    |tuple k=>rw[bI];exact SR.ret ⟨a,by rw[bI]⟩
    |_=>simp[bG]at a
  |_=>exact SR.dead (aB _)
 split
 ·exact SR.dead (kD _ (λg h=>by cases h))
 ·exact p
theorem zX(g:∀h,F.cl h->P.info? F.wt=none)(b:TypeId){a y:Value}(c:bG S F a)(i:bG S F y):SR P S F f (VR S F f) (movedPointer b a y) (movedPointer b (bI f a) (bI f y)):=by
 unfold movedPointer;cases a with
 |pointer j=>
  cases j with
  |none=>
   apply SR.dead;unfold Builtin.unsafeAdd_;refine fi (Nb _) λh=>?_
   show dM P (if _ then _ else _);split
   ·exact aT _
   ·show dM P (if _ then _ else _);split
    ·exact bJ (aT _) _
    ·exact aT _
  |some e=>
   rw[eu];rw[bG]at c;refine SR.bind' (zY (c e X).1) ?_;rintro d _ ⟨l,rfl⟩;have k:(d.map λa=>(kp f a.1,a.2)).isSome=d.isSome:=by cases d<;>rfl
   rw[k];split
   ·exact SR.dead (bJ (aT _) _)
   ·exact sF b #[] g (c e X) i
 |_=>exact SR.dead (aB _)
theorem Lw(b:Addr)(a:P.globals.size<=e.block):dM P (Op.twoPlaces e b):=by
 unfold Op.twoPlaces;refine s9 ?_;have c:(e.block !=b.block || decide (e.block>=P.globals.size))=true:=by simp[a]
 rw[c];exact kD _ (λd a=>by cases a)
theorem xJ(j:∀b,F.cl b->P.info? F.wt=none)(c:IntKind)(d:oS S F e)(g:Int):SR P S F f (VR S F f) (Op.addrMod c e g) (Op.addrMod c (kp f e) g):=by
 unfold Op.addrMod;refine SR.bind' (pE d.1) ?_;intro h k i;by_cases a:F.cl e.block
 ·obtain⟨m,y,rfl,rfl⟩:=i.2 a;apply SR.dead;refine bJ (s:=typeInfo F.wt) (λc g=>⟨_,c,g,?_,by unfold typeInfo;simp only[program,Bind.bind,Sem.bind,Sem.runT,j _ a];rfl⟩) _
  trivial
 obtain rfl:=i.1 a;cases k with
 |none=>exact SR.dead (aT _)
 |some h=>
  have⟨l,_⟩:=h;refine SR.bind' (lZ l) ?_;rintro n _ ⟨rfl,_⟩;show SR P S F f _ (if _ then _ else _) (if _ then _ else _);split
  ·exact SR.dead (bJ (aT _) _)
  ·refine SR.bind' (Kn d a) ?_;rintro b _ rfl;exact SR.ret ⟨ok_int _ _,(da _ _).symm⟩
theorem uB(a:BinOp)(b:IntKind)(c d:Int):SR P S F f (VR S F f) (Op.intArith a b c d) (Op.intArith a b c d):=by
 unfold Op.intArith;split<;>first|exact SR.ret ⟨ok_int _ _,(da _ _).symm⟩|exact SR.dead (aB _)
theorem Kr(a:BinOp)(b:IntKind)(c d:Int):SR P S F f (VR S F f) (Op.intDiv a b c d) (Op.intDiv a b c d):=by
 unfold Op.intDiv;split
 ·exact SR.dead (dK _)
 ·split<;>first|exact SR.ret ⟨ok_int _ _,(da _ _).symm⟩|exact SR.dead (aB _)
theorem Ga(a:BinOp)(b:IntKind)(c d:Int):SR P S F f (VR S F f) (Op.intBits a b c d) (Op.intBits a b c d):=by
 unfold Op.intBits;split<;>first|exact SR.ret ⟨ok_int _ _,(da _ _).symm⟩|exact SR.dead (aB _)
theorem Kq(a:BinOp)(b c:Int):SR P S F f (VR S F f) (Op.intCmp a b c) (Op.intCmp a b c):=by
 unfold Op.intCmp;split<;>first|exact SR.ret ⟨pZ _,(fV _).symm⟩|exact SR.dead (aB _)
def Sum(a:BinOp):Prop:=a≠.eql∧a≠.neq∧a≠.shl∧a≠.shr
theorem Ie(g:s≠.shl)(h:s≠.shr)(a:TypeId)(b c:IntKind)(d e:Int):SR P S F f (VR S F f) (binOp s a (.int b d) (.int c e)) (binOp s a (.int b d) (.int c e)):=by
 cases s<;>first
   |exact absurd rfl g
   |exact absurd rfl h
   |(show SR P S F f _ (if _ then _ else _) (if _ then _ else _)
     split
     ·exact SR.dead (aB _)
     ·first|exact uB _ _ _ _|exact Kr _ _ _ _|exact Ga _ _ _ _|exact Kq _ _ _)
set_option maxHeartbeats 2000000 in
theorem TV(h:KL P S F)(w:Sum s)(a:TypeId){r y:Value}(k:bG S F r)(j:bG S F y):SR P S F f (VR S F f) (binOp s a r y) (binOp s a (bI f r) (bI f y)):=by
 have⟨e,g,b,c⟩:=w;cases r with
 |int i u=>
  cases y with
  |int x l=>rw[da,da];exact Ie b c a i x u l
  |pointer m=>
   rw[da];cases m with
   |none=>rw[fD];cases s<;>(first|exact absurd rfl e|exact absurd rfl g|exact absurd rfl b|exact absurd rfl c|exact SR.dead (aT _)|(have:=nV (P:=P) (f:=f) h.2 a j (ok_int (S:=S) (F:=F) i u);rw[fD,da]at this;exact this))
   |some m=>
    have t:oS S F m:=by rw[bG]at j;exact j m X
    rw[eu];cases s<;>(first|exact absurd rfl e|exact absurd rfl g|exact absurd rfl b|exact absurd rfl c|exact SR.dead (aT _)|(have:=nV (P:=P) (f:=f) h.2 a j (ok_int (S:=S) (F:=F) i u);rw[eu,da]at this;exact this)|(refine SR.bind' (kL t) ?_;rintro v _ ⟨o,rfl⟩;exact xJ h.2 _ o _))
  |_=>cases s<;>(first|exact absurd rfl e|exact absurd rfl g|exact absurd rfl b|exact absurd rfl c|exact SR.dead (aB _)|(simp[bG]at j))
 |pointer m=>
  cases m with
  |none=>
   rw[fD];cases y with
   |int i l=>
    rw[da];cases s<;>(first|exact absurd rfl e|exact absurd rfl g|exact absurd rfl b|exact absurd rfl c|exact SR.dead (aT _)|(have:=nV (P:=P) (f:=f) h.2 a k (ok_int (S:=S) (F:=F) i (-l));rw[fD,da]at this;exact this)|(refine SR.bind' (dF a) ?_;rintro d _ ⟨rfl,_⟩;have p:=nV (P:=P) (f:=f) h.2 a k (ok_int (S:=S) (F:=F) i l);have q:=zX (P:=P) (f:=f) h.2 a k (ok_int (S:=S) (F:=F) i l);rw[fD,da]at p q;cases d<;>first|exact p|exact q))
   |pointer n=>cases n<;>cases s<;>(first|exact absurd rfl e|exact absurd rfl g|exact absurd rfl b|exact absurd rfl c|exact SR.dead (aT _))
   |_=>cases s<;>(first|exact absurd rfl e|exact absurd rfl g|exact absurd rfl b|exact absurd rfl c|exact SR.dead (aT _)|(simp[bG]at j))
  |some m=>
   have t:oS S F m:=by rw[bG]at k;exact k m X
   rw[eu];cases y with
   |int i l=>
    rw[da];cases s<;>(first|exact absurd rfl e|exact absurd rfl g|exact absurd rfl b|exact absurd rfl c|exact SR.dead (aT _)|(have:=nV (P:=P) (f:=f) h.2 a k (ok_int (S:=S) (F:=F) i (-l));rw[eu,da]at this;exact this)|(refine SR.bind' (kL t) ?_;rintro v _ ⟨o,rfl⟩;exact xJ h.2 _ o _)|(refine SR.bind' (dF a) ?_;rintro d _ ⟨rfl,_⟩;have p:=nV (P:=P) (f:=f) h.2 a k (ok_int (S:=S) (F:=F) i l);have q:=zX (P:=P) (f:=f) h.2 a k (ok_int (S:=S) (F:=F) i l);rw[eu,da]at p q;cases d<;>first|exact p|exact q))
   |pointer n=>
    cases n with
    |none=>rw[fD];cases s<;>(first|exact absurd rfl e|exact absurd rfl g|exact absurd rfl b|exact absurd rfl c|exact SR.dead (aT _))
    |some n=>
     have z:oS S F n:=by rw[bG]at j;exact j n X
     rw[eu];cases s<;>(first|exact absurd rfl e|exact absurd rfl g|exact absurd rfl b|exact absurd rfl c|exact SR.dead (aT _)|(refine SR.bind' (kL t) ?_;rintro v _ ⟨o,rfl⟩;refine SR.bind' (kL z) ?_;rintro A _ ⟨B,rfl⟩;exact SR.dead (bJ (Lw _ (h.1 _ o.1)) _)))
   |_=>cases s<;>(first|exact absurd rfl e|exact absurd rfl g|exact absurd rfl b|exact absurd rfl c|exact SR.dead (aT _)|(simp[bG]at j))
 |float _ _|complex _ _ _|string _|map _|chan _|iface _ _|nilIface=>simp[bG]at k
 |_=>
  cases y with
  |float _ _|complex _ _ _|string _|map _|chan _|iface _ _|nilIface=>simp[bG]at j
  |pointer n=>cases s<;>(first|exact absurd rfl e|exact absurd rfl g|exact absurd rfl b|exact absurd rfl c|exact SR.dead (aT _))
  |_=>cases s<;>(first|exact absurd rfl e|exact absurd rfl g|exact absurd rfl b|exact absurd rfl c|exact SR.dead (aB _))
end
section
variable {P:Program}{S:Nat->Prop}{F:Fx}{f:Nat->Nat}{a c:Type}{R:a->a->Prop}
structure O7(P:Program)(t:TypeId):Prop where
 int:∃k,P.underlying t=some (.int k)
 plain : ∀ i u, P.info? t = some i -> i.desc ≠ .named "sync.copyChecker" u
theorem yJ(e:P.underlying i=some .bool){a y:Value}(h:bG S F a)(j:bG S F y):SR P S F f (λb g=>b=g) (Op.equal i a y) (Op.equal i (bI f a) (bI f y)):=by
 show SR P S F f _ (Op.equalIn (9999+1) i a y) (Op.equalIn (9999+1) i (bI f a) (bI f y));unfold Op.equalIn;refine SR.bind' (dF i) ?_;rintro d _ ⟨rfl,c⟩;rw[e]at c;cases c;cases a with
 |bool b=>
  cases y with
  |bool k=>rw[fV,fV];exact SR.ret X
  |_=>exact SR.dead (aB _)
 |_=>exact SR.dead (aB _)
theorem Br(v:KL P S F)(m:O7 P i){g y:Value}(n:bG S F g)(o:bG S F y):SR P S F f (λl w=>l=w) (Op.equal i g y) (Op.equal i (bI f g) (bI f y)):=by
 show SR P S F f _ (Op.equalIn (9999+1) i g y) (Op.equalIn (9999+1) i (bI f g) (bI f y));unfold Op.equalIn;refine SR.bind' (dF i) ?_;rintro d _ ⟨rfl,p⟩;obtain⟨q,x⟩:=m.int;rw[x]at p;cases p;cases g with
 |int q l=>
  cases y with
  |int G r=>
   rw[da,da];show SR P S F f _ (if _ then _ else _) (if _ then _ else _);split
   ·exact SR.ret X
   ·exact SR.dead (aB _)
  |pointer b=>
   cases b with
   |none=>exact SR.dead (aT _)
   |some b=>
    rw[da,eu];cases l with
    |ofNat c=>
     cases c with
     |zero=>exact SR.ret X
     |succ c=>exact SR.dead (aT _)
    |negSucc c=>exact SR.dead (aT _)
  |_=>exact SR.dead (aB _)
 |pointer j=>
  cases j with
  |none=>cases y<;>exact SR.dead (aT _)
  |some j=>
   have z:oS S F j:=by rw[bG]at n;exact n j X
   cases y with
   |int q r=>
    rw[da,eu];cases r with
    |ofNat c=>
     cases c with
     |zero=>exact SR.ret X
     |succ c=>exact SR.dead (aT _)
    |negSucc c=>exact SR.dead (aT _)
   |pointer b=>
    cases b with
    |none=>exact SR.dead (aT _)
    |some b=>
     have A:oS S F b:=by rw[bG]at o;exact o b X
     rw[eu,eu];refine SR.bind' (kL z) ?_;rintro k _ ⟨B,rfl⟩;refine SR.bind' (kL A) ?_;rintro s _ ⟨I,rfl⟩;apply SR.dead;refine s9 ?_
     have C:(k.1.block==s.1.block && decide (k.1.block<P.globals.size))=false:=by
      have:=v.1 _ B.1;grind
     rw[C];intro e a;cases t:P.info? i with
     |none=>
      refine bJ (s:=typeInfo i) ?_ _ e a;intro e a;refine⟨_,e,a,?_,by unfold typeInfo;simp only[program,Bind.bind,Sem.bind,Sem.runT,t];rfl⟩
      trivial
     |some u=>
      have D:∀a,(typeInfo i).runT P e a=(.ok u e,a):=by
       intro a;unfold typeInfo
       simp_all
      show ∃h J K,Hk h∧((typeInfo i).bind _).runT P e a=_;rw[YN,D]
      dsimp only
      split
      ·rename_i E h;exact absurd h (m.plain u E t)
      ·exact(aT (α:=Bool) (P:=P) .addressObserved) e a
   |_=>exact SR.dead (aT _)
 |_=>
  cases y with
  |pointer b=>exact SR.dead (aT _)
  |_=>exact SR.dead (aB _)
theorem sD(h:P.underlying i=some (.slice ar))(k:bG S F b)(c e:Nat):SR P S F f (λa j=>a=j) (Op.equal i b (.slice none c e)) (Op.equal i (bI f b) (.slice none c e)):=by
 show SR P S F f _ (Op.equalIn (9999+1) i b _) (Op.equalIn (9999+1) i (bI f b) _);unfold Op.equalIn;refine SR.bind' (dF i) ?_;rintro d _ ⟨rfl,g⟩;rw[h]at g;cases g;cases b with
 |slice a c e=>
  rw[dI];cases a with
  |none=>exact SR.ret X
  |some a=>exact SR.ret X
 |_=>exact SR.dead (aB _)
theorem uR(e:P.underlying i=some (.pointer ar))(h:bG S F b):SR P S F f (λa g=>a=g) (Op.equal i b (.pointer none)) (Op.equal i (bI f b) (.pointer none)):=by
 show SR P S F f _ (Op.equalIn (9999+1) i b _) (Op.equalIn (9999+1) i (bI f b) _);unfold Op.equalIn;refine SR.bind' (dF i) ?_;rintro d _ ⟨rfl,c⟩;rw[e]at c;cases c;cases b with
 |pointer a=>
  cases a with
  |none=>rw[fD];exact SR.ret X
  |some a=>rw[eu];exact SR.ret X
 |_=>exact SR.dead (aB _)
end
section
variable {P:Program}{S:Nat->Prop}{F:Fx}{f:Nat->Nat}{a c:Type}{R:a->a->Prop}
theorem vQ(c:∀a,a∈j->bG S F a)(b:Nat):(j.map (bI f))[b]?=(j[b]?).map (bI f)∧∀a,j[b]?=some a->bG S F a:=⟨oi,λa d=>c a (bh d)⟩
theorem pv(a:Int):VR S F f (goInt a) (goInt a):=⟨ok_int _ _,(da _ _).symm⟩
theorem TS(b:Array TypeId)(e:TypeId)(i:∀g,g∈j->bG S F g):SR P S F f (VR S F f) (Builtin.len_ b e j) (Builtin.len_ b e (j.map (bI f))):=by
 unfold Builtin.len_;have h:=vQ (f:=f) i 0;rw[h.1];cases b[0]? with
 |none=>exact SR.dead (aB _)
 |some k=>
  cases c:j[0]? with
  |none=>exact SR.dead (aB _)
  |some a=>
   have c:=h.2 a c;refine SR.bind' (dF k) ?_;rintro d _ ⟨rfl,_⟩;cases d with
   |array l m=>cases a<;>exact SR.ret (pv _)
   |pointer n=>
    cases a<;>(refine SR.bind' (dF n) ?_;rintro d _ ⟨rfl,_⟩;cases d<;>first|exact SR.ret (pv _)|exact SR.dead (aB _))
   |slice m=>
    cases a with
    |slice o l p=>simp only[dI];exact SR.ret (pv _)
    |_=>exact SR.dead (aB _)
   |_=>cases a<;>first|exact SR.dead (aB _)|(simp[bG]at c)
theorem Ra{b y:Value}(d:bG S F b)(e:bG S F y):SR P S F f (VR S F f) (Builtin.max2 b y) (Builtin.max2 (bI f b) (bI f y)):=by
 cases b with
 |int g h=>
  cases y with
  |int i j=>rw[da,da];exact SR.ret ⟨ok_int _ _,(da _ _).symm⟩
  |pointer a=>cases a<;>first|exact SR.dead (aB _)|exact SR.dead (aT _)
  |_=>exact SR.dead (aB _)
 |pointer c=>
  cases c with
  |none=>
   cases y with
   |pointer a=>cases a<;>first|exact SR.dead (aB _)|exact SR.dead (aT _)
   |_=>exact SR.dead (aB _)
  |some c=>cases y<;>exact SR.dead (aT _)
 |float _ _|complex _ _ _|string _|map _|chan _|iface _ _|nilIface=>simp[bG]at d
 |_=>
  cases y with
  |pointer a=>cases a<;>first|exact SR.dead (aB _)|exact SR.dead (aT _)
  |_=>exact SR.dead (aB _)
theorem Rb:∀(a:List Value) (b:Value),bG S F b->(∀c,c∈a->bG S F c)->SR P S F f (VR S F f) (a.foldlM Builtin.max2 b) ((a.map (bI f)).foldlM Builtin.max2 (bI f b)):=by
 intro a;induction a with
 |nil=>intro b d _;exact SR.ret ⟨d,X⟩
 |cons y a g=>
  intro b d e;simp only[List.foldlM_cons,ud];refine SR.bind' (Ra d (e y oi)) ?_;rintro c _ ⟨h,rfl⟩;exact g c h λa b=>e a (by simp[b])
theorem TU(d:Array TypeId)(e:TypeId)(h:∀a,a∈j->bG S F a):SR P S F f (VR S F f) (Builtin.max_ d e j) (Builtin.max_ d e (j.map (bI f))):=by
 unfold Builtin.max_;rw[lk];have b:∀a,a∈j.toList->bG S F a:=λa c=>h a (iH.1 c)
 revert b;cases j.toList with
 |nil=>intro _;exact SR.dead (aB _)
 |cons g i=>intro b;exact Rb i g (b g oi) λa c=>b a (by simp[c])
theorem D6(c:bG S F b):SR P S F f (λa d=>a=d) (Builtin.lenOf b) (Builtin.lenOf (bI f b)):=by
 cases b with
 |slice a e g=>rw[dI];exact SR.ret X
 |string h=>simp[bG]at c
 |_=>exact SR.dead (aB _)
theorem xK(c d:Nat)(e:bG S F b):SR P S F f (CR S F f) (Builtin.firstCells c d b) (Builtin.firstCells c d (bI f b)):=by
 cases b with
 |slice a h i=>
  rw[dI];cases a with
  |none=>exact SR.ret ⟨λj g=>by simp at g,oi⟩
  |some a=>exact D5 (D2 e a X) _
 |string k=>simp[bG]at e
 |_=>exact SR.dead (aB _)
theorem Q9(c:Array TypeId)(g:TypeId)(h:∀a,a∈j->bG S F a):SR P S F f (VR S F f) (Builtin.copy_ c g j) (Builtin.copy_ c g (j.map (bI f))):=by
 unfold Builtin.copy_;have i:=vQ (f:=f) h 0;have k:=vQ (f:=f) h 1;rw[i.1,k.1];cases c[0]? with
 |none=>exact SR.dead (aB _)
 |some l=>
  cases e:j[0]? with
  |none=>exact SR.dead (aB _)
  |some d=>
   cases b:j[1]? with
   |none=>exact SR.dead (aB _)
   |some m=>
    have e:=i.2 d e;have b:=k.2 m b;refine SR.bind' (dF l) ?_;rintro n _ ⟨rfl,_⟩;cases n with
    |slice elem=>
     cases d with
     |slice base s t=>
      simp only[dI];refine SR.bind' (D6 b) ?_;rintro u _ rfl;refine SR.bind' (jE elem) ?_;rintro o _ rfl;refine SR.bind' (xK o _ b) ?_;rintro p _ ⟨q,rfl⟩;cases base with
      |none=>exact SR.ret (pv _)
      |some r=>
       have b:=mZ (P:=P) (F:=F) (f:=f) (D2 e r X) p.toList 0 (λa c=>q a (iH.1 c));rw[<-lk]at b;refine SR.bind' b ?_;intro _ _ _;exact SR.ret (pv _)
     |_=>exact SR.dead (aB _)
    |_=>exact SR.dead (aB _)
theorem Bv(b:BZ P i)(a:Nat):SR P S F f (CR S F f) (do pure (Builtin.zeroCells (<-zeroValue i).cells a)) (do pure (Builtin.zeroCells (<-zeroValue i).cells a)):=by
 refine SR.bind' (qA b) ?_;rintro c _ ⟨rfl,d⟩;have:=nO (S:=S) (F:=F) (f:=f) d;have b:=sQ this.2 this.1 (a*c.cells.size);exact SR.ret ⟨b.2,b.1.symm⟩
theorem Na(a:Addr)(b:Nat):NH P (Builtin.holdsCells a b):=by
 unfold Builtin.holdsCells;refine pY (Nc _) λa=>?_
 split<;>exact lX _
theorem Nd(b c d:Nat)(a:Option Addr)(e:Value):NH P (Builtin.mayShare b c d a e):=by
 unfold Builtin.mayShare;cases a<;>dsimp only<;>repeat' (first|exact lX _|exact Na _ _|exact JR _|refine pY ?_ λ_=>?_|split)
theorem Km{tys:Array TypeId}(C:∀g l,tys[0]?=some g->P.underlying g=some (.slice l)->BZ P l)(t:TypeId)(h:∀b,b∈j->bG S F b):SR P S F f (VR S F f) (Builtin.append_ tys t j) (Builtin.append_ tys t (j.map (bI f))):=by
 unfold Builtin.append_;have u:=vQ (f:=f) h 0;have v:=vQ (f:=f) h 1;rw[u.1,v.1];cases D:tys[0]? with
 |none=>exact SR.dead (aB _)
 |some g=>
  cases m:j[0]? with
  |none=>exact SR.dead (aB _)
  |some d=>
   cases i:j[1]? with
   |none=>exact SR.dead (aB _)
   |some p=>
    have m:=u.2 d m;have i:=v.2 p i;refine SR.bind' (dF g) ?_;rintro E _ ⟨rfl,G⟩;cases E with
    |slice elem=>
     have w:=C g elem D G;cases d with
     |slice base e I=>
      rw[dI];have x:=D2 m;have J:bG S F (.slice base e I):=m;refine SR.bind' (jE elem) ?_;rintro c _ rfl
      extract_lets jx jp jp'
      have z:∀g,SR P S F f (VR S F f) (jp g) (jp' g):=by
       intro g
       dsimp (config:={ zeta:=false }) only[jp,jp']
       clear jp jp'
       extract_lets ja ja'
       have A:∀a,SR P S F f (VR S F f) (ja a) (ja' a):=by
        intro a
        have B:SR P S F f (CR S F f) (if(!g)=true then Builtin.firstCells c a p else if a*c=0 then pure #[]else(zeroValue elem >>= λb=>pure (Builtin.zeroCells b.cells a))) (if(!g)=true then Builtin.firstCells c a (bI f p)else if a*c=0 then pure #[]else(zeroValue elem >>= λb=>pure (Builtin.zeroCells b.cells a))):=by
         split
         ·exact xK c a i
         ·split
          ·exact SR.ret ⟨λb k=>by simp at k,oi⟩
          ·exact Bv w a
        show SR P S F f _ (if _ then _ else _) (if _ then _ else _);split
        ·refine SR.bind' B ?_;rintro K _ ⟨M,rfl⟩;cases base with
         |none=>exact SR.ret ⟨ok_slice (λy l=>by cases l),(dI _ _ _).symm⟩
         |some n=>
          have g:=mZ (P:=P) (F:=F) (f:=f) (a:=n.add (e*c)) ((x n X).add _) K.toList 0 (λb k=>M b (iH.1 k));rw[o6, <-lk]at g;refine SR.bind' g ?_;intro _ _ _;exact SR.ret ⟨ok_slice x,(dI _ _ _).symm⟩
        ·refine SR.bind' (lZ elem) ?_;rintro q _ ⟨rfl,_⟩;show SR P S F f _ (if _ then _ else _) (if _ then _ else _);split
         ·exact SR.dead (bJ (dK _) _)
         ·refine SR.bind' (lZ elem) ?_;rintro q _ ⟨rfl,_⟩;show SR P S F f _ (if _ then _ else _) (if _ then _ else _);split
          ·apply SR.dead;refine bJ ?_ _;split
           ·exact dK _
           ·refine fi (Nd _ _ _ _ _) λ_=>?_
            show dM P (if _ then _ else _);split
            ·exact fi (Qz _) λ_=>aT _
            ·exact aT _
          ·refine SR.bind' (Ko _) ?_;rintro o _ rfl;refine SR.bind' (lZ elem) ?_;rintro q _ ⟨rfl,_⟩;refine SR.bind' (Ih _) ?_;intro _ _ _;have g:=xK (P:=P) (f:=f) c e J;rw[dI]at g;refine SR.bind' g ?_;rintro r _ ⟨N,rfl⟩;refine SR.bind' B ?_;rintro s _ ⟨O,rfl⟩;refine SR.bind' (qA w) ?_;rintro b _ ⟨rfl,k⟩;have c:=nO (S:=S) (F:=F) (f:=f) k;have k:=sQ c.2 c.1 ((o-(e+a))*b.cells.size)
           have l:=Bu (P:=P) (S:=S) (F:=F) (f:=f) elem (c:=r++s++Builtin.zeroCells b.cells (o-(e+a))) (λg c=>by
            rcases cn.1 c with c|c
            ·rcases cn.1 c with c|c
             ·exact N g c
             ·exact O g c
            ·exact k.2 g c)
           have c:(r++s++Builtin.zeroCells b.cells (o-(e+a))).map (bI f)=r.map (bI f)++s.map (bI f)++Builtin.zeroCells b.cells (o-(e+a)):=by
            rw[Array.map_append,Array.map_append]
            congr 1
            exact k.1
           rw[c]at l;refine SR.bind' l ?_;rintro n _ ⟨Q,rfl⟩;exact SR.ret ⟨nP Q,(zP n _ _).symm⟩
       clear_value ja ja'
       show SR P S F f _ (if _ then _ else _) (if _ then _ else _);split
       ·refine SR.bind' (Bs i) ?_;rintro T _ rfl;show SR P S F f _ (if _ then _ else _) (if _ then _ else _);split
        ·exact SR.dead (bJ (dK _) _)
        ·refine SR.bind' (lZ elem) ?_;rintro q _ ⟨rfl,_⟩;split
         ·exact SR.dead (fi (tH _) λ_=>bJ (dK _) _)
         ·exact A _
       ·refine SR.bind' (D6 i) ?_;rintro a _ rfl;exact A a
      clear_value jp jp'
      cases tys[1]? with
      |none=>exact z false
      |some R=>
       refine SR.bind' (dF R) ?_;rintro d _ ⟨rfl,_⟩;exact z _
     |_=>exact SR.dead (aB _)
    |_=>exact SR.dead (aB _)
