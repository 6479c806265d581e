/- Texts of ours, one behind the other: ZJ0. -/
import Derived.Test.YtedifobeggabnaaGreatCbZE19
import Derived.Conc.TokenWalk
namespace Go.Proofs.YtedifobeggabnaaGreat
open Go.Conc
variable {d p:Nat}{j:TypeId}{c:Array Value}{f e q:World}{l:Nat->Prop}{m:Fx}
def BV(c:Nat->Option Obj)(d:World):Prop:=∀a b,c a=some b->d.heap[a]?=some b
structure Kp(B:Nat)(h z:Nat->Option Obj)(O:Nat->Prop)(w:World):Prop where
 mem:∀b o,h b=some o->w.heap[b]?=some o
 own:∀b o,h b=some o->O b
 size:B<=w.heap.size
 spec:BV z w
 off:∀b o,z b=some o->¬O b
 lt:∀b,O b->b<w.heap.size
def fP(b:Nat->Option Obj)(c:Nat)(d:Obj):Nat->Option Obj:=λa=>if a=c then some d else b a
theorem dP(c:Nat->Option Obj)(a:Nat)(b:Obj):fP c a b a=some b:=ai X
theorem ff(a:Nat->Option Obj)(b:Obj)(c:p≠d):fP a d b p=a p:=af c
section
variable {P:Program}{s:(Nat->Prop)->Goroutine->World->Prop}{O:Nat->Prop}{n:Nat}{g:Goroutine}{w r:World}{h z:Nat->Option Obj}{B:Nat}{b:Frame}{a:Act}{t:Array Oper}{i:Nat}{rest:List Nat}{k:List Item}{u:List Frame}{o:Oper}
theorem Kp.rely(a:Kp B h z O w)(c:dW dU (BV z) O w r):Kp B h z O r:=⟨λb o d=>(c.qH b (J (a.own b o d))).trans (a.mem b o d),a.own,aK a.size c.size,c.lv a.spec,a.off,λb e=>aj (a.lt b e) c.size⟩
theorem Kp.He(a:Kp B h z O w){b:Nat}{o:Obj}(c:h b=some o):b<w.heap.size:=aC (a.mem b o c)
theorem Kp.cell(d:Kp B h z O w){b a:Nat}{u:Array Value}{c:Value}(e:h b=some (.cells u j))(f:u[a]?=some c):w.cell? ⟨b,a,none⟩=some c:=cell_of (d.mem b _ e) f
theorem fL(_hK:Kp B h z O w)(h:HG P true dU (BV z) (λO g w=>Wk P s O g w) n O g w):Wk P s O g w:=
 (UN (λ_ _ h=>h) h).bind λ_ _ w a=>a w.drawn
theorem vC(c:Obj)(f:Nat->Value)(g:t[i]?=some o)(h:Region.wanted o (yielded t a.tmps)=true)(j:b.kind≠.early)(l:∀r:World,(execOp a.eval o).run P r=.ok (.value (f r.heap.size)) { r with heap:=r.heap.push c })(m:∀r:World,(execOp a.eval o).events P r #[]= #[])(n:∀d,Wk P s O (G (b.at (a.put o.dst (f w.heap.size)) (.inRegion t rest::k)) u) { w.at d with heap:=w.heap.push c }):Wk P s O (G (b.at a (.inRegion t (i::rest)::k)) u) w:=
 Wk.mk X λd=>⟨G (b.at (a.put o.dst (f w.heap.size)) (.inRegion t rest::k)) u,{ w.at d with heap:=w.heap.push c },#[],O,(YV g h j (l (w.at d))).trans (by unfold listed;rw[m,seen_none];rfl),⟨X,X,X,by show w.heap.size<=(w.heap.push c).size;rw[cZ];omega,λb e _=>by show(w.heap.push c)[b]?=_;rw[cv,af (by have:b<w.heap.size:=e;omega)];rfl,λb e=>e,λb e=>I e,λq p=>by simp at p⟩,n d⟩
theorem Kp.push(c:Kp B h z O w)(e:Obj)(d:Nat):Kp B h (fP z w.heap.size e) O { w.at d with heap:=w.heap.push e }:=by
 have g:∀b,b<w.heap.size->(w.heap.push e)[b]?=w.heap[b]?:=λb i=>by rw[cv,af E]
 refine⟨λb o a=>(g b (c.He a)).trans (c.mem b o a),c.own,by show B<=(w.heap.push e).size;rw[cZ];have:=c.size;omega,λb o a=>?_,λb o a=>?_,λb i=>by show b<(w.heap.push e).size;rw[cZ];have:=c.lt b i;omega⟩
 ·show(w.heap.push e)[b]?=_;by_cases f:b=w.heap.size
  ·subst f;rw[dP]at a;simpa using a
  ·rw[ff _ _ f]at a;exact(g b (aC (c.spec b o a))).trans (c.spec b o a)
 ·by_cases f:b=w.heap.size
  ·intro e;have:=c.lt b e;omega
  ·rw[ff _ _ f]at a;exact c.off b o a
theorem nK(m:Kp B h z O w)(e:Obj)(j:Nat->Value)(p:t[i]?=some o)(q:Region.wanted o (yielded t a.tmps)=true)(v:b.kind≠.early)(x:∀r:World,(execOp a.eval o).run P r=.ok (.value (j r.heap.size)) { r with heap:=r.heap.push e })(A:∀r:World,(execOp a.eval o).events P r #[]= #[])(C:∀d l,B<=d->(∀b o,h b=some o->b<d)->(∀b o,z b=some o->b<d)->Kp B (fP h d e) z (λy=>O y∨y=d) l->HG P true dU (BV z) s n (λy=>O y∨y=d) (G (b.at (a.put o.dst (j d)) (.inRegion t rest::k)) u) l):HG P true dU (BV z) s (n+1) O (G (b.at a (.inRegion t (i::rest)::k)) u) w:=by
 refine HG.step X λr j=>?_
 rw[YV p q v (x r)];have f:=m.rely j
 have D:nY O r { r with heap:=r.heap.push e }=λd=>O d∨d=r.heap.size:=by
  funext d
  have j:({ r with heap:=r.heap.push e }:World).heap.size=r.heap.size+1:=cZ ..;refine propext ⟨λh=>?_,λh=>?_⟩
  ·rcases h with h|⟨j,l⟩
   ·exact I h
   ·exact J E
  ·rcases h with h|h
   ·exact I h
   ·exact J ⟨E,E⟩
 have F:Kp B (fP h r.heap.size e) z (λy=>O y∨y=r.heap.size) { r with heap:=r.heap.push e }:=by
  refine⟨λb o c=>?_,λb o c=>?_,by show B<=(r.heap.push e).size;rw[cZ];have:=f.size;omega,λb o c=>?_,λb o c=>?_,λb K=>?_⟩
  ·show(r.heap.push e)[b]?=_;by_cases g:b=r.heap.size
   ·subst g;rw[dP]at c;simpa using c
   ·rw[ff _ _ g]at c;rw[cv,af g];exact f.mem b o c
  ·by_cases g:b=r.heap.size
   ·exact J g
   ·rw[ff _ _ g]at c;exact I (f.own b o c)
  ·have:=aC (f.spec b o c);show(r.heap.push e)[b]?=_;rw[cv,af E];exact f.spec b o c
  ·have:=aC (f.spec b o c);exact λg=>g.elim (f.off b o c) (λg=>E)
  ·show b<(r.heap.push e).size;rw[cZ];exact K.elim (λg=>by have:=f.lt b g;omega) (λg=>E)
 refine⟨⟨X,X,X,by show r.heap.size<=(r.heap.push e).size;rw[cZ];omega,λd j _=>?_,λc g=>?_⟩,by rw[D];exact C _ _ f.size (λb o c=>f.He c) (λb o c=>aC (f.spec b o c)) F⟩
 ·show(r.heap.push e)[d]?=_;rw[cv,af E]
 ·have:=Yr g;rw[A r]at this;simp at this
theorem CN{d off:Nat}{v:Value}(x:Kp B h z O w)(l:h d=some (.cells c j))(D:t[i]?=some o)(p:Region.wanted o (yielded t a.tmps)=true)(E:b.kind≠.early)(F:∀r:World,r.heap[d]?=some (.cells c j)->(execOp a.eval o).run P r=.ok .skip (r.setCell ⟨d,off,none⟩ v))(q:∀r:World,r.heap[d]?=some (.cells c j)->(execOp a.eval o).events P r #[]= #[⟨.cell ⟨d,off,none⟩,true,false⟩])(I:∀m,Kp B (fP h d (.cells (c.setIfInBounds off v) j)) z O m->HG P true dU (BV z) s n O (G (b.at (a.put o.dst undef) (.inRegion t rest::k)) u) m):HG P true dU (BV z) s (n+1) O (G (b.at a (.inRegion t (i::rest)::k)) u) w:=by
 refine nJ (F:=Kp B h z O) (x:=d) (C:=c) (C':=c.setIfInBounds off v) (f:=λw=>w.setCell ⟨d,off,none⟩ v) (es:= #[⟨.cell ⟨d,off,none⟩,true,false⟩]) (λh J=>h.rely J) x (x.own d _ l) (λw p=>p.mem d _ l) D p E (λr K=>⟨cD K off v,size_setCell _ _ _,⟨X,X,X⟩,λy M=>by rw[heap_setCell,af M]⟩) F q (λe q=>⟨off,by simpa using q⟩) (λr m f A C N=>I m ⟨λb o e=>?_,λb o e=>?_,by rw[C];exact f.size,λb o e=>(A b λQ=>f.off b o e (Q▸f.own d _ l)).trans (f.spec b o e),f.off,λb R=>by rw[C];exact f.lt b R⟩)
 ·by_cases g:b=d
  ·subst g;rw[dP]at e;cases e;exact N
  ·rw[ff _ _ g]at e;exact(A b g).trans (f.mem b o e)
 ·by_cases g:b=d
  ·subst g;exact f.own b _ l
  ·rw[ff _ _ g]at e;exact f.own b o e
theorem se{e off:Nat}(d:Value)(f:Kp B h z O w)(g:h e=some (.cells c j))(l:c[off]?=some d)(m:t[i]?=some o)(p:Region.wanted o (yielded t a.tmps)=true)(q:b.kind≠.early)(v:∀r:World,r.cell? ⟨e,off,none⟩=some d->(execOp a.eval o).run P r=.ok (.value d) r)(x:∀r:World,r.cell? ⟨e,off,none⟩=some d->(execOp a.eval o).events P r #[]= #[⟨.cell ⟨e,off,none⟩,false,false⟩])(y:HG P true dU (BV z) s n O (G (b.at (a.put o.dst d) (.inRegion t rest::k)) u) w):HG P true dU (BV z) s (n+1) O (G (b.at a (.inRegion t (i::rest)::k)) u) w:=
 fb (bk:=e) (off:=off) d m p q (J (f.own _ _ g)) (f.cell g l) v x y
theorem Kp.Ve{h':Nat->Option Obj}(a:Kp B h z O w)(d:∀b o,h' b=some o->h b=some o):Kp B h' z O w:=⟨λb o c=>a.mem b o (d b o c),λb o c=>a.own b o (d b o c),a.size,a.spec,a.off,a.lt⟩
def mV(h:Nat->Option Obj)(a:Nat)(c:World)(b:Nat):Option Obj:=match h b with
 |some o=>some o
 |none=>if a<=b then c.heap[b]? else none
theorem pf{b:Nat}{o:Obj}(a:h b=some o):mV h d f b=some o:=by unfold mV;rw[a]
theorem wu{b:Nat}{o:Obj}(a:∀b o,h b=some o->b<d)(c:d<=b)(e:f.heap[b]?=some o):mV h d f b=some o:=by
 unfold mV;cases g:h b with
 |some o=>have:=a b o g;omega
 |none=>show(if d<=b then f.heap[b]? else none)=_;rw[ai c];exact e
structure Pf(P:Program)(h:Nat->Option Obj)(vs:List Value)(W:World)(F:Fx)(Q:Nat->Prop)(V:World):Prop where
 fns:uG P F
 JQ:∀b,F.cl b->P.info? F.wt=none
 own:∀b,Q b->(∃o,h b=some o)∧F.cl b
 vw:VW Q F W.heap.size W V W
 blk:qB (gG Q W.heap.size V.heap.size) F V
 cf:KJ F W.heap.size V
 Wb:∀v,v∈vs->bG (gG Q W.heap.size V.heap.size) F v
theorem VW.new(a:VW l m B f e q)(o:qB (gG l B e.heap.size) m e)(i:gG l B e.heap.size d)(b:¬m.cl d)(g:e.heap[d]?=some (.cells c j)):q.heap[d]?=some (.cells c j):=by
 obtain⟨v,k,p⟩:=a.Em.blk d _ (i.imp id js) g;obtain⟨w,x,r,rfl,s,t,h⟩:=p;obtain rfl:=s.1 b;obtain rfl:=t b;have h:r=(0,0):=(h.resolve_left b).elim id id;subst h;obtain⟨b,n,u⟩:=o d i (aC g);rw[g]at n;cases n;have b:c.map (bI id)=c:=(bf λg a=>kK (u g a)).trans (jc _);rw[b]at k;exact k
theorem rN{x:FuncId}{i:Frame}{R:Value->World->Prop}{h0:Nat->Option Obj}{vs:List Value}(p:Kp B h z O e)(q:Pf P h0 vs e m l f)(C:∀b o,h0 b=some o->h b=some o)(E:P.globals.size=0)(F:m.fn x)(K:∀g,g∈c->g∈vs∨∃k n,g=.int k n)(M:∀T d,Calls P x c (dZ f T d) λa N=>∃g,a=.returned g∧R g N)(Q:∀g f T d,R g f->R g (dZ f T d))(S:∀g w r,R g w->(∀t i y,e.heap.size<=t->w.heap[t]?=some (.cells i y)->r.heap[t]?=some (.cells i y))->Kp B (mV h e.heap.size r) z (iL O e.heap.size r) r->Wk P s (iL O e.heap.size r) (G (i.finish g) u) r):Wk P s O (G (Frame.enter P x c .normal) (i::u)) e:=by
 have x:∀b,l b->O b:=λb j=>by
  obtain⟨⟨o,a⟩,_⟩:=q.own b j;exact p.own b o (C b o a)
 refine Lf (Q:=l) (F:=m) (Post:=R) (W0:=e) ⟨⟨λb _=>by rw[E];omega,q.JQ⟩,q.fns⟩ x q.vw q.blk q.cf F (λg U=>?_) M Q (λg w r V v C j=>?_)
 ·rcases K g U with i|⟨k,n,rfl⟩
  ·exact q.Wb g i
  ·exact ok_int k n
 ·have x:=v.size;have x:=v.le
  have A:∀b,b<e.heap.size->r.heap[b]?=e.heap[b]?:=λb j=>by
   by_cases C:l b
   ·exact(v.Up b (q.own b C).2).2.2.2
   ·exact v.old b j C
  refine S g w r V (λt i y C a=>v.new j (J ⟨C,aC a⟩) (q.cf.nw t C) a) ⟨λb o a=>?_,λb o a=>?_,aK p.size x,λb o a=>(A b (aC (p.spec b o a))).trans (p.spec b o a),λb o a i=>i.elim (p.off b o a) (λi=>by have:=aC (p.spec b o a);omega),λb j=>j.elim (λi=>aj (p.lt b i) x) (λi=>i.2)⟩
  ·unfold mV at a;cases j:h b with
   |some D=>
    rw[j]at a;cases a;exact(A b (p.He j)).trans (p.mem b _ j)
   |none=>
    rw[j]at a;simp only at a;split at a
    ·exact a
    ·cases a
  ·unfold mV at a;cases j:h b with
   |some D=>exact I (p.own b D j)
   |none=>
    rw[j]at a;simp only at a;split at a
    ·exact J ⟨by assumption,aC a⟩
    ·cases a
