/- Texts of ours, one behind the other: ZC2 ZC3 ZC4 ZC5 ZC6 ZC7 ZC8 ZC9 ZC10 ZC11. -/
import Derived.Conc.Beside
import Derived.Test.YtedifobeggabnaaGreatCbZB12
import Derived.Test.YtedifobeggabnaaGreatCbZC1
import Derived.Conc.CrowdRun
namespace Go.Proofs.YtedifobeggabnaaGreat
variable {M D:Nat->Prop}{ar:Loc}{c e ax a0 a1 a8 a9 ba:Nat}{U:MemAct}{av:(Nat->Prop)->Goroutine->World->Prop}{ad:Type}{Y:Program}{a4 ao:List Frame}{l:World}{Z bb:Array Value}{S a2:TypeId}{a5:Nat×Nat}{R a6 a7:Value}{a3 bc:Bool}{ab:Goroutine}{o p:Nat->Bool}{A C:Int}
abbrev XP:=@Go.Conc.mem_ofEvents
abbrev XT:=@Go.ConcN.upd_same
abbrev XX:=@Go.ConcN.RW.refl
abbrev X1:=@Go.Conc.getElem?_append_cases
abbrev X4:=@Go.Conc.Deaf_other
abbrev X9:=@Go.Conc.runT_crowd_go
abbrev Yd:=@Go.ConcN.sumTo_congr
abbrev Yf:=@Go.ConcN.sumTo_upd
abbrev Yi:=@Go.ConcN.Deaf_still
abbrev Yj:=@Go.ConcN.Mode.congr
abbrev Yl:=@Go.Conc.touch_of
abbrev Yz:=@Go.ConcN.upd_same
abbrev YA:=@Go.ConcR.loc_of_ofEvent
abbrev YD:=@Go.Conc.woken_quitsD
abbrev YF:=@Go.Conc.touchAt_of
abbrev YG:=@Go.ConcN.upd_ne
abbrev YJ:=@Go.ConcN.Mode.not_ret
abbrev YL:=@Go.Conc.deafBehind_still
section
open Go.Conc
open Go.ConcN (PermW fork_knows RelBy)
def oL:Loc->Option Nat
 |.cell a=>some a.block
 |.obj r=>some r
 |_=>none
def ry(b:Nat->Prop)(c:Loc):Prop:=∃a,oL c=some a∧b a
theorem ry.mono(b:∀a,M a->D a)(c:ry M ar):ry D ar:=let ⟨a,d,e⟩:=c; ⟨a,d,b a e⟩
structure Vm(Sh:Nat->Prop)(own:Nat->Nat->Prop)(rd:Nat->Prop):Prop where
 two:∀g h b,own g b->own h b->g=h
 ownRd:∀g b,own g b->¬rd b
 ownSh:∀g b,own g b->¬Sh b
 rdSh:∀b,rd b->¬Sh b
def j9(b:Nat)(c:MemAct):Prop:=∀y,c.touch?=some y->∀a,oL y.loc=some a->a<b
theorem j9.mono(a:j9 c U)(b:c<=e):j9 e U:=λy d f g=>aj (a y d f g) b
theorem j9.none(b:U.touch?=none):j9 c U:=λy a=>by rw[b]at a;cases a
theorem j9.of_low(d:U.low c):j9 c U:=by
 intro y e i a;revert e d;cases U<;>simp[MemAct.touch?,MemAct.low]
 ·rename_i f;rintro b rfl;have⟨g,wr,j⟩:=f;cases g<;>simp[oL]at a<;>subst a<;>exact b
 ·rename_i h;cases h<;>simp
  ·rintro b rfl;simp[oL]at a;omega
  ·rintro b rfl;simp[oL]at a;omega
theorem mA{b d:Trace}(f:∀a,a∈b->j9 c a.act)(g:c<=e)(h:∀a,a∈d->j9 e a.act):∀a,a∈b++d->j9 e a.act:=λa i=>(cn.1 i).elim (λy=>(f a y).mono g) (h a)
structure EB(Sh:Nat->Prop)(own:Nat->Nat->Prop)(rd live:Nat->Prop)(t:Trace):Prop where
 quiet:Quiet (ry Sh) t
 own:∀g,live g->∀l,ry (own g) l->Perm t g l
 rd:∀g,live g->∀l,ry rd l->PermW t g l
 nr:∀said,¬Race said t
def WI(d:Nat->Prop)(e:Nat->Nat->Prop)(f:Nat->Prop)(b:Nat)(c:MemOp):Prop:=
 c.g=b∧∀a,c.act.touch?=some a->(ry d a.loc∧a.kind≠.plain∧(a.kind=.said->b=0))∨ry (e b) a.loc∨(ry f a.loc∧a.write=false)
section
variable {d f a:Nat->Prop}{b:Nat->Nat->Prop}{t u:Trace}
theorem ry.apart(c:∀a,M a->D a->False)(b:ry M ar)(y:ry D ar):False:=by
 have⟨a,d,e⟩:=b;have⟨f,g,h⟩:=y;grind
theorem EB.app(l:Vm d b f)(m:EB d b f a t)(y:a c)(n:∀g,g∈u->WI d b f c g):EB d b f a (t++u):=by
 refine⟨m.quiet.app λg h A B j=>?_,λp s v k=>(m.own p s v k).app λg h e r o=>?_,λp s v k=>(m.rd p s v k).app λg h e r o F=>?_,λC=>?_⟩
 ·rcases(n g h).2 A B with⟨_,w,x⟩|i|⟨i,_⟩
  ·exact⟨w,λo=>(n g h).1.trans (x o)⟩
  ·exact(i.apart (λe=>l.ownSh c e) j).elim
  ·exact(i.apart l.rdSh j).elim
 ·subst o;rcases(n g h).2 e r with⟨j,_⟩|i|⟨i,_⟩
  ·exact(k.apart (λe=>l.ownSh p e) j).elim
  ·have⟨D,o,q⟩:=i;have⟨s,z,E⟩:=k;rw[o]at z;cases z;exact(n g h).1.trans (l.two c p D q E)
  ·exact(k.apart (λe=>l.ownRd p e) i).elim
 ·subst o;rcases(n g h).2 e r with⟨j,_⟩|i|⟨_,p⟩
  ·exact(k.apart l.rdSh j).elim
  ·exact(i.apart (λe=>l.ownRd c e) k).elim
  grind
 ·refine noRace_append (m.nr C) (λg h=>(n g h).1) (λk l o g h e r q=>?_);rcases(n g h).2 e r with⟨j,w,x⟩|i|⟨p,s⟩
  ·exact m.quiet.known j w x k l o q
  ·exact m.own c y e.loc i k l o q.1
  ·exact m.rd c y e.loc p k l o q.1 (q.2.2.1.resolve_right (by simp[s]))
theorem EB.Al(i:EB d b f a t)(k:∀c,c∈u->c.act.touch?=none):EB d b f a (t++u):=by
 have none:∀ {c:MemOp} {h:Touch},c∈u->c.act.touch?=some h->False:=λg e=>by rw[k _ g]at e;cases e
 refine⟨i.quiet.app λc g p k _=>(none g k).elim,λl m n o=>(i.own l m n o).app λc g h e _=>(none g e).elim,λl m n o=>(i.rd l m n o).app λc g h e _ _=>(none g e).elim,λq=>?_⟩;rintro⟨g,j,l,⟨m,h,c,e,n⟩,o,r⟩;have⟨p,k,s⟩:=Yl c;have⟨y,c,p⟩:=Yl e;rcases X1 k with⟨v,e⟩|⟨_,w⟩
 ·rcases X1 c with⟨v,k⟩|⟨_,w⟩
  ·exact i.nr q ⟨g,j,l,⟨m,h,by simp[Trace.act?,e,s],by simp[Trace.act?,k,p],n⟩,λc=>o (hb_app u c),λc=>r (hb_app u c)⟩
  grind
 grind
theorem EB.Kz{h:Nat->Nat->Prop}(m:EB d b f a t)(l:∀i,i∈t->j9 c i.act)(r:∀e,D e->a e)(s:∀e g,D e->h e g->b e g∨c<=g)(u:∀e g,D e->M g->f g∨b e g):EB d h M D t:=by
 have low:∀ {j:Nat} {i:Touch} {g:Nat},touchAt t j=some i->oL i.loc=some g->g<c:=by
  intro j i g k h;have⟨o,n,p⟩:=Yl k;exact l o (bh n) i p g h
 refine⟨m.quiet,λe l o n j i k p=>?_,λe l o n j i k p v=>?_,m.nr⟩
 ·have⟨g,q,h⟩:=n;rcases s e g l h with h|h
  ·exact m.own e (r e l) o ⟨g,q,h⟩ j i k p
  grind
 ·have⟨g,q,h⟩:=n;rcases u e g l h with h|h
  ·exact m.rd e (r e l) o ⟨g,q,h⟩ j i k p v
  ·exact m.own e (r e l) o ⟨g,q,h⟩ j i k p
theorem EB.fork(m:EB d b f a t)(r:a 0){i y:MemOp}(n:i.g=0∧i.act=.go c)(o:y.g=c∧y.act=.start)(s:Deaf t 0=0)(u:Deaf t c=0)(l:∀p,¬b c p):EB d b f (λg=>a g∨g=c) (t ++ #[i,y]):=by
 have v:∀l,l∈#[i,y]->l.act.touch?=none:=by
  intro l q;simp only[aF,az,aD,bP]at q;rcases q with rfl|rfl
  ·rw[n.2];rfl
  ·rw[o.2];rfl
 have j:=m.Al v;refine⟨j.quiet,λg e k h=>?_,λg e k h=>?_,j.nr⟩
 ·rcases e with e|rfl
  ·exact j.own g e k h
  ·have⟨p,_,i⟩:=h;grind
 ·rcases e with e|rfl
  ·exact j.rd g e k h
  ·intro e g i j l;have⟨v,p,q⟩:=Yl i;rcases X1 p with⟨_,i⟩|⟨_,v⟩
   ·exact fork_knows n o s u (m.rd 0 r k h e g (by rw[YF i];exact q) j l)
   grind
end
end
section
open Go.Conc
structure dW(rd:Nat->Prop)(Lv:World->Prop)(O:Nat->Prop)(w w1:World):Prop where
 qH:∀b,rd b∨O b->w1.heap[b]?=w.heap[b]?
 lv:Lv w->Lv w1
 size:w.heap.size<=w1.heap.size
def nY(b:Nat->Prop)(c d:World)(a:Nat):Prop:=b a∨(c.heap.size<=a∧a<d.heap.size)
structure yU(rd O:Nat->Prop)(w w':World)(es:Array Event):Prop where
 tape:w'.tape=w.tape
 os:w'.os=w.os
 out:w'.output=w.output
 size:w.heap.size<=w'.heap.size
 other:∀b,b<w.heap.size->¬O b->w'.heap[b]?=w.heap[b]?
 ev:∀e,e∈es->BS rd (nY O w w') w'.heap.size e
def HG(h:Program)(i:Bool)(b:Nat->Prop)(d:World->Prop)(f:(Nat->Prop)->Goroutine->World->Prop):Nat->(Nat->Prop)->Goroutine->World->Prop
 |0,O,c,e=>∀a,dW b d O e a->f O c a
 |n+1,O,c,e=>(∀a,dW b d O e a->f O c a)∨(c.status=.running∧∀a,dW b d O e a->(stepG h i c a).goes λj g k=>yU b O a g k∧HG h i b d f n (nY O a g) j g)
section
variable {P:Program}{a:Bool}{f:Nat->Prop}{i:World->Prop}{d:(Nat->Prop)->Goroutine->World->Prop}{O:Nat->Prop}{n:Nat}{g:Goroutine}{w j k:World}
theorem dW.refl(w:World):dW f i O w w:=⟨λ_ _=>rfl,id,aa _⟩
theorem dW.trans(a:dW f i O w j)(b:dW f i O j k):dW f i O w k:=⟨λc d=>(b.qH c d).trans (a.qH c d),b.lv∘a.lv,aK a.size b.size⟩
theorem dW.at(w:World)(d:Nat)(a:i w->i (w.at d)):dW f i O w (w.at d):=⟨λ_ _=>rfl,a,aa _⟩
theorem HG.stop(b:∀j,dW f i O w j->d O g j):HG P a f i d n O g w:=by
 cases n with
 |zero=>exact b
 |succ n=>exact .inl b
theorem HG.step(c:g.status=.running)(e:∀j,dW f i O w j->(stepG P a g j).goes λh b k=>yU f O j b k∧HG P a f i d n (nY O j b) h b):HG P a f i d (n+1) O g w:=.inr ⟨c,e⟩
theorem HG.rely(b:HG P a f i d n O g w)(e:dW f i O w j):HG P a f i d n O g j:=by
 cases n with
 |zero=>exact λk c=>b k (e.trans c)
 |succ n=>
  rcases b with b|⟨h,b⟩
  ·exact .inl λk c=>b k (e.trans c)
  ·exact .inr ⟨h,λk c=>b k (e.trans c)⟩
theorem HG.cases(b:HG P a f i d n O g w):d O g w∨∃j e c h,n=j+1∧g.status=.running∧stepG P a g w=.go e c h∧yU f O w c h∧HG P a f i d j (nY O w c) e c:=by
 cases n with
 |zero=>exact .inl (b w (dW.refl w))
 |succ n=>
  rcases b with b|⟨l,b⟩
  ·exact .inl (b w (dW.refl w))
  ·have:=b w (dW.refl w);cases k:stepG P a g w with
   |go e c h=>rw[k]at this;exact .inr ⟨n,e,c,h,X,l,X,this.1,this.2⟩
   |_=>rw[k]at this;exact this.elim
theorem HG.mono(e:∀O g w,d O g w->av O g w)(b:HG P a f i d n O g w):HG P a f i av n O g w:=by
 induction n generalizing O g w with
 |zero=>exact λj c=>e _ _ _ (b j c)
 |succ n k=>
  rcases b with b|⟨l,b⟩
  ·exact .inl λj c=>e _ _ _ (b j c)
  ·refine .inr ⟨l,λj c=>?_⟩;have:=b j c;cases h:stepG P a g j with
   |go m o p=>rw[h]at this;exact⟨this.1,k this.2⟩
   |_=>rw[h]at this;exact this.elim
theorem yU.idle(f O:Nat->Prop)(w:World):yU f O w w #[]:=⟨X,X,X,aa _,λ_ _ _=>rfl,λb a=>by simp at a⟩
theorem kg(O:Nat->Prop)(w:World):nY O w w=O:=by
 funext b
 refine propext ⟨λa=>a.resolve_right E,I⟩
end
def Gy(d:ad->ad->Prop)(e:Nat)(b c:Nat->ad):Prop:=∃a,a<e∧d (b a) (c a)∧∀j,j≠a->b j=c j
theorem Nq{c:ad->ad->Prop}(g:WellFounded c):∀b,WellFounded (Gy c b):=by
 intro b;induction b with
 |zero=>exact⟨λa=>Acc.intro a λf ⟨d,hk,_⟩=>absurd hk (Nat.not_lt_zero d)⟩
 |succ b h=>
  have i:∀e,Acc c e->∀a:Nat->ad,a b=e->Acc (Gy c (b+1)) a:=by
   intro e j;induction j with
   |intro e _ m=>
    intro a;have k:=h.apply a;induction k with
    |intro a _ l=>
     intro e;refine Acc.intro a λf ⟨d,hk,h1,h2⟩=>?_
     rcases aR d b with c|c
     ·exact l f ⟨d,c,h1,h2⟩ ((h2 b E).trans e)
     ·grind
  exact⟨λa=>i (a b) (g.apply _) a X⟩
def ym(a:Frame)(b:List Frame)(_:World):Prop:=b=[]∧a.mode=.returning
def Sp(a:Program):Type:={ s:Ux // Acc (Sq a [cj a] ym) s }
def UO(a:Program)(c d:Option (Sp a)):Prop:=∃b y,c=some b∧d=some y∧Sq a [cj a] ym b.1 y.1
theorem SW(b:Program):WellFounded (UO b):=by
 have d:∀c:Ux,Acc (Sq b [cj b] ym) c->∀a:Sp b,a.1=c->Acc (UO b) (some a):=by
  intro c e;induction e with
  |intro c _ f=>
   intro a g;refine Acc.intro _ λh ⟨y,z,h1,h2,h3⟩=>?_
   cases h2
   subst h1;exact f y.1 (g▸h3) y X
 refine⟨λi=>?_⟩;cases i with
 |none=>exact Acc.intro _ λh ⟨_,y,_,h2,_⟩=>by cases h2
 |some a=>exact d a.1 a.2 a X
abbrev VF(a:Program):=Option (Sp a)×Nat
def SQ(a:Program):VF a->VF a->Prop:=Prod.Lex (UO a) (·< ·)
theorem SS(a:Program):WellFounded (SQ a):=(Prod.lex ⟨UO a,SW a⟩ Nat.lt_wfRel).wf
abbrev VH(a:Program):=Nat×(Nat->VF a)×Nat
def RZ(a:Program)(b:Nat):VH a->VH a->Prop:=Prod.Lex (·< ·) (Prod.Lex (Gy (SQ a) b) (·< ·))
theorem Tq(a:Program)(b:Nat):WellFounded (RZ a b):=(Prod.lex Nat.lt_wfRel (Prod.lex ⟨Gy (SQ a) b,Nq (SS a) b⟩ Nat.lt_wfRel)).wf
theorem KO.mono{e f:Frame->List Frame->World->Prop}(g:∀a ao l,e a ao l->f a ao l){a:Frame}(b:KO Y a4 e c a ao l):KO Y a4 f c a ao l:=by
 induction c generalizing a ao l with
 |zero=>exact g _ _ _ b
 |succ c h=>
  rcases b with b|⟨a,e,f,d,i,j,k⟩
  ·exact .inl (g _ _ _ b)
  ·exact .inr ⟨a,e,f,d,i,j,h k⟩
section
variable {P:Program}{Q:Nat->Prop}{F:Fx}{B:Nat}{b:Frame}{f:List Frame}{V:World}{a:Value->World->Prop}
theorem xR(m:∀e V T d,a e V->a e (dZ V T d))(b:Frame)(f:List Frame)(V:World)(T:Tape)(d:Nat)(c:l6 P Q F B b f V):Told P a b f (dZ V T d)↔Told P a b f V:=by
 have j:∀ {V:World} (T:Tape) (d:Nat),l6 P Q F B b f V->Told P a b f V->Told P a b f (dZ V T d):=by
  rintro V T d c ⟨k,e,⟨n,o,p,g,q,r⟩,s⟩;refine⟨k,e,⟨n,o,p,g,q,?_⟩,m e V T d s⟩;have t:=gh (P:=P) (S:=n9 Q B) (F:=F) (f:=id) g (c.fr.mono (λm i=>i.imp id js)).tmps;cases l:(results g b.tmps).runT P V #[]with
  |mk u v=>
   have h:=Sem.runT_fst P (results g b.tmps) V #[];rw[l,r]at h;have h:u=.ok e V:=h;subst h;have:=(t.tape (y7 c.blk c.le c.cf) l (T:=T) (d:=d) (λe h k m=>E)).1;have e:=Sem.runT_fst P (results g b.tmps) (dZ V T d) #[];rw[this,fN]at e;exact e.symm
 refine⟨λi=>?_,j T d c⟩;have:=j V.tape V.drawn (c.dZ T d) i
 rwa [QT,DT]at this
theorem Ld(b:Frame)(f:List Frame)(V:World)(T:Tape)(d:Nat)(_:l6 P Q F B b f V):ym b f (dZ V T d)↔ym b f V:=dt
theorem Told.back(b:Frame)(f:List Frame)(V:World)(c:Told P a b f V):ym b f V:=⟨c.1,c.2.choose_spec.1.1⟩
theorem yV.told(g:uJ P Q F B)(h:l6 P Q F B b f V)(i:yV P [cj P] (Told P a) b f V)(d:ym b f V):Told P a b f V:=by
 have⟨e,c⟩:=i V.tape V.drawn;rw[DT]at c;cases e with
 |zero=>exact c
 |succ e=>
  rcases c with c|⟨i,j,k,l,e,m,_⟩
  ·exact c
  ·exact absurd d.1 (qh g h e d.2)
theorem yV.EC(e:uJ P Q F B)(c:l6 P Q F B b f V)(g:yV P [cj P] (Told P a) b f V):Acc (Sq P [cj P] ym) (b,f,V):=by
 refine yV.acc e (λb f V T d c=>Ld (P:=P) (Q:=Q) (F:=F) (B:=B) b f V T d c) c λT d=>?_
 have⟨c,e⟩:=g T d;exact⟨c,e.mono Told.back⟩
end
end
section
open Go.Conc (G)
def oU(a:World)(b:Nat):World:=
 match a.heap[b]? with
 |some (.cells c d _)=>{ a with heap:=a.heap.setIfInBounds b (.cells c d (0,c.size))}
 |_=>a
theorem PO(a:l.heap[c]?=some (.cells Z S a5)):oU l c={ l with heap:=l.heap.setIfInBounds c (.cells Z S (0,Z.size))}:=by
 unfold oU;rw[a]
theorem ze(a:World)(b:Nat):(oU a b).heap.size=a.heap.size:=by
 unfold oU;grind
theorem qS(a:World)(b:e≠c):(oU a c).heap[e]?=a.heap[e]?:=by
 unfold oU;grind
theorem tu(a:l.heap[c]?=some (.cells Z S a5)):(oU l c).heap[c]?=some (.cells Z S (0,Z.size)):=by
 rw[PO a];grind
theorem zd(a:World)(b:Nat)(d:Addr):(oU a b).cell? d=a.cell? d:=by
 by_cases e:d.block=b
 ·unfold World.cell?;cases c:a.heap[b]? with
  |none=>
   have:oU a b=a:=by unfold oU;rw[c]
   rw[this]
  |some f=>
   cases f with
   |cells g h i=>rw[e,tu c,c]
   |_=>
    have:oU a b=a:=by unfold oU;rw[c]
    rw[this]
 ·unfold World.cell?;rw[qS a e]
section
variable {P:Program}{Q:Nat->Prop}{F:Fx}{B:Nat}{bs:List Frame}{a:Frame}{V W:World}{f:Nat->Nat}{b:Value->World->Prop}
theorem Kj(j:∀a,¬F.cl a)(i:∀a,Q a->∃b c,W.heap[a]?=some (.cells b c (0,0))∧V.heap[a]?=some (.cells b c (0,b.size))∧∀d,d∈b->uY d)(l:V.heap.size=W.heap.size):rK Q F W.heap.size id V W∧qB (gG Q W.heap.size V.heap.size) F V:=by
 have k:∀a,gG Q W.heap.size V.heap.size a->Q a:=λa l=>l.elim id λm=>absurd m.2 E
 refine⟨⟨λa m f n=>?_,λ_ _ _ _ l=>l,λa f=>?_⟩,λa f _=>?_⟩
 ·have⟨b,c,g,e,h⟩:=i a (k a f);rw[n]at e;cases e;refine⟨_,g,b,c,(0,0),X,⟨λ_=>?_,λl=>absurd l (j a)⟩,λ_=>rfl,J (J X)⟩;exact((bf λd j=>kK (h d j)).trans (jc _)).symm
 ·have⟨b,c,g,e,h⟩:=i a f;exact⟨X,⟨b,c,e⟩,aC g⟩
 ·have⟨b,c,g,e,h⟩:=i a (k a f);exact⟨_,e,λd j=>uY.ok (h d j) _ _⟩
theorem zv(b:V.heap.size=W.heap.size)(a:Nat):¬qE W.heap.size id V a:=by
 rintro⟨a,b,c,_⟩;omega
theorem N8{main:Bool}(d:l6 P Q F B a [] V)(g:rK Q F B f V W)(hl:a.leaving P V (.returned R))(S:Frame):∃h T,stepG P main (G (jr f a) (S::bs)) W=.go (G (S.finish (bI f R)) bs) h T∧rK Q F B f V h∧RI B f f V V W h∧bG (gG Q B V.heap.size) F R∧∀e,e∈T->BS Q (qE B f V) h.heap.size e:=by
 have p:∀b,Q b->b<B:=λb i=>(g.low b i).2.2
 have z:∀b,gG Q B V.heap.size b->n9 Q B b:=λb n=>n.imp id js
 have U:=g.Em d;have⟨hm,hd,ar,s,av,hr⟩:=hl;have ax:=gh (P:=P) (S:=n9 Q B) (F:=F) (f:=kF f V W) s (d.fr.mono z).tmps;have a0:=gh (P:=P) (S:=n9 Q B) (F:=F) (f:=id) s (d.fr.mono z).tmps;have a1:=gh (P:=P) (S:=gG Q B V.heap.size) (F:=F) (f:=id) s d.fr.tmps;cases A:(results s a.tmps).runT P V #[]with
 |mk Y C=>
  have e:=Sem.runT_fst P (results s a.tmps) V #[];rw[A,hr]at e;have e:Y=.ok R V:=e;subst e
  have Z:bG (gG Q B V.heap.size) F R:=by
   have⟨⟨S,s⟩,_⟩:=a0.tight U.cl a1 d.blk A (λb o k=>absurd k E);exact s.1
  have⟨S,h,s,t,l,u,h7,q,h9⟩:=ax.run U A (λj T o k=>absurd k E);have t:C=s:=by simpa using t
  subst t;obtain⟨_,rfl⟩:=u;have s:bI (kF f V W) R=bI f R:=(jV (λb i=>nH d.le p i) Z).symm;have A:jr f a=jr (kF f V W) a:=tR (λb i=>nH d.le p i) d.fr;have S:h.heap.size=W.heap.size:=by have:=q.size;omega
  have a2:∀b,Q b->h.heap[kF f V W b]?=W.heap[kF f V W b]?:=λb m=>(q.E8 b (I m) (by have:=p b m;have:=d.le;omega) (g.low b m).2.1).2
  refine⟨h,(seen P a.fn C).map (yj (kF f V W)),?_,⟨λb D i r=>?_,g.inj,g.low⟩,⟨q.tape,q.os,q.out,E,λb K r=>?_,λb=>⟨I,λn=>n.elim id λy=>absurd y.2 E⟩⟩,Z,λe he=>?_⟩
  ·rw[A, <-s];have⟨bb,bc,bd,a3,a4,a5,round⟩:=a;have t:a4=.returning:=hm;have e2:a3=[]:=hd;have e3:a5=.normal:=ar;subst t e2 e3;simp only[G,jr,stepG,unwind,av];have s:=l #[];rw[s];simp[GStep.after,doReturn,sA]
  ·have⟨o',v,a6⟩:=h7.blk b D (z b i) r;have w:=Gd d.le p i;have⟨s,ab,a7⟩:=d.blk b i w;rw[r]at ab;cases ab;rw[fG w]at v;exact⟨o',v,a6.congr (λn K=>(nH d.le p K).symm) a7⟩
  ·by_cases m:Q b
   ·have w:b<V.heap.size:=by have:=p b m;have:=d.le;omega
    have:=a2 b m
    rwa [fG w,(g.low b m).1]at this
   ·refine q.other b K λn c i e=>?_
    rw[fG i]at e;rcases c with c|c
    ·rw[(g.low n c).1]at e;exact m (e▸c)
    ·exact r ⟨n,c,i,e⟩
  ·obtain⟨M,a8,rfl⟩:=Er.1 he;have x:=h9 M (mE P a.fn C M a8);have⟨a9,wr,sy⟩:=M
   have ad:∀b,n9 Q B b->b<V.heap.size->qE B f V (kF f V W b)∨(Q b∧kF f V W b=b):=by
    intro b c e;rcases c with c|c
    ·exact J ⟨c,(fG e).trans (g.low b c).1⟩
    ·exact I ⟨b,c,e,(fG e).symm⟩
   have ao:∀b,n9 Q B b->b<V.heap.size->kF f V W b<h.heap.size:=by
    intro b c e;have⟨D,r,_⟩:=d.blk b (c.imp id λy=>⟨y,e⟩) e;have⟨o',v,_⟩:=g.blk b D (c.imp id λy=>⟨y,e⟩) r;have:=aC v;rw[fG e];omega
   cases a9 with
   |cell ba=>
    have⟨o,k,N,O⟩:=x;refine⟨N,ao _ o k,?_⟩;rcases ad _ o k with l|⟨l,u⟩
    ·exact I l
    ·refine J ⟨?_,?_⟩
     ·show Q (kF f V W ba.block);rw[u];exact l
     ·cases wr with
      |false=>rfl
      |true=>exact absurd (g.low _ l).2.1 (O X)
   |obj Y=>
    have⟨o,k,N,O⟩:=x;refine⟨O,N,ao _ o k,?_⟩;rcases ad _ o k with l|⟨l,u⟩
    ·exact I l
    ·grind
   |mark bg=>exact x
   |_=>exact x.elim
end
end
section
open Go.Conc
open Go.ConcR (KK WgAt stA smA rd wr mk Payload DC0)
open Go.ConcN (WgLive)
def ui(a:Nat):Array Event:= #[⟨.obj a,false,true⟩,⟨.obj a,true,true⟩]
def dU:Nat->Prop:=λ_=>False
def zb:Nat->Loc->Prop:=λ_ _=>False
structure m8 where
 P:Program
 ty:TypeId
 cO:Nat
 cB:Nat
 Wg:Nat
 T:Nat
 tT:TypeId
 zO:Value
 zB:Value
 zS:Value
 zT:Value
 N:Nat
 H:Nat
 nb:Nat
 sv:Nat->Value
 er:Nat->Nat
 ls:Nat->Bool
 tv:Nat->Value->Value
 GM:Nat->Value->World->Prop
 Mv:Value->Nat->Prop
 rd:Nat->Prop
 w0:World
 mf:FuncId
 ma:Nat->Array Value
 Qm:Nat->Nat->Prop
 F:Fx
 Pe:Frame->List Frame->Prop
 BK:Nat->(Nat->Prop)->Frame->List Frame->Prop
 Ei:(Nat->Prop)->Frame->List Frame->Prop
 vE:(Nat->Option Value)->(Nat->Prop)->World->Prop
 ye:(Nat->Option Value)->(Nat->Prop)->Goroutine->World->Prop
 Fin:(Nat->Option Value)->(Nat->Prop)->Goroutine->World->Prop
 et:TypeId
 C1:Nat
 C2:Nat
 v1:Value
 v2:Value
 p0:Nat
section
variable (K:m8)
def gz(a:World):Prop:=WgLive K.ty K.Wg a
def qF(b:World):Prop:=∀a,K.rd a->b.heap[a]?=K.w0.heap[a]?
def jz(a:World)(b y:Int):Prop:=a.heap[K.T]?=some (.cells #[.int .i64 b,.int .i64 y] K.tT)
def HH(a:(Nat->Prop)->Goroutine->World->Prop):Nat->(Nat->Prop)->Goroutine->World->Prop:=HG K.P false K.rd (gz K) a
def H0(a:(Nat->Prop)->Goroutine->World->Prop):Nat->(Nat->Prop)->Goroutine->World->Prop:=HG K.P true K.rd (gz K) a
def ub(_:Nat->Prop)(a:Goroutine)(_:World):Prop:=a.status=.running∧a.dying=none∧K.Pe a.frame a.callers
def vD(d:Nat)(b:Value)(h:Nat->Prop)(c:Goroutine)(i:World):Prop:=
 ∃e f,c=G e f∧K.GM d b i∧(∀g,K.Mv b g->h g)∧(∀a,stepG K.P false c a=.comm c #[scase K.cB (K.tv d b) K.zS] true .send a #[])∧
  ∀a,gz K a->qF K a->∃b,HH K (ub K) b dU (G (e.finish undef) f) a
def KX(d:Nat)(e:Value)(f:Nat->Prop)(b:Goroutine)(a:World):Prop:=
 b.status=.running∧∀g y,jz K a g y->0<=y->y<1000000->∃c,stepG K.P false b a=.go c (a.setCell ⟨K.T,1,none⟩ (.int .i64 (y+1))) #[rd ⟨K.T,1,none⟩,wr ⟨K.T,1,none⟩]∧
  ∃b,HH K (vD K d e) b f c (a.setCell ⟨K.T,1,none⟩ (.int .i64 (y+1)))
def Gt(a:Nat)(f:Value)(g:Nat->Prop)(e:Goroutine)(c:World):Prop:=
 e.status=.running∧∀b y,jz K c b y->0<=b->b<1000000->∃d,stepG K.P false e c=.go d (c.setCell ⟨K.T,0,none⟩ (.int .i64 (b+K.er a))) #[rd ⟨K.T,0,none⟩,wr ⟨K.T,0,none⟩]∧
  (K.ls a=true->∃e,HH K (KX K a f) e g d (c.setCell ⟨K.T,0,none⟩ (.int .i64 (b+K.er a))))∧
  (K.ls a=false->∃e,HH K (vD K a f) e g d (c.setCell ⟨K.T,0,none⟩ (.int .i64 (b+K.er a))))
def IB(e:Nat)(f:Frame)(g:List Frame)(h:Nat->Prop)(i:World):Prop:=
 ∀d b c,(∀a,h a->d a∧b.heap[a]?=i.heap[a]?)->gz K b->qF K b->K.GM e c b->(∀a,K.Mv c a->d a)->∃j,HH K (Gt K e c) j d (G (f.finish c) g) b
def BR(a:Nat)(d:Nat->Prop)(e:Goroutine)(f:World):Prop:=∃b c,e=G (Frame.enter K.P K.mf (K.ma a) .normal) (b::c)∧IB K a b c d f
def Ul(a:Nat)(b:Goroutine)(c:World):Prop:=
 Goes K.P false (@Go.ConcN.RW ⟨K.et⟩ K.ty K.Wg K.C1 1 0 0) (@Go.ConcN.DWs ⟨K.et⟩ K.Wg zb zb K.C1 1 1) (@Go.ConcN.AtR0 ⟨K.et⟩ K.P K.ty K.Wg K.C1 1 0 1 K.v1) a b c∧
 Goes K.P false (@Go.ConcN.RW ⟨K.et⟩ K.ty K.Wg K.C2 1 0 0) (@Go.ConcN.DWs ⟨K.et⟩ K.Wg zb zb K.C2 1 1) (@Go.ConcN.AtR0 ⟨K.et⟩ K.P K.ty K.Wg K.C2 1 0 1 K.v2) a b c
def BQ(_:Nat->Prop)(a:Goroutine)(b:World):Prop:=∃c,Ul K c a b
structure K6(i:Nat)(w V:World)(Post:Value->World->Prop):Prop where
 size:V.heap.size=w.heap.size
 Em:rK (K.Qm i) K.F w.heap.size id V w
 blk:qB (gG (K.Qm i) w.heap.size V.heap.size) K.F V
 cf:KJ K.F w.heap.size V
 args:∀v,v∈K.ma i->bG (gG (K.Qm i) w.heap.size w.heap.size) K.F v
 WZ:uJ K.P (K.Qm i) K.F w.heap.size
 post:∀v u T d,Post v u->Post v (dZ u T d)
 calls:∀T d,Calls K.P K.mf (K.ma i) (dZ V T d) λe u=>∃v,e=.returned v∧Post v u
 told:∀f u W1 v,(∀b,qE w.heap.size f u b->K.C1<b)->rK (K.Qm i) K.F w.heap.size f u W1->qB (gG (K.Qm i) w.heap.size u.heap.size) K.F u->bG (gG (K.Qm i) w.heap.size u.heap.size) K.F v->Post v u->K.GM i (bI f v) W1∧∀b,K.Mv (bI f v) b->qE w.heap.size f u b
structure mg:Prop where
 step:∀fr cs w,K.Pe fr cs->stepG K.P false (G fr cs) w=.comm (G fr cs) #[rcase K.cO K.zO] true (.recv true) w #[]
 word:∀fr cs i w,K.Pe fr cs->i<K.N->gz K w->qF K w->∃n,HH K (BR K i) n dU (G (fr.finish (recvd true (K.sv i) true)) cs) w
 over:∀fr cs w,K.Pe fr cs->gz K w->qF K w->∃n,HH K (BQ K) n dU (G (fr.finish (recvd true K.zO false)) cs) w
 U1:∀i w,i<K.N->gz K w->qF K w->∃V Post,K6 K i w V Post
 fn:K.F.fn K.mf
 reads:∀i b,K.Qm i b->K.rd b
 gm:∀i v w w1,(∀b,K.Mv v b->w1.heap[b]?=w.heap[b]?)->K.GM i v w->K.GM i v w1
 Vz:∀i v i' v',K.tv i v=K.tv i' v'->i=i'∧v=v'
def qJ(d:Nat->Option Value)(a:Nat->Prop)(e:Goroutine)(f:World):Prop:=∃b c,e=G b c∧K.Ei a b c∧K.vE d a f
def BP(i:Nat->Option Value)(j:Nat->Prop)(g:Goroutine)(a:World):Prop:=
 g.status=.running∧∀b c d e f,a.heap[K.cB]?=some (.chan b c false d e f)->∃h,stepG K.P true g a=.go h (a.setChan K.cB b c true d e f) (ui K.cB)∧∃k,H0 K (qJ K i) k j h (a.setChan K.cB b c true d e f)
def yl(d:Mark)(e:(Nat->Prop)->Goroutine->World->Prop)(f:Nat->Prop)(b:Goroutine)(a:World):Prop:=
 b.status=.running∧∃c,stepG K.P true b a=.go c a #[mk d]∧∃g,H0 K e g f c a
def AtAcq(a:Nat->Option Value):=yl K (.acquire (stA K.Wg)) (BP K a)
def AtKe(a:Nat->Option Value):=yl K .enable (AtAcq K a)
def AtW4(d:Nat->Option Value)(e:Nat->Prop)(b:Goroutine)(a:World):Prop:=
 b.status=.running∧(WgAt K.ty K.Wg a 0 0->∃c,stepG K.P true b a=.go c a #[rd (stA K.Wg)]∧∃f,H0 K (AtKe K d) f e c a)
def AtW3(d:Nat->Option Value)(e:Nat->Prop)(b:Goroutine)(a:World):Prop:=
 b.status=.running∧b.offers=none∧((∃c,WgAt K.ty K.Wg a c 0)->stepG K.P true b a=.go { b with status:=.blocked } a #[])∧
  (WgAt K.ty K.Wg a 0 1->∃c,stepG K.P true b a=.go c (a.setCell (smA K.Wg) (.int .u32 0)) (semEvents (smA K.Wg))∧∃f,H0 K (AtW4 K d) f e c (a.setCell (smA K.Wg) (.int .u32 0)))
def K2(a:Nat->Option Value):=yl K (.write (smA K.Wg)) (AtW3 K a)
def AtW2(f:Nat->Option Value)(g:Nat)(h:Nat->Prop)(d:Goroutine)(a:World):Prop:=
 d.status=.running∧∀b:Nat,b<2147483648->WgAt K.ty K.Wg a (b*KK) 0->
  (b=g->∃c,stepG K.P true d a=.go c (a.setCell (stA K.Wg) (.int .u64 (b*KK+1))) #[rd (stA K.Wg),wr (stA K.Wg)]∧∃e,H0 K (K2 K f) e h c (a.setCell (stA K.Wg) (.int .u64 (b*KK+1))))∧
  (b≠g->∃c,stepG K.P true d a=.go c a #[rd (stA K.Wg)]∧∃e,H0 K (K.ye f) e h c a)
def AtW1(e:Nat->Option Value)(f:Nat->Prop)(d:Goroutine)(a:World):Prop:=
 d.status=.running∧∀b:Nat,b<2147483648->WgAt K.ty K.Wg a (b*KK) 0->∃c,stepG K.P true d a=.go c a #[rd (stA K.Wg)]∧
  (b=0->∃d,H0 K (AtKe K e) d f c a)∧(b≠0->∃d,H0 K (AtW2 K e b) d f c a)
def AtKd(a:Nat->Option Value):=yl K .disable (K.ye a)
def KY(g:Nat->Option Value)(h:Nat->Prop)(b:Goroutine)(a:World):Prop:=
 b.status=.running∧mayWake K.P b=true∧∀c d e,a.heap[K.cO]?=some (.chan 0 #[] false c d e)->∃f,stepG K.P true b a=.go f (a.setChan K.cO 0 #[] true c d e) (ui K.cO)∧f.status=.running∧∃i,H0 K (AtKd K g) i h f (a.setChan K.cO 0 #[] true c d e)
def yM(d:Nat)(e:Nat->Option Value)(a:Nat->Prop)(f:Goroutine)(g:World):Prop:=∃b c,f=G b c∧K.BK d a b c∧K.vE e a g
def Ae(a:Nat)(b:Nat->Option Value)(c:Nat->Prop)(d:Goroutine)(e:World):Prop:=(a<K.N∧yM K a b c d e)∨(a=K.N∧KY K b c d e)
def DW(K:m8)(a:Int)(b:Value)(ok:Bool)(c:Nat):Value:=commResult #[scase K.cO (K.sv c) K.zT,rcase K.cB K.zB] .select a b ok
structure mi:Prop where
 WA:∀i O fr cs w,K.BK i O fr cs->stepG K.P true (G fr cs) w=.comm (G fr cs) #[scase K.cO (K.sv i) K.zT,rcase K.cB K.zB] true .select w #[]
 TN:∀i tk O fr cs w,K.BK i O fr cs->i<K.N->K.vE tk O w->gz K w->qF K w->∃n,H0 K (Ae K (i+1) tk) n O (G (fr.finish (DW K 0 undef false i)) cs) w
 T0:∀i tk O fr cs w j v,K.BK i O fr cs->i<K.N->j<K.N->(∃w0,K.GM j v w0)->K.vE tk O w->gz K w->qF K w->∃n,H0 K (yM K i (λx=>if x=j then some v else tk x)) n O (G (fr.finish (DW K 1 (K.tv j v) true i)) cs) w
 VO:∀tk O g w,K.ye tk O g w->g.status=.running∧∃n,H0 K (AtW1 K tk) n O g w
 Wz:∀O fr cs w,K.Ei O fr cs->stepG K.P true (G fr cs) w=.comm (G fr cs) #[rcase K.cB K.zB] true (.recv true) w #[]
 got:∀tk O fr cs w j v,K.Ei O fr cs->j<K.N->(∃w0,K.GM j v w0)->K.vE tk O w->gz K w->qF K w->∃n,H0 K (qJ K (λx=>if x=j then some v else tk x)) n O (G (fr.finish (recvd true (K.tv j v) true)) cs) w
 over:∀tk O fr cs w,K.Ei O fr cs->K.vE tk O w->gz K w->qF K w->∃n,H0 K (K.Fin tk) n O (G (fr.finish (recvd true K.zB false)) cs) w
 fin:∀tk O g w,K.Fin tk O g w->g.status=.running
def sU:Nat->Option Value:=λ_=>none
def AtGo(f:(Nat->Prop)->Goroutine->World->Prop)(g:Nat->Prop)(c:Goroutine)(a:World):Prop:=
 c.status=.running∧∃d e,stepG K.P true c a=.spawn d e a #[]∧(∃b,HH K (ub K) b dU e a)∧∃b,H0 K f b g d a
def AtKeS(a:(Nat->Prop)->Goroutine->World->Prop):=yl K .enable (AtGo K a)
def KZ(a:(Nat->Prop)->Goroutine->World->Prop):=yl K (.read (smA K.Wg)) (AtKeS K a)
def AtA1(e:(Nat->Prop)->Goroutine->World->Prop)(f:Nat->Prop)(d:Goroutine)(b:World):Prop:=
 d.status=.running∧∀a:Nat,a<2147483647->WgAt K.ty K.Wg b (a*KK) 0->∃c,stepG K.P true d b=.go c (b.setCell (stA K.Wg) (.int .u64 ((a+1)*KK))) #[rd (stA K.Wg),wr (stA K.Wg)]∧
  (a=0->∃d,H0 K (KZ K e) d f c (b.setCell (stA K.Wg) (.int .u64 ((a+1)*KK))))∧(a≠0->∃d,H0 K (AtKeS K e) d f c (b.setCell (stA K.Wg) (.int .u64 ((a+1)*KK))))
def AtKdS(a:(Nat->Prop)->Goroutine->World->Prop):=yl K .disable (AtA1 K a)
def nZ:Nat->(Nat->Prop)->Goroutine->World->Prop
 |0=>Ae K 0 sU
 |r+1=>AtKdS K (nZ r)
end
end
section
open Go.Conc
open Go.ConcR (KK WgAt stA smA rd wr mk Payload DC0)
open Go.ConcN (WgLive CTag WD)
structure HD(P:Program) where
 st:Nat
 i:Nat
 fu:Nat
 la:Option (Sp P)
 O:Nat->Prop
 v:Value
 dd:Nat
structure MD where
 s:Nat
 r:Nat
 fu:Nat
 O:Nat->Prop
 d0:Nat
section
variable (K:m8)
def Vp(f:Nat)(n:Option (Sp K.P))(o:Nat->Prop)(p:Goroutine)(k:World):Prop:=
 ∃a e h b c l m i j,∃g:Sp K.P,n=some g∧g.1=(a,e,h)∧p=G (jr b a) (e.map (jr b)++l::m)∧uJ K.P (K.Qm f) K.F c∧l6 K.P (K.Qm f) K.F c a e h∧yV K.P [cj K.P] (Told K.P j) a e h∧rK (K.Qm f) K.F c b h k∧
  (∀g e T d,j g e->j g (dZ e T d))∧(∀b e n g,(∀a,qE c b e a->K.C1<a)->rK (K.Qm f) K.F c b e n->qB (gG (K.Qm f) c e.heap.size) K.F e->bG (gG (K.Qm f) c e.heap.size) K.F g->j g e->K.GM f (bI b g) n∧∀a,K.Mv (bI b g) a->qE c b e a)∧
  (∀a,o a↔i a∨qE c b h a)∧(∀a,i a->a<c)∧(∀a,qE c b h a->¬i a∧K.C1<a)∧IB K f l m i k
def Un(a b d:Nat)(c:Goroutine)(e:World):Prop:=
 @Go.ConcN.WSit ⟨K.et⟩ K.P K.ty K.Wg K.C1 1 zb zb 0 1 K.v1 a b d c e∨ @Go.ConcN.WSit ⟨K.et⟩ K.P K.ty K.Wg K.C2 1 zb zb 0 1 K.v2 a b d c e
def je(d:HD K.P)(a:Goroutine)(b:World):Prop:=
 (d.st=50∧d.dd=0∧HH K (BR K d.i) d.fu d.O a b)∨
 (d.st=49∧d.dd=0∧Vp K d.i d.la d.O a b)∨
 (d.st=48∧d.dd=0∧HH K (Gt K d.i d.v) d.fu d.O a b)∨
 (d.st=47∧d.dd=0∧K.ls d.i=true∧HH K (KX K d.i d.v) d.fu d.O a b)∨
 (d.st=46∧d.dd=0∧HH K (vD K d.i d.v) d.fu d.O a b)∨
 (d.st=21∧d.dd=0∧HH K (ub K) d.fu d.O a b)∨
 (d.st=20∧d.dd=0∧(∀c,¬d.O c)∧∃e f,a=parked (G e f) #[rcase K.cO K.zO] (.recv true)∧K.Pe e f)∨
 (d.st=15∧d.dd=0∧HH K (BQ K) d.fu d.O a b)∨
 (d.st=14∧d.dd=0∧(∀c,¬d.O c)∧Ul K d.fu a b)∨
 (d.st<=6∧(∀c,¬d.O c)∧Un K d.st d.fu d.dd a b)
def ku(j next:Nat)(a:Nat->Option Value)(d:MD)(b:Goroutine)(c:World):Prop:=
 (d.s=20∧d.d0=0∧j+d.r+1=K.H∧next=0∧a=sU∧H0 K (AtKdS K (nZ K d.r)) d.fu d.O b c)∨
 (d.s=19∧d.d0=1∧j+d.r+1=K.H∧next=0∧a=sU∧H0 K (AtA1 K (nZ K d.r)) d.fu d.O b c)∨
 (d.s=18∧d.d0=1∧j+d.r+1=K.H∧next=0∧a=sU∧H0 K (KZ K (nZ K d.r)) d.fu d.O b c)∨
 (d.s=17∧d.d0=1∧j+d.r+1=K.H∧next=0∧a=sU∧H0 K (AtKeS K (nZ K d.r)) d.fu d.O b c)∨
 (d.s=16∧d.d0=0∧j+d.r+1=K.H∧next=0∧a=sU∧H0 K (AtGo K (nZ K d.r)) d.fu d.O b c)∨
 (d.s=15∧d.d0=0∧j=K.H∧H0 K (Ae K next a) d.fu d.O b c)∨
 (d.s=14∧d.d0=0∧j=K.H∧next<K.N∧∃f g,b=parked (G f g) #[scase K.cO (K.sv next) K.zT,rcase K.cB K.zB] .select∧K.BK next d.O f g∧∀e,dW K.rd (gz K) d.O c e->K.vE a d.O e)∨
 (d.s=13∧d.d0=0∧j=K.H∧next=K.N∧H0 K (AtKd K a) d.fu d.O b c)∨
 (d.s=12∧d.d0=1∧j=K.H∧next=K.N∧H0 K (K.ye a) d.fu d.O b c)∨
 (d.s=11∧d.d0=1∧j=K.H∧next=K.N∧H0 K (AtW1 K a) d.fu d.O b c)∨
 (d.s=10∧d.d0=1∧j=K.H∧next=K.N∧H0 K (AtW2 K a d.r) d.fu d.O b c)∨
 (d.s=9∧d.d0=1∧j=K.H∧next=K.N∧H0 K (K2 K a) d.fu d.O b c)∨
 (d.s=8∧d.d0=1∧j=K.H∧next=K.N∧H0 K (AtW3 K a) d.fu d.O b c)∨
 (d.s=7∧d.d0=1∧j=K.H∧next=K.N∧∃h,b={ h with status:=.blocked }∧∀e,dW K.rd (gz K) d.O c e->AtW3 K a d.O h e)∨
 (d.s=6∧d.d0=1∧j=K.H∧next=K.N∧H0 K (AtW4 K a) d.fu d.O b c)∨
 (d.s=5∧d.d0=1∧j=K.H∧next=K.N∧H0 K (AtKe K a) d.fu d.O b c)∨
 (d.s=4∧d.d0=0∧j=K.H∧next=K.N∧H0 K (AtAcq K a) d.fu d.O b c)∨
 (d.s=3∧d.d0=0∧j=K.H∧next=K.N∧H0 K (BP K a) d.fu d.O b c)∨
 (d.s=2∧d.d0=0∧j=K.H∧next=K.N∧H0 K (qJ K a) d.fu d.O b c)∨
 (d.s=1∧d.d0=0∧j=K.H∧next=K.N∧H0 K (K.Fin a) d.fu d.O b c)
end
section
variable {K:m8}{d:HD K.P}{m:MD}{g a x i:Goroutine}{w b:World}{j next:Nat}{f:Nat->Option Value}
theorem IB.rely{d:Nat}{e:Frame}{f:List Frame}{c:Nat->Prop}(g:IB K d e f c w)(h:∀a,c a->b.heap[a]?=w.heap[a]?):IB K d e f c b:=
 λe f i d=>g e f i λa c=>⟨(d a c).1,(d a c).2.trans (h a c)⟩
theorem Ib(a:b.heap[c]?=w.heap[c]?)(e:WgLive K.ty K.Wg w->WgLive K.ty K.Wg b)(d:Nat): @Go.ConcN.RW ⟨K.et⟩ K.ty K.Wg c 1 0 d w b:=
 @Go.ConcN.RW.mk ⟨K.et⟩ K.ty K.Wg c 1 0 d w b (λf g=>absurd g (Nat.not_lt_zero f)) e (λ⟨h,h1,h2⟩=>⟨h,a.trans h1,h2⟩) (by simp[World.cell?,a])
theorem DV:∀a b d, @Go.ConcN.RW ⟨S⟩ a2 c e ax a0 a1 a b-> @Go.ConcN.RW ⟨S⟩ a2 c e ax a0 a1 b d-> @Go.ConcN.RW ⟨S⟩ a2 c e ax a0 a1 a d:=λ_ _ _ f g => @Go.ConcN.RW.trans ⟨S⟩ _ _ _ _ _ _ _ _ _ f g
theorem je.rely(n:mg K)(a:K.rd K.C1)(c:K.rd K.C2)(h:je K d g w)(f:dW K.rd (gz K) d.O w b):je K d g b:=by
 have l:=f.qH _ (I a);have m:=f.qH _ (I c);rcases h with⟨c,e,a⟩|⟨c,e,a⟩|⟨c,e,a⟩|⟨c,e,o,a⟩|⟨c,e,a⟩|⟨c,e,a⟩|⟨c,e,j,a⟩|⟨c,e,a⟩|⟨c,e,j,a⟩|⟨c,j,a⟩
 ·exact I ⟨c,e,a.rely f⟩
 ·refine J (I ⟨c,e,?_⟩);have⟨p,q,r,s,t,u,v,x,z,y,A,B,C,D,E,F,G,M,N,k,O,P,Q⟩:=a;refine⟨p,q,r,s,t,u,v,x,z,y,A,B,C,D,E,F,G.rely λh i=>?_,M,N,k,O,P,Q.rely λh i=>f.qH h (J ((k h).2 (I i)))⟩;rcases i with i|i
  ·exact f.qH h (J ((k h).2 (J i)))
  ·exact f.qH h (I (n.reads _ h i))
 ·exact J (J (I ⟨c,e,a.rely f⟩))
 ·exact J (J (J (I ⟨c,e,o,a.rely f⟩)))
 ·exact J (J (J (J (I ⟨c,e,a.rely f⟩))))
 ·exact J (J (J (J (J (I ⟨c,e,a.rely f⟩)))))
 ·exact J (J (J (J (J (J (I ⟨c,e,j,a⟩))))))
 ·exact J (J (J (J (J (J (J (I ⟨c,e,a.rely f⟩)))))))
 ·exact J (J (J (J (J (J (J (J (I ⟨c,e,j,Goes.rely DV a.1 (Ib l f.lv 0),Goes.rely DV a.2 (Ib m f.lv 0)⟩))))))))
 ·refine J (J (J (J (J (J (J (J (J ⟨c,j,?_⟩))))))));rcases a with a|a
  ·exact I (@Go.ConcN.WSit.rely ⟨K.et⟩ _ _ _ _ _ _ _ _ _ _ _ _ _ _ _ _ a (Ib l f.lv 0))
  ·exact J (@Go.ConcN.WSit.rely ⟨K.et⟩ _ _ _ _ _ _ _ _ _ _ _ _ _ _ _ _ a (Ib m f.lv 0))
theorem ku.rely(n:ku K j next f m a w)(k:dW K.rd (gz K) m.O w b):ku K j next f m a b:=by
 rcases n with⟨d,c,e,h,l,i⟩|⟨d,c,e,h,l,i⟩|⟨d,c,e,h,l,i⟩|⟨d,c,e,h,l,i⟩|⟨d,c,e,h,l,i⟩|n
 ·exact I ⟨d,c,e,h,l,i.rely k⟩
 ·exact J (I ⟨d,c,e,h,l,i.rely k⟩)
 ·exact J (J (I ⟨d,c,e,h,l,i.rely k⟩))
 ·exact J (J (J (I ⟨d,c,e,h,l,i.rely k⟩)))
 ·exact J (J (J (J (I ⟨d,c,e,h,l,i.rely k⟩))))
 ·refine J (J (J (J (J ?_))));rcases n with⟨d,c,e,i⟩|⟨d,c,e,h,r,s,o,t,p⟩|n
  ·exact I ⟨d,c,e,i.rely k⟩
  ·exact J (I ⟨d,c,e,h,r,s,o,t,λq c=>p q (k.trans c)⟩)
  ·refine J (J ?_);rcases n with⟨d,c,e,h,i⟩|⟨d,c,e,h,i⟩|⟨d,c,e,h,i⟩|⟨d,c,e,h,i⟩|⟨d,c,e,h,i⟩|⟨d,c,e,h,i⟩|n
   ·exact I ⟨d,c,e,h,i.rely k⟩
   ·exact J (I ⟨d,c,e,h,i.rely k⟩)
   ·exact J (J (I ⟨d,c,e,h,i.rely k⟩))
   ·exact J (J (J (I ⟨d,c,e,h,i.rely k⟩)))
   ·exact J (J (J (J (I ⟨d,c,e,h,i.rely k⟩))))
   ·exact J (J (J (J (J (I ⟨d,c,e,h,i.rely k⟩)))))
   ·refine J (J (J (J (J (J ?_)))));rcases n with⟨d,c,e,h,g,o,p⟩|⟨d,c,e,h,i⟩|⟨d,c,e,h,i⟩|⟨d,c,e,h,i⟩|⟨d,c,e,h,i⟩|⟨d,c,e,h,i⟩|⟨d,c,e,h,i⟩
    ·exact I ⟨d,c,e,h,g,o,λq c=>p q (k.trans c)⟩
    ·exact J (I ⟨d,c,e,h,i.rely k⟩)
    ·exact J (J (I ⟨d,c,e,h,i.rely k⟩))
    ·exact J (J (J (I ⟨d,c,e,h,i.rely k⟩)))
    ·exact J (J (J (J (I ⟨d,c,e,h,i.rely k⟩))))
    ·exact J (J (J (J (J (I ⟨d,c,e,h,i.rely k⟩)))))
    ·exact J (J (J (J (J (J ⟨d,c,e,h,i.rely k⟩)))))
end
end
section
open Go.Conc
open Go.ConcR (KK WgAt stA smA rd wr mk Payload DC0)
open Go.ConcN (WgLive CTag WD RelBy)
theorem HG.running{b:World->Prop}(d:∀D ab l,av D ab l->ab.status=.running)(a:HG Y a3 M b av c D ab l):ab.status=.running:=by
 rcases a.cases with a|⟨_,_,_,_,_,a,_⟩
 ·exact d _ _ _ a
 ·exact a
section
variable {K:m8}{d:HD K.P}{m:MD}{g a x f:Goroutine}{w i b:World}{j k:Nat}{n:Nat->Option Value}
theorem QX(a:Nat->Prop)(g:Goroutine)(w:World)(b:ub K a g w):g.status=.running:=b.1
theorem QY(a:Nat)(b:Value)(c:Nat->Prop)(g:Goroutine)(w:World)(d:vD K a b c g w):g.status=.running:=by obtain⟨_,_,rfl,_⟩:=d;rfl
theorem QW(a:Nat)(b:Nat->Prop)(g:Goroutine)(w:World)(c:BR K a b g w):g.status=.running:=by obtain⟨_,_,rfl,_⟩:=c;rfl
theorem Ia(a:Ul K c g w):g.status=.running:=Goes.running (λ_ _ x=>x.1) w (@XX ⟨K.et⟩ _ _ _ _ _ _ w) a.1
theorem QU(b:Nat->Prop)(g:Goroutine)(w:World)(a:BQ K b g w):g.status=.running:=by obtain⟨_,a⟩:=a;exact Ia a
theorem je.run(c:je K d g w)(e:d.st≠20)(b:d.st≠1):g.status=.running:=by
 rcases c with⟨_,_,a⟩|⟨_,_,a⟩|⟨_,_,a⟩|⟨_,_,_,a⟩|⟨_,_,a⟩|⟨_,_,a⟩|⟨f,_⟩|⟨_,_,a⟩|⟨_,_,_,a⟩|⟨h,_,a⟩
 ·exact HG.running (QW _) a
 ·obtain⟨_,_,_,_,_,_,_,_,_,_,_,_,rfl,_⟩:=a;rfl
 ·exact HG.running (λ_ _ _ x=>x.1) a
 ·exact HG.running (λ_ _ _ x=>x.1) a
 ·exact HG.running (QY _ _) a
 ·exact HG.running QX a
 ·exact absurd f e
 ·exact HG.running QU a
 ·exact Ia a
 ·rcases a with a|a
  ·letI:Payload:=⟨K.et⟩
   exact Go.ConcN.WSit.running_of a b
  ·letI:Payload:=⟨K.et⟩
   exact Go.ConcN.WSit.running_of a b
theorem je.stat(c:je K d g w)(e:d.st≠20):g.status=.running∨g.status=.finished:=by
 by_cases f:d.st=1
 ·rcases c with⟨a,_⟩|⟨a,_⟩|⟨a,_⟩|⟨a,_⟩|⟨a,_⟩|⟨a,_⟩|⟨a,_⟩|⟨a,_⟩|⟨a,_⟩|⟨_,_,b⟩
  ·omega
  ·omega
  ·omega
  ·omega
  ·omega
  ·omega
  ·omega
  ·omega
  ·omega
  ·rcases b with b|b
   ·exact @Go.ConcN.WSit.status ⟨K.et⟩ _ _ _ _ _ _ _ _ _ _ _ _ _ _ _ b
   ·exact @Go.ConcN.WSit.status ⟨K.et⟩ _ _ _ _ _ _ _ _ _ _ _ _ _ _ _ b
 ·exact I (c.run e f)
theorem je.parked(c:je K d g w)(f:d.st=20):(∀e,¬d.O e)∧d.dd=0∧∃a b,g=parked (G a b) #[rcase K.cO K.zO] (.recv true)∧K.Pe a b:=by
 rcases c with⟨a,_⟩|⟨a,_⟩|⟨a,_⟩|⟨a,_⟩|⟨a,_⟩|⟨a,_⟩|⟨_,b,e,f⟩|⟨a,_⟩|⟨a,_⟩|⟨a,_⟩
 ·omega
 ·omega
 ·omega
 ·omega
 ·omega
 ·omega
 ·grind
 ·omega
 ·omega
 ·omega
theorem je.xV{s r:Nat}{tm:Bool}(c:je K d g w)(e:b.heap[K.cO]?=some (.chan 0 #[] false s r tm)∨d.st≠20):woken K.P x f b g=g:=by
 by_cases a:d.st=20
 ·obtain⟨_,_,h,i,rfl,_⟩:=c.parked a;exact woken_recv_open x f (e.resolve_right (λh=>h a))
 ·unfold woken;split
  ·exact again_running _ (c.stat a)
  ·rfl
theorem je.Vd(j:je K d g w)(k:d.st=20)(l:b.heap[K.cO]?=some (.chan 0 #[] true c e a3))(m:mayWake K.P x=true)(n:f.status=.running):je K { d with st:=21,fu:=0 } (woken K.P x f b g) b:=by
 obtain⟨_,o,a,h,rfl,p⟩:=j.parked k;refine J (J (J (J (J (I ⟨X,o,λi j=>?_⟩)))))
 have j:woken K.P x f b (Go.Conc.parked (G a h) #[rcase K.cO K.zO] (.recv true))={ Go.Conc.parked (G a h) #[rcase K.cO K.zO] (.recv true)with status:=.running }:=by
  unfold woken;rw[ai (by simp[m,n])];exact again_some_closed (k:=0) X l
 rw[j];exact⟨X,X,p⟩
end
structure pI(P:Program) where
 j:Nat
 next:Nat
 nt:Nat
 tk:Nat->Option Value
 hs:Nat->HD P
 md:MD
 Dn:Nat->Prop
 ca:Nat->Bool
 cl:Nat->Bool
 q:Nat->Nat
 buf:Array Value
 sO:Nat
 rO:Nat
 sB:Nat
 rB:Nat
 uS:Bool
 rE:Bool
 st:Int
 sm:Int
section
variable (K:m8)(x:pI K.P)
def gv(b c:Nat):Prop:=(b=0∧x.md.O c)∨∃a,a<x.j∧b=K.nb+a∧(x.hs a).O c
def uN(a:Nat):Prop:=a=0∨(K.nb<=a∧a<K.nb+x.j)
def KS(a:Nat):Prop:=a=K.Wg∨a=K.T
def nW(a:Nat):Prop:=a=K.Wg∨a=K.T∨a=K.cO∨a=K.cB
theorem Sb(a:KS K c):nW K c:=a.elim I λb=>J (I b)
def dj(a:Nat):WD:=⟨if 14<=(x.hs a).st then 7 else(x.hs a).st,(x.hs a).fu,(x.hs a).dd⟩
def mG(a:MD):CTag:=
 if 20<=a.s then .sp a.r 5 else if a.s=19 then .sp a.r 4 else if 17<=a.s then .sp a.r 3 else if a.s=16 then .sp a.r 2 else if 13<=a.s then .kd else if a.s=12 then .anch else if a.s=11 then .w1 else if a.s=10 then .w2 a.r
 else if 8<=a.s then .w3 else if a.s=7 then .blk else if a.s=6 then .w4 else if a.s=5 then .ke else if a.s=4 then .acq else .ret
def eX(H b:Nat)(a:MD):Nat:=
 if 16<=a.s then 9*H+200+40*a.r+a.s else if 14<=a.s then 9*H+137+a.s else if a.s=13 then 8*H+107 else if a.s=12 then 8*b+106 else if a.s=11 then 8*b+105 else if a.s=10 then 8*a.r+104
 else if a.s=9 then 101 else if 7<=a.s then 100 else if a.s=1 then 0 else 93+a.s
def tx(a:Nat):Nat:=if 46<=(x.hs a).st then 1 else 0
def nM:VH K.P:=(100*(K.N-x.next)+10*(K.N-x.nt)+Go.ConcN.sumTo K.nb x.q+Go.ConcN.sumTo x.j (λa=>(x.hs a).st)+eX K.H (Go.ConcN.Vc x.j (dj K x)) x.md,λa=>((x.hs a).la,(x.hs a).fu),if x.md.s=7 then 0 else x.md.fu+1)
def Pd(f:Loc->Prop)(g:Trace):Prop:=∃b d,g=b++d∧b.HandedOver∧(∀e c,touchAt b e=some c->c.loc.isMemory=true->Knows b 0 e∨(f c.loc∧c.kind=.atomic))∧∀a,a∈d->a.g=0∨(K.nb<=a.g∧a.g<K.nb+K.H)∨a.act.touch?=none
structure kY(t:Trace)(k r:Nat):Prop where
 ge:K.p0<=r
 rel:RelBy (stA K.Wg) t (K.nb+k) r
 wg:∀i a,r<i->t.g? i=some (K.nb+k)->touchAt t i=some a->ry (λb=>b=K.Wg) a.loc∧a.kind=.atomic
def Ag(a:Trace):Prop:=K.p0<=a.size∧∀b,K.p0<=b->a.act? b≠some (.mark (.release (stA K.Wg)))
structure VA(w:World):Prop where
 Ek:qF K w
 own:∀g b,gv K x g b->b<w.heap.size
 nj:Vm (nW K) (gv K x) K.rd
 ld:∀g b,gv K x g b->¬nW K b∧¬x.Dn b
 Bb:∀b,K.rd b->¬nW K b∧b<w.heap.size
 pS:∀b,x.Dn b->¬nW K b∧b<w.heap.size
 fix:w.tape=K.w0.tape∧w.os=K.w0.os∧w.output=K.w0.output
structure VB(Shun:Loc->Prop)(w:World)(t:Trace):Prop where
 T6:EB (nW K) (gv K x) K.rd (uN K x) t
 seen:∀op,op∈t->j9 w.heap.size op.act
 deaf0:Deaf t 0=x.md.d0
 qK:∀k,k<x.j->Deaf t (K.nb+k)=(x.hs k).dd
 above:∀i,K.nb+x.j<=i->Deaf t i=0
 norel:Ag K t
 rel:∀k,k<x.j->(x.hs k).st<=6->∃r,kY K t k r
 acq:x.md.s<=3->∃q,t.act? q=some (.mark (.acquire (stA K.Wg)))∧t.g? q=some 0∧t.heard q∧∀k,k<x.j->∃r,kY K t k r∧r<q
 old:Pd K Shun t
structure CSit(gs:Array Goroutine)(w:World)(t:Trace):Prop where
 size:gs.size=K.nb+x.j
 one:1<=K.nb
 jH:x.j<=K.H
 old:∀i g,0<i->i<K.nb->gs[i]?=some g->QuitsD K.P (x.q i) (Deaf t i) g
 hand:∀k,k<x.j->∃g,gs[K.nb+k]?=some g∧je K (x.hs k) g w
 main:∃a,gs[0]?=some a∧ku K x.j x.next x.tk x.md a w
structure iC(w:World):Prop where
 wg:WgAt K.ty K.Wg w x.st x.sm
 mode:Go.ConcN.Mode x.j (dj K x) (mG x.md) x.st x.sm
 yZ:w.heap[K.cO]?=some (.chan 0 #[] (decide (x.md.s<14)) x.sO x.rO x.uS)
 EI:w.heap[K.cB]?=some (.chan K.N x.buf (decide (x.md.s<3)) x.sB x.rB x.rE)
 xQ:jz K w (Go.ConcN.sumTo K.N λi=>if x.ca i then K.er i else 0:Nat) (Go.ConcN.sumTo K.N λi=>if x.cl i then 1 else 0:Nat)
 nN:x.next<=K.N
 uO:x.md.s<=14->∀k,k<x.j->(x.hs k).st≠20
 buf:∀y,y∈x.buf->∃i v,y=K.tv i v∧i<x.next∧K.GM i v w∧∀b,K.Mv v b->x.Dn b
 tk:∀i v,x.tk i=some v->K.GM i v w∧∀b,K.Mv v b->x.Dn b
 hold:∀k,k<x.j->46<=(x.hs k).st->(x.hs k).i<x.next
 two:∀k k',k<x.j->k'<x.j->46<=(x.hs k).st->46<=(x.hs k').st->(x.hs k).i=(x.hs k').i->k=k'
 cover:∀i,i<x.next->(∃v,x.tk i=some v)∨(∃v,K.tv i v∈x.buf)∨∃k,k<x.j∧46<=(x.hs k).st∧(x.hs k).i=i
 room:x.buf.size+Go.ConcN.sumTo x.j (tx K x)+x.nt=x.next
 ca:∀i,i<K.N->(x.ca i=true↔i<x.next∧∀k,k<x.j->48<=(x.hs k).st->(x.hs k).i≠i)
 cl:∀i,i<K.N->(x.cl i=true↔K.ls i=true∧i<x.next∧∀k,k<x.j->47<=(x.hs k).st->(x.hs k).i≠i)
 emp:x.md.s=1->x.buf= #[]
 busy:14<=x.md.s->∀k,k<x.j->20<=(x.hs k).st
structure iI(Shun:Loc->Prop)(gs:Array Goroutine)(w:World)(t:Trace):Prop where
 mem:VA K x w
 iG:VB K x Shun w t
 iy:CSit K x gs w t
 cu:iC K x w
end
section
variable {K:m8}{m:MD}{a y y':Goroutine}{b:World}{j next:Nat}{d:Nat->Option Value}
theorem Gn(c:a.status=.running):woken K.P y y' b a=a:=by
 unfold woken;split
 ·exact again_running _ (I c)
 ·rfl
theorem ku.run(h:mi K)(c:ku K j next d m a b)(k:m.s≠7)(l:m.s≠14):a.status=.running:=by
 have f:∀(n:Mark) (o:(Nat->Prop)->Goroutine->World->Prop) (p:Nat->Prop) (i:Goroutine) (q:World),yl K n o p i q->i.status=.running:=λ_ _ _ _ _ e=>e.1
 rcases c with⟨_,_,_,_,_,c⟩|⟨_,_,_,_,_,c⟩|⟨_,_,_,_,_,c⟩|⟨_,_,_,_,_,c⟩|⟨_,_,_,_,_,c⟩|⟨_,_,_,c⟩|⟨g,_⟩|c
 ·exact HG.running (f _ _) c
 ·exact HG.running (λ_ _ _ e=>e.1) c
 ·exact HG.running (f _ _) c
 ·exact HG.running (f _ _) c
 ·exact HG.running (λ_ _ _ e=>e.1) c
 ·refine HG.running (λ_ _ _ e=>?_) c;rcases e with⟨_,_,_,rfl,_⟩|⟨_,e⟩
  ·rfl
  ·exact e.1
 ·exact absurd g l
 ·rcases c with⟨_,_,_,_,c⟩|⟨_,_,_,_,c⟩|⟨_,_,_,_,c⟩|⟨_,_,_,_,c⟩|⟨_,_,_,_,c⟩|⟨_,_,_,_,c⟩|c
  ·exact HG.running (f _ _) c
  ·exact HG.running (λ_ _ _ e=>(h.VO _ _ _ _ e).1) c
  ·exact HG.running (λ_ _ _ e=>e.1) c
  ·exact HG.running (λ_ _ _ e=>e.1) c
  ·exact HG.running (f _ _) c
  ·exact HG.running (λ_ _ _ e=>e.1) c
  ·rcases c with⟨g,_⟩|⟨_,_,_,_,c⟩|⟨_,_,_,_,c⟩|⟨_,_,_,_,c⟩|⟨_,_,_,_,c⟩|⟨_,_,_,_,c⟩|⟨_,_,_,_,c⟩
   ·exact absurd g k
   ·exact HG.running (λ_ _ _ e=>e.1) c
   ·exact HG.running (f _ _) c
   ·exact HG.running (f _ _) c
   ·exact HG.running (λ_ _ _ e=>e.1) c
   ·refine HG.running (λ_ _ _ e=>?_) c;obtain⟨_,_,rfl,_⟩:=e;rfl
   ·exact HG.running (λ_ _ _ e=>h.fin _ _ _ _ e) c
theorem ku.Lc(e:ku K j next d m a b)(i:m.s=14):m.d0=0∧j=K.H∧next<K.N∧∃f g,a=parked (G f g) #[scase K.cO (K.sv next) K.zT,rcase K.cB K.zB] .select∧K.BK next m.O f g∧∀h,dW K.rd (gz K) m.O b h->K.vE d m.O h:=by
 rcases e with⟨c,_⟩|⟨c,_⟩|⟨c,_⟩|⟨c,_⟩|⟨c,_⟩|⟨c,_⟩|⟨_,e⟩|⟨c,_⟩|⟨c,_⟩|⟨c,_⟩|⟨c,_⟩|⟨c,_⟩|⟨c,_⟩|⟨c,_⟩|⟨c,_⟩|⟨c,_⟩|⟨c,_⟩|⟨c,_⟩|⟨c,_⟩|⟨c,_⟩
 all_goals first|exact e|(exfalso;omega)
theorem ku.VP(e:ku K j next d m a b)(h:m.s=7):m.d0=1∧j=K.H∧next=K.N∧∃f,a={ f with status:=.blocked }∧∀g,dW K.rd (gz K) m.O b g->AtW3 K d m.O f g:=by
 rcases e with⟨c,_⟩|⟨c,_⟩|⟨c,_⟩|⟨c,_⟩|⟨c,_⟩|⟨c,_⟩|⟨c,_⟩|⟨c,_⟩|⟨c,_⟩|⟨c,_⟩|⟨c,_⟩|⟨c,_⟩|⟨c,_⟩|⟨_,e⟩|⟨c,_⟩|⟨c,_⟩|⟨c,_⟩|⟨c,_⟩|⟨c,_⟩|⟨c,_⟩
 all_goals first|exact e|(exfalso;omega)
theorem KB{a:CommShape}(d:b.heap[c]?=some (.chan ax Z false a1 a8 a3))(f:b.heap[e]?=some (.chan a0 bb false a9 ba bc)):woken K.P y y' b (parked ab #[scase c R a6,rcase e a7] a)=parked ab #[scase c R a6,rcase e a7] a:=by
 unfold woken;split
 ·simp[Goroutine.again,parked,scase,rcase,d,f]
 ·rfl
theorem ku.xV(v:mi K)(c:ku K j next d m a b)(w:m.s=14->(∃s r tm,b.heap[K.cO]?=some (.chan 0 #[] false s r tm))∧∃x z s r tm,b.heap[K.cB]?=some (.chan x z false s r tm)):∃f,(f=m∨(m.s=7∧f={ m with s:=8,fu:=0 }))∧ku K j next d f (woken K.P y y' b a) b∧(mayWake K.P y=true->y'.status=.running->f.s≠7):=by
 by_cases g:m.s=7
 ·obtain⟨h,i,q,e,rfl,n⟩:=c.VP g;have t:=n b (dW.refl b);by_cases o:(mayWake K.P y && y'.status !=.blocked && y'.status !=.waiting)=true
  ·refine⟨{ m with s:=8,fu:=0 },J ⟨g,X⟩,?_,λ_ _=>oi⟩
   have u:woken K.P y y' b { e with status:=.blocked }=e:=by
    unfold woken;rw[ai o];have k:=t.1;have l:=t.2.1;have⟨A,B,C,D,go⟩:=e;simp only at k l;subst k l;rfl
   rw[u];exact J (J (J (J (J (J (J (J (J (J (J (J (I ⟨X,h,i,q,n⟩))))))))))))
  ·refine⟨m,I X,?_,λh i=>absurd (by simp[h,i]) o⟩
   have u:woken K.P y y' b { e with status:=.blocked }={ e with status:=.blocked }:=by
    unfold woken;rw[af o]
   grind
 ·refine⟨m,I X,?_,λ_ _=>g⟩;by_cases p:m.s=14
  ·obtain⟨h,i,q,E,F,rfl,G,n⟩:=c.Lc p;have⟨⟨_,_,_,k⟩,_,_,_,_,_,l⟩:=w p;rw[KB k l];exact c
  ·rw[Gn (c.run v g p)];exact c
end
section
variable {K:m8}{t u:Trace}{k r:Nat}
theorem kY.appOther(a:kY K t k r)(c:∀b,b∈u->b.g≠K.nb+k):kY K (t++u) k r:=by
 refine⟨a.ge,a.rel.appNot c,λd e f g h=>?_⟩;have⟨c,b,i⟩:=Yl h;have h:c.g=K.nb+k:=by simpa [Trace.g?,b]using g
 rcases X1 b with⟨g,c⟩|⟨_,j⟩
 ·exact a.wg d e f (by simpa [Trace.g?,c]using h) (by rw[YF c];exact i)
 grind
theorem Ag.app(a:Ag K t)(c:∀b,b∈u->b.act≠.mark (.release (stA K.Wg))):Ag K (t++u):=by
 refine⟨by rw[Array.size_append];have:=a.1;omega,λc d b=>?_⟩;unfold Trace.act? at b;have⟨g,e,f⟩:=cE.1 b;rcases X1 e with⟨_,b⟩|⟨_,g⟩
 ·exact a.2 c d (by unfold Trace.act?;rw[b];simp[f])
 grind
theorem Pd.app{b:Loc->Prop}(c:Pd K b t)(d:∀a,a∈u->a.g=0∨(K.nb<=a.g∧a.g<K.nb+K.H)∨a.act.touch?=none):Pd K b (t++u):=by
 obtain⟨e,f,rfl,g,h,i⟩:=c;exact⟨e,f++u,Array.append_assoc ..,g,h,λa b=>(cn.1 b).elim (i a) (d a)⟩
end
def pI.put(a:pI Y)(b:Nat)(d:HD Y)(c:MD)(ca cl:Nat->Bool)(st sm:Int):pI Y:={ a with hs:=Go.ConcN.upd a.hs b d,md:=c,ca:=ca,cl:=cl,st:=st,sm:=sm }
section
variable {K:m8}{a:Loc->Prop}{x:pI K.P}{b:Array Goroutine}{w w':World}{t:Trace}{es:Array Event}{k:Nat}{g g':Goroutine}{d':HD K.P}
theorem iC.C4(a:iC K x w):K.Wg<w.heap.size∧K.T<w.heap.size∧K.cO<w.heap.size∧K.cB<w.heap.size:=⟨aC a.wg,aC a.xQ,aC a.yZ,aC a.EI⟩
theorem iC.FG(b:iC K x w):¬KS K K.cO∧¬KS K K.cB:=by
 have c:=b.yZ;have d:=b.EI;have e:=b.wg;have f:w.heap[K.T]?=some _:=b.xQ;refine⟨?_,?_⟩
 ·rintro(a|a)
  ·rw[a,e]at c;cases c
  grind
 ·rintro(a|a)
  ·rw[a,e]at d;cases d
  grind
theorem iC.lv(a:iC K x w):gz K w:=⟨_,_,a.wg⟩
theorem QL{d:HD K.P}{h:MD}(l:k<x.j)(j:h.O=x.md.O){g c:Nat}(e:gv K (x.put k d h o p A C) g c):(g=K.nb+k∧d.O c)∨(gv K x g c∧(g=0∨∃a,a<x.j∧a≠k∧g=K.nb+a)):=by
 rcases e with⟨rfl,e⟩|⟨a,i,rfl,b⟩
 ·exact J ⟨I ⟨X,by rw[<-j];exact e⟩,I X⟩
 ·have b:(Go.ConcN.upd x.hs k d a).O c:=b;by_cases f:a=k
  ·subst f;rw[Yz]at b;grind
  ·rw[YG x.hs d f]at b;exact J ⟨J ⟨a,i,X,b⟩,J ⟨a,i,f,X⟩⟩
theorem U0{a b:MD}(c:b=a∨(a.s=7∧b={ a with s:=8,fu:=0 })):b.O=a.O∧b.d0=a.d0∧(b.s<=3->a.s<=3):=by
 grind
theorem tw(hK:mg K)(hM:mi K)(a2:K.rd K.C1)(a3:K.rd K.C2)(d:iI K x a b w t)(W:k<x.j)(Y:b[K.nb+k]?=some g)(M:w.heap.size<=w'.heap.size)(ab:w'.tape=w.tape∧w'.os=w.os∧w'.output=w.output)(Y:∀c,c<w.heap.size->¬(x.hs k).O c->¬KS K c->w'.heap[c]?=w.heap[c]?)(ar:gz K w')(hO:∀c,d'.O c->nY (x.hs k).O w w' c)(a4:je K d' g' w')(a5:∀l,l∈MemOp.ofEvents (K.nb+k) g.frame.fn g.frame.place es->∀y,l.act.touch?=some y->(ry (KS K) y.loc∧y.kind≠.plain∧y.kind≠.said)∨ry (nY (x.hs k).O w w') y.loc∨(ry K.rd y.loc∧y.write=false))(a6:∀l,l∈MemOp.ofEvents (K.nb+k) g.frame.fn g.frame.place es->j9 w'.heap.size l.act)(a7:deafBehind (x.hs k).dd es=d'.dd)(a8:∀i∈es,i.loc≠.mark (.release (stA K.Wg)))(av:(x.hs k).st<=6->d'.st<=6∧∀A,kY K t k A->kY K (t++MemOp.ofEvents (K.nb+k) g.frame.fn g.frame.place es) k A)(av:6<(x.hs k).st->d'.st<=6->∃A,kY K (t++MemOp.ofEvents (K.nb+k) g.frame.fn g.frame.place es) k A)(bb:x.md.s<=3->(x.hs k).st<=6):∃B,(B=x.md∨(x.md.s=7∧B={ x.md with s:=8,fu:=0 }))∧(mayWake K.P g=true->g'.status=.running->B.s≠7)∧∀P Q R S,iC K (x.put k d' B P Q R S) w'->iI K (x.put k d' B P Q R S) a ((b.map (woken K.P g g' w')).setIfInBounds (K.nb+k) g') w' (t++MemOp.ofEvents (K.nb+k) g.frame.fn g.frame.place es):=by
 have⟨l1,l2,l3,l4⟩:=d.cu.C4;have⟨n1,n2⟩:=d.cu.FG;have a9:=d.iy.one;have C:∀c,(x.hs k).O c->gv K x (K.nb+k) c:=λc e=>J ⟨k,W,X,e⟩
 have av:∀c,nW K c->¬(x.hs k).O c:=λc e f=>(d.mem.ld _ c (C c f)).1 e
 have eO:=Y _ l3 (av _ (J (J (I X)))) n1;have eB:=Y _ l4 (av _ (J (J (J X)))) n2;have ad:∀c,K.rd c->w'.heap[c]?=w.heap[c]?:=λc e=>Y c (d.mem.Bb c e).2 (λf=>d.mem.nj.ownRd _ c (C c f) e) (λo=>(d.mem.Bb c e).1 (o.elim I λi=>J (I i)))
 have ax:∀h c,h≠K.nb+k->gv K x h c->w'.heap[c]?=w.heap[c]?:=λh c av e=>
  Y c (d.mem.own _ c e) (λf=>av (d.mem.nj.two h _ c e (C c f))) (λo=>(d.mem.ld _ c e).1 (o.elim I λi=>J (I i)))
 have⟨ba,ha,av⟩:=d.iy.main;have bb:dW K.rd (gz K) x.md.O w w':=⟨λc e=>e.elim (ad c) λf=>ax 0 c E (I ⟨X,f⟩),λ_=>ar,M⟩
 have⟨B,Y,bc,bd⟩:=(av.rely bb).xV (y:=g) (y':=g') hM (λZ=>by
  have m:=d.cu.yZ;have r:=d.cu.EI;rw[Z]at m r;exact⟨⟨_,_,_,eO.trans m⟩,_,_,_,_,_,eB.trans r⟩)
 refine⟨B,Y,bd,λP Q R S bg=>?_⟩;have⟨mO,bk,bl⟩:=U0 Y;have D:∀l,l∈MemOp.ofEvents (K.nb+k) g.frame.fn g.frame.place es->l.g=K.nb+k:=λl p=>by obtain⟨i,_,rfl⟩:=XP p;rfl
 have a0:∀h c,gv K (x.put k d' B P Q R S) h c->(h=K.nb+k∧nY (x.hs k).O w w' c)∨(gv K x h c∧h≠K.nb+k):=by
  intro h c e;rcases QL W mO e with⟨i,f⟩|⟨f,i⟩
  ·exact I ⟨i,hO c f⟩
  ·refine J ⟨f,?_⟩;omega
 have N:∀h c,gv K (x.put k d' B P Q R S) h c->gv K x h c∨(h=K.nb+k∧w.heap.size<=c∧c<w'.heap.size):=by
  intro h c e;rcases a0 h c e with⟨rfl,f|f⟩|⟨f,_⟩
  ·exact I (C c f)
  ·exact J ⟨X,f⟩
  grind
 refine⟨⟨λc e=>(ad c e).trans (d.mem.Ek c e),λh c e=>?_,⟨λT U c h1 h2=>?_,λh c e q=>?_,λh c e o=>?_,d.mem.nj.rdSh⟩,λh c e=>?_,λc e=>⟨(d.mem.Bb c e).1,aj (d.mem.Bb c e).2 M⟩,λc e=>⟨(d.mem.pS c e).1,aj (d.mem.pS c e).2 M⟩,⟨ab.1.trans d.mem.fix.1,ab.2.1.trans d.mem.fix.2.1,ab.2.2.trans d.mem.fix.2.2⟩⟩,?_,?_,bg⟩
 ·rcases N h c e with f|⟨_,f⟩
  ·exact aj (d.mem.own _ c f) M
  ·exact f.2
 ·rcases N T c h1 with u|⟨m,u⟩<;>rcases N U c h2 with v|⟨r,v⟩
  ·exact d.mem.nj.two T U c u v
  ·have:=d.mem.own _ c u;omega
  ·have:=d.mem.own _ c v;omega
  ·rw[m,r]
 ·rcases N h c e with f|⟨_,f⟩
  ·exact d.mem.nj.ownRd h c f q
  grind
 ·rcases N h c e with f|⟨_,f⟩
  ·exact d.mem.nj.ownSh h c f o
  ·rcases o with rfl|rfl|rfl|rfl<;>omega
 ·rcases N h c e with f|⟨_,f⟩
  ·exact d.mem.ld h c f
  ·refine⟨?_,λB=>by have:=(d.mem.pS c B).2;omega⟩;rintro(rfl|rfl|rfl|rfl)<;>omega
 ·
  have bm:Vm (nW K) (λh c=>gv K x h c∨(h=K.nb+k∧nY (x.hs k).O w w' c)) K.rd:=by
   refine⟨λT U c h1 h2=>?_,λh c e q=>?_,λh c e o=>?_,d.mem.nj.rdSh⟩
   ·rcases h1 with u|⟨m,u|u⟩<;>rcases h2 with v|⟨r,v|v⟩
    ·exact d.mem.nj.two T U c u v
    ·rw[r];exact d.mem.nj.two T _ c u (C c v)
    ·have:=d.mem.own _ c u;omega
    ·rw[m];exact d.mem.nj.two _ U c (C c u) v
    ·rw[m,r]
    ·rw[m,r]
    ·have:=d.mem.own _ c v;omega
    ·rw[m,r]
    ·rw[m,r]
   ·rcases e with f|⟨_,f|f⟩
    ·exact d.mem.nj.ownRd h c f q
    ·exact d.mem.nj.ownRd _ c (C c f) q
    grind
   ·rcases e with f|⟨_,f|f⟩
    ·exact d.mem.nj.ownSh h c f o
    ·exact d.mem.nj.ownSh _ c (C c f) o
    ·rcases o with rfl|rfl|rfl|rfl<;>omega
  have bn:EB (nW K) (λh c=>gv K x h c∨(h=K.nb+k∧nY (x.hs k).O w w' c)) K.rd (uN K x) t:=d.iG.T6.Kz d.iG.seen (λ_ i=>i) (λh c _ e=>by
   rcases e with f|⟨rfl,f|f⟩
   ·exact I f
   ·exact I (C c f)
   ·exact J f.1) (λ_ _ _ e=>I e)
  have r:uN K x (K.nb+k):=J ⟨E,E⟩
  have u:=bn.app bm r (u:=MemOp.ofEvents (K.nb+k) g.frame.fn g.frame.place es) (λl p=>⟨D l p,λy v=>by
   rcases a5 l p y v with⟨r,B,C⟩|r|r
   ·exact I ⟨r.mono λ_=>Sb K,B,λi=>absurd i C⟩
   ·exact J (I (r.mono λc e=>J ⟨X,e⟩))
   ·exact J (J r)⟩)
  have r:=mA d.iG.seen M a6;refine⟨u.Kz r (λ_ i=>i) (λh c _ e=>?_) (λ_ _ _ e=>I e),r,?_,λj n=>?_,λz F=>?_,d.iG.norel.app (λl p hm=>?_),λj n V=>?_,λh3=>?_,d.iG.old.app λl p=>J (I (by rw[D l p];have:=d.iy.jH;omega))⟩
  ·rcases a0 h c e with⟨rfl,f⟩|⟨f,_⟩
   ·exact I (J ⟨X,f⟩)
   grind
  ·rw[X4 t (g':=K.nb+k) E _ D,d.iG.deaf0];exact bk.symm
  ·show Deaf _ _=(Go.ConcN.upd x.hs k d' j).dd;by_cases i:j=k
   ·subst i;rw[Yz,Deaf_own,d.iG.qK j W,a7]
   ·rw[YG x.hs d' i,X4 t (g':=K.nb+k) E _ D];exact d.iG.qK j n
  ·have F:K.nb+x.j<=z:=F;rw[X4 t (g':=K.nb+k) E _ D];exact d.iG.above z F
  ·obtain⟨i,he,rfl⟩:=XP p;exact a8 i he (YA hm)
  ·have n:j<x.j:=n;have V:(Go.ConcN.upd x.hs k d' j).st<=6:=V;by_cases i:j=k
   ·subst i;rw[Yz]at V;by_cases r:(x.hs j).st<=6
    ·have⟨A,q⟩:=d.iG.rel j W r;grind
    grind
   ·rw[YG x.hs d' i]at V;have⟨A,q⟩:=d.iG.rel j n V;exact⟨A,q.appOther λl p=>by rw[D l p];omega⟩
  ·have u:x.md.s<=3:=bl h3;have⟨v,r,B,C,N⟩:=d.iG.acq u;have O:=lt_of_act? r;refine⟨v,by rw[act?_old O];exact r,by rw[g?_old O];exact B,(heard_old O).2 C,λj n=>?_⟩;have⟨A,q,r⟩:=N j n;refine⟨A,?_,r⟩;by_cases i:j=k
   ·subst i;grind
   ·exact q.appOther λl p=>by rw[D l p];omega
 ·
  have ao:∀z,z≠K.nb+k->((b.map (woken K.P g g' w')).setIfInBounds (K.nb+k) g')[z]?=(b[z]?).map (woken K.P g g' w'):=λz F=>by
   rw[ay (λi=>F i.symm),df]
  refine⟨by simp[d.iy.size];rfl,a9,d.iy.jH,λz h h0 F a1=>?_,λj n=>?_,?_⟩
  ·rw[ao z E]at a1;obtain⟨G,hz,rfl⟩:=cE.1 a1;have O:=d.iy.old z G h0 F hz;rw[YD O,X4 t (g':=K.nb+k) E _ D];exact O
  ·have n:j<x.j:=n;show ∃G,_∧je K (Go.ConcN.upd x.hs k d' j) G w';by_cases i:j=k
   ·subst i;refine⟨g',?_,by rw[Yz];exact a4⟩;have h:K.nb+j<(b.map (woken K.P g g' w')).size:=by simp[d.iy.size];omega
    grind
   ·have⟨G,hz,o⟩:=d.iy.hand j n;have q:dW K.rd (gz K) (x.hs j).O w w':=⟨λc e=>e.elim (ad c) λf=>ax (K.nb+j) c E (J ⟨j,n,X,f⟩),λ_=>ar,M⟩;have c:=o.rely hK a2 a3 q;refine⟨G,?_,by rw[YG x.hs d' i];exact c⟩;rw[ao _ E,hz]
    have e:woken K.P g g' w' G=G:=by
     have m:=eO.trans d.cu.yZ;by_cases Z:x.md.s<14
     ·exact c.xV (s:=0) (r:=0) (tm:=false) (J (d.cu.uO (KR Z) j n))
     ·rw[aq Z]at m;exact c.xV (I m)
    grind
  ·refine⟨woken K.P g g' w' ba,?_,bc⟩;rw[ao 0 E,ha];rfl
end
section
variable {K:m8}{i:Loc->Prop}{x x':pI K.P}{j m:Array Goroutine}{w d:World}{t g:Trace}{f:Array Event}{a k:Goroutine}
theorem nL(hK:mg K)(a1:K.rd K.C1)(a2:K.rd K.C2)(c:iI K x i j w t)(p:x'.j=x.j)(Q:x'.q=x.q)(ab:x'.Dn=x.Dn)(R:w.heap.size<=d.heap.size)(W:d.tape=w.tape∧d.os=w.os∧d.output=w.output)(ad:∀b,b<w.heap.size->¬x.md.O b->¬nW K b->d.heap[b]?=w.heap[b]?)(a3:gz K d)(hO:∀b,x'.md.O b->nY x.md.O w d b)(a4:ku K x.j x'.next x'.tk x'.md k d)(hh:∀l,l<x.j->∀B,je K (x.hs l) B d->je K (x'.hs l) (woken K.P a k d B) d)(Y:∀l,l<x.j->(x'.hs l).O=(x.hs l).O∧(x'.hs l).dd=(x.hs l).dd∧((x'.hs l).st<=6->(x.hs l).st<=6))(a5:∀m,m∈MemOp.ofEvents 0 a.frame.fn a.frame.place f->∀y,m.act.touch?=some y->(ry (nW K) y.loc∧y.kind≠.plain)∨ry (nY x.md.O w d) y.loc∨(ry K.rd y.loc∧y.write=false))(a6:∀m,m∈MemOp.ofEvents 0 a.frame.fn a.frame.place f->j9 d.heap.size m.act)(a7:deafBehind x.md.d0 f=x'.md.d0)(a8:∀q∈f,q.loc≠.mark (.release (stA K.Wg)))(a9:x'.md.s<=3->x.md.s<=3∨∃C,(t++MemOp.ofEvents 0 a.frame.fn a.frame.place f).act? C=some (.mark (.acquire (stA K.Wg)))∧(t++MemOp.ofEvents 0 a.frame.fn a.frame.place f).g? C=some 0∧(t++MemOp.ofEvents 0 a.frame.fn a.frame.place f).heard C∧∀l,l<x.j->∃v,kY K t l v∧v<C)(ba:iC K x' d):iI K x' i ((j.map (woken K.P a k d)).setIfInBounds 0 k) d (t++MemOp.ofEvents 0 a.frame.fn a.frame.place f):=by
 have⟨l1,l2,l3,l4⟩:=c.cu.C4;have bb:=c.iy.one;have M:∀b,x.md.O b->gv K x 0 b:=λb e=>I ⟨X,e⟩
 have bs:∀b,KS K b->nW K b:=λb r=>r.elim I λq=>J (I q)
 have ao:∀b,K.rd b->d.heap[b]?=w.heap[b]?:=λb e=>ad b (c.mem.Bb b e).2 (λh=>c.mem.nj.ownRd _ b (M b h) e) (c.mem.Bb b e).1
 have bc:∀g b,g≠0->gv K x g b->d.heap[b]?=w.heap[b]?:=λg b bd e=>
  ad b (c.mem.own _ b e) (λh=>bd (c.mem.nj.two g _ b e (M b h))) (c.mem.ld _ b e).1
 have N:∀m,m∈MemOp.ofEvents 0 a.frame.fn a.frame.place f->m.g=0:=λm s=>by obtain⟨q,_,rfl⟩:=XP s;rfl
 have bg:∀g b,gv K x' g b->(g=0∧nY x.md.O w d b)∨(gv K x g b∧g≠0):=by
  intro g b e;rcases e with⟨rfl,h⟩|⟨l,D,rfl,S⟩
  ·grind
  ·rw[p]at D;exact J ⟨J ⟨l,D,X,by rw[<-(Y l D).1];exact S⟩,E⟩
 have O:∀g b,gv K x' g b->gv K x g b∨(g=0∧w.heap.size<=b∧b<d.heap.size):=by
  intro g b e;rcases bg g b e with⟨rfl,h|h⟩|⟨h,_⟩
  ·grind
  ·omega
  grind
 have bk:∀Z,uN K x' Z->uN K x Z:=λZ hg=>by unfold uN at hg ⊢;rw[p]at hg;exact hg
 refine⟨⟨λb e=>(ao b e).trans (c.mem.Ek b e),λg b e=>?_,⟨λT U b D S=>?_,λg b e o=>?_,λg b e r=>?_,c.mem.nj.rdSh⟩,λg b e=>?_,λb e=>⟨(c.mem.Bb b e).1,aj (c.mem.Bb b e).2 R⟩,λb e=>?_,⟨W.1.trans c.mem.fix.1,W.2.1.trans c.mem.fix.2.1,W.2.2.trans c.mem.fix.2.2⟩⟩,?_,?_,ba⟩
 ·rcases O g b e with h|⟨_,h⟩
  ·exact aj (c.mem.own _ b h) R
  ·exact h.2
 ·rcases O T b D with z|⟨F,z⟩<;>rcases O U b S with A|⟨G,A⟩
  ·exact c.mem.nj.two T U b z A
  ·grind
  ·grind
  ·rw[F,G]
 ·rcases O g b e with h|⟨_,h⟩
  ·exact c.mem.nj.ownRd g b h o
  grind
 ·rcases O g b e with h|⟨_,h⟩
  ·exact c.mem.nj.ownSh g b h r
  ·rcases r with rfl|rfl|rfl|rfl<;>omega
 ·rw[ab];rcases O g b e with h|⟨_,h⟩
  ·exact c.mem.ld g b h
  ·refine⟨?_,λhd=>by have:=(c.mem.pS b hd).2;omega⟩;rintro(rfl|rfl|rfl|rfl)<;>omega
 ·rw[ab]at e;exact⟨(c.mem.pS b e).1,aj (c.mem.pS b e).2 R⟩
 ·have bl:Vm (nW K) (λg b=>gv K x g b∨(g=0∧nY x.md.O w d b)) K.rd:=by
   refine⟨λT U b D S=>?_,λg b e o=>?_,λg b e r=>?_,c.mem.nj.rdSh⟩
   ·rcases D with z|⟨F,z|z⟩<;>rcases S with A|⟨G,A|A⟩
    ·exact c.mem.nj.two T U b z A
    ·rw[G];exact c.mem.nj.two T _ b z (M b A)
    ·grind
    ·rw[F];exact c.mem.nj.two _ U b (M b z) A
    ·rw[F,G]
    ·rw[F,G]
    ·grind
    ·rw[F,G]
    ·rw[F,G]
   ·rcases e with h|⟨_,h|h⟩
    ·exact c.mem.nj.ownRd g b h o
    ·exact c.mem.nj.ownRd _ b (M b h) o
    grind
   ·rcases e with h|⟨_,h|h⟩
    ·exact c.mem.nj.ownSh g b h r
    ·exact c.mem.nj.ownSh _ b (M b h) r
    ·rcases r with rfl|rfl|rfl|rfl<;>omega
  have bm:EB (nW K) (λg b=>gv K x g b∨(g=0∧nY x.md.O w d b)) K.rd (uN K x) t:=c.iG.T6.Kz c.iG.seen (λ_ q=>q) (λg b _ e=>by
   rcases e with h|⟨rfl,h|h⟩
   ·exact I h
   ·grind
   ·exact J h.1) (λ_ _ _ e=>I e)
  have bn:=bm.app bl (I X:uN K x 0) (u:=MemOp.ofEvents 0 a.frame.fn a.frame.place f) (λm s=>⟨N m s,λy hy=>by
   rcases a5 m s y hy with⟨V,bw⟩|V|V
   ·grind
   ·exact J (I (V.mono λb e=>J ⟨X,e⟩))
   ·exact J (J V)⟩)
  have ar:=mA c.iG.seen R a6;have bo:∀ {l v:Nat},kY K t l v->kY K (t++MemOp.ofEvents 0 a.frame.fn a.frame.place f) l v:=λo=>o.appOther λm s=>by rw[N m s];omega
  refine⟨bn.Kz ar bk (λg b _ e=>?_) (λ_ _ _ e=>I e),ar,by rw[Deaf_own,c.iG.deaf0,a7],λl n=>?_,λu P=>?_,c.iG.norel.app (λm s hm=>?_),λl n h6=>?_,λh3=>?_,c.iG.old.app λm s=>I (N m s)⟩
  ·grind
  ·rw[p]at n;rw[X4 t (g':=0) E _ N,(Y l n).2.1];exact c.iG.qK l n
  ·rw[p]at P;rw[X4 t (g':=0) E _ N];exact c.iG.above u P
  ·obtain⟨q,he,rfl⟩:=XP s;exact a8 q he (YA hm)
  ·rw[p]at n;have⟨v,o⟩:=c.iG.rel l n ((Y l n).2.2 h6);grind
  ·rw[p];rcases a9 h3 with h3|⟨C,q1,q2,q3,q4⟩
   ·have⟨C,q1,q2,q3,q4⟩:=c.iG.acq h3;have Q:=lt_of_act? q1;exact⟨C,by rw[act?_old Q];exact q1,by rw[g?_old Q];exact q2,(heard_old Q).2 q3,λl n=>let ⟨v,o,bp⟩:=q4 l n; ⟨v,bo o,bp⟩⟩
   grind
 ·have av:∀u,u≠0->((j.map (woken K.P a k d)).setIfInBounds 0 k)[u]?=(j[u]?).map (woken K.P a k d):=λu P=>by
   rw[ay (λq=>P q.symm),df]
  refine⟨by simp[c.iy.size,p],bb,by rw[p];exact c.iy.jH,λu g h0 P ax=>?_,λl n=>?_,?_⟩
  ·rw[av u E]at ax;obtain⟨B,hz,rfl⟩:=cE.1 ax;have a0:=c.iy.old u B h0 P hz;rw[YD a0,X4 t (g':=0) E _ N,Q];exact a0
  ·rw[p]at n;have⟨B,hz,r⟩:=c.iy.hand l n;have o:dW K.rd (gz K) (x.hs l).O w d:=⟨λb e=>e.elim (ao b) λh=>bc (K.nb+l) b E (J ⟨l,n,X,h⟩),λ_=>a3,R⟩;refine⟨woken K.P a k d B,?_,hh l n B (r.rely hK a1 a2 o)⟩;rw[av _ E,hz];rfl
  ·refine⟨k,?_,by rw[p];exact a4⟩;have bx:0<(j.map (woken K.P a k d)).size:=by simp[c.iy.size];omega
   grind
theorem pR(e:iI K x i j w t)(q:x'.j=x.j)(B:x'.q=x.q)(D:d.heap.size=w.heap.size)(G:d.tape=w.tape∧d.os=w.os∧d.output=w.output)(W:∀b,b≠K.cO->b≠K.cB->d.heap[b]?=w.heap[b]?)(Y:m.size=j.size)(Z:∀l,0<l->l<K.nb->m[l]?=j[l]?)(a6:∀c,c<x.j->∃E,m[K.nb+c]?=some E∧je K (x'.hs c) E d)(M:∀c,c<x.j->(∀b,(x'.hs c).O b->(x.hs c).O b)∧(x'.hs c).dd=(x.hs c).dd∧((x'.hs c).st<=6->(x.hs c).st<=6))(ab:∃a,m[0]?=some a∧ku K x.j x'.next x'.tk x'.md a d)(ad:∀b,x'.md.O b->x.md.O b)(ao:x'.md.d0=x.md.d0)(ar:x'.md.s<=3->x.md.s<=3)(N:∀b,x'.Dn b->¬nW K b∧b<w.heap.size∧∀n,¬gv K x' n b)(v:∀h,h∈g->h.act.touch?=none∧(∀av,h.act≠.mark av)∧h.act.low w.heap.size)(ax:iC K x' d):iI K x' i m d (t++g):=by
 have a0:=e.iy.one
 have u:∀k b,gv K x' k b->gv K x k b:=by
  intro k b f;rcases f with⟨rfl,ho⟩|⟨c,C,rfl,O⟩
  ·exact I ⟨X,ad b ho⟩
  ·rw[q]at C;exact J ⟨c,C,X,(M c C).1 b O⟩
 have a1:∀b,K.rd b->d.heap[b]?=w.heap[b]?:=λb f=>W b (λP=>(e.mem.Bb b f).1 (J (J (I P)))) (λP=>(e.mem.Bb b f).1 (J (J (J P))))
 have a2:∀n,uN K x' n->uN K x n:=λn r=>by unfold uN at r ⊢;rw[q]at r;exact r
 have F:∀n,Deaf (t++g) n=Deaf t n:=λn=>Yi t n g λh o=>⟨(v h o).2.1 _,(v h o).2.1 _⟩
 have a3:∀ {c z:Nat},kY K t c z->kY K (t++g) c z:=by
  intro c z A;refine⟨A.ge,A.rel.app λl s _ hc=>?_,λl a s r ha=>?_⟩
  ·have⟨y,hy,_⟩:=hc;have⟨E,Q,R⟩:=Yl hy;grind
  ·have⟨E,Q,R⟩:=Yl ha;rcases X1 Q with⟨a7,S⟩|⟨_,a8⟩
   ·exact A.wg l a s (by simpa [Trace.g?,Q,S]using r) (by rw[YF S];exact R)
   grind
 have T:∀h,h∈t++g->j9 d.heap.size h.act:=mA e.iG.seen (by rw[D];exact aa _) λh o=>j9.none (v h o).1
 have tr:=e.iG.T6.Al (u:=g) λh o=>(v h o).1
 refine⟨⟨λb f=>(a1 b f).trans (e.mem.Ek b f),λk b f=>by rw[D];exact e.mem.own k b (u k b f),⟨λg1 g2 b C O=>e.mem.nj.two g1 g2 b (u _ _ C) (u _ _ O),λk b f=>e.mem.nj.ownRd k b (u _ _ f),λk b f=>e.mem.nj.ownSh k b (u _ _ f),e.mem.nj.rdSh⟩,λk b f=>⟨(e.mem.ld k b (u _ _ f)).1,λhd=>(N b hd).2.2 k f⟩,λb f=>by rw[D];exact e.mem.Bb b f,λb f=>by rw[D];exact⟨(N b f).1,(N b f).2.1⟩,⟨G.1.trans e.mem.fix.1,G.2.1.trans e.mem.fix.2.1,G.2.2.trans e.mem.fix.2.2⟩⟩,
  ⟨tr.Kz T a2 (λk b _ f=>I (u k b f)) (λ_ _ _ f=>I f),T,by rw[F,e.iG.deaf0,ao],λc p=>?_,λl s=>by rw[q]at s;rw[F];exact e.iG.above l s,e.iG.norel.app λh o=>(v h o).2.1 _,λc p h6=>?_,λh3=>?_,e.iG.old.app λh o=>J (J (v h o).1)⟩,
  ⟨by rw[Y,q];exact e.iy.size,a0,by rw[q];exact e.iy.jH,λl n U s r=>?_,λc p=>?_,by rw[q];exact ab⟩,ax⟩
 ·rw[q]at p;rw[F,(M c p).2.1];exact e.iG.qK c p
 ·rw[q]at p;have⟨z,A⟩:=e.iG.rel c p ((M c p).2.2 h6);grind
 ·rw[q];have⟨a4,V,q2,q3,q4⟩:=e.iG.acq (ar h3);have B:=lt_of_act? V;exact⟨a4,by rw[act?_old B];exact V,by rw[g?_old B];exact q2,(heard_old B).2 q3,λc p=>let ⟨z,A,a5⟩:=q4 c p; ⟨z,a3 A,a5⟩⟩
 ·rw[Z l U s]at r;rw[F,B];exact e.iy.old l n U s r
 ·grind
theorem Np(Q:mi K)(d:iI K x i j w t){g g':Goroutine}(D:0<c)(U:c<K.nb)(P:∀l∈f,Event.mute l=true)(S:QuitsD K.P e (deafBehind (Deaf t c) f) g'):∃r,(r=x.md∨(x.md.s=7∧r={ x.md with s:=8,fu:=0 }))∧∀o,(∀h,h≠c->o h=x.q h)->o c=e->iC K { x with md:=r,q:=o } w->iI K { x with md:=r,q:=o } i ((j.map (woken K.P g g' w)).setIfInBounds c g') w (t++MemOp.ofEvents c g.frame.fn g.frame.place f):=by
 have⟨a,T,U⟩:=d.iy.main
 have⟨r,D,V,_⟩:=U.xV (y:=g) (y':=g') Q (λC=>by
  have y:=d.cu.yZ;have Q:=d.cu.EI;rw[C]at y Q;exact⟨⟨_,_,_,y⟩,_,_,_,_,_,Q⟩)
 refine⟨r,D,λo W X Y=>?_⟩;have⟨Z,ab,ad⟩:=U0 D;have ao:=d.iy.one;have z:∀k,k∈MemOp.ofEvents c g.frame.fn g.frame.place f->k.g=c:=λk m=>by obtain⟨l,_,rfl⟩:=XP m;rfl
 have G:∀k,k∈MemOp.ofEvents c g.frame.fn g.frame.place f->k.act.touch?=none:=λk m=>by obtain⟨l,M,rfl⟩:=XP m;exact touch_mute (P l M)
 have Q:∀k,k∈MemOp.ofEvents c g.frame.fn g.frame.place f->j9 w.heap.size k.act:=λk m=>j9.none (G k m)
 have D:gv K { x with md:=r,q:=o }=gv K x:=by
  funext gi b
  unfold gv;rw[Z]
 have R:∀ {n u:Nat},kY K t n u->kY K (t++MemOp.ofEvents c g.frame.fn g.frame.place f) n u:=λA=>A.appOther λk m=>by rw[z k m];omega
 have N:∀h,h≠c->((j.map (woken K.P g g' w)).setIfInBounds c g')[h]?=(j[h]?).map (woken K.P g g' w):=λh v=>by
  grind
 have ar:c<(j.map (woken K.P g g' w)).size:=by simp[d.iy.size];omega
 refine⟨⟨d.mem.Ek,by rw[D];exact d.mem.own,by rw[D];exact d.mem.nj,by rw[D];exact d.mem.ld,d.mem.Bb,d.mem.pS,d.mem.fix⟩,
  ⟨by rw[D];exact d.iG.T6.Al G,mA d.iG.seen (aa _) Q,by rw[X4 t (g':=c) E _ z,d.iG.deaf0];exact ab.symm,λn p=>by rw[X4 t (g':=c) E _ z];exact d.iG.qK n p,λh v=>by have v:K.nb+x.j<=h:=v;rw[X4 t (g':=c) E _ z];exact d.iG.above h v,
   d.iG.norel.app λk m hm=>?_,λn p r=>let ⟨u,A⟩:=d.iG.rel n p r; ⟨u,R A⟩,λh3=>?_,d.iG.old.app λk m=>J (J (G k m))⟩,
  ⟨by simp[d.iy.size],ao,d.iy.jH,λh k l0 v F=>?_,λn p=>?_,⟨woken K.P g g' w a,by rw[N 0 E,T];rfl,V⟩⟩,Y⟩
 ·obtain⟨l,M,rfl⟩:=XP m;have:=YA hm;have h2:=P l M;have⟨av,wr,sy⟩:=l;subst this;simp[Event.mute]at h2
 ·have⟨q,m,r,D,G⟩:=d.iG.acq (ad h3);have k:=lt_of_act? m;exact⟨q,by rw[act?_old k];exact m,by rw[g?_old k];exact r,(heard_old k).2 D,λn p=>let ⟨u,A,M⟩:=G n p; ⟨u,R A,M⟩⟩
 ·by_cases l:h=c
  ·subst l;rw[aJ ar]at F;cases F;show QuitsD K.P (o h) _ _;rw[X,Deaf_own];exact S
  ·rw[N h l]at F;obtain⟨B,O,rfl⟩:=cE.1 F;have k:=d.iy.old h B l0 v O;show QuitsD K.P (o h) _ _;rw[YD k,X4 t (g':=c) (λm=>l m.symm) _ z,W h l];exact k
 ·have⟨B,O,h⟩:=d.iy.hand n p;refine⟨B,?_,h⟩;rw[N _ E,O]
  have k:woken K.P g g' w B=B:=by
   have y:=d.cu.yZ;by_cases C:x.md.s<14
   ·exact h.xV (s:=0) (r:=0) (tm:=false) (J (d.cu.uO (KR C) n p))
   ·rw[aq C]at y;exact h.xV (I y)
  grind
end
end
section
open Go.Conc
open Go.ConcR (KK WgAt stA smA rd wr mk Payload DC0)
open Go.ConcN (WgLive CTag WD RelBy sumTo upd upd_same upd_ne sumTo_upd sumTo_congr cnt Vc)
section
variable {K:m8}{b:Loc->Prop}{x x':pI K.P}{i:Array Goroutine}{w a:World}{t:Trace}{f:Array Event}{k:Nat}{g d:Goroutine}{d':HD K.P}{j:Option (Nat×Nat)}
theorem iC.Cf(A:mg K)(h:iC K x w)(g:x'.j=x.j)(P:x'.next=x.next∧x'.nt=x.nt∧x'.tk=x.tk∧x'.buf=x.buf∧x'.ca=x.ca∧x'.cl=x.cl∧x'.Dn=x.Dn)(Q:x'.sO=x.sO∧x'.rO=x.rO∧x'.uS=x.uS∧x'.sB=x.sB∧x'.rB=x.rB∧x'.rE=x.rE)(c:∀k,k<x.j->(46<=(x'.hs k).st↔46<=(x.hs k).st)∧(47<=(x'.hs k).st↔47<=(x.hs k).st)∧(48<=(x'.hs k).st↔48<=(x.hs k).st)∧((x'.hs k).st=20->(x.hs k).st=20)∧(46<=(x.hs k).st->(x'.hs k).i=(x.hs k).i))(q:(x'.md.s<14↔x.md.s<14)∧(x'.md.s<3↔x.md.s<3))(R:WgAt K.ty K.Wg a x'.st x'.sm)(S:Go.ConcN.Mode x'.j (dj K x') (mG x'.md) x'.st x'.sm)(T:a.heap[K.cO]?=w.heap[K.cO]?)(U:a.heap[K.cB]?=w.heap[K.cB]?)(V:a.heap[K.T]?=w.heap[K.T]?)(B:∀d,x.Dn d->a.heap[d]?=w.heap[d]?)(W:14<=x.md.s->∀k,k<x.j->20<=(x.hs k).st->20<=(x'.hs k).st:=by exact λ_ _ _ e=>e)(X:x'.md.s=1->x.buf= #[]:=by first|exact h.cu.emp|(intro e;simp at e;done)|(intro e;simp at e;omega)|(intro e;omega))(ao:x'.md.s=14->x.md.s=14:=by first|exact λe=>e|(intro e;simp at e;done)|(intro e;simp at e;omega)|(intro e;omega)):iC K x' a:=by
 have⟨i,Y,C,l,D,F,G⟩:=P;have⟨Z,s2,s3,s4,s5,s6⟩:=Q;have ab:decide (x'.md.s<14)=decide (x.md.s<14):=fK.2 q.1;have e3:decide (x'.md.s<3)=decide (x.md.s<3):=fK.2 q.2;have ar:∀k,k<x.j->48<=(x.hs k).st->(x'.hs k).i=(x.hs k).i:=λk b s=>(c k b).2.2.2.2 E
 have av:∀k,k<x.j->47<=(x.hs k).st->(x'.hs k).i=(x.hs k).i:=λk b s=>(c k b).2.2.2.2 E
 refine⟨R,S,?_,?_,?_,by rw[i];exact h.nN,λax k b e=>?_,λy J=>?_,λf t M=>?_,λk b ad=>?_,λk u b r s h2 e=>?_,λf j=>?_,?_,λf j=>?_,λf j=>?_,λm=>by rw[l];exact X m,λm k b=>?_⟩
 ·rw[T,ab,Z,s2,s3];exact h.yZ
 ·rw[U,e3,l,s4,s5,s6];exact h.EI
 ·unfold jz;rw[V,D,F];exact h.xQ
 ·rw[g]at b;exact h.uO (by have:=q.1;omega) k b ((c k b).2.2.2.1 e)
 ·rw[l]at J;have⟨f,t,n,o,v,p⟩:=h.buf y J;exact⟨f,t,n,by rw[i];exact o,A.gm _ _ _ _ (λd z=>B d (p d z)) v,by rw[G];exact p⟩
 ·rw[C]at M;have⟨v,p⟩:=h.tk f t M;exact⟨A.gm _ _ _ _ (λd z=>B d (p d z)) v,by rw[G];exact p⟩
 ·rw[g]at b;have N:=(c k b).1.1 ad;rw[(c k b).2.2.2.2 N,i];exact h.hold k b N
 ·rw[g]at b r;have n:=(c k b).1.1 s;have o:=(c u r).1.1 h2;rw[(c k b).2.2.2.2 n,(c u r).2.2.2.2 o]at e;exact h.two k u b r n o e
 ·rw[i]at j;rw[C,l,g];rcases h.cover f j with m|m|⟨k,b,n,o⟩
  ·exact I m
  ·grind
  grind
 ·rw[l,g,Y,i, <-h.room]
  congr 2
  refine Yd λk b=>?_
  unfold tx;by_cases a0:46<=(x.hs k).st
  ·grind
  grind
 ·rw[D,i,g,h.ca f j];grind
 ·rw[F,i,g,h.cl f j];grind
 ·rw[g]at b;have O:14<=x.md.s:=by have:=q.1;omega
  exact W O k b (h.busy O k b)
theorem Hg{a b:MD}(c:b=a∨(a.s=7∧b={ a with s:=8,fu:=0 })):b.s=14->a.s=14:=by
 rcases c with rfl|⟨_,rfl⟩
 ·exact id
 grind
theorem Qh{a b:MD}(c:b=a∨(a.s=7∧b={ a with s:=8,fu:=0 })):b.s=1->a.s=1:=by
 rcases c with rfl|⟨_,rfl⟩
 ·exact id
 grind
theorem AW{a b:MD}(c:b=a∨(a.s=7∧b={ a with s:=8,fu:=0 })):(b.s<14↔a.s<14)∧(b.s<3↔a.s<3):=by
 grind
theorem rm{a b:MD}(c:b=a∨(a.s=7∧b={ a with s:=8,fu:=0 })):mG b=mG a∨(mG a=.blk∧mG b=.w3):=by
 rcases c with rfl|⟨d,rfl⟩
 ·exact I X
 ·exact J ⟨by simp[mG,d],by simp[mG]⟩
theorem Gg{a:MD}(b:a.s<=3):mG a=.ret:=by
 unfold mG;grind
theorem NO{H c d:Nat}{a b:MD}(e:b=a∨(a.s=7∧b={ a with s:=8,fu:=0 }))(g:d<=c):eX H d b<=eX H c a:=by
 rcases e with rfl|⟨f,rfl⟩
 ·unfold eX;grind
 ·simp[eX,f]
def oZ(d:HD Y):WD:=⟨if 14<=d.st then 7 else d.st,d.fu,d.dd⟩
theorem Gl{b:MD}(a:Nat):dj K (x.put k d' b o p A C) a=oZ (upd x.hs k d' a):=rfl
theorem OG{m:MD}{ca cl:Nat->Bool}{st sm:Int}(a:k<x.j):Vc x.j (dj K (x.put k d' m ca cl st sm))+cnt (oZ (x.hs k))=Vc x.j (dj K x)+cnt (oZ d'):=Yf x.hs d' (λd=>cnt (oZ d)) a
theorem C6{a:MD}(e:k<x.j)(q:x.j<=K.H)(f:a=x.md∨(x.md.s=7∧a={ x.md with s:=8,fu:=0 }))(g:d'.st=(x.hs k).st)(h:SQ K.P (d'.la,d'.fu) ((x.hs k).la,(x.hs k).fu)):RZ K.P K.H (nM K (x.put k d' a o p A C)) (nM K x):=by
 have r:=Yf x.hs d' (λd=>d.st) e;have t:=OG (d':=d') (m:=a) (ca:=o) (cl:=p) (st:=A) (sm:=C) e;have u:cnt (oZ d')=cnt (oZ (x.hs k)):=by unfold cnt oZ;dsimp only;rw[g]
 have i:Vc x.j (dj K (x.put k d' a o p A C))=Vc x.j (dj K x):=E
 have j:eX K.H (Vc x.j (dj K x)) a=eX K.H (Vc x.j (dj K x)) x.md:=by
  rcases f with rfl|⟨l,rfl⟩
  ·rfl
  ·simp[eX,l]
 have m:(nM K (x.put k d' a o p A C)).1=(nM K x).1:=by
  show 100*(K.N-x.next)+10*(K.N-x.nt)+sumTo K.nb x.q+sumTo x.j (λc=>(upd x.hs k d' c).st)+eX K.H (Vc x.j (dj K (x.put k d' a o p A C))) a=_;rw[i,j];show _=100*(K.N-x.next)+10*(K.N-x.nt)+sumTo K.nb x.q+sumTo x.j (λc=>(x.hs c).st)+eX K.H (Vc x.j (dj K x)) x.md;omega
 unfold RZ;rw[show nM K (x.put k d' a o p A C)=((nM K x).1,(nM K (x.put k d' a o p A C)).2)from Prod.ext m X];refine Prod.Lex.right _ (Prod.Lex.left _ _ ⟨k,E,?_,λb n=>?_⟩)
 ·show SQ K.P ((upd x.hs k d' k).la,(upd x.hs k d' k).fu) _;rw[XT];exact h
 ·show((upd x.hs k d' b).la,(upd x.hs k d' b).fu)=((x.hs b).la,(x.hs b).fu);rw[upd_ne x.hs d' n]
theorem tF{a:MD}(c:k<x.j)(e:a=x.md∨(x.md.s=7∧a={ x.md with s:=8,fu:=0 }))(f:d'.st<(x.hs k).st)(g:cnt (oZ d')<=cnt (oZ (x.hs k))):RZ K.P K.H (nM K (x.put k d' a o p A C)) (nM K x):=by
 have h:=Yf x.hs d' (λd=>d.st) c;have i:=OG (d':=d') (m:=a) (ca:=o) (cl:=p) (st:=A) (sm:=C) c;have j:=NO (H:=K.H) e (show Vc x.j (dj K (x.put k d' a o p A C))<=Vc x.j (dj K x) by omega);refine Prod.Lex.left _ _ ?_;show 100*(K.N-x.next)+10*(K.N-x.nt)+sumTo K.nb x.q+sumTo x.j (λb=>(upd x.hs k d' b).st)+eX K.H (Vc x.j (dj K (x.put k d' a o p A C))) a<100*(K.N-x.next)+10*(K.N-x.nt)+sumTo K.nb x.q+sumTo x.j (λb=>(x.hs b).st)+eX K.H (Vc x.j (dj K x)) x.md;omega
def nf(K:m8)(b:Loc->Prop)(x:pI K.P)(t:Trace)(c:Stepped×Trace):Prop:=∃d a e x',c.1=.next (crowd d a e)∧iI K x' b d a (t++c.2)∧RZ K.P K.H (nM K x') (nM K x)
theorem E4{fn:FuncId}{pos:String}{gi:Nat}(r:∀a,a∈f->BS K.rd M c a):(∀j,j∈MemOp.ofEvents gi fn pos f->∀y,j.act.touch?=some y->ry M y.loc∨(ry K.rd y.loc∧y.write=false))∧(∀j,j∈MemOp.ofEvents gi fn pos f->j.act.low c)∧(∀d,deafBehind d f=d)∧∀a∈f,∀k,a.loc≠.mark (.release k):=by
 refine⟨λj s y n=>?_,λj s=>?_,λd=>YL (λa l=>?_) d,λa l k t=>?_⟩
 ·obtain⟨a,l,rfl⟩:=XP s;have b:=r a l;have⟨m,o,p⟩:=a;cases m with
  |cell k=>
   have⟨e,g,h⟩:=b;simp only[ofEvent_cell0,MemAct.touch?,bt]at n;subst n;rcases h with h|⟨h,i⟩
   ·exact I ⟨k.block,X,h⟩
   ·exact J ⟨⟨k.block,X,h⟩,i⟩
  |obj u=>
   have⟨e,g,h,i⟩:=b;have e:p=false:=e;have g:o=false:=g;subst e g;simp only[MemAct.ofEvent,MemAct.touch?,bt]at n;subst n;rcases i with i|i
   ·exact I ⟨u,X,i⟩
   ·exact J ⟨⟨u,X,i⟩,X⟩
  |mark q=>
   cases q<;>first|exact b.elim|(simp[MemAct.ofEvent,MemAct.touch?]at n)
  |_=>exact b.elim
 ·obtain⟨a,l,rfl⟩:=XP s;have b:=r a l;have⟨m,o,p⟩:=a;cases m with
  |cell k=>exact b.2.1
  |obj u=>
   have⟨e,g,h,i⟩:=b;have e:p=false:=e;have g:o=false:=g;subst e g;exact h
  |mark q=>cases q<;>first|exact b.elim|trivial
  |_=>exact b.elim
 ·have b:=r a l;have⟨m,o,p⟩:=a;cases m with
  |mark q=>cases q<;>first|exact b.elim|(constructor<;>simp)
  |_=>constructor<;>simp
 ·have b:=r a l;have⟨m,o,p⟩:=a;have t:m=.mark (.release k):=t;subst t;exact b
theorem my(A:mg K)(G:mi K)(M:K.rd K.C1)(N:K.rd K.C2)(h:iI K x b i w t)(p:k<x.j)(B:i[K.nb+k]?=some g)(O:stepG K.P false g w=.go d a f)(l:yU K.rd (x.hs k).O w a f)(P:∀c,d'.O c->nY (x.hs k).O w a c)(Q:je K d' d a)(R:d'.dd=(x.hs k).dd)(z:14<=(x.hs k).st)(C:14<=d'.st)(S:(46<=d'.st↔46<=(x.hs k).st)∧(47<=d'.st↔47<=(x.hs k).st)∧(48<=d'.st↔48<=(x.hs k).st)∧(d'.st=20->(x.hs k).st=20)∧(46<=(x.hs k).st->d'.i=(x.hs k).i))(T:(d'.st=(x.hs k).st∧SQ K.P (d'.la,d'.fu) ((x.hs k).la,(x.hs k).fu))∨d'.st<(x.hs k).st)(U:20<=(x.hs k).st->20<=d'.st:=by first|exact λe=>e|(intro e;exact e)|(intro _;simp;done)|omega):nf K b x t (runT K.P (crowd i w j) (K.nb+k)):=by
 have⟨V,W,Y,Z⟩:=E4 (gi:=K.nb+k) (fn:=g.frame.fn) (pos:=g.frame.place) l.ev;have n:=h.iy.one;have D:∀c,(x.hs k).O c->gv K x (K.nb+k) c:=λc n=>J ⟨k,p,X,n⟩
 have s:∀c,nW K c->¬(x.hs k).O c:=λc n q=>(h.mem.ld _ c (D c q)).1 n
 have⟨l1,l2,l3,l4⟩:=h.cu.C4;have eW:=l.other _ l1 (s _ (I X));have eT:=l.other _ l2 (s _ (J (I X)));have eO:=l.other _ l3 (s _ (J (J (I X))));have eB:=l.other _ l4 (s _ (J (J (J X))));have eD:∀c,x.Dn c->a.heap[c]?=w.heap[c]?:=λc n=>l.other c (h.mem.pS c n).2 λq=>(h.mem.ld _ c (D c q)).2 n
 have F:=eW.trans h.cu.wg;have s:6<(x.hs k).st:=E
 have⟨u,o,_,ab⟩:=tw (es:=f) (g':=d) (d':=d') A G M N h p B l.size ⟨l.tape,l.os,l.out⟩ (λc n q _=>l.other c n q) ⟨_,_,F⟩ P Q
  (λc l y s=>J (V c l y s)) (λc l=>j9.of_low (W c l)) (by rw[Y];exact R.symm) (λe D=>Z e D _) (λn=>absurd n E) (λ_ n=>absurd n E) (λq=>by
   have⟨c,_,_,_,l⟩:=h.iG.acq q;exfalso;have c:=h.cu.mode;have l:=YJ c p (by simp[dj,z]);exact l (Gg q))
 have ad:Go.ConcN.Mode x.j (dj K (x.put k d' u x.ca x.cl x.st x.sm)) (mG u) x.st x.sm:=by
  refine Go.ConcN.Mode.retag ?_ (rm o);refine Yj (λm r=>?_) h.cu.mode;rw[Gl];by_cases e:m=k
  ·subst e;rw[XT];simp[oZ,dj,z,C]
  ·rw[upd_ne x.hs d' e];rfl
 have ao:iC K (x.put k d' u x.ca x.cl x.st x.sm) a:=by
  refine h.cu.Cf (x':=x.put k d' u x.ca x.cl x.st x.sm) A X ⟨X,X,X,X,X,X,X⟩ ⟨X,X,X,X,X,X⟩ (λm r=>?_) (AW o) F ad eO eB eT eD (λ_ m _ v=>by
   show 20<=(upd x.hs k d' m).st;by_cases e:m=k
   ·subst e;rw[XT];exact U v
   ·rw[upd_ne x.hs d' e];exact v) (λv=>h.cu.emp (Qh o v)) (Hg o)
  show(46<=(upd x.hs k d' m).st↔_)∧(47<=(upd x.hs k d' m).st↔_)∧(48<=(upd x.hs k d' m).st↔_)∧((upd x.hs k d' m).st=20->_)∧(_->(upd x.hs k d' m).i=_);by_cases e:m=k
  ·subst e;rw[XT];exact S
  ·rw[upd_ne x.hs d' e];omega
 have c:=X9 (P:=K.P) (sl:=j) (i:=K.nb+k) B (by rw[show((K.nb+k==0)=false) by simp;omega];exact O);refine⟨_,a,j,_,by rw[c],by rw[c];exact ab _ _ _ _ ao,?_⟩;rcases T with⟨e,r⟩|r
 ·exact C6 p h.iy.jH o e r
 ·exact tF p o r (by simp[oZ,cnt,z,C])
