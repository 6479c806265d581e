/- Texts of ours, one behind the other: ZB12 ZB13. -/
import Derived.Test.YtedifobeggabnaaGreatCbZB1
import Derived.Conc.Fork
namespace Go.Proofs.YtedifobeggabnaaGreat
variable {g:Array Event}{c:Outcome}{b:Nat}{e:Nat->Prop}
section
open Go.Conc (G solo)
def cj(a:Program):Frame:={ fn:=a.funcs.size,tmps:= #[],todo:=[],defers:=[{ target:=.nil,args:= #[]}],mode:=.panicking [],kind:=.normal }
section
variable {P:Program}{Q:Nat->Prop}{F:Fx}{B:Nat}{cb:List Frame}{fr j:Frame}{a i:List Frame}{V f:World}
def yQ(fr:Frame)(a:List Frame):GStep->Prop
 |.go g1 _ _=>(∃b,g1=G { fr with mode:=.panicking b } a)∨∀b,g1.frame.mode≠.panicking b
 |.ended .. =>True
 |_=>False
theorem CX(f:kN P (gG Q B V.heap.size) F fr)(m:fr.mode=.run)(n:∀g i b c,fr.todo≠.inRegion g (i::b)::c):yQ fr a (stepG P true (G fr a) V):=by
 have⟨o,p,q,r,s,t,round⟩:=fr;have u:s=.run:=m;have v:=f.defers;have w:=f.kind;have x:=f.round;subst u v w x;have y:=f.todo;cases q with
 |nil=>simp[G,stepG,stepG.exec,yQ]
 |cons j c=>
  have k:=y j oi;cases j with
  |code h=>
   cases h with
   |ret|skip|seq l e|block id e|loop e=>simp[G,stepG,stepG.exec,yQ]
   |region id g d=>
    cases d with
    |false=>simp[G,stepG,stepG.exec,yQ]
    |true=>simp[G,stepG,stepG.exec,choose,Sem.run,Question.forced,Question.cut,yQ]
   |cond h l e=>
    simp only[G,stepG,stepG.exec];cases z:(Frame.eval ⟨o,p,.code (.cond h l e)::c,[],.run,.normal,none⟩ h)<;>simp[yQ]
   |exit id=>
    simp only[G,stepG,stepG.exec];cases A:exitTo id c<;>simp[yQ]
   |_=>exact k.elim
  |inBlock id=>simp[G,stepG,stepG.exec,yQ]
  |inLoop e=>simp[G,stepG,stepG.exec,yQ]
  |inRegion g b=>
   cases b with
   |nil=>simp[G,stepG,stepG.exec,yQ]
   |cons i b=>exact absurd X (n g i b c)
  |_=>exact k.elim
theorem G7(x:uJ P Q F B)(i:l6 P Q F B fr a V):yQ fr (a++cb) (stepG P true (G fr (a++cb)) V)∨(fr.mode=.returning∧a=[]):=by
 have y:=y7 i.blk i.le i.cf;have R:∀r,gG Q B V.heap.size r->n9 Q B r:=λr i=>i.imp id js
 have f:=i.fr;have⟨k,d,S,T,z,U,round⟩:=fr;have W:=f.defers;have Y:=f.kind;have Z:=f.round;subst W Y Z;rcases f.mode with h|h
 ·have h:z=.run:=h;subst h;refine I ?_;by_cases A:∃b c s e,S=.inRegion b (c::s)::e
  ·obtain⟨b,c,rest,e,rfl⟩:=A;by_cases m:(Option.map (λg=>Region.wanted g (yielded b d)) b[c]?).getD false=true
   ·cases n:b[c]? with
    |none=>rw[n]at m;cases m
    |some l=>
     have t:Region.wanted l (yielded b d)=true:=by rw[n]at m;exact m
     have r:stepG P true (G ⟨k,d,.inRegion b (c::rest)::e,[],.run,.normal,none⟩ (a++cb)) V=stepG.apply P true ⟨k,d,.inRegion b (c::rest)::e,[],.run,.normal,none⟩ (a++cb) none (execOp (Frame.eval ⟨k,d,.inRegion b (c::rest)::e,[],.run,.normal,none⟩) l) V:=by
      simp[G,stepG,stepG.exec,stepG.oper,Frame.oper?,n,t]
     have S:=f.todo (.inRegion b (c::rest)) oi l (bh n);have C:=qz (P:=P) (S:=n9 Q B) (F:=F) (f:=id) x.yA x.fns.enter (ev:=Frame.eval ⟨k,d,.inRegion b (c::rest)::e,[],.run,.normal,none⟩) (ev':=(jr id ⟨k,d,.inRegion b (c::rest)::e,[],.run,.normal,none⟩).eval) (λg n=>ot (f.mono R).tmps g n) (λo=>rfl) (o:=l) S;rw[r];unfold stepG.apply;cases u:(execOp (Frame.eval ⟨k,d,.inRegion b (c::rest)::e,[],.run,.normal,none⟩) l).runT P V #[]with
     |mk v ab=>
      cases v with
      |halt g p=>
       have D:=C.CH y u;cases g with
       |panic o=>simp[GStep.after,yQ,Frame.raise,G]
       |stuck ar=>simp[GStep.after,yQ]
       |unsupported ad=>cases ad<;>first|(simp[GStep.after,yQ];done)|exact absurd rfl (D _)
       |_=>exact D.elim
      |ok ao p=>
       have⟨k,l,n,h,E,K,r,x,D⟩:=C.run (V':=p) (W:=V) (ni.refl y) u (λj R M E=>XD);cases ao with
       |value o=>
        have:=(kG f (k9 (gG Q B V.heap.size) F)).mode;simp only[GStep.after,yQ];refine J λN=>?_
        unfold Frame.finish;simp
       |skip=>
        simp only[GStep.after,yQ];refine J λN=>?_
        unfold Frame.finish;simp
       |enter av args=>simp[GStep.after,yQ,Frame.enter]
       |_=>exact K.elim
   ·have t:(Option.map (λg=>Region.wanted g (yielded b d)) b[c]?).getD false=false:=by simpa using m
    simp[G,stepG,stepG.exec,t,yQ,Frame.finish]
  ·exact CX f X (λb c s e q=>A ⟨b,c,s,e,q⟩)
 ·have h:z=.returning:=h;subst h;cases a with
  |nil=>exact J ⟨X,X⟩
  |cons w a=>
   refine I ?_;have⟨fv,M,E,K⟩:=f.fn.1;have O:=i.cs w oi;simp only[G,stepG,unwind,M];cases u:(results fv d).runT P V #[]with
   |mk v ab=>
    cases v with
    |halt g p=>cases g<;>simp[GStep.after,yQ]
    |ok o p=>
     have:=(FO O (k9 (gG Q B V.heap.size) F)).mode
     have hm:(w.finish o).mode=w.mode:=by
      unfold Frame.finish;split<;>rfl
     simp only[GStep.after,doReturn,ll,yQ];refine J λN=>?_
     rw[hm];rcases O.mode with q|q<;>rw[q]<;>simp
theorem Jd(fr:Frame)(a:List Frame)(b:World):lone fr a b=solo (G fr a) b:=rfl
theorem ij{fr:Frame}{a:List Frame}{V:World}{b:Goroutine}{f:World}(c:stepG P true (G fr a) V=.go b f g):step P (lone fr a V)=.next (solo b f):=by
 rw[Jd,step,Go.Conc.stepT_solo X,Go.Conc.runT_solo_go c]
theorem fC{fr:Frame}{a:List Frame}{V:World}{f:World}(b:stepG P true (G fr a) V=.ended c f g):step P (lone fr a V)=.ended c f:=by
 refine step_lone_ended ?_;have:stepG P true { frame:=fr,callers:=a,status:=.running,dying:=none } V=.ended c f g:=b;rw[this];rfl
theorem rU{chain:List PanicEntry}{l:List Frame}(a:World):∃b c d,stepG P true (G { cj P with mode:=.panicking chain } l) a=.ended b c d:=by
 simp[G,cj,stepG,unwind,callDeferred]
theorem runN_ended{b:Machine}{e:World}(f:step P b=.ended c e):∀a d,runN P a b=.next d->a=0:=by
 intro a d g;cases a with
 |zero=>rfl
 |succ a=>simp[runN,f]at g
theorem JZ:∀(f:Nat) (d:List Frame) (fr:Frame) (V:World) (a:List PanicEntry),fr.mode=.panicking a->fr.defers=[]->(∃k,P.funcs[fr.fn]?=some k)->(∀b,b∈d->b.defers=[]∧(∃k,P.funcs[b.fn]?=some k))->∀e h i,runN P f (lone fr (d++[cj P]) V)=.next (lone e h i)->e.mode≠.returning:=by
 intro f;induction f with
 |zero=>
  intro d fr V a j _ _ _ e h i c;simp only[runN,Stepped.next.injEq]at c
  have g:fr=e:=by
   have:=cF (λl=>l.gs) c;simp only[lone,ju,iD,Goroutine.mk.injEq]at this;exact this.1.1
  rw[<-g,j];simp
 |succ f t=>
  intro d fr V a j o u p e h i c;have⟨B,q⟩:=u;cases d with
  |nil=>
   have m:stepG P true (G fr ([]++[cj P])) V=.go (G ((cj P).raise a) []) V #[]:=by
    simp[G,stepG,unwind,j,o,Frame.catches,q]
   simp only[runN,ij m]at c;have⟨C,D,E,v⟩:=rU (P:=P) (chain:=a++[]) (l:=[]) V;have g:(cj P).raise a={ cj P with mode:=.panicking (a++[])}:=rfl;rw[g]at c;have w:=runN_ended (P:=P) (fC v) f _ c;subst w;simp only[runN,Stepped.next.injEq]at c
   have g:e={ cj P with mode:=.panicking (a++[])}:=by
    have:=cF (λl=>l.gs) c;simp only[lone,solo,G,ju,iD,Goroutine.mk.injEq]at this;grind
   rw[g];simp
  |cons b d=>
   have m:stepG P true (G fr (b::d++[cj P])) V=.go (G (b.raise a) (d++[cj P])) V #[]:=by
    simp[G,stepG,unwind,j,o,Frame.catches,q]
   simp only[runN,ij m]at c;have r:=p b oi
   have x:∃n,(b.raise a).mode=.panicking n:=by
    unfold Frame.raise;grind
   have s:(b.raise a).defers=b.defers∧(b.raise a).fn=b.fn:=by
    unfold Frame.raise;grind
   have⟨n,y⟩:=x;exact t d (b.raise a) V n y (s.1.trans r.1) (by rw[s.2];exact r.2) (λz A=>p z (by simp[A])) e h i c
def Told(P:Program)(c:Value->World->Prop)(fr:Frame)(a:List Frame)(V:World):Prop:=a=[]∧∃b,fr.leaving P V (.returned b)∧c b V
theorem Te{S:Value->World->Prop}(u:uJ P Q F B):∀(h:Nat) (fr:Frame) (a:List Frame) (V:World),l6 P Q F B fr a V->∀m e k,runN P h (lone fr (a++[cj P]) V)=.next (lone m [cj P] e)->m.leaving P e (.returned k)->S k e->KO P [cj P] (Told P S) h fr a V:=by
 intro h;induction h with
 |zero=>
  intro fr a V _ m e k c q v;simp only[runN,Stepped.next.injEq,lone,Machine.mk.injEq,ju,iD,Goroutine.mk.injEq,jy]at c;obtain⟨rfl,rfl,r⟩:=c
  have r:a=[]:=by
   simp_all
  exact⟨r,k,q,v⟩
 |succ h Z=>
  intro fr a V d m e k c q v;rcases G7 (cb:=[cj P]) u d with s|⟨w,rfl⟩
  ·cases b:stepG P true (G fr (a++[cj P])) V with
   |go g1 f g=>
    rw[b]at s;rcases s with⟨T,rfl⟩|n
    ·exfalso;simp only[runN,ij b]at c;have U:=d.fr;have⟨o,l,_,_⟩:=U.fn.1;refine JZ h a { fr with mode:=.panicking T } f T X U.defers ⟨o,l⟩ (λx r=>?_) m [cj P] e c q.1;have:=d.cs x r;have⟨fc,y,_,_⟩:=this.fn.1;exact⟨this.defers,fc,y⟩
    ·have ab:fr.mode=.returning->a≠[]:=by
      rintro w rfl;have⟨z,p,A,C,mode,D,round⟩:=fr;have E:mode=.returning:=w;have I:=d.fr.defers;have K:=d.fr.kind;subst E I K;have⟨o,l,y,h3⟩:=d.fr.fn.1;cases c:(results o p).runT P V #[]with
      |mk M ad=>
       cases M with
       |halt N e=>
        simp only[G,stepG,unwind,l,c]at b;cases N<;>simp[GStep.after]at b
       |ok k e=>
        simp only[G,stepG,unwind,l,c]at b;simp[GStep.after,doReturn]at b;obtain⟨rfl,_,_⟩:=b;exact n [] (by simp[cj,Frame.finish])
     have⟨W,j,i,ao,ar,av,x⟩:=wY u.yA u.fns d.le d.cf d.fr d.cs d.blk ab b n;subst ao;simp only[runN,ij b]at c;exact J ⟨j,i,f,g,b,n,Z j i f ⟨ar,av,x,aK d.le W.1,W.2⟩ m e k c q v⟩
   |ended t O g=>
    exfalso;have:=fC b;simp[runN,this]at c
   |_=>rw[b]at s;exact s.elim
  ·exfalso;have⟨z,p,A,C,mode,D,round⟩:=fr;have E:mode=.returning:=w;have I:=d.fr.defers;have K:=d.fr.kind;subst E I K;have⟨o,l,y,h3⟩:=d.fr.fn.1;cases Y:(results o p).runT P V #[]with
   |mk M ad=>
    cases M with
    |halt N R=>
     have b:∃t O g,stepG P true (G (⟨z,p,A,[],.returning,.normal,round⟩:Frame) ([]++[cj P])) V=.ended t O g:=by
      simp only[G,stepG,unwind,l,Y];cases N<;>simp[GStep.after]
     have⟨t,O,g,b⟩:=b;simp only[runN,fC b]at c;cases c
    |ok v2 R=>
     have b:∃g,stepG P true (G (⟨z,p,A,[],.returning,.normal,round⟩:Frame) ([]++[cj P])) V=.go (G (cj P) []) R g:=by
      simp only[G,stepG,unwind,l,Y];simp[GStep.after,doReturn,cj,Frame.finish]
     have⟨g,b⟩:=b;simp only[runN,ij b]at c;have⟨t,w',ax,he⟩:=rU (P:=P) (chain:=[]) (l:=[]) R;have n:=runN_ended (P:=P) (fC (fr:=cj P) he) h _ c;subst n;simp only[runN,Stepped.next.injEq,lone,solo,G,Machine.mk.injEq,ju,iD,Goroutine.mk.injEq,jy]at c;have:=c.2.2;simp at this
theorem sI{Post:Value->World->Prop}(c:uJ P Q F B){b:FuncId}(g:F.fn b){args:Array Value}(h:∀a,a∈args->bG (gG Q B V.heap.size) F a)(i:qB (gG Q B V.heap.size) F V)(j:B<=V.heap.size)(k:KJ F B V)(l:∀T d,Calls P b args (dZ V T d) λe m=>∃a,e=.returned a∧Post a m):yV P [cj P] (Told P Post) (Frame.enter P b args .normal) [] V∧l6 P Q F B (Frame.enter P b args .normal) [] V:=by
 have f:l6 P Q F B (Frame.enter P b args .normal) [] V:=⟨vZ c.fns g h,λr m=>by simp at m,i,j,k⟩;refine⟨λT d=>?_,f⟩;obtain⟨e,n,fr,⟨a,rfl,o⟩,p,s,q⟩:=l T d [cj P];have⟨b,e⟩:=p;exact⟨b,Te c b _ [] _ (f.dZ T d) fr n a e q o⟩
end
end
section
open Go.Conc (G)
structure rK(Q:Nat->Prop)(F:Fx)(B:Nat)(f:Nat->Nat)(V W:World):Prop where
 blk:∀b o,gG Q B V.heap.size b->V.heap[b]?=some o->∃o',W.heap[f b]?=some o'∧Alike F f b o o'
 inj:∀a b,gG Q B V.heap.size a->gG Q B V.heap.size b->f a=f b->a=b
 low:∀b,Q b->f b=b∧RH V b∧b<B
def qE(b:Nat)(c:Nat->Nat)(d:World)(e:Nat):Prop:=∃a,b<=a∧a<d.heap.size∧c a=e
def BS(c d:Nat->Prop)(e:Nat)(b:Event):Prop:=
 match b.loc with
 |.cell a=>b.sync=false∧a.block<e∧(d a.block∨(c a.block∧b.write=false))
 |.obj r=>b.sync=false∧b.write=false∧r<e∧(d r∨c r)
 |.mark m=>Iw m
 |_=>False
section
variable {P:Program}{Q:Nat->Prop}{F:Fx}{B:Nat}{n bs:List Frame}{a:Frame->List Frame->World->Prop}{i l:Frame}{m k:List Frame}{V V1 W W1:World}{f:Nat->Nat}
def kF(f:Nat->Nat)(V W:World)(a:Nat):Nat:=if a<V.heap.size then f a else W.heap.size+(a-V.heap.size)
theorem fG(a:b<V.heap.size):kF f V W b=f b:=ai a
theorem Gd(c:B<=V.heap.size)(d:∀b,Q b->b<B)(a:gG Q B V.heap.size b):b<V.heap.size:=by
 rcases a with a|a
 ·grind
 ·exact a.2
theorem nH(a:B<=V.heap.size)(c:∀b,Q b->b<B)(d:gG Q B V.heap.size b):f b=kF f V W b:=(fG (Gd a c d)).symm
theorem tR{f b:Nat->Nat}(c:∀a,e a->f a=b a){i:Frame}(d:kN P e F i):jr f i=jr b i:=by
 unfold jr
 congr 1
 exact bf λa b=>jV c (d.tmps a b)
theorem Alike.congr{f a:Nat->Nat}(g:∀b,e b->f b=a b){c d:Obj}(h:vH e F c)(i:Alike F f b c d):Alike F a b c d:=by
 cases c with
 |cells m k l=>
  obtain⟨p,q,r,rfl,j,s,t⟩:=i;refine⟨p,q,r,X,⟨λc=>(j.1 c).trans (bf λu v=>jV g (h u v)),λc=>⟨(j.2 c).1,λk w l=>((j.2 c).2 k w l).trans ?_⟩⟩,s,t⟩;rw[au l];show some (bI f m[k])=some (bI a m[k]);rw[jV g (h _ (KI l))]
 |number n o=>
  have c:d=.number (kp f n) o:=i;show d=.number (kp a n) o;rw[c];unfold kp;rw[g _ h.1]
 |_=>exact i.elim
theorem rK.Em(e:rK Q F B f V W)(c:l6 P Q F B i m V):ni (n9 Q B) F (kF f V W) V W:=by
 have n:∀a,Q a->a<B:=λa b=>(e.low a b).2.2
 have h:∀a,n9 Q B a->a<V.heap.size->gG Q B V.heap.size a:=λa b j=>b.imp id λy=>⟨y,j⟩
 have z:∀a,gG Q B V.heap.size a->f a<W.heap.size:=by
  intro a b;have⟨k,d,_⟩:=c.blk a b (Gd c.le n b);have⟨o,p,_⟩:=e.blk a k b d;grind
 refine⟨y7 c.blk c.le c.cf,λa k b d=>?_,λq a t b g=>?_,λa b=>af E⟩
 ·have l:=aC d;have r:=h a b l;have⟨o,p,u⟩:=e.blk a k r d;have⟨A,s,v⟩:=c.blk a r l;rw[d]at s;cases s;rw[fG l];exact⟨o,p,u.congr (λC j=>nH c.le n j) v⟩
 ·unfold kF at g;split at g<;>split at g
  ·rename_i w x;exact e.inj q a (h q t w) (h a b x) g
  ·grind
  ·grind
  ·omega
structure RI(B:Nat)(f f1:Nat->Nat)(V V1 W W1:World):Prop where
 tape:W1.tape=W.tape
 os:W1.os=W.os
 out:W1.output=W.output
 size:W.heap.size<=W1.heap.size
 other:∀b,b<W.heap.size->¬qE B f V b->W1.heap[b]?=W.heap[b]?
 own:∀b,qE B f1 V1 b↔qE B f V b∨(W.heap.size<=b∧b<W1.heap.size)
theorem N7{main:Bool}(M:uJ P Q F B)(hS:∀i m V T d,l6 P Q F B i m V->(a i m (dZ V T d)↔a i m V))(h:l6 P Q F B i m V)(ht:yV P n a i m V)(ab:¬a i m V)(t:rK Q F B f V W):∃l k V1 W1 x z,stepG P main (G (jr f i) (m.map (jr f)++bs)) W=.go (G (jr z l) (k.map (jr z)++bs)) W1 x∧l6 P Q F B l k V1∧yV P n a l k V1∧Sq P n a (l,k,V1) (i,m,V)∧rK Q F B z V1 W1∧RI B f z V V1 W W1∧∀g,g∈x->BS Q (qE B z V1) W1.heap.size g:=by
 have A:∀b,Q b->b<B:=λb e=>(t.low b e).2.2
 have⟨l,k,V1,x,c,hn,a2,a3⟩:=ht.next M hS h ab W.tape W.drawn;have R:=h.dZ W.tape W.drawn;have w:=t.Em h;have a4:ni (n9 Q B) F (kF f V W) (dZ V W.tape W.drawn) W:=⟨⟨w.cl.blk,w.cl.tI,w.cl.wt⟩,w.blk,w.inj,w.tI⟩;have ad:∀b,gG Q B V.heap.size b->n9 Q B b:=λb r=>r.imp id js
 have⟨bc,bd,W1,g,bg,bk,a5,ao,e,a6⟩:=sG (main:=main) (bs:=bs) M.yA M.fns (R.fr.mono ad) (λC S=>(R.cs C S).mono ad) a4 (qh M R c) c hn (λj ar o s=>by
  have o:W.drawn<=j:=o;show W.tape j ar=W.tape (W.drawn+(j-W.drawn)) ar
  congr 1
  omega)
 obtain⟨rfl,rfl⟩:=yO g;have ef:jr f i=jr (kF f V W) i:=tR (λb e=>nH h.le A e) h.fr;have ec:m.map (jr f)=m.map (jr (kF f V W)):=jk λC S=>tR (λb e=>nH h.le A e) (h.cs C S)
 have bl:V.heap.size<=V1.heap.size:=e.le;have bm:W1.heap.size=W.heap.size+(V1.heap.size-V.heap.size):=e.size;have a7:∀b,V.heap.size<=b->kF f V W b=W.heap.size+(b-V.heap.size):=λb e=>af E
 have av:∀b,Q b->V1.heap[b]?=V.heap[b]?∧W1.heap[kF f V W b]?=W.heap[kF f V W b]?:=λb p=>
  e.E8 b (I p) (by have:=A b p;have:=h.le;show b<V.heap.size;omega) (t.low b p).2.1
 refine⟨l,k,V1,W1,x.map (yj (kF f V W)),kF f V W,by rw[ef,ec];exact a5,a2,a3,⟨ab,_,_,x,c,hn⟩,⟨λb U q D=>?_,λY b ha e g=>?_,λb p=>?_⟩,⟨e.tape,e.os,e.out,E,λb q D=>?_,λb=>⟨?_,?_⟩⟩,λg he=>?_⟩
 ·exact ao.blk b U (q.imp id js) D
 ·exact ao.inj Y b (ha.imp id js) (e.imp id js) g
 ·have Z:=t.low b p;have K:b<V.heap.size:=by have:=h.le;omega
  refine⟨(fG K).trans Z.1,?_,Z.2.2⟩;have⟨C,a8,g⟩:=Z.2.1;exact⟨C,a8,(av b p).1.trans g⟩
 ·by_cases p:Q b
  ·have K:b<V.heap.size:=by have:=A b p;have:=h.le;omega
   have:=(av b p).2
   rwa [fG K,(t.low b p).1]at this
  ·refine e.other b q λr c N g=>?_
   have N:r<V.heap.size:=N;rw[fG N]at g;rcases c with c|c
   ·rw[(t.low r c).1]at g;exact p (g▸c)
   ·exact D ⟨r,c,N,g⟩
 ·rintro⟨r,o,s,u⟩;by_cases q:r<V.heap.size
  ·rw[fG q]at u;exact I ⟨r,o,q,u⟩
  ·grind
 ·rintro(⟨r,o,s,u⟩|⟨o,s⟩)
  ·exact⟨r,o,E,(fG s).trans u⟩
  ·refine⟨V.heap.size+(b-W.heap.size),by have:=h.le;omega,E,?_⟩;rw[a7 _ E];omega
 ·obtain⟨e0,a9,rfl⟩:=Er.1 he;have O:=a6 e0 a9;have⟨ba,wr,sy⟩:=e0
  have ax:∀b,n9 Q B b->b<V1.heap.size->qE B (kF f V W) V1 (kF f V W b)∨(Q b∧kF f V W b=b):=by
   intro b c a0;rcases c with c|c
   ·have K:b<V.heap.size:=by have:=A b c;have:=h.le;omega
    exact J ⟨c,(fG K).trans (t.low b c).1⟩
   ·exact I ⟨b,c,a0,X⟩
  have a1:∀b,n9 Q B b->b<V1.heap.size->kF f V W b<W1.heap.size:=by
   intro b c a0;by_cases q:b<V.heap.size
   ·have⟨U,D,_⟩:=h.blk b (c.imp id λy=>⟨y,q⟩) q;have⟨o',bb,_⟩:=t.blk b U (c.imp id λy=>⟨y,q⟩) D;have:=aC bb;rw[fG q];omega
   ·grind
  cases ba with
  |cell Y=>
   have⟨o,s,u,h4⟩:=O;refine⟨u,a1 _ o s,?_⟩;rcases ax _ o s with v|⟨v,h6⟩
   ·exact I v
   ·refine J ⟨?_,?_⟩
    ·show Q (kF f V W Y.block);rw[h6];exact v
    ·cases wr with
     |false=>rfl
     |true=>exact absurd (t.low _ v).2.1 (h4 X)
  |obj bn=>
   have⟨o,s,u,h4⟩:=O;refine⟨h4,u,a1 _ o s,?_⟩;rcases ax _ o s with v|⟨v,h6⟩
   ·exact I v
   ·grind
  |mark bo=>exact O
  |_=>exact O.elim
theorem rK.rely(c:rK Q F B f V W)(d:∀a,qE B f V a∨Q a->W1.heap[a]?=W.heap[a]?):rK Q F B f V W1:=by
 refine⟨λa e b g=>?_,c.inj,c.low⟩;have⟨h,i,j⟩:=c.blk a e b g;refine⟨h,?_,j⟩;rw[d,i];rcases b with b|b
 ·exact J (by rw[(c.low a b).1];exact b)
 ·exact I ⟨a,b.1,b.2,X⟩
