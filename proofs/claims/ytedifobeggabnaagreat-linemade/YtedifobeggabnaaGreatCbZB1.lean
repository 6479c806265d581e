/- Texts of ours, one behind the other: ZB1 ZB2 ZB3 ZB4 ZB5 ZB6 ZB7 ZB8 ZB9 ZB10 ZB11. -/
import Derived.Test.YtedifobeggabnaaGreatCbZA1
import Derived.Conc.Own
namespace Go.Proofs.YtedifobeggabnaaGreat
variable {k ao:Nat}{j A:Value}{z:BinOp}{u:TypeId}{b:Array Value}{D Y:Operand->Value}{q Z:Array Event}{O:Halt}{U:Addr}{C K N:Type}{ab:Bool}{l ad:Frame}{e w M:List Frame}{s ar:Goroutine}{o:FuncId}{m:Array Oper}{r:List Nat}{p:List Item}{y:Obj}
theorem Xg{a:Prop}(b:a:=by simp[G,stepG,stepG.exec]):a:=b
theorem Xi{a:Prop}(b:a:=by simp[G,jr,stepG,stepG.exec]):a:=b
theorem Xy{a:Prop}(b:a:=by simp only[Sem.runT];exact this.1):a:=b
theorem XD{a:Prop}(b:a:=by congr 1;omega):a:=b
section
def mP(a:Fx):Operand->Prop
 |.tmp _=>True
 |.const v=>uY v
 |.func g=>a.fn g
 |.global _=>False
def UC(a:Program)(c:BinOp)(b:TypeId)(y:Operand):Prop:=
 Sum c∨((c=.eql∨c=.neq)∧a.eqGuardType a.depth b=false∧(O7 a b∨(∃d,a.underlying b=some (.slice d)∧∃e f,y=.const (.slice none e f))∨(∃d,a.underlying b=some (.pointer d)∧y=.const (.pointer none))∨a.underlying b=some .bool))
def Vs(a:Program)(c:TypeId):Prop:=∀b,a.underlying c=some (.slice b)->BZ a b
def GA(b:Program)(a:Fx):Op->Prop
 |.move x|.assign x|.box _ x|.load _ x|.nilCheck x|.extract x _=>mP a x
 |.fieldAddr t x _=>VD b t∧mP a x
 |.pick c e h=>mP a c∧mP a e∧mP a h
 |.alloc t=>BZ b t
 |.build t parts=>BZ b t∧∀d,d∈parts->mP a d.2
 |.buildSlice t _ parts=>Vs b t∧∀d,d∈parts->mP a d.2
 |.store _ e x=>mP a e∧mP a x
 |.binOp op t x y _=>mP a x∧mP a y∧UC b op t y
 |.unOp op _ x=>(op=.not∨op=.neg)∧mP a x
 |.makeFunc fn first captured=>(∃f,fn=.func f∧a.fn f)∧first= #[]∧∀x,x∈captured->mP a x
 |.makeSlice t i c=>Vs b t∧mP a i∧mP a c
 |.slice _ x j k l=>mP a x∧(∀y,j=some y->mP a y)∧(∀y,k=some y->mP a y)∧∀y,l=some y->mP a y
 |.indexAddr _ x m=>mP a x∧mP a m
 |.call c=>(∀x,x∈c.args->mP a x)∧((∃x,c.callee=.value x∧mP a x)∨c.callee=.builtin .len∨c.callee=.builtin .max∨c.callee=.builtin .copy∨(c.callee=.builtin .append∧∀g,c.argTypes[0]?=some g->Vs b g))
 |_=>False
def Vr (c : Program) (d : Fx) : Prop := ∀ b, d.fn b -> ∃ a, c.funcs[b]? = some a ∧ a.body.isSome = true ∧ (a.name == "runtime.NumGoroutine") = false
section
variable {P:Program}{S:Nat->Prop}{F:Fx}{f:Nat->Nat}{a c:Type}{R:a->a->Prop}
theorem D4(d:Vr P F)(a:F.fn k){args:Array Value}(e:∀b,b∈args->bG S F b):SR P S F f (NR S F f) (callFunc k args) (callFunc k (args.map (bI f))):=by
 have⟨c,g,b,h⟩:=d k a;unfold callFunc;refine SR.bind' oG ?_;rintro _ _ ⟨rfl,rfl⟩;rw[g]
 dsimp only
 rw[h];have i:c.body.isNone=false:=by cases j:c.body<;>simp_all
 rw[i];exact SR.ret ⟨a,e,X⟩
theorem fj{a b:Sem Value}(c:SR P S F f (VR S F f) a b):SR P S F f (NR S F f) (do pure (Next.value (<-a))) (do pure (Next.value (<-b))):=by
 refine SR.bind' c ?_;rintro e _ ⟨d,rfl⟩;exact SR.ret ⟨d,X⟩
theorem Rc{a b:Sem Unit}(c:SR P S F f (λ_ _=>True) a b):SR P S F f (NR S F f) (do a;pure Next.skip) (do b;pure Next.skip):=by
 refine SR.bind' c ?_;intro _ _ _;exact SR.ret X
theorem wQ(a:BinOp)(b:TypeId)(c y:Operand)(f:∀d e,¬(j=.agg d∧A=.agg e))(g:j≠.nilIface):eqGuard a b c y j A=pure ():=by
 unfold eqGuard;grind
theorem I1(b:z=.eql∨z=.neq)(a y:Operand)(c e d g:Array Value)(h:P.eqGuardType P.depth u=false):SR P S F f (λ_ _=>True) (eqGuard z u a y (.agg c) (.agg e)) (eqGuard z u a y (.agg d) (.agg g)):=by
 unfold eqGuard;rcases b with rfl|rfl
 all_goals
  refine SR.bind' oG ?_;rintro _ _ ⟨rfl,rfl⟩;refine SR.bind' oG ?_;rintro _ _ ⟨rfl,rfl⟩;rw[h];exact SR.ret trivial
theorem uq(e:¬(z=.eql∨z=.neq))(a:TypeId)(b y:Operand)(c d:Value):eqGuard z a b y c d=pure ():=by
 unfold eqGuard;grind
theorem yW(a:bI f j=.agg b):∃c,j=.agg c:=by
 cases j<;>simp[bI]at a ⊢
theorem CQ(a:bI f j=.nilIface):j=.nilIface:=by
 cases j<;>simp[bI]at a ⊢
theorem F6(a y:Operand)(g:bG S F j)(k:z=.eql∨z=.neq->P.eqGuardType P.depth u=false):SR P S F f (λ_ _=>True) (eqGuard z u a y j A) (eqGuard z u a y (bI f j) (bI f A)):=by
 have h:j≠.nilIface:=λb=>by subst b;simp[bG]at g
 by_cases i:∃c e,j=.agg c∧A=.agg e
 ·obtain⟨c,e,rfl,rfl⟩:=i;rw[lJ,lJ];by_cases g:z=.eql∨z=.neq
  ·exact I1 g a y _ _ _ _ (k g)
  ·rw[uq g,uq g];exact SR.ret trivial
 ·rw[wQ z u a y (λc e b=>i ⟨c,e,b⟩) h,wQ z u a y ?_ (λb=>h (CQ b))]
  ·exact SR.ret trivial
  ·rintro c e ⟨l,m⟩;obtain⟨d,rfl⟩:=yW l;obtain⟨n,rfl⟩:=yW m;grind
theorem Va(l:KL P S F){y:Operand}(c:bG S F j)(h:bG S F A)(i:∀k,y=.const k->A=k)(d:O7 P u∨(∃a,P.underlying u=some (.slice a)∧∃e g,y=.const (.slice none e g))∨(∃a,P.underlying u=some (.pointer a)∧y=.const (.pointer none))∨P.underlying u=some .bool):SR P S F f (λj k=>j=k) (Op.equal u j A) (Op.equal u (bI f j) (bI f A)):=by
 rcases d with d|⟨a,b,e,g,rfl⟩|⟨a,b,rfl⟩|b
 ·exact Br l d c h
 ·rw[i _ X];have:=sD (P:=P) (f:=f) b c e g;rw[dI];exact this
 ·rw[i _ X,fD];exact uR b c
 ·exact yJ b c h
theorem Oi(c:z=.eql∨z=.neq)(k:bG S F j)(l:bG S F A)(m:SR P S F f (λj h=>j=h) (Op.equal u j A) (Op.equal u (bI f j) (bI f A))):SR P S F f (VR S F f) (binOp z u j A) (binOp z u (bI f j) (bI f A)):=by
 have i:∀(h:Bool),SR P S F f (VR S F f) (do pure (.bool (h ^^ (<-Op.equal u j A)))) (do pure (.bool (h ^^ (<-Op.equal u (bI f j) (bI f A))))):=by
  intro h;refine SR.bind' m ?_;rintro d _ rfl;exact SR.ret ⟨pZ _,(fV _).symm⟩
 have a:=i false;have b:=i true;simp only[Bool.false_bne,Bool.true_bne]at a b;cases j with
 |int n d=>
  cases A with
  |int o y=>rw[da,da];rcases c with rfl|rfl<;>exact Ie oi oi u n o d y
  |float _ _|complex _ _ _|string _|map _|chan _|iface _ _|nilIface=>simp[bG]at l
  |pointer e=>rw[da]at a b ⊢;cases e with
   |none=>rw[fD]at a b ⊢;rcases c with rfl|rfl<;>first|exact a|exact b
   |some e=>rw[eu]at a b ⊢;rcases c with rfl|rfl<;>first|exact a|exact b
  |bool d=>rw[da,fV]at a b ⊢;rcases c with rfl|rfl<;>first|exact a|exact b
  |slice d p g=>rw[da,dI]at a b ⊢;rcases c with rfl|rfl<;>first|exact a|exact b
  |nilFunc=>rw[da,qv]at a b ⊢;rcases c with rfl|rfl<;>first|exact a|exact b
  |func q d y=>rw[da,bI]at a b ⊢;rcases c with rfl|rfl<;>first|exact a|exact b
  |agg g=>rw[da,lJ]at a b ⊢;rcases c with rfl|rfl<;>first|exact a|exact b
  |tuple g=>rw[da,bI]at a b ⊢;rcases c with rfl|rfl<;>first|exact a|exact b
 |float _ _|complex _ _ _|string _|map _|chan _|iface _ _|nilIface=>simp[bG]at k
 |bool d=>rw[fV]at a b ⊢;rcases c with rfl|rfl<;>first|exact a|exact b
 |slice d p g=>rw[dI]at a b ⊢;rcases c with rfl|rfl<;>first|exact a|exact b
 |pointer e=>cases e with
  |none=>rw[fD]at a b ⊢;rcases c with rfl|rfl<;>first|exact a|exact b
  |some e=>rw[eu]at a b ⊢;rcases c with rfl|rfl<;>first|exact a|exact b
 |nilFunc=>rw[qv]at a b ⊢;rcases c with rfl|rfl<;>first|exact a|exact b
 |func q d y=>rw[bI]at a b ⊢;rcases c with rfl|rfl<;>first|exact a|exact b
 |agg g=>rw[lJ]at a b ⊢;rcases c with rfl|rfl<;>first|exact a|exact b
 |tuple g=>rw[bI]at a b ⊢;rcases c with rfl|rfl<;>first|exact a|exact b
end
section
variable {P:Program}{S:Nat->Prop}{F:Fx}{f:Nat->Nat}
theorem Ms{b:Array Operand}(d:∀a,a∈b->mP F a)(e:∀a,mP F a->bG S F (D a)∧Y a=bI f (D a)):b.map Y=(b.map D).map (bI f)∧∀c,c∈b.map D->bG S F c:=by
 grind
theorem zm{b:Array (Nat×Operand)}(d:∀a,a∈b->mP F a.2)(e:∀c,mP F c->bG S F (D c)∧Y c=bI f (D c)):(b.map λa=>(a.1,Y a.2))=(b.map λa=>(a.1,D a.2)).map (λa=>(a.1,bI f a.2))∧∀a,a∈(b.map λa=>(a.1,D a.2))->bG S F a.2:=by
 refine⟨?_,λa b=>?_⟩
 ·rw[Array.map_map];grind
 ·grind
theorem AV{b:Option Operand}(e:∀y,b=some y->mP F y)(g:∀a,mP F a->bG S F (D a)∧Y a=bI f (D a)):b.map Y=(b.map D).map (bI f)∧∀c,b.map D=some c->bG S F c:=by
 cases b with
 |none=>exact⟨X,λc d=>by cases d⟩
 |some a=>exact⟨by simp[(g a (e a X)).2],λc d=>by cases d;exact(g a (e a X)).1⟩
theorem Oh(g:Vr P F)(c:bG S F j)(h:∀a,a∈b->bG S F a):SR P S F f (NR S F f) (do let d <-Deferred.ofValue j b;invoke d.target d.args) (do let d <-Deferred.ofValue (bI f j) (b.map (bI f));invoke d.target d.args):=by
 cases j with
 |func fn first captured=>
  rw[bG]at c;obtain⟨⟨e,rfl,i⟩,rfl,k⟩:=c;rw[bI]
  have e:=D4 (f:=f) g i (args:= #[]++b++captured) (λa c=>by
   rcases cn.1 c with c|c
   ·exact h a (by simpa using c)
   ·exact k a c)
  have a:(#[]++b++captured).map (bI f)=(#[]:Array Value).map (bI f)++b.map (bI f)++captured.map (bI f):=oi;rw[a]at e;exact e
 |nilFunc=>rw[qv];exact SR.dead (dK .nilDeref)
 |_=>exact SR.dead (bJ (aB _) _)
theorem qz(D:KL P S F)(G:Vr P F){ev ev':Operand->Value}(c:∀a,mP F a->bG S F (ev a)∧ev' a=bI f (ev a))(I:∀p,ev (.const p)=p){o:Oper}(b:GA P F o.op):SR P S F f (NR S F f) (execOp ev o) (execOp ev' o):=by
 have⟨A,z,v,B,Q,R⟩:=o;unfold execOp;cases z with
 |move a=>have h:=c a b;exact SR.ret ⟨h.1,by rw[h.2]⟩
 |assign a=>have h:=c a b;exact SR.ret ⟨h.1,by rw[h.2]⟩
 |pick r m w=>
  have t:=c r b.1;have k:=c m b.2.1;have n:=c w b.2.2
  dsimp only
  rw[t.2,k.2,n.2];refine SR.bind' Q8 ?_;rintro e _ rfl;cases e
  ·exact SR.ret ⟨n.1,X⟩
  ·exact SR.ret ⟨k.1,X⟩
 |alloc e=>exact fj (Of b)
 |box e a=>have h:=c a b;dsimp only;rw[h.2];exact fj (TR e h.1)
 |build e q=>
  have h:=zm b.2 c
  dsimp only
  have A:(q.map λ(a:Nat×Operand)=>match a with|(i,a)=>(i,ev' a))=q.map λn=>(n.1,ev' n.2):=rfl
  have B:(q.map λ(a:Nat×Operand)=>match a with|(i,a)=>(i,ev a))=q.map λn=>(n.1,ev n.2):=rfl
  rw[A,B,h.1];exact fj (Og b.1 h.2)
 |buildSlice e x q=>
  have h:=zm b.2 c
  dsimp only
  have A:(q.map λ(a:Nat×Operand)=>match a with|(i,a)=>(i,ev' a))=q.map λn=>(n.1,ev' n.2):=rfl
  have B:(q.map λ(a:Nat×Operand)=>match a with|(i,a)=>(i,ev a))=q.map λn=>(n.1,ev n.2):=rfl
  rw[A,B,h.1];exact fj (yI b.1 x h.2)
 |load e a=>have h:=c a b;dsimp only;rw[h.2];exact fj (Ks e h.1)
 |store e m a=>have h:=c m b.1;have j:=c a b.2;dsimp only;rw[h.2,j.2];exact Rc (Gc e h.1 j.1)
 |nilCheck a=>
  have h:=c a b
  dsimp only
  rw[h.2];have d:=h.1;generalize ev a=p at d;cases p with
  |pointer m=>
   cases m with
   |none=>rw[fD];exact SR.dead (dK _)
   |some m=>rw[eu];exact SR.ret ⟨d,by rw[eu]⟩
  |nilFunc=>rw[qv];exact SR.dead (dK _)
  |func J m w=>
   have E:=d;rw[bG]at E;obtain⟨⟨g,rfl,u⟩,rfl,t⟩:=E;rw[bI];exact SR.ret ⟨d,by rw[bI]⟩
  |int K x=>rw[da];exact SR.ret ⟨d,by rw[da]⟩
  |bool w=>rw[fV];exact SR.ret ⟨d,by rw[fV]⟩
  |slice m x r=>rw[dI];exact SR.ret ⟨d,by rw[dI]⟩
  |agg r=>rw[lJ];exact SR.ret ⟨d,by rw[lJ]⟩
  |tuple r=>rw[bI];exact SR.ret ⟨d,by rw[bI]⟩
  |_=>simp[bG]at d
 |binOp z e a y T=>
  have l:=c a b.1;have j:=c y b.2.1
  dsimp only
  rw[l.2,j.2];refine fj (SR.bind' (F6 a y l.1 ?_) ?_)
  ·intro s;rcases b.2.2 with n|⟨_,u,_⟩
   ·rcases s with s|s
    ·exact absurd s n.1
    ·exact absurd s n.2.1
   ·exact u
  ·intro _ _ _;rcases b.2.2 with n|⟨s,u,t⟩
   ·exact TV D n e l.1 j.1
   ·exact Oi s l.1 j.1 (Va D (y:=y) l.1 j.1 (λp C=>by subst C;exact I p) t)
 |unOp z e a=>
  have h:=c a b.2;have⟨b,_⟩:=b
  dsimp only
  rw[h.2];refine fj ?_;have d:=h.1;generalize ev a=p at d;rcases b with rfl|rfl<;>unfold Op.unary
  ·cases p with
   |bool w=>rw[fV];exact SR.ret ⟨pZ _,by rw[fV]⟩
   |_=>exact SR.dead (aB _)
  ·cases p with
   |int K x=>rw[da];exact uB _ _ _ _
   |pointer m=>
    cases m with
    |none=>exact SR.dead (aB _)
    |some m=>exact SR.dead (aT _)
   |float|complex=>rw[bG]at d<;>first|exact d.elim|simp
   |_=>exact SR.dead (aB _)
 |makeFunc J first captured=>
  obtain⟨⟨g,rfl,u⟩,rfl,t⟩:=b;have h:=Ms t c
  dsimp only
  rw[h.1];exact SR.ret ⟨by rw[bG];exact⟨⟨g,X,u⟩,oi,h.2⟩,by rw[bI];simp⟩
 |makeSlice e M r=>
  have l:=c M b.2.1;have j:=c r b.2.2
  dsimp only
  rw[l.2,j.2];exact fj (Bt b.1 l.1 j.1)
 |slice e a U V W=>
  have l:=c a b.1;have j:=AV b.2.1 c;have m:=AV b.2.2.1 c;have n:=AV b.2.2.2 c
  dsimp only
  rw[l.2,j.1,m.1,n.1];exact fj (Gb e l.1 j.2 m.2 n.2)
 |fieldAddr e a i=>have h:=c a b.2;dsimp only;rw[h.2];exact fj (F8 e b.1 h.1 i)
 |indexAddr e a i=>have h:=c a b.1;have j:=c i b.2;dsimp only;rw[h.2,j.2];exact fj (F9 e h.1 j.1)
 |extract a i=>have h:=c a b;dsimp only;rw[h.2];exact fj (F7 h.1 i)
 |call r=>
  have⟨Y,args,tys⟩:=r;have k:=Ms b.1 c;rcases b.2 with⟨a,d,N⟩|d|d|d|⟨d,O⟩
  ·cases d
   have h:=c a N;have:=Oh (f:=f) G h.1 k.2;rw[<-h.2, <-k.1]at this;exact this
  ·cases d
   have:=fj (TS (P:=P) (f:=f) tys v k.2);rw[<-k.1]at this;exact this
  ·cases d
   have:=fj (TU (P:=P) (f:=f) tys v k.2);rw[<-k.1]at this;exact this
  ·cases d
   have:=fj (Q9 (P:=P) (f:=f) tys v k.2);rw[<-k.1]at this;exact this
  ·cases d
   have:=fj (Km (P:=P) (f:=f) (tys:=tys) (λa C l j=>O a l C j) v k.2);rw[<-k.1]at this;exact this
 |_=>exact b.elim
end
section
variable {P:Program}{S:Nat->Prop}{F:Fx}{f:Nat->Nat}{c:Type}{R:c->c->Prop}{V a W:World}
theorem dM.hk{s:Sem c}(b:dM P s)(d:s.runT P V q=(.halt O a,Z)):Hk O:=by
 have⟨d,e,f,g,h⟩:=b V q;grind
theorem zu{d:String}(a:Cl S F V)(e:S U.block):Hk (V.noCell U d):=by
 unfold World.noCell;split
 ·rename_i g h b;have⟨i,c,f⟩:=a.blk _ e (aC b);rw[b]at c;cases c;exact f.elim
 ·intro j a;cases a
 ·trivial
theorem SR.CH{s B:Sem c}(d:SR P S F f R s B)(e:Cl S F V)(b:s.runT P V q=(.halt O a,Z)):Hk O:=by
 induction s generalizing B V q with
 |pure j=>simp[Sem.runT]at b
 |load u j g h=>
  rcases d with d|⟨o,rfl,I,l,i⟩
  ·exact d.hk b
  ·simp only[Sem.runT]at b;split at b
   ·rename_i m w;exact h m (i m (e.sk l.1 w)) e b
   ·have k:∃p,V.farLoad P j (u==.atomic)=.error (V.noCell j p):=by
     unfold World.farLoad;split
     ·rename_i y x k;exact absurd k (e.noView l.1 y x)
     ·exact⟨_,X⟩
    have⟨p,k⟩:=k;rw[k]at b;simp only[cK,Result.halt.injEq]at b;exact b.1.1▸zu e l.1
 |store u j m g h=>
  rcases d with d|⟨o,rfl,I,l,w,i⟩
  ·exact d.hk b
  ·by_cases v:One m
   ·cases n:V.cell? j with
    |none=>
     have k:∃p,V.farStore P j m (u==.atomic)=.error (V.noCell j p):=by
      unfold World.farStore;split
      ·rename_i y x k;exact absurd k (e.noView l.1 y x)
      ·exact⟨_,X⟩
     have⟨p,k⟩:=k
     have r:O=V.noCell j p:=by
      cases m<;>first|exact v.elim|(simp only[Sem.runT,n,k,cK,Result.halt.injEq]at b;exact b.1.1.symm)
     rw[r];exact zu e l.1
    |some Q=>
     cases C:V.frozen? j with
     |true=>
      have r:∃z,O=.unsupported z∧∀D,z≠.initOrder D:=by
       cases m<;>first|exact v.elim|(simp only[Sem.runT,n,C,ek,cK,Result.halt.injEq]at b;exact⟨_,b.1.1.symm,λD d=>by cases d⟩)
      obtain⟨z,rfl,J⟩:=r;exact J
     |false=>
      rw[kT v n C]at b;have:=h i (e.setCell w) b;exact this
   ·have r:∃y,O=.stuck y:=by
     cases m<;>first|exact absurd trivial v|(simp only[Sem.runT,cK,Result.halt.injEq]at b;exact⟨_,b.1.1.symm⟩)
    obtain⟨y,rfl⟩:=r
    trivial
 |new A g h=>
  rcases d with d|⟨o,rfl,n,i⟩
  ·exact d.hk b
  ·simp only[Sem.runT]at b;have E:=e.tI _ (aa _);have:=h _ (i _ E.1 E.2) (e.push n) b;exact this
 |shape t g h=>
  rcases d with d|⟨o,rfl,l,i⟩
  ·exact d.hk b
  ·simp only[Sem.runT]at b;exact h _ (i _ _ (e.shr t)) e b
 |getObj t g h=>
  rcases d with d|⟨o,rfl,l,i⟩
  ·exact d.hk b
  ·simp only[Sem.runT]at b;split at b
   ·simp only[cK,Result.halt.injEq]at b;rw[<-b.1.1];trivial
   ·rename_i A _ n;have⟨T,G,K⟩:=e.blk t l (aC n);rw[n]at G;cases G;exact h _ (i _ K) e b
   ·simp only[cK,Result.halt.injEq]at b;rw[<-b.1.1];trivial
 |choose U g h=>
  rcases d with d|⟨o,rfl,i⟩
  ·exact d.hk b
  ·simp only[Sem.runT]at b;split at b
   ·grind
   ·exact h _ (i _) (e.drew _) b
 |program g h=>
  rcases d with d|⟨o,rfl,i⟩
  ·exact d.hk b
  ·simp only[Sem.runT]at b;exact h _ i e b
 |mark u g h=>
  rcases d with d|⟨o,rfl,W,i⟩
  ·exact d.hk b
  ·simp only[Sem.runT]at b;exact h i e b
 |freeze j M g _=>exact dM.hk (s:=.freeze j M g) d b
 |frozen j g _=>exact dM.hk (s:=.frozen j g) d b
 |setObj t A g _=>exact dM.hk (s:=.setObj t A g) d b
 |sys g N _=>exact dM.hk (s:=.sys g N) d b
 |halt y=>
  simp only[Sem.runT,cK,Result.halt.injEq]at b;rw[<-b.1.1];exact d
theorem foldl_hom(g:N->N)(e:K->K)(c:C×K->N->C×K)(h:∀a b f,c (a,e b) (g f)=((c (a,b) f).1,e (c (a,b) f).2)):∀(d:List N) (a:C) (b:K),(d.map g).foldl c (a,e b)=((d.foldl c (a,b)).1,e (d.foldl c (a,b)).2):=by
 intro d;induction d with
 |nil=>intro a b;rfl
 |cons f d i=>
  intro a b;simp only[ud,RJ];rw[h];exact i _ _
theorem E7(f:N->N)(d:K->K)(c:C×K->N->C×K)(h:∀b a g,c (b,d a) (f g)=((c (b,a) g).1,d (c (b,a) g).2)){a:K}(i:d a=a)(e:List N)(b:C):(e.map f).foldl c (b,a)=((e.foldl c (b,a)).1,d (e.foldl c (b,a)).2):=by
 have:=foldl_hom f d c h e b a;grind
theorem sA(P:Program)(b:FuncId)(a:Array Event):seen P b (a.map (yj f))=(seen P b a).map (yj f):=by
 unfold seen
 dsimp only
 rw[<-jL, <-jL,lk];refine cF Prod.snd (E7 (yj f) (λb:Array Event=>b.map (yj f)) _ ?_ oi a.toList _);rintro c b ⟨e,wr,d⟩;cases e with
 |mark g=>cases g<;>cases c<;>cases d<;>simp[yj]
 |_=>cases c<;>cases d<;>simp[yj]
end
section
variable {P:Program}{S:Nat->Prop}{F:Fx}{f:Nat->Nat}
theorem Q7(b:bG S F j):SR P S F f (AR S F f) (asAddr j) (asAddr (bI f j)):=by
 cases j with
 |pointer a=>
  cases a with
  |none=>exact SR.dead (dK .nilDeref)
  |some a=>rw[eu];rw[bG]at b;exact SR.ret ⟨b a X,X⟩
 |_=>exact SR.dead (aB _)
theorem Bo(d:∀a,a∈b->bG S F a)(c:Nat):bG S F (b.getD c undef)∧(b.map (bI f)).getD c undef=bI f (b.getD c undef):=by
 simp only[aw,df];cases e:b[c]? with
 |none=>exact⟨k9 S F,(ql f).symm⟩
 |some a=>exact⟨d a (bh e),X⟩
def LR(S:Nat->Prop)(F:Fx)(f:Nat->Nat)(a c:List Value):Prop:=(∀b,b∈a->bG S F b)∧c=a.map (bI f)
theorem gh(h:Func)(k:∀a,a∈b->bG S F a):SR P S F f (VR S F f) (results h b) (results h (b.map (bI f))):=by
 unfold results;simp only[Array.mapM_eq_mapM_toList];refine SR.bind' (R:=CR S F f) ?_ ?_
 ·show SR P S F f _ (Functor.map List.toArray _) (Functor.map List.toArray _);rw[<-bind_pure_comp, <-bind_pure_comp];refine SR.bind' (R:=LR S F f) ?_ ?_
  ·generalize h.results.toList=i;induction i with
   |nil=>exact SR.ret ⟨λa d=>by simp at d,X⟩
   |cons l i m=>
    rw[List.mapM_cons,List.mapM_cons];refine SR.bind' (R:=VR S F f) ?_ ?_
    ·cases l with
     |tmp e=>have:=Bo (f:=f) k e;exact SR.ret ⟨this.1,this.2⟩
     |cell j e=>
      have:=Bo (f:=f) k j;show SR P S F f _ (asAddr (b.getD j undef) >>= λc=>loadVar e c) (asAddr ((b.map (bI f)).getD j undef) >>= λc=>loadVar e c);rw[this.2];refine SR.bind' (Q7 this.1) ?_;rintro c _ ⟨g,rfl⟩;exact xM e g
    ·rintro a _ ⟨d,rfl⟩;refine SR.bind' m ?_;rintro n _ ⟨qW,rfl⟩;exact SR.ret ⟨λc g=>by rcases az.1 g with rfl|g;exact d;exact qW c g,X⟩
  ·rintro i _ ⟨o,rfl⟩;exact SR.ret ⟨λa d=>o a (by simpa using d),oi⟩
 ·rintro n _ ⟨qW,rfl⟩;refine SR.ret ⟨?_,?_⟩
  ·split
   ·grind
   ·rw[bG];exact qW
  ·simp only[Array.size_map];split
   ·simp
   ·rw[bI]
def uT(P:Program)(F:Fx):Code->Prop
 |.skip|.exit _ |.ret=>True
 |.region _ e _=>∀d,d∈e->GA P F d.op
 |.seq a b=>uT P F a∧uT P F b
 |.cond c a b=>mP F c∧uT P F a∧uT P F b
 |.block _ c|.loop c=>uT P F c
 |_=>False
def Gx(P:Program)(F:Fx):Item->Prop
 |.code c|.inLoop c=>uT P F c
 |.inBlock _=>True
 |.inRegion ops _=>∀a,a∈ops->GA P F a.op
 |_=>False
def Vo (P : Program) (b : FuncId) : Prop := (∃ a, P.funcs[b]? = some a ∧ a.body.isSome = true ∧ (a.name == "runtime.NumGoroutine") = false) ∧ P.inits.idxOf? b = none
structure kN(P:Program)(S:Nat->Prop)(F:Fx)(fr:Frame):Prop where
 fn:Vo P fr.fn
 tmps:∀v,v∈fr.tmps->bG S F v
 todo:∀i,i∈fr.todo->Gx P F i
 defers:fr.defers=[]
 kind:fr.kind=.normal
 round:fr.roundOf=none
 mode:fr.mode=.run∨fr.mode=.returning
def jr(f:Nat->Nat)(a:Frame):Frame:={ a with tmps:=a.tmps.map (bI f)}
structure uG(P:Program)(F:Fx):Prop where
 enter:Vr P F
 body:∀g fn c,F.fn g->P.funcs[g]?=some fn->fn.body=some c->uT P F c
 init:∀g,F.fn g->P.inits.idxOf? g=none
theorem uG.WS{P:Program}{F:Fx}(a:uG P F)(b:F.fn k):Vo P k:=⟨a.enter k b,a.init k b⟩
theorem ot{fr:Frame}(e:∀c,c∈fr.tmps->bG S F c)(a:Operand)(d:mP F a):bG S F (fr.eval a)∧(jr f fr).eval a=bI f (fr.eval a):=by
 cases a with
 |tmp g=>exact Bo e g
 |const c=>exact⟨uY.ok d S F,(uY.rn d f).symm⟩
 |func b =>refine ⟨?_,?_⟩
           ·show bG S F (.func (.func b) #[] #[]);rw[bG];exact⟨⟨b,X,d⟩,X,λc a=>by simp at a⟩
           ·show Value.func (.func b) #[] #[]=bI f (.func (.func b) #[] #[]);rw[bI];simp
 |global b=>exact d.elim
end
end
section
open Go.Conc (G)
section
variable {P:Program}{S:Nat->Prop}{F:Fx}{f:Nat->Nat}{V a W:World}
def yP(P:Program)(S:Nat->Prop)(F:Fx)(f:Nat->Nat)(i:Bool)(V a W:World)(j:Frame)(k l e:List Frame)(m:Goroutine)(g:Array Event):Prop:=
 ∃(b:Frame) (c:List Frame) (d:World),m=G b (c++l)∧kN P S F b∧(∀h,h∈c->kN P S F h)∧
  stepG P i (G (jr f j) (k.map (jr f)++e)) W=.go (G (jr f b) (c.map (jr f)++e)) d (g.map (yj f))∧ni S F f a d∧ky S f V a W d∧∀h,h∈g->EvS S V a h
theorem eK(b:ni S F f V W)(c:∀a,a∈e->kN P S F a)(d:kN P S F ad)(a:stepG P ab (G (jr f l) (e.map (jr f)++M)) W=.go (G (jr f ad) (e.map (jr f)++M)) W):yP P S F f ab V V W l e w M (G ad (e++w)) #[]:=
 ⟨ad,e,W,X,d,c,by rw[a,RG],b,ky.refl V W,λh g=>by simp at g⟩
theorem GS(id:Nat):∀(c d:List Item),(∀a,a∈c->Gx P F a)->exitTo id c=some d->∀a,a∈d->Gx P F a:=by
 intro c;induction c with
 |nil=>intro d _ b;simp[exitTo]at b
 |cons g c f=>
  intro d h b;have e:∀a,a∈c->Gx P F a:=λa i=>h a (by simp[i])
  cases g<;>simp only[exitTo]at b<;>first|exact f d e b|(split at b;(cases b;exact e);exact f d e b)
theorem Bw(g:kN P S F l)(E:l.mode=.run)(j:∀k,k∈e->kN P S F k)(m:ni S F f V W)(c:stepG P true (G l (e++w)) V=.go s a q)(K:∀id r d i,l.todo≠.code (.region id r d)::i)(N:∀r v i,l.todo≠.inRegion r v::i):yP P S F f ab V a W l e w M s q:=by
 have⟨y,z,O,Q,R,T,round⟩:=l;have U:R=.run:=E;have Y:=g.defers;have Z:=g.kind;have e4:=g.round;subst U Y Z e4;have A:=g.todo;cases O with
 |nil=>
  simp only[G,stepG,stepG.exec]at c;obtain⟨rfl,rfl,rfl⟩:=c;exact eK m j ⟨g.fn,g.tmps,g.todo,X,X,X,J X⟩ Xi
 |cons B i=>
  have n:=A B oi;have o:∀h,h∈i->Gx P F h:=λh b=>A h (by simp[b])
  cases B with
  |code k=>
   cases k with
   |ret=>
    simp only[G,stepG,stepG.exec]at c;obtain⟨rfl,rfl,rfl⟩:=c;exact eK m j ⟨g.fn,g.tmps,g.todo,X,X,X,J X⟩ Xi
   |skip=>
    simp only[G,stepG,stepG.exec,GStep.go.injEq]at c;obtain⟨rfl,rfl,rfl⟩:=c;exact eK m j ⟨g.fn,g.tmps,o,X,X,X,I X⟩ Xi
   |seq u p=>
    simp only[G,stepG,stepG.exec,GStep.go.injEq]at c;obtain⟨rfl,rfl,rfl⟩:=c;have C:uT P F u∧uT P F p:=n;refine eK m j ⟨g.fn,g.tmps,λh b=>?_,X,X,X,I X⟩ Xi;rcases az.1 b with rfl|b
    ·exact C.1
    ·rcases az.1 b with rfl|b
     ·exact C.2
     ·exact o h b
   |block id p=>
    simp only[G,stepG,stepG.exec,GStep.go.injEq]at c;obtain⟨rfl,rfl,rfl⟩:=c;refine eK m j ⟨g.fn,g.tmps,λh b=>?_,X,X,X,I X⟩ Xi;rcases az.1 b with rfl|b
    ·exact n
    ·rcases az.1 b with rfl|b
     ·trivial
     ·exact o h b
   |loop p=>
    simp only[G,stepG,stepG.exec,GStep.go.injEq]at c;obtain⟨rfl,rfl,rfl⟩:=c;refine eK m j ⟨g.fn,g.tmps,λh b=>?_,X,X,X,I X⟩ Xi;rcases az.1 b with rfl|b
    ·exact n
    ·rcases az.1 b with rfl|b
     ·exact n
     ·exact o h b
   |region id r d=>exact absurd X (K id r d i)
   |cond k u p=>
    have x:mP F k∧uT P F u∧uT P F p:=n;have t:=ot (f:=f) (fr:=⟨y,z,.code (.cond k u p)::i,[],.run,.normal,none⟩) g.tmps k x.1;simp only[G,stepG,stepG.exec]at c;cases D:(Frame.eval ⟨y,z,.code (.cond k u p)::i,[],.run,.normal,none⟩ k)with
    |bool ad=>
     rw[D]at c t;simp only[GStep.go.injEq]at c;obtain⟨rfl,rfl,rfl⟩:=c;have k:=t.2;rw[fV]at k;refine eK m j ⟨g.fn,g.tmps,λh b=>?_,X,X,X,I X⟩ (by simp only[jr]at k;simp[G,jr,stepG,stepG.exec,k]);rcases az.1 b with rfl|b
     ·cases ad
      ·exact x.2.2
      ·exact x.2.1
     ·exact o h b
    |_=>rw[D]at c;cases c
   |exit id=>
    simp only[G,stepG,stepG.exec]at c;cases t:exitTo id i with
    |none=>rw[t]at c;cases c
    |some k'=>
     rw[t]at c;simp only[uZ,GStep.go.injEq]at c;obtain⟨rfl,rfl,rfl⟩:=c;exact eK m j ⟨g.fn,g.tmps,GS id i k' o t,X,X,X,I X⟩ (by simp[G,jr,stepG,stepG.exec,t])
   |_=>exact n.elim
  |inBlock id=>
   simp only[G,stepG,stepG.exec,GStep.go.injEq]at c;obtain⟨rfl,rfl,rfl⟩:=c;exact eK m j ⟨g.fn,g.tmps,o,X,X,X,I X⟩ Xi
  |inLoop p=>
   simp only[G,stepG,stepG.exec,GStep.go.injEq]at c;obtain⟨rfl,rfl,rfl⟩:=c;refine eK m j ⟨g.fn,g.tmps,λh b=>?_,X,X,X,I X⟩ Xi;rcases az.1 b with rfl|b
   ·exact n
   ·rcases az.1 b with rfl|b
    ·exact n
    ·exact o h b
  |inRegion r v=>exact absurd X (N r v i)
  |_=>exact n.elim
end
section
variable {P:Program}{S:Nat->Prop}{F:Fx}{f:Nat->Nat}{V a W:World}
theorem OT(a:Array Oper)(b:Array Value)(j:Nat):yielded a (b.map (bI f)) j=yielded a b j:=by
 unfold yielded;cases e:(a[j]?).bind (·.dst)with
 |none=>rfl
 |some d=>
  simp only[Option.bind_some,df];cases b[d]? with
  |none=>rfl
  |some c=>cases c<;>simp[bI]
theorem tq(c:FuncId)(e:Array Value)(a:Array Oper)(b:Nat)(rest:List Nat)(g:List Item)(h:Value):(jr f (⟨c,e,.inRegion a (b::rest)::g,[],.run,.normal,none⟩:Frame)).finish (bI f h)=jr f ((⟨c,e,.inRegion a (b::rest)::g,[],.run,.normal,none⟩:Frame).finish h):=by
 unfold Frame.finish jr
 dsimp only
 cases i:(a[b]?).bind (·.dst)with
 |none=>rfl
 |some d=>simp
theorem kG(c:kN P S F (⟨o,b,.inRegion m (k::r)::p,[],.run,.normal,none⟩:Frame))(g:bG S F j):kN P S F ((⟨o,b,.inRegion m (k::r)::p,[],.run,.normal,none⟩:Frame).finish j):=by
 have f:∀e,e∈(Item.inRegion m r::p)->Gx P F e:=by
  intro e a;rcases az.1 a with rfl|a
  ·exact c.todo (.inRegion m (k::r)) oi
  ·exact c.todo e (by simp[a])
 unfold Frame.finish
 dsimp only
 cases h:(m[k]?).bind (·.dst)with
 |none=>exact⟨c.fn,c.tmps,f,X,X,X,I X⟩
 |some d=>
  refine⟨c.fn,λe a=>?_,f,X,X,X,I X⟩;rcases dY a with a|rfl
  ·exact c.tmps e a
  ·exact g
theorem Ct(a:FuncId)(args:Array Value):Frame.enter P a (args.map (bI f)) .normal=jr f (Frame.enter P a args .normal):=by
 unfold Frame.enter jr;simp[ql]
theorem vZ(e:uG P F)(f:F.fn o)(j:∀c,c∈b->bG S F c):kN P S F (Frame.enter P o b .normal):=by
 have⟨k,h,a,l⟩:=e.enter o f;have⟨g,i⟩:=di.1 a;refine⟨e.WS f,λc a=>?_,λl d=>?_,X,X,X,I X⟩
 ·rcases cn.1 a with a|a
  ·exact j c a
  ·have:c=undef:=by simp[Array.mem_replicate]at a;exact a.2
   rw[this];exact k9 S F
 ·have a:(Frame.enter P o b .normal).todo=[.code g]:=by simp[Frame.enter,h,i]
  rw[a]at d;have d:l=.code g:=by simpa using d
  subst d;exact e.body o k g f h i
end
section
variable {P:Program}{S:Nat->Prop}{F:Fx}{f:Nat->Nat}{V a W:World}
theorem mE(P:Program)(j:FuncId)(h:Array Event):∀c,c∈seen P j h->c∈h:=by
 have j:∀(e:List Event) (d:Bool) (f:Array Event) (g:Bool×Array Event->Event->Bool×Array Event),(∀d h c,∀a,a∈(g (d,h) c).2->a∈h∨a=c)->∀a,a∈(e.foldl g (d,f)).2->a∈f∨a∈e:=by
  intro e;induction e with
  |nil=>intro d f g _ a b;exact I b
  |cons c e k=>
   intro d f g i a b;simp only[RJ]at b;rcases k _ _ g i a b with b|b
   ·rcases i d f c a b with b|rfl
    ·exact I b
    grind
   ·grind
 intro c a;unfold seen at a
 dsimp only at a
 rw[<-jL]at a;grind
theorem Kv(hG:KL P S F)(hP:uG P F)(x:kN P S F (⟨o,b,.inRegion m (k::r)::p,[],.run,.normal,none⟩:Frame))(T:∀U,U∈e->kN P S F U)(g:ni S F f V W)(c:stepG P true (G ⟨o,b,.inRegion m (k::r)::p,[],.run,.normal,none⟩ (e++w)) V=.go s a q)(av:∀u,s.frame.mode≠.panicking u)(Z:∀j l,V.drawn<=j->j<a.drawn->V.tape j l=W.tape (W.drawn+(j-V.drawn)) l):yP P S F f ab V a W ⟨o,b,.inRegion m (k::r)::p,[],.run,.normal,none⟩ e w M s q:=by
 have u:∀j,yielded m (b.map (bI f)) j=yielded m b j:=OT m b;have ao:=funext u;by_cases J:(Option.map (λn=>Region.wanted n (yielded m b)) m[k]?).getD false=true
 ·cases K:m[k]? with
  |none=>rw[K]at J;cases J
  |some t=>
   have N:Region.wanted t (yielded m b)=true:=by rw[K]at J;exact J
   have ax:∀(y:Bool) (e:List Frame) (u:World),stepG P y (G ⟨o,b,.inRegion m (k::r)::p,[],.run,.normal,none⟩ e) u=stepG.apply P true ⟨o,b,.inRegion m (k::r)::p,[],.run,.normal,none⟩ e none (execOp (Frame.eval ⟨o,b,.inRegion m (k::r)::p,[],.run,.normal,none⟩) t) u:=by
    intro y e u;simp[G,stepG,stepG.exec,stepG.oper,Frame.oper?,K,N]
   have ad:∀(y:Bool) (e:List Frame) (u:World),stepG P y (G (jr f ⟨o,b,.inRegion m (k::r)::p,[],.run,.normal,none⟩) e) u=stepG.apply P true (jr f ⟨o,b,.inRegion m (k::r)::p,[],.run,.normal,none⟩) e none (execOp (jr f ⟨o,b,.inRegion m (k::r)::p,[],.run,.normal,none⟩).eval t) u:=by
    intro y e u;simp[G,jr,stepG,stepG.exec,stepG.oper,Frame.oper?,K,ao,N]
   rw[ax]at c;have u:=x.todo (.inRegion m (k::r)) oi t (bh K);have O:=qz (P:=P) (S:=S) (F:=F) (f:=f) hG hP.enter (ev:=Frame.eval ⟨o,b,.inRegion m (k::r)::p,[],.run,.normal,none⟩) (ev':=(jr f ⟨o,b,.inRegion m (k::r)::p,[],.run,.normal,none⟩).eval) (λn Q=>ot x.tmps n Q) (λar=>rfl) (o:=t) u;unfold stepG.apply at c;cases z:(execOp (Frame.eval ⟨o,b,.inRegion m (k::r)::p,[],.run,.normal,none⟩) t).runT P V #[]with
   |mk a0 A=>
    rw[z]at c;cases a0 with
    |halt n V'=>
     have hk:=O.CH g.cl z;cases n with
     |panic ar=>
      simp[GStep.after]at c;obtain⟨rfl,_,_⟩:=c;exact absurd X (av _)
     |stuck y=>simp[GStep.after]at c
     |unsupported a1=>cases a1<;>first|(simp[GStep.after]at c;done)|exact absurd rfl (hk _)
     |_=>exact hk.elim
    |ok a2 V'=>
     cases a2 with
     |value ar=>
      simp[GStep.after]at c;obtain⟨rfl,rfl,rfl⟩:=c;have⟨Y,B,C,d,v,h,D,E,I⟩:=O.run g z Z;obtain⟨hv,rfl⟩:=h;have d:A=C:=by simpa using d
      subst d;refine⟨_,e,B,X,kG x hv,T,?_,D,E,λi R=>I i (mE P o A i R)⟩;rw[ad, <-tq];unfold stepG.apply;rw[v #[]];simp[GStep.after,jr,G,sA]
     |skip=>
      simp[GStep.after]at c;obtain⟨rfl,rfl,rfl⟩:=c;have⟨Y,B,C,d,v,h,D,E,I⟩:=O.run g z Z;have h:Y=.skip:=h;subst h;have d:A=C:=by simpa using d
      subst d;refine⟨_,e,B,X,kG x (k9 S F),T,?_,D,E,λi R=>I i (mE P o A i R)⟩;rw[ad, <-tq,ql];unfold stepG.apply;rw[v #[]];simp[GStep.after,jr,G,sA]
     |enter a4 args=>
      simp[GStep.after]at c;obtain⟨rfl,rfl,rfl⟩:=c;have⟨Y,B,C,d,v,h,D,E,I⟩:=O.run g z Z;obtain⟨hg,a3,rfl⟩:=h;have d:A=C:=by simpa using d
      subst d;refine⟨_,⟨o,b,.inRegion m (k::r)::p,[],.run,.normal,none⟩::e,B,X,vZ hP hg a3,λU Q=>?_,?_,D,E,λi R=>I i (mE P o A i R)⟩
      ·rcases az.1 Q with rfl|Q
       ·exact x
       ·exact T U Q
      ·rw[ad, <-Ct];unfold stepG.apply;rw[v #[]];simp[GStep.after,jr,G,sA]
     |_=>
      exfalso;have⟨Y,B,C,d,v,h,D,E,I⟩:=O.run (V':=V') (W:={ W with tape:=λj l=>V.tape (V.drawn+(j-W.drawn)) l }) ⟨g.cl,g.blk,g.inj,g.tI⟩ z (λj l i v=>by show V.tape j l=V.tape (V.drawn+(W.drawn+(j-V.drawn)-W.drawn)) l;congr 1;omega);exact h.elim
 ·have N:(Option.map (λn=>Region.wanted n (yielded m b)) m[k]?).getD false=false:=by simpa using J
  simp[G,stepG,stepG.exec,N]at c;obtain⟨rfl,rfl,rfl⟩:=c;refine eK g T (kG x (k9 S F)) ?_;rw[<-tq,ql];simp[G,jr,stepG,stepG.exec,ao,N]
end
section
variable {P:Program}{S:Nat->Prop}{F:Fx}{f:Nat->Nat}{V a W:World}
theorem Ku{d:Bool}(h:kN P S F (⟨o,b,.code (.region k m d)::p,[],.run,.normal,none⟩:Frame))(l:∀n,n∈e->kN P S F n)(r:ni S F f V W)(i:stepG P true (G ⟨o,b,.code (.region k m d)::p,[],.run,.normal,none⟩ (e++w)) V=.go s a q)(x:∀j n,V.drawn<=j->j<a.drawn->V.tape j n=W.tape (W.drawn+(j-V.drawn)) n):yP P S F f ab V a W ⟨o,b,.code (.region k m d)::p,[],.run,.normal,none⟩ e w M s q:=by
 have u:=h.todo (.code (.region k m d)) oi;have v:∀c,c∈p->Gx P F c:=λc g=>h.todo c (by simp[g])
 have t:∀n,kN P S F (⟨o,b,.inRegion m n::p,[],.run,.normal,none⟩:Frame):=λn=>⟨h.fn,h.tmps,λc g=>by
  rcases az.1 g with rfl|g
  ·exact u
  ·exact v c g,X,X,X,I X⟩
 cases d with
 |false=>
  simp only[G,stepG,stepG.exec,rv,ek,GStep.go.injEq]at i;obtain⟨rfl,rfl,rfl⟩:=i;exact eK r l (t _) Xi
 |true=>
  simp[G,stepG,stepG.exec,choose,Sem.run,Question.forced,Question.cut]at i;obtain⟨rfl,rfl,rfl⟩:=i
  have c:V.tape V.drawn (.order o k)=W.tape W.drawn (.order o k):=by
   grind
  refine⟨_,e,{ W with drawn:=W.drawn+1 },X,t _,l,?_,r.drew _ _,?_,λh g=>by simp at g⟩
  ·simp[G,jr,stepG,stepG.exec,choose,Sem.run,Question.forced,Question.cut,c]
  ·exact⟨X,X,X,X,X,X,aa _,by show W.heap.size=W.heap.size+(V.heap.size-V.heap.size);omega,kP _,by show W.drawn+1=W.drawn+(V.drawn+1-V.drawn);omega,λ_ _ _=>rfl,λ_ _ _ _=>⟨X,X⟩,λ_ _ _=>rfl⟩
theorem TE(c:kN P S F l)(a:Value):(jr f l).finish (bI f a)=jr f (l.finish a):=by
 have⟨k,m,e,n,o,p,round⟩:=l;cases e with
 |nil=>rfl
 |cons b q=>
  have g:=c.todo b oi;cases b with
  |inRegion h i=>
   cases i with
   |nil=>rfl
   |cons j rest=>
    unfold Frame.finish jr
    dsimp only
    cases r:(h[j]?).bind (·.dst)with
    |none=>rfl
    |some d=>simp
  |code l=>rfl
  |inBlock _=>rfl
  |inLoop _=>rfl
  |_=>exact g.elim
theorem FO(a:kN P S F l)(h:bG S F j):kN P S F (l.finish j):=by
 have⟨n,o,i,p,q,r,round⟩:=l;cases i with
 |nil=>exact a
 |cons b k=>
  have c:=a.todo b oi;cases b with
  |inRegion e m=>
   cases m with
   |nil=>exact a
   |cons f rest=>
    have g:∀b,b∈(Item.inRegion e rest::k)->Gx P F b:=by
     intro b c;rcases az.1 c with rfl|c
     ·exact a.todo (.inRegion e (f::rest)) oi
     ·exact a.todo b (by simp[c])
    unfold Frame.finish
    dsimp only
    cases s:(e[f]?).bind (·.dst)with
    |none=>exact⟨a.fn,a.tmps,g,a.defers,a.kind,a.round,a.mode⟩
    |some d=>
     refine⟨a.fn,λb c=>?_,g,a.defers,a.kind,a.round,a.mode⟩;rcases dY c with c|rfl
     ·exact a.tmps b c
     ·exact h
  |code l=>exact a
  |inBlock _=>exact a
  |inLoop _=>exact a
  |_=>exact c.elim
theorem step_ret (k:kN P S F (⟨o,b,p,[],.returning,.normal,none⟩:Frame))(m:∀c,c∈l::e->kN P S F c)(v:ni S F f V W)(x:uG P F)(d:stepG P true (G ⟨o,b,p,[],.returning,.normal,none⟩ ((l::e)++w)) V=.go s a q)(y:∀j n,V.drawn<=j->j<a.drawn->V.tape j n=W.tape (W.drawn+(j-V.drawn)) n):yP P S F f ab V a W ⟨o,b,p,[],.returning,.normal,none⟩ (l::e) w M s q:=by
 have _e:=x;have⟨r,g,n,x⟩:=k.fn.1;have z:=gh (P:=P) (S:=S) (F:=F) (f:=f) r k.tmps;have t:=m l oi;have A:∀c,c∈e->kN P S F c:=λc k=>m c (by simp[k])
 cases h:(results r b).runT P V #[]with
 |mk B u=>
  cases B with
  |halt c C=>
   exfalso;simp only[G,stepG,unwind,g,h]at d;cases c<;>simp[GStep.after]at d
  |ok R C=>
   simp only[G,stepG,unwind,g,h]at d;simp[GStep.after,doReturn]at d;obtain⟨rfl,rfl,rfl⟩:=d;have⟨c,D,E,i,I,J,K,N,O⟩:=z.run v h y;obtain⟨Q,rfl⟩:=J;have i:u=E:=by simpa using i
   subst i;refine⟨_,e,D,X,FO t Q,A,?_,K,N,λc d=>O c (mE P o u c d)⟩;rw[<-TE t];simp only[ud,ll,G,jr,stepG,unwind,g];have c:=I #[];rw[c];simp[GStep.after,doReturn,sA]
theorem sG{main:Bool}(z:KL P S F)(t:uG P F){h r bs:List Frame}(b:kN P S F l)(k:∀o,o∈h->kN P S F o)(m:ni S F f V W)(A:l.mode=.returning->h≠[])(i:stepG P true (G l (h++r)) V=.go s a q)(B:∀u,s.frame.mode≠.panicking u)(p:∀j u,V.drawn<=j->j<a.drawn->V.tape j u=W.tape (W.drawn+(j-V.drawn)) u):yP P S F f main V a W l h r bs s q:=by
 have⟨M,N,v,C,w,D,round⟩:=l;have E:=b.defers;have J:=b.kind;have K:=b.round;subst E J K;rcases b.mode with g|g
 ·have g:w=.run:=g;subst g;by_cases x:∃id c d e,v=.code (.region id c d)::e
  ·obtain⟨id,c,d,e,rfl⟩:=x;exact Ku b k m i p
  ·by_cases y:∃c n e,v=.inRegion c n::e
   ·obtain⟨c,n,e,rfl⟩:=y;cases n with
    |nil=>
     simp only[G,stepG,stepG.exec,GStep.go.injEq]at i;obtain⟨rfl,rfl,rfl⟩:=i;exact eK m k ⟨b.fn,b.tmps,λr u=>b.todo r (by simp[u]),X,X,X,I X⟩ Xi
    |cons r rest=>exact Kv z t b k m i B p
   ·exact Bw b X k m i (λid c d e r=>x ⟨id,c,d,e,r⟩) (λc n e r=>y ⟨c,n,e,r⟩)
 ·have g:w=.returning:=g;subst g;cases h with
  |nil=>exact absurd X (A X)
  |cons o h=>exact step_ret b k m t i p
end
def dZ(a:World)(T:Tape)(d:Nat):World:={ a with tape:=T,drawn:=d }
def Vl(b e:World)(T:Tape)(d:Nat):Prop:=∀a c,b.drawn<=a->a<e.drawn->b.tape a c=T (d+(a-b.drawn)) c
section
variable {P:Program}{S:Nat->Prop}{F:Fx}{f:Nat->Nat}{g:Type}{R:g->g->Prop}{V a c W:World}{T:Tape}{d:Nat}
theorem DT(V:World):dZ V V.tape V.drawn=V:=rfl
theorem QT(V:World)(T a:Tape)(d b:Nat):dZ (dZ V T d) a b=dZ V a b:=rfl
theorem SR.tape{t B:Sem g}(c:SR P S F f R t B)(h:Cl S F V){p:g}(b:t.runT P V q=(.ok p a,Z))(k:Vl V a T d):t.runT P (dZ V T d) q=(.ok p (dZ a T (d+(a.drawn-V.drawn))),Z)∧a.tape=V.tape:=by
 induction t generalizing B V q d with
 |pure r=>
  simp only[Sem.runT,cK,Result.ok.injEq]at b;obtain⟨⟨rfl,rfl⟩,rfl⟩:=b;exact⟨by simp[Sem.runT],X⟩
 |load C r j i=>
  rcases c with c|⟨l,rfl,J,m,e⟩
  ·exact(c.no b).elim
  ·have⟨u,v,b⟩:=lY (h.noView m.1) b;have:=i u (e u (h.sk m.1 v)) h b k;refine⟨?_,this.2⟩;rw[sz (show(dZ V T d).cell? r=some u from v)];exact this.1
 |store C r u j i=>
  rcases c with c|⟨l,rfl,J,m,v,e⟩
  ·exact(c.no b).elim
  ·have⟨w,K,n,M,b⟩:=kU (h.noView m.1) b;have:=i e (h.setCell v) b k;refine⟨?_,this.2⟩;rw[kT w (show(dZ V T d).cell? r=some K from n) (show(dZ V T d).frozen? r=false from M)];exact this.1
 |new x j i=>
  rcases c with c|⟨l,rfl,n,e⟩
  ·exact(c.no b).elim
  ·simp only[Sem.runT]at b;have y:=h.tI _ (aa _);have:=i _ (e _ y.1 y.2) (h.push n) b k;exact⟨Xy,this.2⟩
 |shape s j i=>
  rcases c with c|⟨l,rfl,m,e⟩
  ·exact(c.no b).elim
  ·simp only[Sem.runT]at b;have:=i _ (e _ _ (h.shr s)) h b k;exact⟨Xy,this.2⟩
 |getObj s j i=>
  rcases c with c|⟨l,rfl,m,e⟩
  ·exact(c.no b).elim
  ·have⟨x,n,y,b⟩:=mS b;have⟨o',D,N⟩:=h.blk s m (aC n);rw[n]at D;cases D;have:=i _ (e _ N) h b k;refine⟨?_,this.2⟩;rw[uy (show(dZ V T d).heap[s]?=some x from n) y];exact this.1
 |choose o j i=>
  rcases c with c|⟨l,rfl,e⟩
  ·exact(c.no b).elim
  ·simp only[Sem.runT]at b;split at b
   ·rename_i A;have:=i _ (e _) h b k;exact⟨by simp only[Sem.runT,A,ek];exact this.1,this.2⟩
   ·rename_i A;have G:=SR.GQ (e _) (h.drew _) b;have G:V.drawn+1<=a.drawn:=G
    have O:V.tape V.drawn o=T d o:=by
     have:=k V.drawn o (aa _) E;simpa using this
    have:=i (d:=d+1) _ (e _) (h.drew _) b (λz o w Q=>by
     have w:V.drawn+1<=z:=w;show V.tape z o=T (d+1+(z-(V.drawn+1))) o;rw[k z o E Q]
     congr 1
     omega)
    refine⟨?_,this.2⟩;have U:d+1+(a.drawn-(V.drawn+1))=d+(a.drawn-V.drawn):=E;have I:=this.1;have W:({ V with drawn:=V.drawn+1 }:World).drawn=V.drawn+1:=rfl;rw[W,U]at I;simp only[Sem.runT,A];rw[<-I,O];rfl
 |program j i=>
  rcases c with c|⟨l,rfl,e⟩
  ·exact(c.no b).elim
  ·simp only[Sem.runT]at b;have:=i _ e h b k;exact⟨Xy,this.2⟩
 |mark C j i=>
  rcases c with c|⟨l,rfl,hb,e⟩
  ·exact(c.no b).elim
  ·simp only[Sem.runT]at b;have:=i e h b k;exact⟨Xy,this.2⟩
 |freeze p Y j _=>exact(dM.no (s:=.freeze p Y j) c b).elim
 |frozen p j _=>exact(dM.no (s:=.frozen p j) c b).elim
 |setObj s x j _=>exact(dM.no (s:=.setObj s x j) c b).elim
 |sys j k2 _=>exact(dM.no (s:=.sys j k2) c b).elim
 |halt r=>simp[Sem.runT]at b
theorem NT(a:vH S F y):OX id y=y:=by
 cases y with
 |cells b c d=>
  show Obj.cells (b.map (bI id)) c d=_
  congr 1
  exact(bf λb c=>kK (a b c)).trans (jc _)
 |number e f=>rfl
 |_=>exact a.elim
theorem ni.refl(c:Cl S F V):ni S F id V V:=by
 refine⟨c,λa g d b=>?_,λ_ _ _ _ h=>h,λa d=>by show a=_;omega⟩;have⟨h,e,f⟩:=c.blk a d (aC b);rw[b]at e;cases e;exact⟨g,b,by have:=vO (f:=id) f a;rwa [NT f]at this⟩
def K9(P:Program)(T:Tape)(d:Nat)(V c:World)(a b:Goroutine)(e:Array Event):Prop:=
 stepG P true a (dZ V T d)=.go b (dZ c T (d+(c.drawn-V.drawn))) e∧c.tape=V.tape∧V.drawn<=c.drawn
theorem il(a:stepG P true s (dZ V T d)=.go ar (dZ V T d)):K9 P T d V V s ar #[]:=⟨by rw[fN];exact a,X,aa _⟩
theorem D8(i:kN P S F l)(t:l.mode=.run)(a:stepG P true (G l e) V=.go s c q)(u:∀id f b,l.todo≠.code (.region id f true)::b)(v:∀f k g b,l.todo≠.inRegion f (k::g)::b):K9 P T d V c (G l e) s q:=by
 have⟨w,x,y,z,A,B,round⟩:=l;have C:A=.run:=t;have D:=i.defers;have E:=i.kind;have I:=i.round;subst C D E I;have J:=i.todo;cases y with
 |nil=>
  simp only[G,stepG,stepG.exec]at a;obtain⟨rfl,rfl,rfl⟩:=a;exact il Xg
 |cons o b=>
  have p:=J o oi;cases o with
  |code j=>
   cases j with
   |ret=>
    simp only[G,stepG,stepG.exec]at a;obtain⟨rfl,rfl,rfl⟩:=a;exact il Xg
   |skip|seq r h|block id h|loop h=>
    simp only[G,stepG,stepG.exec,GStep.go.injEq]at a;obtain⟨rfl,rfl,rfl⟩:=a;exact il Xg
   |region id f d=>
    cases d with
    |true=>exact absurd X (u id f b)
    |false=>
     simp only[G,stepG,stepG.exec,rv,ek,GStep.go.injEq]at a;obtain⟨rfl,rfl,rfl⟩:=a;exact il Xg
   |cond j r h=>
    simp only[G,stepG,stepG.exec]at a;cases m:(Frame.eval ⟨w,x,.code (.cond j r h)::b,[],.run,.normal,none⟩ j)with
    |bool K=>
     rw[m]at a;simp only[GStep.go.injEq]at a;obtain⟨rfl,rfl,rfl⟩:=a;exact il (by simp[G,stepG,stepG.exec,m])
    |_=>rw[m]at a;cases a
   |exit id=>
    simp only[G,stepG,stepG.exec]at a;cases n:exitTo id b with
    |none=>rw[n]at a;cases a
    |some M=>
     rw[n]at a;simp only[uZ,GStep.go.injEq]at a;obtain⟨rfl,rfl,rfl⟩:=a;exact il (by simp[G,stepG,stepG.exec,n])
   |_=>exact p.elim
  |inBlock id=>
   simp only[G,stepG,stepG.exec,GStep.go.injEq]at a;obtain⟨rfl,rfl,rfl⟩:=a;exact il Xg
  |inLoop h=>
   simp only[G,stepG,stepG.exec,GStep.go.injEq]at a;obtain⟨rfl,rfl,rfl⟩:=a;exact il Xg
  |inRegion f g=>
   cases g with
   |nil=>
    simp only[G,stepG,stepG.exec,GStep.go.injEq]at a;obtain⟨rfl,rfl,rfl⟩:=a;exact il Xg
   |cons k g=>exact absurd X (v f k g b)
  |_=>exact p.elim
theorem Oz(E:KL P S F)(I:uG P F)(B:kN P S F (⟨o,b,.inRegion m (k::r)::p,[],.run,.normal,none⟩:Frame))(l:Cl S F V)(f:stepG P true (G ⟨o,b,.inRegion m (k::r)::p,[],.run,.normal,none⟩ e) V=.go s c q)(J:∀z,s.frame.mode≠.panicking z)(y:Vl V c T d):K9 P T d V c (G ⟨o,b,.inRegion m (k::r)::p,[],.run,.normal,none⟩ e) s q:=by
 by_cases u:(Option.map (λh=>Region.wanted h (yielded m b)) m[k]?).getD false=true
 ·cases v:m[k]? with
  |none=>rw[v]at u;cases u
  |some n=>
   have w:Region.wanted n (yielded m b)=true:=by rw[v]at u;exact u
   have x:∀(z:World),stepG P true (G ⟨o,b,.inRegion m (k::r)::p,[],.run,.normal,none⟩ e) z=stepG.apply P true ⟨o,b,.inRegion m (k::r)::p,[],.run,.normal,none⟩ e none (execOp (Frame.eval ⟨o,b,.inRegion m (k::r)::p,[],.run,.normal,none⟩) n) z:=by
    intro z;simp[G,stepG,stepG.exec,stepG.oper,Frame.oper?,v,w]
   rw[x]at f;have z:=B.todo (.inRegion m (k::r)) oi n (bh v);have t:=qz (P:=P) (S:=S) (F:=F) (f:=id) E I.enter (ev:=Frame.eval ⟨o,b,.inRegion m (k::r)::p,[],.run,.normal,none⟩) (ev':=(jr id ⟨o,b,.inRegion m (k::r)::p,[],.run,.normal,none⟩).eval) (λh v=>ot B.tmps h v) (λC=>rfl) (o:=n) z;unfold stepG.apply at f;cases i:(execOp (Frame.eval ⟨o,b,.inRegion m (k::r)::p,[],.run,.normal,none⟩) n).runT P V #[]with
   |mk K O=>
    rw[i]at f;cases K with
    |halt h a=>
     have D:=t.CH l i;cases h with
     |panic C=>
      simp[GStep.after]at f;obtain⟨rfl,_,_⟩:=f;exact absurd X (J _)
     |stuck Q=>simp[GStep.after]at f
     |unsupported M=>cases M<;>first|(simp[GStep.after]at f;done)|exact absurd rfl (D _)
     |_=>exact D.elim
    |ok N a=>
     have A:=t.GQ l i;cases N with
     |value C=>
      simp[GStep.after]at f;obtain⟨rfl,rfl,rfl⟩:=f;have g:=t.tape l i y;refine⟨?_,g.2,A⟩;rw[x];unfold stepG.apply;rw[g.1];simp[GStep.after]
     |skip=>
      simp[GStep.after]at f;obtain⟨rfl,rfl,rfl⟩:=f;have g:=t.tape l i y;refine⟨?_,g.2,A⟩;rw[x];unfold stepG.apply;rw[g.1];simp[GStep.after]
     |enter R args=>
      simp[GStep.after]at f;obtain⟨rfl,rfl,rfl⟩:=f;have g:=t.tape l i y;refine⟨?_,g.2,A⟩;rw[x];unfold stepG.apply;rw[g.1];simp[GStep.after]
     |_=>
      exfalso;have⟨v,x,y,z,g,n,A,B,C⟩:=t.run (V':=a) (W:=V) (ni.refl l) i (λj D E g=>XD);exact n.elim
 ·have w:(Option.map (λh=>Region.wanted h (yielded m b)) m[k]?).getD false=false:=by simpa using u
  simp[G,stepG,stepG.exec,w]at f;obtain⟨rfl,rfl,rfl⟩:=f;exact il (by simp[G,stepG,stepG.exec,w])
theorem Rj(B:KL P S F)(C:uG P F)(h:kN P S F l)(m:Cl S F V)(j:l.mode=.returning->e≠[])(b:stepG P true (G l (e++w)) V=.go s c q)(D:∀x,s.frame.mode≠.panicking x)(n:Vl V c T d):K9 P T d V c (G l (e++w)) s q:=by
 have⟨o,E,t,I,u,J,round⟩:=l;have K:=h.defers;have M:=h.kind;have N:=h.round;subst K M N;rcases h.mode with i|i
 ·have i:u=.run:=i;subst i;by_cases v:∃id f g,t=.code (.region id f true)::g
  ·obtain⟨id,f,g,rfl⟩:=v;simp[G,stepG,stepG.exec,choose,Sem.run,Question.forced,Question.cut]at b;obtain⟨rfl,rfl,rfl⟩:=b
   have x:V.tape V.drawn (.order o id)=T d (.order o id):=by
    have:=n V.drawn (.order o id) (aa _) (by show V.drawn<V.drawn+1;omega);simpa using this
   refine⟨?_,X,by show V.drawn<=V.drawn+1;omega⟩
   first
   |(simp[G,stepG,stepG.exec,choose,Sem.run,Question.forced,Question.cut,dZ,x];done)
   |(simp[G,stepG,stepG.exec,choose,Sem.run,Question.forced,Question.cut,dZ,x];exact⟨rfl,rfl,rfl⟩)
  ·by_cases y:∃f k p g,t=.inRegion f (k::p)::g
   ·obtain⟨f,k,rest,g,rfl⟩:=y;exact Oz B C h m b D n
   ·exact D8 h X b (λid f g o=>v ⟨id,f,g,o⟩) (λf k p g o=>y ⟨f,k,p,g,o⟩)
 ·have i:u=.returning:=i;subst i;cases e with
  |nil=>exact absurd X (j X)
  |cons R e=>
   have⟨z,r,f,g⟩:=h.fn.1;have A:=gh (P:=P) (S:=S) (F:=F) (f:=id) z h.tmps;cases j:(results z E).runT P V #[]with
   |mk O U=>
    cases O with
    |halt Q a=>
     exfalso;simp only[G,stepG,unwind,r,j]at b;cases Q<;>simp[GStep.after]at b
    |ok W a=>
     simp only[G,stepG,unwind,r,j]at b;simp[GStep.after,doReturn]at b;obtain⟨rfl,rfl,rfl⟩:=b;have b:=A.tape m j n;refine⟨?_,b.2,A.GQ m j⟩;simp only[ll,G,stepG,unwind,r];rw[b.1];simp[GStep.after,doReturn]
end
def qB(b:Nat->Prop)(e:Fx)(c:World):Prop:=∀a,b a->a<c.heap.size->∃d,c.heap[a]?=some d∧vH b e d
def gG(b:Nat->Prop)(c d:Nat)(a:Nat):Prop:=b a∨(c<=a∧a<d)
def n9(b:Nat->Prop)(c:Nat)(a:Nat):Prop:=b a∨c<=a
section
variable {P:Program}{S a:Nat->Prop}{F:Fx}{f:Nat->Nat}{i:Type}{R n:i->i->Prop}{V c g W:World}
theorem vH.mono(c:∀d,S d->a d)(b:vH S F y):vH a F y:=by
 cases y with
 |cells g h i=>exact λe f=>bG.mono c (b e f)
 |number j k=>exact⟨c _ b.1,b.2⟩
 |_=>exact b.elim
theorem qB.setCell(f:qB S F V){v:Value}(g:bG S F v):qB S F (V.setCell U v):=by
 intro c h d;rw[size_setCell]at d;have⟨i,j,b⟩:=f c h d;rw[heap_setCell];by_cases d:c=U.block
 ·rw[ai d,j];refine⟨_,X,?_⟩;cases i with
  |cells k l m=>
   intro e a;split at a
   ·exact b e a
   ·rcases dY a with a|rfl
    ·exact b e a
    ·exact g
  |number U n=>exact b
  |_=>exact b.elim
 ·grind
theorem qB.push(c:qB S F V)(e:vH S F y):qB S F { V with heap:=V.heap.push y }:=by
 intro a d b;rw[cv];split
 ·grind
 ·have b:a<(V.heap.push y).size:=b;rw[cZ]at b;exact c a d E
theorem qB.cell(c:qB S F V)(d:S U.block)(e:V.cell? U=some j):bG S F j:=by
 have⟨h,i,k,a,_,f⟩:=fS e;have⟨e,b,g⟩:=c _ d (aC a);rw[a]at b;cases b;exact g j (bh f)
theorem SR.UM{a b:Sem i}(d:SR P S F id R a b)(e:Cl S F V){f:i}(g:a.runT P V q=(.ok f c,Z)):V.heap.size<=c.heap.size:=by
 have⟨_,_,_,_,_,_,_,a,_⟩:=d.run (ni.refl e) g (λj b f h=>XD);exact a.le
theorem SR.tight{z G I:Sem i}(d:SR P a F id n z I)(h:Cl a F V)(e:SR P S F f R z G)(m:qB S F V){t:i}(b:z.runT P V q=(.ok t c,Z))(u:∀o,V.heap.size<=o->o<c.heap.size->S o):(∃C,R t C)∧qB S F c:=by
 induction z generalizing G I V q with
 |pure D=>
  obtain⟨C,rfl,M⟩:=e;simp only[Sem.runT,cK,Result.ok.injEq]at b;obtain⟨⟨rfl,rfl⟩,_⟩:=b;exact⟨⟨C,M⟩,m⟩
 |load J D g j=>
  rcases d with d|⟨p,rfl,_,v,k⟩
  ·exact(d.no b).elim
  ·rcases e with e|⟨r,rfl,N,w,l⟩
   ·exact(e.no b).elim
   ·have⟨z,A,b⟩:=lY (h.noView v.1) b;exact j z (k z (h.sk v.1 A)) h (l z (m.cell w.1 A)) m b u
 |store J D z g j=>
  rcases d with d|⟨p,rfl,_,v,O,k⟩
  ·exact(d.no b).elim
  ·rcases e with e|⟨r,rfl,N,w,A,l⟩
   ·exact(e.no b).elim
   ·have⟨_,z,_,_,b⟩:=kU (h.noView v.1) b;exact j k (h.setCell O) l (m.setCell A) b (λo d E=>u o (by rw[size_setCell]at d;exact d) E)
 |new B g j=>
  rcases d with d|⟨p,rfl,x,k⟩
  ·exact(d.no b).elim
  ·rcases e with e|⟨r,rfl,y,l⟩
   ·exact(e.no b).elim
   ·simp only[Sem.runT]at b;have z:=h.tI _ (aa _);have A:=k _ z.1 z.2;have C:=A.UM (h.push x) b
    have C:V.heap.size+1<=c.heap.size:=by
     grind
    exact j _ A (h.push x) (l _ (u _ (aa _) C) z.2) (m.push y) b (λo d E=>u o (by have d:(V.heap.push B).size<=o:=d;rw[cZ]at d;omega) E)
 |shape s g j=>
  rcases d with d|⟨p,rfl,_,k⟩
  ·exact(d.no b).elim
  ·rcases e with e|⟨r,rfl,w,l⟩
   ·exact(e.no b).elim
   ·simp only[Sem.runT]at b;exact j _ (k _ _ (h.shr s)) h (l _ _ (h.shr s)) m b u
 |getObj s g j=>
  rcases d with d|⟨p,rfl,v,k⟩
  ·exact(d.no b).elim
  ·rcases e with e|⟨r,rfl,w,l⟩
   ·exact(e.no b).elim
   ·have⟨B,y,_,b⟩:=mS b;have⟨o,x,z⟩:=h.blk s v (aC y);have⟨o,K,v⟩:=m s w (aC y);rw[y]at x K;cases x;cases K;grind
 |choose U g j=>
  rcases d with d|⟨p,rfl,k⟩
  ·exact(d.no b).elim
  ·rcases e with e|⟨r,rfl,l⟩
   ·exact(e.no b).elim
   ·simp only[Sem.runT]at b;split at b
    ·grind
    ·exact j (V:={ V with drawn:=V.drawn+1 }) _ (k _) (h.drew _) (l _) m b u
 |program g j=>
  rcases d with d|⟨p,rfl,k⟩
  ·exact(d.no b).elim
  ·rcases e with e|⟨r,rfl,l⟩
   ·exact(e.no b).elim
   ·simp only[Sem.runT]at b;grind
 |mark J g j=>
  rcases d with d|⟨p,rfl,_,k⟩
  ·exact(d.no b).elim
  ·rcases e with e|⟨r,rfl,_,l⟩
   ·exact(e.no b).elim
   ·simp only[Sem.runT]at b;grind
 |freeze t Q g _=>exact(dM.no (s:=.freeze t Q g) e b).elim
 |frozen t g _=>exact(dM.no (s:=.frozen t g) e b).elim
 |setObj s B g _=>exact(dM.no (s:=.setObj s B g) e b).elim
 |sys g T _=>exact(dM.no (s:=.sys g T) e b).elim
 |halt D=>simp[Sem.runT]at b
theorem kN.mono(d:∀c,S c->a c)(b:kN P S F l):kN P a F l:=⟨b.fn,λe f=>bG.mono d (b.tmps e f),b.todo,b.defers,b.kind,b.round,b.mode⟩
def VG(P:Program)(S:Nat->Prop)(F:Fx)(d:List Frame)(g:World)(e:Goroutine):Prop:=∃(a:Frame) (b:List Frame),e=G a (b++d)∧kN P S F a∧(∀c,c∈b->kN P S F c)∧qB S F g
theorem AN(f:kN P S F l)(B:l.mode=.run)(c:stepG P true (G l (e++w)) V=.go s g q)(C:∀k h m j,l.todo≠.inRegion k (h::m)::j):∃r,s=G r (e++w)∧kN P S F r∧g.heap=V.heap:=by
 have⟨D,E,K,M,N,O,round⟩:=l;have Q:N=.run:=B;have R:=f.defers;have T:=f.kind;have U:=f.round;subst Q R T U;have x:=f.todo;cases K with
 |nil=>
  simp only[G,stepG,stepG.exec]at c;obtain⟨rfl,rfl,rfl⟩:=c;exact⟨_,X,⟨f.fn,f.tmps,f.todo,X,X,X,J X⟩,X⟩
 |cons y j=>
  have i:=x y oi;have o:∀h,h∈j->Gx P F h:=λh r=>x h (by simp[r])
  have p:∀ {a b:Item},Gx P F a->Gx P F b->∀h,h∈a::b::j->Gx P F h:=by
   intro a b x t h r;grind
  have u:∀ {a:Item},Gx P F a->∀h,h∈a::j->Gx P F h:=by
   intro a x h r;grind
  cases y with
  |code n=>
   cases n with
   |ret=>
    simp only[G,stepG,stepG.exec]at c;obtain⟨rfl,rfl,rfl⟩:=c;exact⟨_,X,⟨f.fn,f.tmps,f.todo,X,X,X,J X⟩,X⟩
   |skip=>
    simp only[G,stepG,stepG.exec,GStep.go.injEq]at c;obtain⟨rfl,rfl,rfl⟩:=c;exact⟨_,X,⟨f.fn,f.tmps,o,X,X,X,I X⟩,X⟩
   |seq a b=>
    simp only[G,stepG,stepG.exec,GStep.go.injEq]at c;obtain⟨rfl,rfl,rfl⟩:=c;exact⟨_,X,⟨f.fn,f.tmps,p (a:=.code a) (b:=.code b) i.1 i.2,X,X,X,I X⟩,X⟩
   |block id b=>
    simp only[G,stepG,stepG.exec,GStep.go.injEq]at c;obtain⟨rfl,rfl,rfl⟩:=c;exact⟨_,X,⟨f.fn,f.tmps,p (a:=.code b) (b:=.inBlock id) i trivial,X,X,X,I X⟩,X⟩
   |loop b=>
    simp only[G,stepG,stepG.exec,GStep.go.injEq]at c;obtain⟨rfl,rfl,rfl⟩:=c;exact⟨_,X,⟨f.fn,f.tmps,p (a:=.code b) (b:=.inLoop b) i i,X,X,X,I X⟩,X⟩
   |region id k d=>
    cases d with
    |false=>
     simp only[G,stepG,stepG.exec,rv,ek,GStep.go.injEq]at c;obtain⟨rfl,rfl,rfl⟩:=c;exact⟨_,X,⟨f.fn,f.tmps,u (a:=.inRegion k (List.range k.size)) i,X,X,X,I X⟩,X⟩
    |true=>
     simp[G,stepG,stepG.exec,choose,Sem.run,Question.forced,Question.cut]at c;obtain⟨rfl,rfl,rfl⟩:=c;exact⟨_,X,⟨f.fn,f.tmps,u (a:=.inRegion k _) i,X,X,X,I X⟩,X⟩
   |cond n a b=>
    have z:mP F n∧uT P F a∧uT P F b:=i;simp only[G,stepG,stepG.exec]at c;cases t:(Frame.eval ⟨D,E,.code (.cond n a b)::j,[],.run,.normal,none⟩ n)with
    |bool A=>
     rw[t]at c;simp only[GStep.go.injEq]at c;obtain⟨rfl,rfl,rfl⟩:=c;refine⟨_,X,⟨f.fn,f.tmps,u (a:=.code (if A then a else b)) ?_,X,X,X,I X⟩,X⟩;cases A
     ·exact z.2.2
     ·exact z.2.1
    |_=>rw[t]at c;cases c
   |exit id=>
    simp only[G,stepG,stepG.exec]at c;cases v:exitTo id j with
    |none=>rw[v]at c;cases c
    |some W=>
     rw[v]at c;simp only[uZ,GStep.go.injEq]at c;obtain⟨rfl,rfl,rfl⟩:=c;exact⟨_,X,⟨f.fn,f.tmps,GS id j W o v,X,X,X,I X⟩,X⟩
   |_=>exact i.elim
  |inBlock id=>
   simp only[G,stepG,stepG.exec,GStep.go.injEq]at c;obtain⟨rfl,rfl,rfl⟩:=c;exact⟨_,X,⟨f.fn,f.tmps,o,X,X,X,I X⟩,X⟩
  |inLoop b=>
   simp only[G,stepG,stepG.exec,GStep.go.injEq]at c;obtain⟨rfl,rfl,rfl⟩:=c;exact⟨_,X,⟨f.fn,f.tmps,p (a:=.code b) (b:=.inLoop b) i i,X,X,X,I X⟩,X⟩
  |inRegion k m=>
   cases m with
   |nil=>
    simp only[G,stepG,stepG.exec,GStep.go.injEq]at c;obtain⟨rfl,rfl,rfl⟩:=c;exact⟨_,X,⟨f.fn,f.tmps,o,X,X,X,I X⟩,X⟩
   |cons h m=>exact absurd X (C k h m j)
  |_=>exact i.elim
end
section
variable {P:Program}{Q:Nat->Prop}{F:Fx}{B:Nat}{V a:World}
theorem qB.of_heap{b:Nat->Prop}(c:a.heap=V.heap)(d:qB b F V):qB b F a:=by intro e;rw[c];exact d e
structure KJ(F:Fx)(B:Nat)(V:World):Prop where
 nw:∀b,B<=b->¬F.cl b
 wt:∀b,F.cl b->∃c,V.heap[b]?=some (.cells c F.wt (0,c.size))
theorem y7(d:qB (gG Q B V.heap.size) F V)(a:B<=V.heap.size)(c:KJ F B V):Cl (n9 Q B) F V:=by
 refine⟨λa e b=>?_,λa b=>⟨J E,c.nw a E⟩,c.wt⟩;have⟨c,f,g⟩:=d a (e.imp id λh=>⟨h,b⟩) b;exact⟨c,f,g.mono λb a=>a.imp id js⟩
theorem SB(e:qB (gG Q B V.heap.size) F V)(c:V.heap.size<=k):∀a,gG Q B k a->a<V.heap.size->∃b,V.heap[a]?=some b∧vH (gG Q B k) F b:=by
 intro a f d;have⟨b,g,h⟩:=e a (f.imp id λc=>⟨c.1,d⟩) d;exact⟨b,g,h.mono λd a=>a.imp id λc=>⟨c.1,E⟩⟩
theorem wY(O:KL P (n9 Q B) F)(R:uG P F)(g:B<=V.heap.size)(t:KJ F B V)(n:kN P (gG Q B V.heap.size) F l)(hc:∀h,h∈e->kN P (gG Q B V.heap.size) F h)(hb:qB (gG Q B V.heap.size) F V)(i:l.mode=.returning->e≠[])(b:stepG P true (G l (e++w)) V=.go s a q)(ar:∀o,s.frame.mode≠.panicking o):(V.heap.size<=a.heap.size∧KJ F B a)∧VG P (gG Q B a.heap.size) F w a s:=by
 have v:=y7 hb g t;have S:∀g,gG Q B V.heap.size g->n9 Q B g:=λg o=>o.imp id js
 have hi:=sG (main:=true) (bs:=w) (f:=id) (W:=V) O R (n.mono S) (λh o=>(hc h o).mono S) (ni.refl v) i b ar (λj a1 x M=>XD);have⟨_,_,_,_,_,_,_,ax,a2,_⟩:=hi;have av:=a2.le;refine⟨⟨av,t.nw,ax.cl.wt⟩,?_⟩;have ax:∀g,gG Q B V.heap.size g->gG Q B a.heap.size g:=λg o=>o.imp id λf=>⟨f.1,E⟩
 have T:∀g,V.heap.size<=g->g<a.heap.size->gG Q B a.heap.size g:=λg x M=>J ⟨E,M⟩
 have I:qB (gG Q B a.heap.size) F V:=SB hb av;have y:=n.mono ax;have z:∀h,h∈e->kN P (gG Q B a.heap.size) F h:=λh o=>(hc h o).mono ax
 have a3:KL P (gG Q B a.heap.size) F:=⟨λg o=>O.1 g (o.imp id js),O.2⟩;have⟨p,k,a4,a5,a0,a6,round⟩:=l;have e2:=n.defers;have e3:=n.kind;have e4:=n.round;subst e2 e3 e4;rcases n.mode with u|u
 ·have u:a0=.run:=u;subst u;by_cases hA:∃c d Z m,a4=.inRegion c (d::Z)::m
  ·obtain⟨c,d,rest,m,rfl⟩:=hA;by_cases t:(Option.map (λf=>Region.wanted f (yielded c k)) c[d]?).getD false=true
   ·cases U:c[d]? with
    |none=>rw[U]at t;cases t
    |some A=>
     have ab:Region.wanted A (yielded c k)=true:=by rw[U]at t;exact t
     have g:stepG P true (G ⟨p,k,.inRegion c (d::rest)::m,[],.run,.normal,none⟩ (e++w)) V=stepG.apply P true ⟨p,k,.inRegion c (d::rest)::m,[],.run,.normal,none⟩ (e++w) none (execOp (Frame.eval ⟨p,k,.inRegion c (d::rest)::m,[],.run,.normal,none⟩) A) V:=by
      simp[G,stepG,stepG.exec,stepG.oper,Frame.oper?,U,ab]
     rw[g]at b;have g:=n.todo (.inRegion c (d::rest)) oi A (bh U);have C:=qz (P:=P) (S:=n9 Q B) (F:=F) (f:=id) O R.enter (ev:=Frame.eval ⟨p,k,.inRegion c (d::rest)::m,[],.run,.normal,none⟩) (ev':=(jr id ⟨p,k,.inRegion c (d::rest)::m,[],.run,.normal,none⟩).eval) (λf r=>ot (n.mono S).tmps f r) (λW=>rfl) (o:=A) g;have N:=qz (P:=P) (S:=gG Q B a.heap.size) (F:=F) (f:=id) a3 R.enter (ev:=Frame.eval ⟨p,k,.inRegion c (d::rest)::m,[],.run,.normal,none⟩) (ev':=(jr id ⟨p,k,.inRegion c (d::rest)::m,[],.run,.normal,none⟩).eval) (λf r=>ot y.tmps f r) (λW=>rfl) (o:=A) g;unfold stepG.apply at b;cases i:(execOp (Frame.eval ⟨p,k,.inRegion c (d::rest)::m,[],.run,.normal,none⟩) A).runT P V #[]with
     |mk ad a7=>
      rw[i]at b;cases ad with
      |halt f Y=>
       have hk:=C.CH v i;cases f with
       |panic W=>
        simp[GStep.after]at b;obtain⟨rfl,_,_⟩:=b;exact absurd X (ar _)
       |stuck bb=>simp[GStep.after]at b
       |unsupported a8=>cases a8<;>first|(simp[GStep.after]at b;done)|exact absurd rfl (hk _)
       |_=>exact hk.elim
      |ok a9 Y=>
       cases a9 with
       |value W=>
        simp[GStep.after]at b;obtain⟨rfl,rfl,rfl⟩:=b;have⟨⟨a',K⟩,D⟩:=C.tight v N I i T;exact⟨_,e,X,kG y K.1,z,D⟩
       |skip=>
        simp[GStep.after]at b;obtain⟨rfl,rfl,rfl⟩:=b;have⟨_,D⟩:=C.tight v N I i T;exact⟨_,e,X,kG y (k9 _ F),z,D⟩
       |enter bc args=>
        simp[GStep.after]at b;obtain⟨rfl,rfl,rfl⟩:=b;have⟨⟨a',K⟩,D⟩:=C.tight v N I i T;refine⟨_,⟨p,k,.inRegion c (d::rest)::m,[],.run,.normal,none⟩::e,X,vZ R K.1 K.2.1,λh r=>?_,D⟩;rcases az.1 r with rfl|r
        ·exact y
        ·exact z h r
       |_=>
        exfalso;have⟨g,o,p,u,M,h3,A,O,R⟩:=C.run (V':=Y) (W:=V) (ni.refl v) i (λj a1 x M=>XD);exact h3.elim
   ·have ab:(Option.map (λf=>Region.wanted f (yielded c k)) c[d]?).getD false=false:=by simpa using t
    simp[G,stepG,stepG.exec,ab]at b;obtain⟨rfl,rfl,rfl⟩:=b;exact⟨_,e,X,kG y (k9 _ F),z,I⟩
  ·obtain⟨ba,rfl,x,ao⟩:=AN y X b (λc d Z m ao=>hA ⟨c,d,Z,m,ao⟩);exact⟨ba,e,X,x,z,I.of_heap ao⟩
 ·have u:a0=.returning:=u;subst u;cases e with
  |nil=>exact absurd X (i X)
  |cons h e=>
   have⟨fv,x,M,h3⟩:=n.fn.1;have C:=gh (P:=P) (S:=n9 Q B) (F:=F) (f:=id) fv (n.mono S).tmps;have N:=gh (P:=P) (S:=gG Q B a.heap.size) (F:=F) (f:=id) fv y.tmps;cases i:(results fv k).runT P V #[]with
   |mk ad a7=>
    cases ad with
    |halt f Y=>
     exfalso;simp only[G,stepG,unwind,x,i]at b;cases f<;>simp[GStep.after]at b
    |ok W Y=>
     simp only[G,stepG,unwind,x,i]at b;simp[GStep.after,doReturn]at b;obtain⟨rfl,rfl,rfl⟩:=b;have⟨⟨a',K⟩,D⟩:=C.tight v N I i T;exact⟨_,e,X,FO (z h oi) K.1,λf r=>z f (by simp[r]),D⟩
end
def KO(f:Program)(c:List Frame)(d:Frame->List Frame->World->Prop):Nat->Frame->List Frame->World->Prop
 |0,fr,a,b=>d fr a b
 |n+1,fr,a,b=>d fr a b∨∃e g h i,stepG f true (G fr (a++c)) b=.go (G e (g++c)) h i∧(∀j,e.mode≠.panicking j)∧KO f c d n e g h
def yV(a:Program)(b:List Frame)(c:Frame->List Frame->World->Prop)(e:Frame)(f:List Frame)(g:World):Prop:=∀T d,∃h,KO a b c h e f (dZ g T d)
structure l6(P:Program)(Q:Nat->Prop)(F:Fx)(B:Nat)(fr:Frame)(cs:List Frame)(V:World):Prop where
 fr:kN P (gG Q B V.heap.size) F fr
 cs:∀c,c∈cs->kN P (gG Q B V.heap.size) F c
 blk:qB (gG Q B V.heap.size) F V
 le:B<=V.heap.size
 cf:KJ F B V
structure uJ(P:Program)(Q:Nat->Prop)(F:Fx)(B:Nat):Prop where
 yA:KL P (n9 Q B) F
 fns:uG P F
abbrev Ux:=Frame×List Frame×World
def Sq(e:Program)(c:List Frame)(f:Frame->List Frame->World->Prop)(b a:Ux):Prop:=
 ¬f a.1 a.2.1 a.2.2∧∃T d g,stepG e true (G a.1 (a.2.1++c)) (dZ a.2.2 T d)=.go (G b.1 (b.2.1++c)) b.2.2 g∧∀h,b.1.mode≠.panicking h
section
variable {P:Program}{Q:Nat->Prop}{F:Fx}{B:Nat}{v:List Frame}{a:Frame->List Frame->World->Prop}{c f:Frame}{i t:List Frame}{V g:World}
theorem l6.dZ(a:l6 P Q F B c i V)(T:Tape)(d:Nat):l6 P Q F B c i (dZ V T d):=⟨a.fr,a.cs,a.blk,a.le,a.cf.nw,a.cf.wt⟩
theorem yO(a:G l (e++M)=G ad (w++M)):l=ad∧e=w:=by
 simp only[G,Goroutine.mk.injEq]at a
 simp_all
theorem qh(j:uJ P Q F B)(b:l6 P Q F B c i V)(a:stepG P true (G c (i++v)) V=.go (G f (t++v)) g q):c.mode=.returning->i≠[]:=by
 have _e:=j;rintro k rfl;have⟨z,l,A,m,n,o,round⟩:=c;have p:n=.returning:=k;have r:=b.fr.defers;have s:=b.fr.kind;subst p r s;have⟨u,d,j,k⟩:=b.fr.fn.1;have w:=b.fr.fn.2;cases e:(results u l).runT P V #[]with
 |mk h C=>
  cases h with
  |halt x y=>
   simp only[G,stepG,unwind,d,e]at a;cases x<;>simp[GStep.after]at a
  |ok D y=>
   simp only[G,stepG,unwind,d,e]at a;cases v with
   |nil=>simp[GStep.after,doReturn,w]at a
   |cons E h=>
    simp[GStep.after,doReturn]at a;have b:=cF List.length a.1.2;simp at b;omega
theorem l6.next(b:uJ P Q F B)(a:l6 P Q F B c i V)(d:stepG P true (G c (i++v)) V=.go (G f (t++v)) g q)(h:∀j,f.mode≠.panicking j):l6 P Q F B f t g:=by
 have⟨e,o,p,k,l,m,n⟩:=wY b.yA b.fns a.le a.cf a.fr a.cs a.blk (qh b a d) d h;obtain⟨rfl,rfl⟩:=yO k;exact⟨l,m,n,aK a.le e.1,e.2⟩
theorem l6.Vx(b:uJ P Q F B)(a:l6 P Q F B c i V)(e:stepG P true (G c (i++v)) V=.go (G f (t++v)) g q)(h:∀j,f.mode≠.panicking j){T:Tape}{d:Nat}(k:Vl V g T d):K9 P T d V g (G c (i++v)) (G f (t++v)) q:=
 Rj b.yA b.fns (a.fr.mono λ_ j=>j.imp id js) (y7 a.blk a.le a.cf) (qh b a e) e h k
theorem KO.tail(r:uJ P Q F B)(m:∀c i V T d,l6 P Q F B c i V->(a c i (Go.Proofs.YtedifobeggabnaaGreat.dZ V T d)↔a c i V)){T n:Tape}{d b:Nat}(l:l6 P Q F B c i V)(e:KO P v a k c i (dZ V T d))(s:∀j h,T (d+j) h=n (b+j) h):KO P v a k c i (dZ V n b):=by
 induction k generalizing c i V d b with
 |zero=>exact(m _ _ _ _ _ l).2 ((m _ _ _ _ _ l).1 e)
 |succ k y=>
  rcases e with e|⟨f,t,g,z,u,p,e⟩
  ·exact I ((m _ _ _ _ _ l).2 ((m _ _ _ _ _ l).1 e))
  ·have w:=l.dZ T d
   have A:=w.Vx r u p (T:=n) (d:=b) (λq h o K=>by
    have o:d<=q:=o;show T q h=n (b+(q-d)) h;rw[<-s]
    congr 1
    omega)
   have o:=w.next r u p;have⟨C,D,x⟩:=A
   have E:g=dZ g T g.drawn:=by
    have G:g.tape=T:=D;rw[<-G];rfl
   rw[E]at e;refine J ⟨f,t,_,z,C,p,y (d:=g.drawn) o e λj h=>?_⟩;have x:d<=g.drawn:=x;have:=s (g.drawn-d+j) h;rw[show d+(g.drawn-d+j)=g.drawn+j by omega]at this;rw[this]
   congr 1
   show b+(g.drawn-d+j)=b+(g.drawn-d)+j;omega
theorem yV.next(l:uJ P Q F B)(q:∀c i V T d,l6 P Q F B c i V->(a c i (Go.Proofs.YtedifobeggabnaaGreat.dZ V T d)↔a c i V))(r:l6 P Q F B c i V)(y:yV P v a c i V)(z:¬a c i V)(T:Tape)(d:Nat):∃f t g s,stepG P true (G c (i++v)) (dZ V T d)=.go (G f (t++v)) g s∧(∀I,f.mode≠.panicking I)∧l6 P Q F B f t g∧yV P v a f t g:=by
 have⟨A,m⟩:=y T d;cases A with
 |zero=>exact absurd ((q _ _ _ _ _ r).1 m) z
 |succ A=>
  rcases m with m|⟨f,t,g,s,n,o,m⟩
  ·grind
  ·have u:=r.dZ T d;have e:=u.next l n o;refine⟨f,t,g,s,n,o,e,λC D=>?_⟩;have J:=u.Vx l n o (T:=T) (d:=d) (λh b e K=>by have e:d<=h:=e;show T h b=T (d+(h-d)) b;congr 1;omega);have U:=J.2.2
   let p:Tape:=λj b=>if j<g.drawn-d then T (d+j) b else C (D+(j-(g.drawn-d))) b
   have M:=u.Vx l n o (T:=p) (d:=0) (λh b e K=>by
    have e:d<=h:=e;show T h b=(if 0+(h-d)<g.drawn-d then T (d+(0+(h-d))) b else _);rw[ai E]
    congr 1
    omega)
   have⟨w,k⟩:=y p 0;cases w with
   |zero=>exact absurd ((q _ _ _ _ _ r).1 k) z
   |succ w=>
    rcases k with k|⟨W,X,Y,Z,N,ab,k⟩
    ·grind
    ·have x:=M.1;have O:Go.Proofs.YtedifobeggabnaaGreat.dZ (Go.Proofs.YtedifobeggabnaaGreat.dZ V T d) p 0=Go.Proofs.YtedifobeggabnaaGreat.dZ V p 0:=rfl;rw[O,N]at x;simp only[GStep.go.injEq]at x;have⟨R,S,_⟩:=x;obtain⟨rfl,rfl⟩:=yO R;subst S;refine⟨w,KO.tail l q e k λj b=>?_⟩;show(if 0+(g.drawn-d)+j<g.drawn-d then _ else C (D+(0+(g.drawn-d)+j-(g.drawn-d))) b)=_;grind
theorem PI{c:C->C->Prop}{e:C}(g:¬Acc c e):∃d:Nat->C,d 0=e∧∀b,c (d (b+1)) (d b):=by
 have f:∀a:{ a:C // ¬Acc c a },∃y:{ a:C // ¬Acc c a },c y.1 a.1:=by
  rintro⟨a,h⟩;apply bK;intro i;exact h (Acc.intro a λy j=>bK λk=>i ⟨⟨y,k⟩,j⟩)
 let d:Nat->{ a:C // ¬Acc c a }:=λb=>Nat.rec ⟨e,g⟩ (λ_ a=>Classical.choose (f a)) b
 exact⟨λb=>(d b).1,X,λb=>dH (f (d b))⟩
def m4(a:Nat->Nat):Nat->Nat
 |0=>0
 |n+1=>m4 a n+a n
theorem z6(a:Nat->Nat)(b:k<=ao):m4 a k<=m4 a ao:=by
 induction ao with
 |zero=>cases Nat.le_zero.1 b;exact aa _
 |succ ao c=>
  rcases aR k (ao+1)with a|a
  ·exact aK (c E) (uX _ _)
  ·grind
theorem yV.acc(D:uJ P Q F B)(E:∀c i V T d,l6 P Q F B c i V->(a c i (Go.Proofs.YtedifobeggabnaaGreat.dZ V T d)↔a c i V))(N:l6 P Q F B c i V)(O:yV P v a c i V):Acc (Sq P v a) (c,i,V):=by
 apply bK;intro R;have⟨e,I,x⟩:=PI R
 have z:∀b,l6 P Q F B (e b).1 (e b).2.1 (e b).2.2:=by
  intro b;induction b with
  |zero=>rw[I];exact N
  |succ b A=>
   have⟨_,T,d,n,q,s⟩:=x b;exact(A.dZ T d).next D q s
 have J:∀b,∃K:Tape×Nat,∃n,stepG P true (G (e b).1 ((e b).2.1++v)) (Go.Proofs.YtedifobeggabnaaGreat.dZ (e b).2.2 K.1 K.2)=.go (G (e (b+1)).1 ((e (b+1)).2.1++v)) (e (b+1)).2.2 n∧∀C,(e (b+1)).1.mode ≠.panicking C:=by
  intro b;have⟨_,T,d,n,q,s⟩:=x b;exact⟨(T,d),n,q,s⟩
 let k:Nat->Tape×Nat:=λb=>Classical.choose (J b)
 have S:∀b,∃n,stepG P true (G (e b).1 ((e b).2.1++v)) (Go.Proofs.YtedifobeggabnaaGreat.dZ (e b).2.2 (k b).1 (k b).2)=.go (G (e (b+1)).1 ((e (b+1)).2.1++v)) (e (b+1)).2.2 n∧∀C,(e (b+1)).1.mode ≠.panicking C:=λb=>dH (J b)
 let h:Nat->Nat:=λb=>(e (b+1)).2.2.drawn-(k b).2
 let r:Tape:=λj o=>open Classical in if p:∃b,m4 h b<=j∧j<m4 h (b+1)then(k (Classical.choose p)).1 ((k (Classical.choose p)).2+(j-m4 h (Classical.choose p))) o else 0
 have U:∀b l o,l<h b->r (m4 h b+l) o=(k b).1 ((k b).2+l) o:=by
  intro b l o hi;have p:∃u,m4 h u<=m4 h b+l∧m4 h b+l<m4 h (u+1):=⟨b,uX _ _,by show _<m4 h b+h b;omega⟩;have W:=dH p
  have X:Classical.choose p=b:=by
   generalize Classical.choose p=u at W;rcases cJ u b with m|m|m
   ·have:=z6 h (show u+1<=b from m);omega
   ·exact m
   ·have:=z6 h (show b+1<=u from m);have y:m4 h (b+1)=m4 h b+h b:=rfl;omega
  refine Eq.trans (dif_pos p) ?_;rw[X,show m4 h b+l-m4 h b=l by omega]
 have Y:∀b,∃n,stepG P true (G (e b).1 ((e b).2.1++v)) (Go.Proofs.YtedifobeggabnaaGreat.dZ (e b).2.2 r (m4 h b))=.go (G (e (b+1)).1 ((e (b+1)).2.1++v)) (Go.Proofs.YtedifobeggabnaaGreat.dZ (e (b+1)).2.2 r (m4 h (b+1))) n:=by
  intro b;have⟨n,q,s⟩:=S b
  have:=((z b).dZ (k b).1 (k b).2).Vx D q s (T:=r) (d:=m4 h b) (λl o M h2=>by
   have M:(k b).2<=l:=M;show(k b).1 l o=r (m4 h b+(l-(k b).2)) o;rw[U b _ o (by show _<(e (b+1)).2.2.drawn-(k b).2;omega),show(k b).2+(l-(k b).2)=l by omega])
  exact⟨n,this.1⟩
 have Z:∀w b,¬KO P v a w (e b).1 (e b).2.1 (Go.Proofs.YtedifobeggabnaaGreat.dZ (e b).2.2 r (m4 h b)):=by
  intro w;induction w with
  |zero=>intro b m;exact(x b).1 ((E _ _ _ _ _ (z b)).1 m)
  |succ w A=>
   intro b m;rcases m with m|⟨f,t,g,n,q,s,m⟩
   ·exact(x b).1 ((E _ _ _ _ _ (z b)).1 m)
   ·have⟨ab,y⟩:=Y b;rw[q]at y;simp only[GStep.go.injEq]at y;have⟨e1,e2,_⟩:=y;obtain⟨rfl,rfl⟩:=yO e1;subst e2;exact A (b+1) m
 have⟨w,hN⟩:=O r 0;refine Z w 0 ?_;rw[I];exact hN
