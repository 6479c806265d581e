/- Texts of ours, one behind the other: ZL3. -/
import Derived.Test.YtedifobeggabnaaGreatCbZD2
import Derived.Test.YtedifobeggabnaaGreatCbZI5
namespace Go.Proofs.YtedifobeggabnaaGreat
open Tryz
variable {c:List (Nat×Nat×Nat)}{a e b:Nat}
section
variable {P:Program}{F F':Fx}
theorem mP.lift(d:∀a,F.fn a->F'.fn a){b:Operand}(c:mP F b):mP F' b:=by
 cases b with
 |func a=>exact d a c
 |_=>exact c
theorem GA.lift(b:∀f,F.fn f->F'.fn f){e:Op}(a:GA P F e):GA P F' e:=by
 cases e with
 |move d|assign d|box _ d|load _ d|nilCheck d|extract d _=>exact mP.lift b a
 |fieldAddr g d _=>exact⟨a.1,mP.lift b a.2⟩
 |pick c j l=>exact⟨a.1.lift b,a.2.1.lift b,a.2.2.lift b⟩
 |alloc g=>exact a
 |build g parts=>exact⟨a.1,λh i=>(a.2 h i).lift b⟩
 |buildSlice g _ parts=>exact⟨a.1,λh i=>(a.2 h i).lift b⟩
 |store _ j d=>exact⟨a.1.lift b,a.2.lift b⟩
 |binOp k g d y _=>exact⟨a.1.lift b,a.2.1.lift b,a.2.2⟩
 |unOp k _ d=>exact⟨a.1,a.2.lift b⟩
 |makeFunc fn first captured=>
  obtain⟨⟨f,e,j⟩,i,k⟩:=a;exact⟨⟨f,e,b f j⟩,i,λd h=>(k d h).lift b⟩
 |makeSlice g m c=>exact⟨a.1,a.2.1.lift b,a.2.2.lift b⟩
 |slice _ d n o p=>exact⟨a.1.lift b,λy e=>(a.2.1 y e).lift b,λy e=>(a.2.2.1 y e).lift b,λy e=>(a.2.2.2 y e).lift b⟩
 |indexAddr _ d q=>exact⟨a.1.lift b,a.2.lift b⟩
 |call c=>
  refine⟨λd h=>(a.1 d h).lift b,?_⟩;rcases a.2 with⟨d,e,h⟩|i
  ·exact I ⟨d,e,h.lift b⟩
  ·exact J i
 |_=>exact a.elim
theorem uT.lift(g:∀h,F.fn h->F'.fn h){c:Code}:uT P F c->uT P F' c:=by
 induction c with
 |skip|exit _|ret=>intro _;trivial
 |region id ops d=>intro a i j;exact GA.lift g (a i j)
 |seq k l b e=>intro a;exact⟨b a.1,e a.2⟩
 |cond c k l b e=>intro a;exact⟨a.1.lift g,b a.2.1,e a.2.2⟩
 |block id c f=>intro a;exact f a
 |loop c f=>intro a;exact f a
 |_=>intro a;exact a.elim
theorem uG.lift(e:uG P F)(d:∀a,F.fn a↔F'.fn a):uG P F':=
 ⟨λa b=>e.enter a ((d a).2 b),λa f c b g h=>(e.body a f c ((d a).2 b) g h).lift λa b=>(d a).1 b,λa b=>e.init a ((d a).2 b)⟩
end
def j8:TypeId:=1000000
theorem BG:prog.info? j8=none:=by kernel_rfl
def dX(a:List (Nat×Nat×Nat))(b:Nat):Option (Nat×Nat):=(a.find? λc=>c.1==b).map (·.2)
def SO(a:List (Nat×Nat×Nat)):Fx:=KU (λb=>mB Sd b=true) j8 (dX a)
theorem PQ(a:List (Nat×Nat×Nat)):uG prog (SO a):=T1.lift λ_=>dt
theorem sL(g:dX c a=some (e,b)):(a,e,b)∈c:=by
 unfold dX at g;obtain⟨i,h,d⟩:=cE.1 g;have f:=List.find?_some h;obtain⟨j,k⟩:=i;have f:j=a:=by simpa using f
 have d:k=(e,b):=d;subst f d;exact List.mem_of_find?_eq_some h
theorem OO(g:(a,e,b)∈c)(h:∀d,d∈c->d.1=a->d.2=(e,b)):dX c a=some (e,b):=by
 unfold dX;cases f:c.find? λd=>d.1==a with
 |none=>
  have:=List.find?_eq_none.1 f _ g;simp at this
 |some d=>
  have g:=List.find?_some f;rw[Option.map_some,h d (List.mem_of_find?_eq_some f) (by simpa using g)]
theorem iZ:(dX c a).isSome=true↔∃b d,(a,b,d)∈c:=by
 refine⟨λe=>?_,λ⟨b,d,e⟩=>?_⟩
 ·obtain⟨⟨b,d⟩,f⟩:=di.1 e;exact⟨b,d,sL f⟩
 ·unfold dX;rw[Option.isSome_map,List.find?_isSome];exact⟨_,e,oi⟩
def xq(a:Value)(b:Nat):List (Nat×Nat×Nat):=match a.ownBlock with
 |some c=>[(c,0,b)]
 |none=>[]
section
variable {W i:World}{f:Nat}{t:TypeId}{d n:Nat}{v:Value}{g:List Value}
theorem A5(j:W.ownsRow f t d v n g)(i:(a,e,b)∈xq v (n*d)):f<=a∧e=0∧b=n*d∧∃c,W.heap[a]?=some (.cells c t)∧b<=c.size∧∀h,h<b->c.getD h undef∈g:=by
 obtain⟨q,⟨rfl,rfl⟩|⟨r,k,c,rfl,l,m,o,s,u,p⟩⟩:=j
 ·simp[xq,Value.ownBlock]at i
 ·simp only[xq,Value.ownBlock,fJ,cK]at i;obtain⟨rfl,rfl,rfl⟩:=i;have i:n*d<=k*d:=BI _ o;refine⟨l,X,X,c,m,E,λh b=>?_⟩;rw[<-p];have i:h<c.size:=E;have j:c.getD h undef=c.toList[h]'(by simpa using i):=by simp[i]
  rw[j];exact List.mem_iff_getElem?.2 ⟨h,by rw[dL,ai b];exact aE _⟩
theorem kj(a:W.ownsRow f t d v n g)(j:∀b c t,f<=b->W.heap[b]?=some (.cells c t)->i.heap[b]?=some (.cells c t)):i.ownsRow f t d v n g:=by
 obtain⟨e,a|⟨k,l,m,rfl,h,o,p⟩⟩:=a
 ·exact⟨e,I a⟩
 ·exact⟨e,J ⟨k,l,m,X,h,j _ _ _ h o,p⟩⟩
theorem p8(h:W.ownsRow f t d v n g)(p:0<n):∃b a,v=.slice (some ⟨b,0,none⟩) n a∧f<=b∧n<=a∧a<=maxLen∧(∀e,xq v e=[(b,0,e)])∧∀c,c<n*d->W.cell? ⟨b,c,none⟩=g[c]?:=by
 obtain⟨q,⟨rfl,rfl⟩|⟨i,a,r,rfl,j,k,l,m,s,o⟩⟩:=h
 ·omega
 ·refine⟨i,a,X,j,l,m,λe=>rfl,λc b=>?_⟩;rw[<-o,dL,ai b];simp[World.cell?,k]
