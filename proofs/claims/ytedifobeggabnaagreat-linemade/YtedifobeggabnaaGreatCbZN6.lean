/- Texts of ours, one behind the other: ZN6. -/
import Derived.Test.YtedifobeggabnaaGreatCbZI0
namespace Go.Proofs.YtedifobeggabnaaGreat
open Tryz
open Go.RowKit Go.Sort
variable {d:Value}{c:List (Nat×Nat×Int)}{b e:World}
theorem PV:(prog.info? 47).map (λa=>(a.zero,a.size,a.bytes))=some (some (.agg #[.int .i64 0,.int .i64 0,.int .i64 0]),3,24):=wL
def Ho(b:List (Nat×Nat×Int)):List Value:=b.flatMap λa=>[.int .i64 (a.1:Nat),.int .i64 (a.2.1:Nat),.int .i64 a.2.2]
theorem vg:∀(b:List (Nat×Nat×Int)) (a:Nat),a<b.length->(Ho b)[a*3]?=some (.int .i64 ((b.getD a (0,0,0)).1:Nat))∧(Ho b)[a*3+1]?=some (.int .i64 ((b.getD a (0,0,0)).2.1:Nat))∧(Ho b)[a*3+2]?=some (.int .i64 (b.getD a (0,0,0)).2.2)
 |[],a,c=>absurd c oi
 |x::b,0,_=>⟨X,X,X⟩
 |x::b,a+1,c=>by
  have:=vg b a (by rw[jw]at c;omega);show(Value.int .i64 (x.1:Nat)::Value.int .i64 (x.2.1:Nat)::Value.int .i64 x.2.2::Ho b)[(a+1)*3]?=_∧(Value.int .i64 (x.1:Nat)::Value.int .i64 (x.2.1:Nat)::Value.int .i64 x.2.2::Ho b)[(a+1)*3+1]?=_∧(Value.int .i64 (x.1:Nat)::Value.int .i64 (x.2.1:Nat)::Value.int .i64 x.2.2::Ho b)[(a+1)*3+2]?=_;rw[show(a+1)*3=a*3+1+1+1 from E]
  iterate 9 rw[List.getElem?_cons_succ]
  exact this
theorem QE(a b:List (Nat×Nat×Int)):Ho (a++b)=Ho a++Ho b:=by
 unfold Ho;rw[List.flatMap_append]
def ml(b:Nat)(c:Value)(a:List (Nat×Nat×Int))(d:World):Prop:=d.ownsRow b 47 3 c a.length (Ho a)
theorem ml.nil(a:Nat)(b:World):ml a (.slice none 0 0) [] b:=World.ownsRow_nil _ _ _ _
theorem ml.below{a B:Nat}(f:ml a d c b)(h:Below B b e)(i:b.heap.size<=B):ml a d c e:=by
 obtain⟨g,a⟩:=f;refine⟨g,?_⟩;rcases a with a|⟨f,j,k,l,m,g,n⟩
 ·exact I a
 ·exact J ⟨f,j,k,l,m,by rw[h.block f (aj (X7 g) i)];exact g,n⟩
def Hh(a:List (Nat×Nat×Int))(b:Nat):Nat:=(a.getD b (0,0,0)).1
def Hm(a:List (Nat×Nat×Int))(b:Nat):Nat:=(a.getD b (0,0,0)).2.1
def A1(a:List (Nat×Nat×Int))(b:Nat):Int:=(a.getD b (0,0,0)).2.2
theorem ml.Wy{e:Nat}(h:ml e d c b):∃a f,d=.slice a c.length f∧Eg a c.length (Hh c) (Hm c) (A1 c) b:=by
 rcases h.2 with⟨e,k⟩|⟨g,f,l,m,a,i,o,p,q,n⟩
 ·exact⟨none,0,by rw[e,k],λj a=>absurd a E⟩
 ·have h:∀j e,j<c.length->e<3->b.cell? ⟨g,0+j*3+e,none⟩=(Ho c)[j*3+e]?:=λj e a k=>by
   rw[aW,YB b g (j*3+e) l 47 (0,0) i, <-cU, <-n,dL,ai E]
  exact⟨_,f,m,λj a=>⟨g,0,X,X7 i,(h j 0 a E).trans (vg c j a).1,(h j 1 a E).trans (vg c j a).2.1,(h j 2 a E).trans (vg c j a).2.2⟩⟩
theorem IF{o:Array Oper}{rest:List Oper}{f:Oper}{g:Act}{p:Exit->Act->World->Prop}(s:f.guard=none)(m n:Operand)(t:f.op=.call { callee:=.builtin .append,args:= #[m,n],argTypes:= #[24,24]})(h:Nat)(i:Value)(k:List (Nat×Nat×Int))(u:g.eval m=i)(v:ml h i k b)(d:Nat)(q:Nat)(c:Nat×Nat×Int)(w:g.eval n=.slice (some ⟨d,0,none⟩) 1 q)(x:b.cell? ⟨d,0,none⟩=some (.int .i64 (c.1:Nat)))(y:b.cell? ⟨d,1,none⟩=some (.int .i64 (c.2.1:Nat)))(z:b.cell? ⟨d,2,none⟩=some (.int .i64 c.2.2))(C:k.length<=1000000)(A:h<=b.heap.size)(B:∀l e,ml h l (k++[c]) e->b.grownBy e i.ownBlock->wpList prog o p rest (g.put f.dst l) e):wpList prog o p (f::rest) g b:=by
 obtain⟨f,g,o,p,C⟩:=X5 PV;refine Yq _ s m n 24 t h 47 f (.agg #[.int .i64 0,.int .i64 0,.int .i64 0]) 3 24 underlying24 g o p C X x5 i k.length _ u v ⟨d,0,none⟩ 1 q [.int .i64 (c.1:Nat),.int .i64 (c.2.1:Nat),.int .i64 c.2.2] w X ?_ ?_ ?_ ?_ A ?_
 ·intro j D a
  match j,a with
  |0,a=>
   simp at a;subst a;exact x
  |1,a=>
   simp at a;subst a;exact y
  |2,a=>
   simp at a;subst a;exact z
 ·intro D r;simp at r;rcases r with rfl|rfl|rfl<;>rfl
 ·unfold maxLen;omega
 ·omega
 ·intro l e a c _;refine B l e ?_ c;unfold ml;rw[aQ,QE];exact a
