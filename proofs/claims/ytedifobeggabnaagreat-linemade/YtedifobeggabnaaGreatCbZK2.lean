/- Texts of ours, one behind the other: ZK2 ZK3 ZK4 ZL4 ZL5 ZL6 ZL7 ZL8 ZL9 ZM1 ZM2. -/
import Derived.Test.YtedifobeggabnaaGreatCbZK1
import Derived.Test.YtedifobeggabnaaGreatCbZL2
import Derived.Test.YtedifobeggabnaaGreatCbZL3
import Derived.Conc.LeavingOf
namespace Go.Proofs.YtedifobeggabnaaGreat
open Tryz
variable {r:Option Addr}{d f q w:Nat}{t:Nat->Nat}{b:World}{k:Program}{e:Array Oper}{m:Exit->Act->World->Prop}{o:World->Prop}{g:Oper}{p:Value}{j:Array Bool}{i:Act}{s v:Act->World->Prop}{u:Nat->Prop}
section
open Go.RowKit Go.Sort
def oR(a:Func):Nat->Code
 |0=>match a.body with|some b=>b|_=> .skip
 |n+1=>match oR a n with |.seq _ c=>c|_=> .skip
theorem Sl.W6(e:Sl r d t b)(l:1<=d)(g:d<=1000000):kA (.slice r d f) (zl d λj=>((t j:Nat):Int)) b:=by
 obtain⟨h,i,rfl,_⟩:=e 0 E;refine J ⟨λa=>?_,by rw[bq];exact g,h,i,f,by rw[bq],λj c=>?_⟩
 ·have:=cF List.length a;rw[bq]at this;simp at this;omega
 ·rw[bq]at c;obtain⟨g,h,a,k⟩:=e j c;cases a;rw[sR _ _ _ c];exact k
theorem yL(y:e[f]?=some g)(B:∀(j:Nat) (C:Oper) r s,e[j]?=some C->C.op≠.select r s)(K:∀C c h,m (.panic C) (c.put g.dst p) h->m (.panic C) c h)(Q:e.size<=d):∀(t:Nat) (b:Array Bool) (c:Act) (h:World),(∀j l,e[j]?=some l->j≠f->b.getD j true=false->(∀a∈l.after,Region.binds .any a=true->a.on≠f)->g.apart e l=true)->f∈Region.ready .any e b->YieldsIf k e o g p c->o h->jK k e m o d t (b.setIfInBounds f true) (c.put g.dst p) h->jK k e m o d (t+1) b c h:=by
 intro t;induction t with
 |zero=>
  intro b c h _ n v u H;refine⟨λz=>(by rw[z]at n;cases n),λj w=>?_⟩;by_cases i:j=f
  ·subst i;exact v.wpOp y u ⟨λ_=>u,H⟩
  ·have:=Ym w i;rw[H.1]at this;cases this
 |succ t M=>
  intro b c h D n v u H;refine⟨λz=>(by rw[z]at n;cases n),λj w=>?_⟩;by_cases i:j=f
  ·subst i;exact v.wpOp y u ⟨λ_=>u,H⟩
  ·have q:=H.2 j (Ym w i);obtain⟨E,l,x,c⟩:=Yn.1 w;have F:j≠d:=λa=>by have:=(aL.1 x).1;omega
   have N:∀a∈l.after,Region.binds .any a=true->a.on≠f:=λa h t u=>by
    have q:=c a h t;have G:=(Yn.1 n).1;rw[u]at q;rcases aR f b.size with A|A
    ·simp[A]at G q;rw[G]at q;cases q
    ·simp[Array.getElem?_eq_none A]at q
   have O:=wpOp_putIf x (D j l x i E N) (λr s=>B f g r s y) (λr s=>B j l r s x) K v q
   have P:∀c ok,e[c]?=some ok->c≠f->(b.setIfInBounds j true).getD c true=false->
     (∀a∈ok.after,Region.binds .any a=true->a.on≠f)->g.apart e ok=true:=λc ok h l I q=>by
    refine D c ok h l ?_ q;by_cases J:j=c
    ·subst J;exact E
    ·rw[getD_set_ne true J]at I;exact I
   refine wpOp_mono (λc h a=>⟨λ_=>a.2.1 F,M (b.setIfInBounds j true) c h P (Ym n (Ne.symm i)) a.1 (a.2.1 F) ?_⟩) O;rw[tZ _ _ i];exact a.2.2
theorem BE(a:e[f]?=some g)(h:Region.noSelect e=true)(l:Region.free .any e j f=true)(n:(Region.ready .any e j).contains f=true)(r:e.size<=d)(s:∀c i b,m (.panic c) (i.put g.dst p) b->m (.panic c) i b)(t:o b)(u:YieldsIf k e o g p i)(c:jK k e m o d q (j.setIfInBounds f true) (i.put g.dst p) b):jK k e m o d (q+1) j i b:=
 yL a (YM h) s r q j i b (Region.free_spec a l) (by simpa using n) u t c
theorem Xa(c:o b)(l:∀b,o b->(execOp i.eval g).run k b=.ok (.value p) b)(h:jK k e m o d q (j.setIfInBounds f true) (i.put g.dst p) b)(n:e[f]?=some g:=by rw[an];rfl)(r:Region.wanted g (yielded e i.tmps)=true:=by rfl)(s:Region.noSelect e=true:=by kernel_rfl)(t:Region.free .any e j f=true:=by kernel_rfl)(u:(Region.ready .any e j).contains f=true:=by kernel_rfl)(v:e.size<=d:=by decide)(w:∀a i b,m (.panic a) (i.put g.dst p) b->m (.panic a) i b:=by exact λ_ _ _ h=>h):jK k e m o d (q+1) j i b:=
 BE n s t u v w c (I ⟨r,l⟩) h
theorem iz(a:Nat)(c:o b)(h:jK k e m o d f (j.setIfInBounds a true) (i.put g.dst p) b)(l:e[a]?=some g:=by rw[an];rfl)(n:Region.wanted g (yielded e i.tmps)=true:=by rfl)(q:∀b,o b->(execOp i.eval g).run k b=.ok (.value p) b:=by intro wz hSz;obtain⟨z0,z1,z2,z3,z4,z5⟩:=hSz;go_simp;first|done|with_reducible rfl)(r:Region.noSelect e=true:=by kernel_rfl)(s:Region.free .any e j a=true:=by kernel_rfl)(t:(Region.ready .any e j).contains a=true:=by kernel_rfl)(u:e.size<=d:=by decide)(v:∀a i b,m (.panic a) (i.put g.dst p) b->m (.panic a) i b:=by exact λ_ _ _ h=>h):jK k e m o d (f+1) j i b:=Xa c q h l n r s t u v
theorem Sl.WX(a:Sl r d t b)(f:1<=d):fp r b.heap.size:=by
 obtain⟨g,h,rfl,c⟩:=a 0 E;intro a e;cases e;exact lN c
end
section
open Go.RowKit Go.Sort
open Go.Conc
section
variable {B a x:Nat}{D:FD}{N K M T:Nat}{c:Nat->Nat}{A:Nat->Value}{Z:Nat->Nat->Int}{l:List (Nat×Nat×Nat)}{z y:Value}{W n:World}{h:Nat->Option Obj}
end
theorem RE{m:Nat}:∀(e:Nat) (c:Code) (a:Act) (b:World),Eo k e c (λa b=>Eo k m (Ky e c) s a b) a b->Eo k (e+m) c s a b:=by
 intro e;induction e with
 |zero=>intro c a b d;rw[aW];cases c<;>exact d
 |succ e f=>
  intro c a b d;rw[Nat.succ_add];cases c with
  |seq g y=>exact Code.wp_mono (λh a b d=>⟨d.1,f y a b d.2⟩) d
  |_=>cases m<;>exact d
theorem sM(f:∀a b,s a b->v a b):∀(e:Nat) (d:Code) (a:Act) (b:World),Eo k e d s a b->Eo k e d v a b:=by
 intro e;induction e with
 |zero=>intro d a b c;cases d<;>exact f _ _ c
 |succ e g=>
  intro d a b c;cases d with
  |seq h y=>exact Code.wp_mono (λi a b c=>⟨c.1,g y a b c.2⟩) c
  |_=>exact f _ _ c
def jJ(c:Option Addr)(b:Nat):List (Nat×Nat×Nat):=match c with
 |some a=>[(a.block,a.off,if b=0 then 0 else a.off+b)]
 |none=>[]
theorem Dx(b:dX (jJ r d) f=some (q,w)):∃a,r=some a∧f=a.block∧q=a.off∧w=if d=0 then 0 else a.off+d:=by
 have:=sL b;unfold jJ at this;split at this
 ·rename_i a;simp only[fJ,cK]at this;exact⟨a,X,this⟩
 ·simp at this
theorem Hu(a:Addr)(b:Nat):dX (jJ (some a) b) a.block=some (a.off,if b=0 then 0 else a.off+b):=by
 simp[dX,jJ]
section
variable {a:Option Addr}{c l:Nat}{z:Nat->Int}{W n:World}{Q:Nat->Prop}
def Ey(a:Option Addr)(W:World):Prop:=∀b,a=some b->∃c d y,W.heap[b.block]?=some (.cells c d y)
theorem Hv(b:Arg a c l z W):Arg a c l z (dA j8 (dX (jJ a c)) W):=by
 refine⟨λj f=>?_,?_,b.qL,b.nil,b.le,b.cap⟩
 ·obtain⟨e,d,rfl,g⟩:=b.sl j f;refine⟨e,d,X,s0 (Hu ⟨e,d,none⟩ c) (uX _ _) ?_ g⟩;rw[af E];show d+j<d+c;omega
 ·rw[jP];exact b.lt
end
def Sr(a:Option Addr)(b:Nat)(c:Nat):Prop:=(dX (jJ a b) c).isSome=true∨False
theorem xT{a:Fx}:bG u a undef:=by simp[undef,bG]
end
section
open Go.Conc Go.RowKit Go.ConcR.Gen
open Go.ConcN.Gen
def Vv:Code->Code
 |.seq a _=>a
 |_=> .skip
section
variable {y:Option Addr}{G z:Nat}{D:FD}{N K M A:Nat}{B C:Int}{F E:Value}{a:Act}{n c x l:Nat}
end
end
section
open Go.RowKit Go.Sort
open Go.Conc
def O5(a:Value->Prop):List Value->Prop
 |[]=>True
 |x::b=>a x∧O5 a b
theorem B3{d:Value->Prop}:∀ {c:List Value},O5 d c->∀a,a∈c->d a
 |[],_,a,b=>by simp at b
 |x::c,e,a,b=>by
  rcases az.1 b with rfl|b
  ·exact e.1
  ·exact B3 e.2 a b
section
variable {W a x:World}{D:FD}{N K M B y:Nat}{c:Nat->Nat}{C:Nat->Value}{Z:Nat->Nat->Int}{l:List (Nat×Nat×Nat)}{A z:Value}{n:Nat}
def BT(M d:Nat)(e:Nat->Option Value)(a:Nat):Prop:=a=d∨∃b c,b<M∧e b=some c∧yh c a
theorem GX{a:Nat->Option Value}{c y e:Value}(b:a d=some (.agg #[c,y,e])):nI a (d*3)=c∧nI a (d*3+1)=y∧nI a (d*3+2)=e:=by
 have a:d*3 / 3=d:=E;have c:(d*3+1) / 3=d:=E;have e:(d*3+2) / 3=d:=E;have f:d*3 % 3=0:=E;have g:(d*3+1) % 3=1:=E;have h:(d*3+2) % 3=2:=E;refine⟨?_,?_,?_⟩
 ·unfold nI;rw[a,f,b];rfl
 ·unfold nI;rw[c,g,b];rfl
 ·unfold nI;rw[e,h,b];rfl
end
end
section
open Go.RowKit Go.Sort
open Go.Conc
open Go.ConcN (sumTo)
section
variable {x:Option Addr}{I y:Nat}{z:Nat->Int}{W n:World}{D:FD}{N K M B A:Nat}{C E:Int}{c:Nat->Nat}{J:Nat->Value}{Z:Nat->Nat->Int}{l:List (Nat×Nat×Nat)}{G F:Value}{a:Act}{h:Nat->Option Obj}
end
theorem Kp.here{c e:Nat->Option Obj}(a:Kp d c e u b):Kp b.heap.size c e u b:=⟨a.mem,a.own,aa _,a.spec,a.off,a.lt⟩
end
section
open Go.Conc Go.RowKit Go.ConcR.Gen
open Go.ConcN.Gen
theorem J0(c:Nat):kX dU c #[]:=⟨λf=>by rintro⟨b,j,_,⟨d,g,a,_⟩,_⟩;simp[Trace.act?]at a,λb d a=>by simp[touchAt,Trace.act?]at a,λb h e=>by simp[Trace.g?]at e,X,oi⟩
theorem Am{d:Value->World->Prop}{a:Goroutine}(c:jd k d dU (λe=>e<b.heap.size) (λ_ _=>True) a b):rJ k d (solo a b) #[]:=
 c #[a] none #[] (λ_=>0) X (leavers_one k a) (J0 _) (λ_ d=>⟨d,λc=>c.elim⟩) (λ_ d=>d.elim) trivial
set_option maxRecDepth 100000 in
theorem Nr{c:Addr}(a:Value.okWide prog b .any d 22 (.slice (some c) f q)):∃e g y,b.heap[c.block]?=some (.cells e g y):=by
 have i:b.has prog .any d c 3 q:=by
  unfold Value.okWide at a;rw[underlying22]at a;simp only at a;unfold Cell.okWide at a;rw[underlying22]at a;simp only at a;unfold Cell.ok at a;rw[underlying22]at a;exact a.2.2
 obtain⟨_,_,k,l,h,_⟩:=i;unfold World.shape? at h;split at h
 ·rename_i e g y j;exact⟨e,g,y,j⟩
 ·cases h
