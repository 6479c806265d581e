/- Texts of ours, one behind the other: A1. -/
import Derived.Test.YtedifobeggabnaaGreatCbQ0
import Derived.Test.YtedifobeggabnaaGreatProg
import Derived.WalkKit
namespace Go.Proofs.YtedifobeggabnaaGreat
open Tryz
open Go.RowKit
variable {a b:IntKind}
theorem x9{a:Prop}(h:a:=by go_num):a:=h
def pick(a b:Int):Int:=(if a<0 then -(a+1)else a) % b
theorem qe(b a:Int)(c:0<a):0<=pick b a:=by unfold pick;exact yt _ E
theorem p9(b a:Int)(c:0<a):pick b a<a:=by unfold pick;exact rz _ c
theorem aY{b c:Int}(d:b=c):Ending.returned (.int a b)=.returned (.int a c):=by rw[d]
theorem sw{c e f d:Int}(g:c=e)(h:f=d):Ending.returned (.tuple #[.int a c,.int b f])=.returned (.tuple #[.int a e,.int b d]):=by rw[g,h]
theorem iT(a b:Int)(c:World)(d: -9223372036854775808<=a)(e:a<=9223372036854775807)(h:0<b)(g:b<=9223372036854775807):Calls prog 15 #[.int .i64 a,.int .i64 b] c λd e=>d=.returned (.int .i64 (pick a b))∧e=c:=by
 by_cases f:a<0
 ·go_enter func15,ntmps15;go_wp2;go_ret;exact⟨aY (by unfold pick;rw[ai f, <-Int.neg_tmod,Int.tmod_eq_emod_of_nonneg E]),X⟩
 ·go_enter func15,ntmps15;go_wp2;go_ret;exact⟨aY (by unfold pick;rw[af E]),X⟩
def R7(a:Nat):Nat->Nat->Nat
 |0,p=>p
 |k+1,p=>if a % p=0 then p else R7 a k (p+1)
def R6(b:Nat):Nat->Nat->Nat->Nat×Nat
 |0,q,a=>(q,a)
 |k+1,q,a=>if q % b=0 then R6 b k (q / b) (a+1)else(q,a)
def pp(a:Nat):Nat×Nat:=
 let b:=R7 a a 2
 let c:=R6 b 7 a 0
 if c.1=1 then(b,c.2)else(0,0)
def R5:Bool:=(List.range 65).all λb=>(List.range 65).all λa => !(decide (2<=b) && decide (2<=a) && b % a==0) || !((List.range a).all λc=>decide (c<2) || !(b % c==0)) ||
 (List.range 7).all λj => !(b % a ^ j==0) || (b / a ^ j) % a==0 || pp b==if b / a ^ j=1 then(a,j)else(0,0)
theorem FN:R5=true:=x6
theorem U5(c b j:Nat)(f:c<65)(e:2<=c)(g:b<65)(h:2<=b)(i:c % b=0)(k:∀d<b,2<=d->¬c % d=0)(l:j<7)(m:c % b ^ j=0)(n:¬(c / b ^ j) % b=0):pp c=if c / b ^ j=1 then(b,j)else(0,0):=by
 have a:=FN;unfold R5 at a;rw[aM]at a;have a:=a c (bj.2 f);rw[aM]at a;have a:=a b (bj.2 g)
 have f:((List.range b).all λd=>decide (d<2) || !(c % d==0))=true:=by
  rw[aM];intro d f;have:=k d (bj.1 f);by_cases e:d<2
  ·simp[e]
  ·simp[this E]
 rw[f]at a;simp only[e,h,i,decide_true,OW,Bool.and_self,Eu,Bool.false_or]at a;rw[aM]at a;have a:=a j (bj.2 l);simp only[m,OW,Eu,Bool.false_or,iB,br]at a;rcases a with a|a
 ·exact absurd a n
 ·exact a
theorem mY(a b j:Nat)(e:a<65)(f:2<=a)(c:2<=b)(d:a % b ^ j=0):j<7:=by
 have e:=Nat.le_of_dvd E (jN d);rcases aR j 7 with a|a
 ·exact a
 ·have:2 ^ 7<=b ^ j:=aK (Nat.pow_le_pow_left c 7) (oV E a);omega
theorem rT(c a j:Nat)(e:c % a ^ j=0)(d:(c / a ^ j) % a=0):c % a ^ (j+1)=0:=by
 have⟨c,b⟩:=jN e;by_cases f:a ^ j=0
 ·rw[f]at b;simp at b;subst b;simp
 ·rw[b,Nat.mul_div_cancel_left _ E]at d;have⟨c,a⟩:=jN d;rw[b,a,iK, <-Nat.mul_assoc];simp
theorem zH(a b j:Nat)(d:a<65)(e:2<=a)(i:b<65)(f:2<=b)(k:a % b=0)(l:∀g<b,2<=g->¬a % g=0)(h:a % b ^ j=0)(m:¬(a / b ^ j) % b=0)(c:Nat)(n:c=a / b ^ j):(c=1->pp a=(b,j))∧(c≠1->pp a=(0,0)):=by
 have:=U5 a b j d e i f k l (mY a b j d e f h) h m;rw[<-n]at this;exact⟨λa=>by rw[this,ai a],λa=>by rw[this,af a]⟩
set_option maxHeartbeats 1000000 in
theorem qg(b:Nat)(r:World)(o:2<=b)(w:b<=64):Calls prog 31 #[.int .i64 b] r λi w=>i=.returned (.tuple #[.int .i64 (pp b).1,.int .i64 (pp b).2])∧w=r:=by
 go_enter func31,ntmps31;go_wp2
 go_loop [0,4] (λk p=>∃a:Nat,2<=a∧a<=b∧k=.int .i64 b∧p=.int .i64 a∧Hid (∀f<a,2<=f->¬b % f=0)) (λ_ p=>b-(intOf p).toNat)
 case atStart=>exact⟨2,E,o,X,X,λf h s=>E⟩
 case round=>
  obtain⟨a,t,B,rfl,rfl,u⟩:=hrel;by_cases d:b % a=0
  ·have q:((b:Int) % (a:Int) !=0)=false:=by simp;exact_mod_cast d
   have n:Hid (b % a=0):=d;go_wp2
   go_loop [0,5] (λk x=>∃j c:Nat,j<=6∧1<=c∧c<=64∧k=.int .i64 c∧x=.int .i64 j∧Hid (b % a ^ j=0∧c=b / a ^ j)) (λk _=>(intOf k).toNat)
   case atStart=>exact⟨0,b,E,E,E,X,X,by simp[Hid,Nat.mod_one]⟩
   case round=>
    obtain⟨j,c,C,D,F,rfl,rfl,e⟩:=hrel;by_cases d:c % a=0
    ·have q:((c:Int) % (a:Int)==0)=true:=by simp;exact_mod_cast d
     have l:Hid (c % a=0):=d;have y:=Nat.div_pos (Nat.le_of_dvd E (jN l.out)) E;have z:c / a<c:=Nat.div_lt_self E E;have k:=mY b a (j+1) E o t (rT b a j e.out.1 (by rw[<-e.out.2];exact l.out));go_wp2
     go_round
     case rel=>exact⟨j+1,c / a,E,y,E,X,x9,rT b a j e.out.1 (by rw[<-e.out.2];exact l.out),by rw[e.out.2,jM,iK]⟩
     case measure=>
      show(((c / a:Nat):Int)).toNat<((c:Nat):Int).toNat;rw[aN,aN];exact z
    ·have q:((c:Int) % (a:Int)==0)=false:=by rw[aA];exact_mod_cast d
     have l:Hid (¬c % a=0):=d;have v:Hid ((c=1->pp b=(a,j))∧(c≠1->pp b=(0,0))):=zH b a j E o E t n.out u.out e.out.1 (by rw[<-e.out.2];exact l.out) c e.out.2;by_cases g:c=1
     ·have A:((c:Int)==1)=true:=by rw[g];rfl
      have m:Hid (pp b=(a,j)):=v.out.1 g;clear g;go_wp2
      go_ret2
      exact⟨sw (by rw[m.out]) (by rw[m.out]),X⟩
     ·have A:((c:Int)==1)=false:=by rw[aA];exact_mod_cast g
      have m:Hid (pp b=(0,0)):=v.out.2 g;go_wp2
      go_ret2
      exact⟨sw (by rw[m.out];rfl) (by rw[m.out];rfl),X⟩
  ·have q:((b:Int) % (a:Int) !=0)=true:=by rw[dy];exact_mod_cast d
   have n:Hid (¬b % a=0):=d;have G:a≠b:=by intro i;subst i;exact n.out (Nat.mod_self _)
   go_wp2
   go_round
   case rel=>exact⟨a+1,E,E,X,x9,λf h s=>if i:f=a then i▸n.out else u.out f E s⟩
   case measure=>simp[intOf];omega
