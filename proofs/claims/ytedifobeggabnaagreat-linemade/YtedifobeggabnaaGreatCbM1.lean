/- Texts of ours, one behind the other: M1 W1 A2 A3 A4 A5 A6 A7 A8 A9. -/
import Derived.BigQuiet
import Derived.Test.YtedifobeggabnaaGreatCbA1
import Derived.Deep.LoopGhost
namespace Go.Proofs.YtedifobeggabnaaGreat
set_option maxHeartbeats 2000000
set_option maxRecDepth 1000000
open Tryz
variable {c e n l:Nat}{f:TypeId}{d m:Nat->Value}{b g o:World}{j:Option Nat}{i:Nat->Nat}
abbrev XK:=@Go.RowKit.Below.refl
abbrev XR:=@Go.RowKit.Below.heap_setCell
abbrev X2:=@Go.bodyPost_ret
abbrev X7:=@Go.lt_of_block
abbrev Yb:=@Go.cell_of_one
abbrev Ye:=@Go.World.drewN_drewN
abbrev Yk:=@Go.World.grownBy_alloc
abbrev Yx:=@Go.RowKit.Below.heap_alloc
abbrev YB:=@Go.cell_of_row
theorem wL{a:Prop}(b:a:=by kernel_rfl):a:=b
theorem Xp{a:Prop}(b:a:=by rw[aA];omega):a:=b
theorem Xq{a:Prop}(b:a:=by rw[<-bW];omega):a:=b
def fM(b c d e:Nat):Nat->Nat->Nat
 |0,_=>0
 |k+1,a=>if a<c then(d / a+e / a) % b*a+fM b c d e k (a*b)else 0
def dz(a b c d:Nat):Nat:=fM a b c d 7 1
theorem Gf(b c d e f a:Nat)(g:a<c):fM b c d e (f+1) a=(d / a+e / a) % b*a+fM b c d e f (a*b):=by
 rw[fM,ai g]
theorem Ge(d b e f a c:Nat)(g:¬c<b):fM d b e f a c=0:=by
 cases a with
 |zero=>rfl
 |succ a=>rw[fM,af g]
theorem xO(a e c d:Nat)(f:0<a)(g:a<=64)(h:e<=64):∀k b,fM a e c d k b<=k*4096
 |0,_=>by simp[fM]
 |k+1,b=>by
  rw[fM];split
  ·have i:(c / b+d / b) % a<a:=bZ _ f;have i:(c / b+d / b) % a*b<=64*64:=cT E E;have:=xO a e c d f g h k (b*a);omega
  ·omega
theorem Rh(a b c d:Nat)(e:0<a)(f:a<=64)(g:b<=64):dz a b c d<=28672:=xO a b c d e f g 7 1
def jD(a c d:Nat):Nat->Nat->Nat
 |0,_=>0
 |k+1,b=>if b<c then(a-d / b % a) % a*b+jD a c d k (b*a)else 0
def jC(a b c:Nat):Nat:=jD a b c 7 1
theorem FE(a c d e b:Nat)(f:b<c):jD a c d (e+1) b=(a-d / b % a) % a*b+jD a c d e (b*a):=by
 rw[jD,ai f]
theorem FC(d b e a c:Nat)(f:¬c<b):jD d b e a c=0:=by
 cases a with
 |zero=>rfl
 |succ a=>rw[jD,af f]
theorem xh(a d c:Nat)(e:0<a)(f:a<=64)(g:d<=64):∀k b,jD a d c k b<=k*4096
 |0,_=>by simp[jD]
 |k+1,b=>by
  rw[jD];split
  ·have h:(a-c / b % a) % a<a:=bZ _ e;have h:(a-c / b % a) % a*b<=64*64:=cT E E;have:=xh a d c e f g k (b*a);omega
  ·omega
theorem Qw(a b c:Nat)(d:0<a)(e:a<=64)(f:b<=64):jC a b c<=28672:=xh a b c d e f 7 1
def RP(c b:Nat):Prop:=c=2->(∀a d,a<b->d<b->dz c b a d=a ^^^ d)∧∀a,a<b->jC c b a=a
def again(b:Nat->Nat):Nat->Nat->Nat
 |0,a=>a
 |k+1,a=>b (again b k a)
def fQ(a b low c:Nat):Nat:=again (λd=>dz a b d (jC a b low)) (c*a / b) (c*a % b)
theorem rL(c:Nat->Nat)(b:Nat)(e:∀a,a<b->c a<b):∀k a,a<b->again c k a<b
 |0,_,d=>d
 |k+1,a,d=>e _ (rL c b e k a d)
theorem Kw(b:∀l a,l<e->a<e->dz c e l a<e)(d:∀l,l<e->jC c e l<e)(f:n<e)(g:0<e):fQ c e n l<e:=
 rL _ e (λa h=>b a _ h (d n f)) _ _ (bZ _ g)
def Full(b:Nat->Nat)(c:Nat):Prop:=∀a,a<c->again b a 1≠0∧∀j,j<a->again b j 1≠again b a 1
theorem M4(y a:Nat)(c:1<=y)(b:2<=a):y<y*a:=by
 have:y*2<=y*a:=Nat.mul_le_mul_left y b;omega
section
open Go.RowKit
def bD(T c:Nat)(d:TypeId)(e:Nat->Value)(f:World):Prop:=
 ∃a:Array Value,f.heap[T]?=some (.cells a d (0,0))∧a.size=c∧∀b,b<c->a[b]?=some (e b)
def upd(b:Nat->Value)(c:Nat)(d:Value):Nat->Value:=λa=>if a=c then d else b a
theorem mH(c:Nat->Value)(a:Nat)(b:Value):upd c a b a=b:=ai X
theorem upd_ne(a:Nat->Value)(b:Nat)(d:Value)(e:c≠b):upd a b d c=a c:=af e
theorem bD.cell{T c:Nat}(e:bD T c f d b)(a:Nat)(g:a<c):b.cell? ⟨T,a,none⟩=some (d a):=by
 obtain⟨c,h,j,i⟩:=e;rw[YB b T a c f (0,0) h];exact i a g
theorem bD.free{T c:Nat}(e:bD T c f d b)(a:Nat):b.frozen? ⟨T,a,none⟩=false:=by
 obtain⟨c,g,h,i⟩:=e;exact frozen_of_row b T a c f g
theorem bD.lt{T a:Nat}(c:bD T a f d b):T<b.heap.size:=by
 obtain⟨e,a,g,h⟩:=c;exact X7 a
theorem bD.other{T a:Nat}(c:bD T a f d b)(e:g.heap[T]?=b.heap[T]?):bD T a f d g:=by
 obtain⟨a,h,i,j⟩:=c;exact⟨a,e.trans h,i,j⟩
theorem bD.congr{T c:Nat}(e:bD T c f d b)(g:∀a,a<c->d a=m a):bD T c f m b:=by
 obtain⟨h,i,j,k⟩:=e;exact⟨h,i,j,λa c=>by rw[k a c,g a c]⟩
theorem bD.store{T h:Nat}(c:bD T h f d b)(a:Nat)(e:Value):bD T h f (upd d a e) (b.setCell ⟨T,a,none⟩ e):=by
 obtain⟨h,i,j,n⟩:=c;have k:=X7 i;have o:b.heap[T]=.cells h f (0,0):=by simpa [Array.getElem?_eq_getElem k]using i
 refine⟨h.setIfInBounds a e,?_,by simpa using j,?_⟩
 ·show(b.heap.modify T _)[T]?=_;rw[au (by simpa using k),Array.getElem_modify_self,o];rfl
 ·intro l m;unfold upd;rw[jZ];by_cases g:a=l
  ·subst g;simp[j,m]
  ·rw[af g,af (λc=>g c.symm)];exact n l m
theorem bD.alloc{T a:Nat}(c:bD T a f d b)(e:Obj):bD T a f d (b.alloc e):=
 c.other (Yx b e T c.lt)
theorem bD.drewN{T a:Nat}(c:bD T a f d b)(e:Nat):bD T a f d (b.drewN e):=
 c.other X
theorem bD.drew{T a:Nat}(c:bD T a f d b):bD T a f d b.drew:=
 c.other X
theorem bD.setOther{T c:Nat}(g:bD T c f d b)(a:Addr)(h:T≠a.block)(e:Value):bD T c f d (b.setCell a e):=
 g.other (XR b a e T h)
theorem bD.below{T a B:Nat}(c:bD T a f d b)(e:Below B b g)(h:T<B):bD T a f d g:=
 c.other (e.block T h)
theorem gS(a:World)(b:Option Nat):a.grownBy a b:=⟨X,X,X,aa _,λ_ _ _=>rfl⟩
theorem iR(a:b.grownBy g j)(c:g.grownBy o j):b.grownBy o j:=
 ⟨c.os.trans a.os,c.tape.trans a.tape,c.output.trans a.output,aK a.size c.size,λd e f=>(c.block d (aj e a.size) f).trans (a.block d e f)⟩
theorem py(a:b.grownBy g j)(c:Nat):b.grownBy (g.drewN c) j:=
 ⟨a.os,a.tape,a.output,a.size,a.block⟩
theorem wP(a:b.grownBy g j):b.grownBy g.drew j:=
 ⟨a.os,a.tape,a.output,a.size,a.block⟩
theorem jf{T:Nat}(a:b.grownBy g (some T))(c:Nat)(d:Value):b.grownBy (g.setCell ⟨T,c,none⟩ d) (some T):=
 iR a ⟨X,X,X,by simp[World.setCell],λe _ c=>XR _ _ _ _ (λd=>c (by simp[d]))⟩
theorem cH(d:b.grownBy g j)(e:c<=b.heap.size)(f:∀a,j=some a->c<=a):Below c b g:=
 (XK c b).grown d e f
theorem uC(a:Nat)(b:a<=9223372036854775807):wrap64 (a:Int)=(a:Int):=by unfold wrap64;omega
theorem Is(a b:Nat)(c:a<=9223372036854775807):wrap64 ((a:Int) / (b:Int))=((a / b:Nat):Int):=
 uC (a / b) (aK (j6 a b) c)
theorem Ov(d a b y c:Nat)(e:d<=28672)(f:a / y<=64)(g:b / y<=64)(h:(a / y+b / y) % c*y<=64*64)(i:a<64)(j:b<64):wrap64 ((d:Int)+wrap64 ((wrap64 (wrap64 ((a:Int) / (y:Int))+wrap64 ((b:Int) / (y:Int)))).tmod (c:Int)*(y:Int)))=((d+(a / y+b / y) % c*y:Nat):Int):=by
 rw[Is a y E,Is b y E];have e:wrap64 (((a / y:Nat):Int)+((b / y:Nat):Int))=((a / y+b / y:Nat):Int):=uC (a / y+b / y) E;rw[e];have e:(((a / y+b / y:Nat):Int).tmod (c:Int)*(y:Int))=(((a / y+b / y) % c*y:Nat):Int):=rfl;rw[e,uC _ E];exact uC (d+(a / y+b / y) % c*y) E
theorem KF:((List.range 64).all λa=>(List.range 64).all λb=>bits .xor .i64 (a:Int) (b:Int)==((a ^^^ b:Nat):Int))=true:=x6
theorem Ac(a b:Nat)(c:a<64)(d:b<64):bits .xor .i64 (a:Int) (b:Int)=((a ^^^ b:Nat):Int):=by
 have e:=aM.1 KF a (bj.2 c);exact br.1 (aM.1 e b (bj.2 d))
theorem Ij(T a d b c:Nat)(g:World)(o:2<=a)(s:a<=64)(t:d<=64)(u:b<d)(v:c<d)(k:RP a d)(w:g.cell? ⟨T,0,none⟩=some (.int .i64 d))(x:g.cell? ⟨T,1,none⟩=some (.int .i64 a)):Calls prog 94 #[.pointer (some ⟨T,0,none⟩),.int .i64 b,.int .i64 c] g λw x=>w=.returned (.int .i64 (dz a d b c))∧∃i,x=g.drewN i:=by
 by_cases f:a=2
 ·have l:Hid (dz a d b c=b ^^^ c):=(k f).1 b c u v;have z:Hid (bits .xor .i64 (b:Int) (c:Int)=((b ^^^ c:Nat):Int)):=Ac b c E E;have A:((a:Int)==2)=true:=by rw[f];rfl
  clear k f;go_enter func94,ntmps94;go_wp2;go_ret;exact⟨aY (by rw[l.out, <-z.out]),0,X⟩
 have A:((a:Int)==2)=false:=Xp;clear k f;have k:=Rh a d b c E s t;go_enter func94,ntmps94;go_wp2;go_loopw [7,8] (λB m wr=>∃j e y:Nat,1<=y∧y<=4096∧e<=28672∧2 ^ j<=y∧B=.int .i64 e∧m=.int .i64 y∧Hid (e+fM a d b c (7-j) y=dz a d b c)∧∃i,wr=g.drewN i) (λ_ m _=>64-(intOf m).toNat)
 case atStart=>exact⟨0,0,1,E,E,E,E,X,X,by simp[Hid,dz],0,X⟩
 case round=>
  obtain⟨j,e,y,C,I,D,p,rfl,rfl,q,i,rfl⟩:=hrel;by_cases r:y<d
  ·have g:Hid (2 ^ j<=y):=p;clear p;have F:b / y<=64:=aK (j6 _ _) E;have f:c / y<=64:=aK (j6 _ _) E;have i:(b / y+c / y) % a<a:=bZ _ E;have G:(b / y+c / y) % a*y<=64*64:=cT E E;have i:y*a<=64*64:=cT E E;have i:=M4 y a C o
   have n:Hid (j<7∧2 ^ (j+1)<=y*a∧e+(b / y+c / y) % a*y+fM a d b c (7-(j+1)) (y*a)=dz a d b c):=by
    have i:j<7:=by
     rcases aR j 7 with h|h
     ·exact h
     ·have:2 ^ 7<=2 ^ j:=oV E h;have:=g.out;omega
    refine⟨i,by rw[iK];exact cT g.out o,?_⟩;have:=q.out;rw[show 7-j=(7-(j+1))+1 from E,Gf a d b c _ y r]at this;omega
   clear g;go_wp2
   go_quiet (fail)
   go_wp2;go_roundw
   case rel=>exact⟨j+1,e+(b / y+c / y) % a*y,y*a,E,E,by have:=n.out.2.2;omega,n.out.2.1,by rw[Ov e b c y a D F f G E E],x9,n.out.2.2,_,X⟩
   case measure=>
    show 64-(((y*a:Nat):Int)).toNat<64-((y:Nat):Int).toNat;rw[aN,aN];omega
  ·have l:Hid (e=dz a d b c):=by have:=q.out;rw[Ge _ _ _ _ _ _ r]at this;show e=_;omega
   go_wp2;go_ret;exact⟨aY (by rw[l.out]),_,X⟩
def Su(d a:Nat):Prop:=(∀b c,b<a->c<a->dz d a b c<a)∧(∀b c e,b<a->c<a->e<a->dz d a b c=0->dz d a b e=0->c=e)
theorem M8(c b y a:Nat)(d:c<=28672)(e:2<=a)(f:a<=64)(g:(a-b / y % a) % a*y<=64*64)(h:b<64):wrap64 ((c:Int)+wrap64 ((wrap64 ((a:Int)-(wrap64 ((b:Int) / (y:Int))).tmod (a:Int))).tmod (a:Int)*(y:Int)))=((c+(a-b / y % a) % a*y:Nat):Int):=by
 rw[Is b y E];have d:b / y % a<a:=bZ _ E;have d:((b / y:Nat):Int).tmod (a:Int)=((b / y % a:Nat):Int):=rfl
 have e:wrap64 ((a:Int)-((b / y % a:Nat):Int))=((a-b / y % a:Nat):Int):=by
  rw[show(a:Int)-((b / y % a:Nat):Int)=((a-b / y % a:Nat):Int)from E];exact uC _ E
 rw[d,e];have d:(((a-b / y % a:Nat):Int).tmod (a:Int)*(y:Int))=(((a-b / y % a) % a*y:Nat):Int):=rfl;rw[d,uC _ E];exact uC (c+(a-b / y % a) % a*y) E
theorem sq(T a c b:Nat)(e:World)(i:2<=a)(o:a<=64)(s:c<=64)(t:b<c)(k:RP a c)(u:e.cell? ⟨T,0,none⟩=some (.int .i64 c))(v:e.cell? ⟨T,1,none⟩=some (.int .i64 a)):Calls prog 127 #[.pointer (some ⟨T,0,none⟩),.int .i64 b] e λu v=>u=.returned (.int .i64 (jC a c b))∧∃f,v=e.drewN f:=by
 by_cases g:a=2
 ·have l:Hid (jC a c b=b):=(k g).2 b t;have w:((a:Int)==2)=true:=by rw[g];rfl
  clear k g;go_enter func127,ntmps127;go_wp2;go_ret;exact⟨aY (by rw[l.out]),0,X⟩
 have w:((a:Int)==2)=false:=Xp;clear k g;have g:=Qw a c b E o s;go_enter func127,ntmps127;go_wp2;go_loopw [5,6] (λx m wr=>∃j d y:Nat,1<=y∧y<=4096∧d<=28672∧2 ^ j<=y∧x=.int .i64 d∧m=.int .i64 y∧Hid (d+jD a c b (7-j) y=jC a c b)∧∃f,wr=e.drewN f) (λ_ m _=>64-(intOf m).toNat)
 case atStart=>exact⟨0,0,1,E,E,E,E,X,X,by simp[Hid,jC],0,X⟩
 case round=>
  obtain⟨j,d,y,z,C,A,p,rfl,rfl,q,f,rfl⟩:=hrel;by_cases r:y<c
  ·have e:Hid (2 ^ j<=y):=p;clear p;have f:b / y<=64:=aK (j6 _ _) E;have f:(a-b / y % a) % a<a:=bZ _ E;have B:(a-b / y % a) % a*y<=64*64:=cT E E;have f:y*a<=64*64:=cT E E;have f:=M4 y a z i;have f:b / y % a<a:=bZ _ E
   have n:Hid (j<7∧2 ^ (j+1)<=y*a∧d+(a-b / y % a) % a*y+jD a c b (7-(j+1)) (y*a)=jC a c b):=by
    have f:j<7:=by
     rcases aR j 7 with h|h
     ·exact h
     ·have:2 ^ 7<=2 ^ j:=oV E h;have:=e.out;omega
    refine⟨f,by rw[iK];exact cT e.out i,?_⟩;have:=q.out;rw[show 7-j=(7-(j+1))+1 from E,FE a c b _ y r]at this;omega
   clear e;go_wp2
   go_quiet (fail)
   go_wp2;go_roundw
   case rel=>exact⟨j+1,d+(a-b / y % a) % a*y,y*a,E,E,by have:=n.out.2.2;omega,n.out.2.1,by rw[M8 d b y a A i o B E],x9,n.out.2.2,_,X⟩
   case measure=>
    show 64-(((y*a:Nat):Int)).toNat<64-((y:Nat):Int).toNat;rw[aN,aN];omega
  ·have l:Hid (d=jC a c b):=by have:=q.out;rw[FC _ _ _ _ _ r]at this;show d=_;omega
   go_wp2;go_ret;exact⟨aY (by rw[l.out]),_,X⟩
structure Aj(p q:Nat)(g:Nat->Value):Prop where
 c0:g 0=.int .i64 q
 c1:g 1=.int .i64 p
 two:RP p q
theorem Aj.congr(b:Aj c e d)(f:∀a,a<5->a≠2->a≠3->a≠4->m a=d a):Aj c e m:=
 ⟨(f 0 E E E E).trans b.c0,(f 1 E E E E).trans b.c1,b.two⟩
theorem Gh(T b a c low:Nat)(p:Nat->Value)(f:World)(q:2<=b)(r:b<=64)(g:1<=a)(s:a<=64)(i:c < a)(t:low < a)(u:∀c g,c<a->g<a->dz b a c g<a)(v:∀c,c<a->jC b a c<a)(k:bD T 133 119 p f)(i:Aj b a p):Calls prog 115 #[.pointer (some ⟨T,0,none⟩),.int .i64 c,.int .i64 low] f λl m=>l=.returned (.int .i64 (fQ b a low c))∧∃j,m=f.drewN j:=by
 have w:f.cell? ⟨T,0,none⟩=some (.int .i64 a):=by rw[k.cell 0 E,i.c0]
 have x:f.cell? ⟨T,1,none⟩=some (.int .i64 b):=by rw[k.cell 1 E,i.c1]
 have y:Hid (RP b a):=i.two;have C:Hid (∀c g,c<a->g<a->dz b a c g<a):=u;have z:=v low t;clear k i u v;have g:c*b<=64*64:=cT E E;have i:c*b / a<=64*64:=aK (j6 _ _) g;have D:c*b % a<a:=bZ _ E;have g:(c:Int)*(b:Int)<=4096:=Xq;have g:0<=(c:Int)*(b:Int):=Xq;go_enter func115,ntmps115;go_wp2
 go_quiet (fail)
 go_wp2;go_loopw [8,32] (λn o wr=>∃d e:Nat,d<=c*b / a∧e<a∧n=.int .i64 e∧o=.int .i64 d∧Hid (e=again (λn=>dz b a n (jC b a low)) d (c*b % a))∧∃j,wr=f.drewN j) (λ_ o _=>c*b / a-(intOf o).toNat)
 case atStart=>exact⟨0,c*b % a,fq _,D,X,X,X,nq,X⟩
 case round=>
   obtain⟨d,e,J,A,rfl,rfl,B,j,rfl⟩:=hrel;have F:=C.out e (jC b a low) A z;by_cases f:d<c*b / a
   ·have G:(d:Int)<(c:Int)*(b:Int) / (a:Int):=by rw[<-bW, <-Int.natCast_ediv];omega
    go_wp2_with fail
    refine(sq T b a low _ q r s t y.out (by exact w) (by exact x)).mono ?_;rintro l m ⟨rfl,K,rfl⟩;go_wp2_with fail;refine(Ij T b a e (jC b a low) _ q r s A z y.out (by exact w) (by exact x)).mono ?_;rintro l m ⟨rfl,M,rfl⟩;go_wp2;go_roundw
    case rel=>exact⟨d+1,dz b a e (jC b a low),E,F,x9,X,by rw[B.out];rfl,_,by first|rfl|rw[Ye]|rw[Ye,Ye]⟩
    case measure=>simp[intOf];omega
   ·have G:¬(d:Int)<(c:Int)*(b:Int) / (a:Int):=by rw[<-bW, <-Int.natCast_ediv];omega
    have I:Hid (e=fQ b a low c):=by have :d=c * b / a:=by omega
                                    subst this;exact B.out
    go_wp2;go_ret;exact⟨aY (by rw[I.out]),_,X⟩
structure rI(st:Nat->Nat)(n:Nat)(g:Nat->Value):Prop where
 pow:∀k,k<n->g (5+k)=.int .i64 (again st k 1)
 log:∀k,k<n->g (69+again st k 1)=.int .i64 k
 no:∀x,x<64->(∀k,k<n->again st k 1≠x)->g (69+x)=.int .i64 (-1)
theorem rI.congr(a:rI i c d)(b:∀e,5<=e->m e=d e):rI i c m:=
 ⟨λe f=>(b _ E).trans (a.pow e f),λe f=>(b _ E).trans (a.log e f),λg h j=>(b _ E).trans (a.no g h j)⟩
theorem zf(d:Full i c)(a:e=again i c 1)(f:¬e=0)(g:∀j,j<c->again i j 1≠e):Full i (c+1):=by
 intro b l;by_cases h:b=c
 ·subst h;exact⟨by rw[<-a];exact f,λj k=>by rw[<-a];exact g j k⟩
 ·exact d b E
theorem J3(l:c<64)(n:e<64)(b:e=again i c 1)(h:∀j,j<c->again i j 1≠e)(f:rI i c d):rI i (c+1) (upd (upd d (5+c) (.int .i64 e)) (69+e) (.int .i64 c)):=by
 refine⟨λa l=>?_,λa l=>?_,λy m k=>?_⟩
 ·rw[upd_ne _ _ _ E];by_cases g:a=c
  ·subst g;rw[mH,b]
  ·rw[upd_ne _ _ _ E];exact f.pow a E
 ·by_cases g:a=c
  ·subst g;rw[<-b,mH]
  ·have:=h a E;rw[upd_ne _ _ _ E,upd_ne _ _ _ E];exact f.log a E
 ·have a:=k c E;rw[<-b]at a;rw[upd_ne _ _ _ E,upd_ne _ _ _ E];exact f.no y m λj h=>k j E
theorem TF(args:Array Value)(a:World):Sem.run prog (callFunc 113 args) a=.ok (.enter 113 args) a:=by
 go_simp
theorem TG(args:Array Value)(a:World):Sem.run prog (callFunc 114 args) a=.ok (.enter 114 args) a:=by
 go_simp
theorem qM(T u f:Nat)(C:Array Value)(g:Nat->Nat)(l:Nat->Value)(n:World)(m:2<=f)(K:f<=64)(G:∀k,k<f->g k<f)(K:∀(args:Array Value) (m:World),Sem.run prog (callFunc u args) m=.ok (.enter u args) m)(K:bD T 133 119 l n)(M:l 0=.int .i64 f)(N:∀(k:Nat) (c:Nat->Value) (m:World),k<f->bD T 133 119 c m->(∀a,a<5->c a=l a)->n.grownBy m (some T)->Calls prog u (#[.int .i64 k]++C) m λi p=>i=.returned (.int .i64 (g k))∧∃y,p=m.drewN y):Calls prog 112 #[.pointer (some ⟨T,0,none⟩),.func (.func u) #[] C] n λi p=>∃c,bD T 133 119 c p∧(∀a,a<5->c a=l a)∧n.grownBy p (some T)∧((Full g (f-1)∧rI g (f-1) c∧i=.returned (.bool true))∨(¬Full g (f-1)∧i=.returned (.bool false))):=by
 have W:Hid (bD T 133 119 l n):=K;have Y:Hid (l 0=.int .i64 f):=M;have Z:Hid (∀k,k<f->g k<f):=G
 have HP:Hid (∀(k:Nat) (c:Nat->Value) (m:World),k<f->bD T 133 119 c m->(∀a,a<5->c a=l a)->n.grownBy m (some T)->
   Calls prog u (#[.int .i64 k]++C) m λi p=>i=.returned (.int .i64 (g k))∧∃y,p=m.drewN y):=N
 clear K M G N;go_enter func112,ntmps112;go_wp2;go_loopw [8] (λq wr=>∃(d:Nat) (c:Nat->Value),d<=64∧q=.int .i64 d∧bD T 133 119 c wr∧(∀a,a<5->c a=l a)∧(∀e,e<d->c (69+e)=.int .i64 (-1))∧n.grownBy wr (some T)) (λq _=>64-(intOf q).toNat)
 case atStart=>exact⟨0,l,E,X,W.out,λ_ _=>rfl,λe r=>E,gS _ _⟩
 case round=>
  obtain⟨d,c,z,rfl,o,s,O,v⟩:=hrel;have P:∀a,wr.frozen? ⟨T,a,none⟩=false:=o.free;have ab:wr.cell? ⟨T,0,none⟩=some (.int .i64 f):=by rw[o.cell 0 E,s 0 E,Y.out]
  have b:Hid (bD T 133 119 c wr∧(∀a,a<5->c a=l a)∧(∀e,e<d->c (69+e)=.int .i64 (-1))∧n.grownBy wr (some T)):=⟨o,s,O,v⟩;clear o s O v;by_cases D:d<64
  ·have m:wr.cell? ⟨T,69+d,none⟩=some (c (69+d)):=b.out.1.cell _ E;go_wp2;go_roundw
   case rel=>exact⟨d+1,_,E,x9,b.out.1.store _ _,λa w=>(upd_ne _ _ _ E).trans (b.out.2.1 a w),λe r=>if i:e=d then by rw[i,mH]else(upd_ne _ _ _ E).trans (b.out.2.2.1 e E),jf b.out.2.2.2 _ _⟩
   case measure=>simp[intOf];omega
  ·have Q:Hid (∀e,e<64->c (69+e)=.int .i64 (-1)):=λe r=>b.out.2.2.1 e E
   clear P;go_wp2;go_loopw [6,22] (λk q wr=>∃(d e:Nat) (c:Nat->Value),d<=f-1∧e<f∧q=.int .i64 d∧k=.int .i64 e∧Hid (e=again g d 1)∧bD T 133 119 c wr∧(∀a,a<5->c a=l a)∧Full g d∧rI g d c∧n.grownBy wr (some T)) (λ_ q _=>f-(intOf q).toNat)
   case atStart=>exact⟨0,1,c,E,E,X,X,X,b.out.1,b.out.2.1,λd z=>E,⟨λd z=>E,λd z=>E,λe r _=>Q.out e r⟩,b.out.2.2.2⟩
   case round=>
    clear b ab Q;obtain⟨d,e,c,z,r,rfl,rfl,x,o,s,R,S,v⟩:=hrel;have P:∀a,wr.frozen? ⟨T,a,none⟩=false:=o.free;have b:Hid (bD T 133 119 c wr∧(∀a,a<5->c a=l a)∧Full g d∧rI g d c∧n.grownBy wr (some T)):=⟨o,s,R,S,v⟩;clear o s R S v;by_cases D:d<f-1
    ·by_cases A:e=0
     ·have F:Hid (¬Full g (f-1)):=λh=>(h d D).1 (by rw[<-x.out,A])
      subst A;go_wp2;go_ret;exact⟨c,b.out.1,b.out.2.1,b.out.2.2.2.2,J ⟨F.out,X⟩⟩
     ·have k:((e:Int)==0)=false:=by rw[aA];exact_mod_cast A
      by_cases B:∃j,j<d∧again g j 1=e
      ·obtain⟨j,t,k⟩:=B;have ad:wr.cell? ⟨T,69+e,none⟩=some (.int .i64 j):=by rw[b.out.1.cell _ E, <-k,b.out.2.2.2.1.log j t]
       have l:((j:Int) != -1)=true:=by rw[dy];omega
       have F:Hid (¬Full g (f-1)):=λh=>(h d D).2 j t (by rw[k];exact x.out)
       clear k;go_wp2;go_ret;exact⟨c,b.out.1,b.out.2.1,b.out.2.2.2.2,J ⟨F.out,X⟩⟩
      ·have ad:wr.cell? ⟨T,69+e,none⟩=some (.int .i64 (-1)):=by rw[b.out.1.cell _ E,b.out.2.2.2.1.no e E (λj t i=>B ⟨j,t,i⟩)]
       have k:wr.cell? ⟨T,5+d,none⟩=some (c (5+d)):=b.out.1.cell _ E;have U:Hid (∀j,j<d->again g j 1≠e):=λj t i=>B ⟨j,t,i⟩
       clear B;go_wp2
       go_region
       go_wp2_with fail
       refine(HP.out e _ _ r ((b.out.1.store _ _).store _ _).drew (λa w=>((upd_ne _ _ _ E).trans (upd_ne _ _ _ E)).trans (b.out.2.1 a w)) (wP (jf (jf b.out.2.2.2.2 _ _) _ _))).mono ?_;rintro i p ⟨rfl,y,rfl⟩;go_wp2;go_roundw
       case rel=>exact⟨d+1,g e,_,E,Z.out e r,x9,x9,by rw[x.out];rfl,((b.out.1.store _ _).store _ _).drewN _,λa w=>((upd_ne _ _ _ E).trans (upd_ne _ _ _ E)).trans (b.out.2.1 a w),zf b.out.2.2.1 x.out A U.out,J3 E E x.out U.out b.out.2.2.2.1,py (jf (jf b.out.2.2.2.2 _ _) _ _) _⟩
       case measure=>simp[intOf];omega
    ·have i:d=f-1:=by omega
     have V:Hid (Full g (f-1)∧rI g (f-1) c):=by rw[<-i];exact⟨b.out.2.2.1,b.out.2.2.2.1⟩
     clear i;go_wp2;go_ret;exact⟨c,b.out.1,b.out.2.1,b.out.2.2.2.2,I ⟨V.out.1,V.out.2,X⟩⟩
theorem yz(T e f a b d:Nat)(c:World)(g:a<64)(i:b<64)(j:1<=d)(k:d<=64)(g:c.cell? ⟨e,0,none⟩=some (.int .i64 b))(i:c.cell? ⟨f,0,none⟩=some (.pointer (some ⟨T,0,none⟩)))(j:c.cell? ⟨T,1,none⟩=some (.int .i64 d)):Calls prog 113 #[.int .i64 a,.pointer (some ⟨e,0,none⟩),.pointer (some ⟨f,0,none⟩)] c λg i=>g=.returned (.int .i64 ((a*b % d:Nat):Int))∧∃j,i=c.drewN j:=by
 have c:a*b<=64*64:=cT E E;have c:(a:Int)*(b:Int)<=4096:=Xq;have c:0<=(a:Int)*(b:Int):=Xq;go_enter func113,ntmps113;go_wp2
 go_quiet (fail)
 go_wp2;go_ret;exact⟨aY (by rw[<-bW, <-uU]),_,X⟩
theorem dR{w:World}(a:Obj):(w.alloc a).heap[w.heap.size]?=some a:=by
 show(w.heap.push a)[w.heap.size]?=some a;simp
theorem uL(T b gen:Nat)(l:Nat->Value)(d:World)(Q:2<=b)(C:b<=64)(s:bD T 133 119 l d)(D:l 0=.int .i64 b)(F:l 1=.int .i64 b)(R:1<=gen)(ao:gen<b)(G:Full (λe=>e*gen % b) (b-1))(I:∀a,1<=a->a<gen->¬Full (λe=>e*a % b) (b-1)):Calls prog 92 #[.pointer (some ⟨T,0,none⟩)] d λJ g=>J=.returned (.tuple #[])∧∃a,bD T 133 119 a g∧(∀c,c<5->c≠4->a c=l c)∧a 4=.int .i64 gen∧rI (λe=>e*gen % b) (b-1) a∧d.grownBy g (some T):=by
 have S:Hid (bD T 133 119 l d):=s;have hT:=s.lt;have v:Hid (l 0=.int .i64 b∧l 1=.int .i64 b):=⟨D,F⟩;have K:Hid (Full (λe=>e*gen % b) (b-1)∧∀a,1<=a->a<gen->¬Full (λe=>e*a % b) (b-1)):=⟨G,I⟩;clear s D F G I;go_enter func92,ntmps92;go_wp2
 go_loopg [2] (b-1) (λU V wr=>∃(a f:Nat) (m:Nat->Value),U=b-a∧1<=a∧a<=gen∧d.heap.size<f∧V=.pointer (some ⟨f,0,none⟩)∧wr.heap[f]?=some (.cells #[.int .i64 a] 3 (0,0))∧
   wr.heap[d.heap.size]?=some (.cells #[.pointer (some ⟨T,0,none⟩)] 113 (0,0))∧bD T 133 119 m wr∧(∀c,c<5->m c=l c)∧d.grownBy wr (some T))
 case atStart=>
  refine⟨1,d.heap.size+1,l,X,E,R,E,X,?_,?_,(S.out.alloc _).alloc _,λ_ _=>rfl,iR (Yk _ _ _) (Yk _ _ _)⟩
  ·have:=dR (w:=d.alloc (.cells #[.pointer (some ⟨T,0,none⟩)] 113)) (.cells #[.int .i64 1] 3);simpa using this
  ·rw[Yx _ _ _ oi];exact dR _
 case round=>
  obtain⟨a,f,m,M,W,ar,hG,rfl,j,n,w,x,N⟩:=hrel;have Y:=Yb j;have Z:=free_of_one j;have ab:=Yb n;have O:=X7 j;have ad:wr.cell? ⟨T,0,none⟩=some (.int .i64 b):=by rw[w.cell 0 E,x 0 E,v.out.1]
  have i:Hid (gk=b-a∧wr.heap[f]?=some (.cells #[.int .i64 a] 3 (0,0))∧
   wr.heap[d.heap.size]?=some (.cells #[.pointer (some ⟨T,0,none⟩)] 113 (0,0))∧bD T 133 119 m wr∧(∀c,c<5->m c=l c)∧d.grownBy wr (some T)):=⟨M,j,n,w,x,N⟩
  clear M j n w x N;go_wp2
  go_quiet (fail)
  go_wp2_with fail
  refine(qM T 113 b #[.pointer (some ⟨f,0,none⟩),.pointer (some ⟨d.heap.size,0,none⟩)] (λe=>e*a % b) m (wr.drewN nq) Q C (λe _=>bZ _ E) TF (i.out.2.2.2.1.drewN nq) (by rw[i.out.2.2.2.2.1 0 E,v.out.1]) ?_).mono ?_
  ·intro e l w s D F x;have l:w.heap[f]?=wr.heap[f]?:=x.block f O x7;have s:w.heap[d.heap.size]?=wr.heap[d.heap.size]?:=x.block _ (by have:=i.out.2.2.2.2.2.size;show _<wr.heap.size;omega) x7;exact yz T f d.heap.size e a b w E E E C (Yb (l.trans i.out.2.1)) (Yb (s.trans i.out.2.2.1)) (by rw[D.cell 1 E,F 1 E,i.out.2.2.2.2.1 1 E,v.out.2])
  ·rintro J g ⟨o,p,t,r,P⟩;have l:g.heap[f]?=wr.heap[f]?:=r.block f O x7;have s:g.heap[d.heap.size]?=wr.heap[d.heap.size]?:=r.block _ (by have:=i.out.2.2.2.2.2.size;show _<wr.heap.size;omega) x7;have j:=l.trans i.out.2.1;have n:=s.trans i.out.2.2.1;have u:d.grownBy g (some T):=iR (py i.out.2.2.2.2.2 nq) r;have v:=Yb j;have v:=Yb n;have v:=p.free;have v:=p.cell 4 E;have v:=X7 j;clear Y Z ab ad l s;by_cases y:a=gen
   ·rcases P with⟨z,A,rfl⟩|⟨B,rfl⟩
    ·have k:Hid (bD T 133 119 o g∧(∀c,c<5->o c=m c)∧rI (λe=>e*a % b) (b-1) o∧d.grownBy g (some T)∧a=gen):=⟨p,t,A,u,y⟩;clear p t r z A u j n y;go_wp2;refine X2 (results_none X _ _ _) X ?_;exact⟨X,_,k.out.1.store _ _,λc q e=>(upd_ne _ _ _ e).trans ((k.out.2.1 c q).trans (i.out.2.2.2.2.1 c q)),by rw[mH,k.out.2.2.2.2],k.out.2.2.2.2▸k.out.2.2.1.congr (λc q=>upd_ne _ _ _ E),jf k.out.2.2.2.1 _ _⟩
    ·exact absurd (y▸K.out.1) B
   ·rcases P with⟨z,A,rfl⟩|⟨B,rfl⟩
    ·exact absurd z (K.out.2 a W E)
    ·have k:Hid (bD T 133 119 o g∧(∀c,c<5->o c=m c)∧d.grownBy g (some T)∧g.heap[f]?=some (.cells #[.int .i64 a] 3 (0,0))∧g.heap[d.heap.size]?=some (.cells #[.pointer (some ⟨T,0,none⟩)] 113 (0,0))):=⟨p,t,u,j,n⟩;clear p t r B u j n;go_wp2
     go_roundg (b-(a+1))
     case measure=>rw[i.out.1];omega
     case rel=>
      refine⟨a+1,g.heap.size,o,X,E,E,E,X,?_,?_,k.out.1.alloc _,λc q=>(k.out.2.1 c q).trans (i.out.2.2.2.2.1 c q),iR k.out.2.2.1 (Yk _ _ _)⟩
      ·exact dR _
      ·rw[Yx _ _ _ E];exact k.out.2.2.2.2
theorem vU(T j L b low c a:Nat)(i:Nat->Value)(d:World)(o:2<=c)(p:c<=64)(q:1<=a)(r:a<=64)(s:b<a)(t:low<a)(k:∀b l,b<a->l<a->dz c a b l<a)(m:∀b,b<a->jC c a b<a)(l:bD T 133 119 i d)(n:Aj c a i)(v:d.cell? ⟨j,0,none⟩=some (.pointer (some ⟨T,0,none⟩)))(w:d.cell? ⟨L,0,none⟩=some (.int .i64 low)):Calls prog 114 #[.int .i64 b,.pointer (some ⟨j,0,none⟩),.pointer (some ⟨L,0,none⟩)] d λf g=>f=.returned (.int .i64 (fQ c a low b))∧∃e,g=d.drewN e:=by
 have u:Hid (Calls prog 115 #[.pointer (some ⟨T,0,none⟩),.int .i64 b,.int .i64 low] d λf g=>f=.returned (.int .i64 (fQ c a low b))∧∃e,g=d.drewN e):=
  Gh T c a b low i d o p q r s t k m l n
 clear k m l n;go_enter func114,ntmps114;go_wp2_with fail;refine u.out.mono ?_;rintro f g ⟨rfl,e,rfl⟩;go_wp2;go_ret;exact⟨X,e,X⟩
theorem tz(T d a low:Nat)(l:Nat->Value)(c:World)(Y:2<=d)(Z:d<=64)(ab:2<=a)(G:a<=64)(I:∀f r,f<a->r<a->dz d a f r<a)(J:∀f,f<a->jC d a f<a)(o:bD T 133 119 l c)(v:Aj d a l)(s:low<a)(K:Full (fQ d a low) (a-1))(M:∀e,e<low->¬Full (fQ d a e) (a-1)):Calls prog 93 #[.pointer (some ⟨T,0,none⟩)] c λN i=>N=.returned (.tuple #[])∧∃s,bD T 133 119 s i∧(∀b,b<5->b≠3->b≠4->s b=l b)∧s 3=.int .i64 low∧s 4=.int .i64 d∧rI (fQ d a low) (a-1) s∧c.grownBy i (some T):=by
 have s:=o.lt;have ad:c.cell? ⟨T,0,none⟩=some (.int .i64 a):=by rw[o.cell 0 E,v.c0]
 have ao:c.cell? ⟨T,1,none⟩=some (.int .i64 d):=by rw[o.cell 1 E,v.c1]
 have ar:c.cell? ⟨T,4,none⟩=some (l 4):=o.cell 4 E;have O:∀b,c.frozen? ⟨T,b,none⟩=false:=o.free;have z:Hid (bD T 133 119 l c∧Aj d a l):=⟨o,v⟩;have w:Hid ((∀f r,f<a->r<a->dz d a f r<a)∧(∀f,f<a->jC d a f<a)):=⟨I,J⟩;have P:Hid (Full (fQ d a low) (a-1)∧∀e,e<low->¬Full (fQ d a e) (a-1)):=⟨K,M⟩;clear o v K M I J;go_enter func93,ntmps93;go_wp2
 go_region
 go_wp2
 go_loopg [14] a (λav ax wr=>∃(e:Nat) (k:Nat->Value),av=a-e∧e<=low∧ax=.int .i64 e∧
   wr.heap[c.heap.size]?=some (.cells #[.pointer (some ⟨T,0,none⟩)] 113 (0,0))∧bD T 133 119 k wr∧(∀b,b<5->b≠4->k b=l b)∧k 4=.int .i64 d∧c.grownBy wr (some T))
 case atStart=>
  refine⟨0,upd l 4 (.int .i64 d),X,E,X,?_,((z.out.1.store _ _).alloc _).drew,λb _ t=>upd_ne _ _ _ t,mH _ _ _,wP (iR (jf (gS _ _) _ _) (Yk _ _ _))⟩;have:=dR (w:=c.setCell ⟨T,4,none⟩ (.int .i64 d)) (.cells #[.pointer (some ⟨T,0,none⟩)] 113);rw[show(c.setCell ⟨T,4,none⟩ (.int .i64 d)).heap.size=c.heap.size from oi]at this;exact this
 case round=>
  clear ad ao ar O;obtain⟨e,k,Q,a1,rfl,m,R,S,U,A⟩:=hrel;have a0:=Yb m;have o:=A.size;have V:=X7 m
  have j:Hid (gk=a-e∧
   wr.heap[c.heap.size]?=some (.cells #[.pointer (some ⟨T,0,none⟩)] 113 (0,0))∧bD T 133 119 k wr∧(∀b,b<5->b≠4->k b=l b)∧k 4=.int .i64 d∧c.grownBy wr (some T)):=⟨Q,m,R,S,U,A⟩
  clear Q m R S A U;go_wp2_with fail;have r:=dR (w:=wr) (.cells #[.int .i64 e] 3);refine(qM T 114 a #[.pointer (some ⟨c.heap.size,0,none⟩),.pointer (some ⟨wr.heap.size,0,none⟩)] (fQ d a e) k (wr.alloc (.cells #[.int .i64 e] 3)) ab G (λf v=>Kw w.out.1 w.out.2 E E) TG (j.out.2.2.1.alloc _) (by rw[j.out.2.2.2.1 0 E E,z.out.2.c0]) ?_).mono ?_
  ·intro f I s v J K A;have l:s.heap[wr.heap.size]?=some (.cells #[.int .i64 e] 3 (0,0)):=(A.block wr.heap.size oi x7).trans r;have o:s.heap[c.heap.size]?=wr.heap[c.heap.size]?:=(A.block _ x7 x7).trans (Yx _ _ _ V);exact vU T c.heap.size wr.heap.size f e d a I s Y Z E G v E w.out.1 w.out.2 J (z.out.2.congr (λb n M Q A=>(K b n).trans (j.out.2.2.2.1 b n A))) (Yb (o.trans j.out.2.1)) (Yb l)
  ·rintro N i ⟨p,q,x,u,W⟩;have l:i.heap[wr.heap.size]?=some (.cells #[.int .i64 e] 3 (0,0)):=(u.block wr.heap.size oi x7).trans r;have o:i.heap[c.heap.size]?=wr.heap[c.heap.size]?:=(u.block _ x7 x7).trans (Yx _ _ _ V);have m:=o.trans j.out.2.1;have y:c.grownBy i (some T):=iR (iR j.out.2.2.2.2.2 (Yk _ _ _)) u;have f:=Yb l;have f:=Yb m;have O:=q.free;have f:=q.cell 3 E;clear a0 l o r;by_cases B:e=low
   ·rcases W with⟨C,D,rfl⟩|⟨F,rfl⟩
    ·have g:Hid (bD T 133 119 p i∧(∀b,b<5->p b=k b)∧rI (fQ d a e) (a-1) p∧c.grownBy i (some T)∧e=low):=⟨q,x,D,y,B⟩;clear q x u C D y m B;go_wp2;refine X2 (results_none X _ _ _) X ?_;exact⟨X,_,g.out.1.store _ _,λb n d t=>(upd_ne _ _ _ d).trans ((g.out.2.1 b n).trans (j.out.2.2.2.1 b n t)),by rw[mH,g.out.2.2.2.2],(upd_ne _ _ _ E).trans ((g.out.2.1 4 E).trans j.out.2.2.2.2.1),g.out.2.2.2.2▸g.out.2.2.1.congr (λb n=>upd_ne _ _ _ E),jf g.out.2.2.2.1 _ _⟩
    ·exact absurd (B▸P.out.1) F
   ·rcases W with⟨C,D,rfl⟩|⟨F,rfl⟩
    ·exact absurd C (P.out.2 e E)
    ·have g:Hid (bD T 133 119 p i∧(∀b,b<5->p b=k b)∧c.grownBy i (some T)∧i.heap[c.heap.size]?=some (.cells #[.pointer (some ⟨T,0,none⟩)] 113 (0,0))):=⟨q,x,y,m⟩;clear q x u F y m;go_wp2
     go_roundg (a-(e+1))
     case measure=>rw[j.out.1];omega
     case rel=>exact⟨e+1,p,X,E,x9,g.out.2.2.2,g.out.1,λb n t=>(g.out.2.1 b n).trans (j.out.2.2.2.1 b n t),(g.out.2.1 4 E).trans j.out.2.2.2.2.1,g.out.2.2.1⟩
theorem pC(b:Nat)(r:World)(n:2<=b)(w:b<=64):Calls prog 91 #[.int .i64 b] r λi w=>i=.returned (.tuple #[.int .i64 (pp b).1,.int .i64 (pp b).2])∧w=r:=by
 go_enter func91,ntmps91;go_wp2
 go_loop [2] (λo=>∃a:Nat,2<=a∧a<=b∧o=.int .i64 a∧Hid (∀f<a,2<=f->¬b % f=0)) (λo=>b-(intOf o).toNat)
 case atStart=>exact⟨2,E,n,X,λf h s=>E⟩
 case round=>
  obtain⟨a,t,B,rfl,u⟩:=hrel;by_cases d:b % a=0
  ·have p:((b:Int) % (a:Int) !=0)=false:=by simp;exact_mod_cast d
   have m:Hid (b % a=0):=d;clear d;go_wp2
   go_loop [0,3] (λq x=>∃j c:Nat,j<=6∧1<=c∧c<=64∧q=.int .i64 c∧x=.int .i64 j∧Hid (b % a ^ j=0∧c=b / a ^ j)) (λq _=>(intOf q).toNat)
   case atStart=>exact⟨0,b,E,E,E,X,X,by simp[Hid,Nat.mod_one]⟩
   case round=>
    obtain⟨j,c,C,D,F,rfl,rfl,e⟩:=hrel;by_cases d:c % a=0
    ·have p:((c:Int) % (a:Int)==0)=true:=by simp;exact_mod_cast d
     have k:Hid (c % a=0):=d;clear d;have y:1<=c / a:=Nat.div_pos (Nat.le_of_dvd E (jN k.out)) E;have z:c / a<c:=Nat.div_lt_self E E;have o:j+1<7:=mY b a (j+1) E n t (rT b a j e.out.1 (by rw[<-e.out.2];exact k.out));go_wp2
     go_round
     case rel=>exact⟨j+1,c / a,E,y,E,X,x9,rT b a j e.out.1 (by rw[<-e.out.2];exact k.out),by rw[e.out.2,jM,iK]⟩
     case measure=>
      show(((c / a:Nat):Int)).toNat<((c:Nat):Int).toNat;rw[aN,aN];exact z
    ·have p:((c:Int) % (a:Int)==0)=false:=by rw[aA];exact_mod_cast d
     have k:Hid (¬c % a=0):=d;clear d;have v:Hid ((c=1->pp b=(a,j))∧(c≠1->pp b=(0,0))):=zH b a j E n E t m.out u.out e.out.1 (by rw[<-e.out.2];exact k.out) c e.out.2;by_cases g:c=1
     ·have A:((c:Int) !=1)=false:=by rw[g];rfl
      have l:Hid (pp b=(a,j)):=v.out.1 g;clear g;go_wp2
      go_ret2
      exact⟨sw (by rw[l.out]) (by rw[l.out]),X⟩
     ·have A:((c:Int) !=1)=true:=by rw[dy];exact_mod_cast g
      have l:Hid (pp b=(0,0)):=v.out.2 g;clear g;go_wp2
      go_ret2
      exact⟨sw (by rw[l.out];rfl) (by rw[l.out];rfl),X⟩
  ·have p:((b:Int) % (a:Int) !=0)=true:=by rw[dy];exact_mod_cast d
   have m:Hid (¬b % a=0):=d;clear d;have G:a≠b:=by intro i;subst i;exact m.out (Nat.mod_self _)
   go_wp2
   go_round
   case rel=>exact⟨a+1,E,E,x9,λf h s=>if i:f=a then i▸m.out else u.out f E s⟩
   case measure=>simp[intOf];omega
theorem KH:zeroCells119.size=133:=wL
theorem Gq:zeroCells119[3]?=some (.int .i64 0):=wL
theorem Hz(c d e:Nat)(f:World):∃a:Nat->Value,bD f.heap.size 133 119 a (f.alloc (.cells (((zeroCells119.setIfInBounds 0 (.int .i64 c)).setIfInBounds 1 (.int .i64 d)).setIfInBounds 2 (.int .i64 e)) 119))∧a 0=.int .i64 c∧a 1=.int .i64 d∧a 2=.int .i64 e∧a 3=.int .i64 0:=by
 have b:=KH;have g:=Gq;generalize zeroCells119=h at *;refine⟨λa=>((((h.setIfInBounds 0 (.int .i64 c)).setIfInBounds 1 (.int .i64 d)).setIfInBounds 2 (.int .i64 e))[a]?).getD (.int .i64 0),⟨_,dR _,by simpa using b,?_⟩,?_,?_,?_,?_⟩
 ·intro a c;show _=some (Option.getD _ _);rw[au (by simpa [b]using c)];rfl
 ·simp[b]
 ·simp[b]
 ·simp[b]
 ·show Option.getD _ _=_;rw[ay E,ay E,ay E,g];rfl
structure Good(q p m:Nat):Prop where
 pp:pp q=(p,m)
 p2:2<=p
 Nw:p<=64
 m1:1<=m
 q2:2<=q
 uP:q<=64
 Ri:Su p q
 neg:∀a,a<q->jC p q a<q
 Xd:∀a,a<q->dz p q a (jC p q a)=0
 two:RP p q
structure Pj(q p m low gen:Nat)(st:Nat->Nat)(g:Nat->Value):Prop where
 sum:Aj p q g
 c2:g 2=.int .i64 m
 c3:g 3=.int .i64 low
 c4:g 4=.int .i64 gen
 U4:rI st (q-1) g
theorem B9(a gen:Nat)(e:World)(n:Good a a 1)(z:1<=gen)(A:gen<a)(o:Full (λb=>b*gen % a) (a-1))(p:∀c,1<=c->c<gen->¬Full (λb=>b*c % a) (a-1)):Calls prog 64 #[.int .i64 a] e λi d=>i=.returned (.pointer (some ⟨e.heap.size,0,none⟩))∧∃c,bD e.heap.size 133 119 c d∧Pj a a 1 0 gen (λb=>b*gen % a) c∧Below e.heap.size e d:=by
 have f:Hid (Good a a 1):=n;have q:Hid (Full (λb=>b*gen % a) (a-1)∧∀c,1<=c->c<gen->¬Full (λb=>b*c % a) (a-1)):=⟨o,p⟩;clear n o p;go_enter func64,ntmps64;go_wp2_with fail;refine(pC a e f.out.q2 f.out.uP).mono ?_;rintro i d ⟨rfl,rfl⟩;rw[f.out.pp];go_wp2_with fail;obtain⟨c,r,j,k,s,t⟩:=Hz a a 1 d;refine(uL d.heap.size a gen c _ f.out.q2 f.out.uP r j k z A q.out.1 q.out.2).mono ?_;rintro i u ⟨rfl,l,v,g,w,x,y⟩
 have m:Hid (bD d.heap.size 133 119 l u∧Pj a a 1 0 gen (λb=>b*gen % a) l∧Below d.heap.size d u):=
   ⟨v,⟨⟨(g 0 E E).trans j,(g 1 E E).trans k,f.out.two⟩,(g 2 E E).trans s,(g 3 E E).trans t,w,x⟩,
    ((XK _ _).alloc (aa _) _).grown y oi (by intro b a;simp at a;omega)⟩
 clear v g w x y j k s t r;go_wp2;go_ret;exact⟨X,l,m.out.1,m.out.2.1,m.out.2.2⟩
theorem B7(a b d low:Nat)(f:World)(o:Good a b d)(g:2<=d)(p:d<=6)(D:low<a)(p:Full (fQ b a low) (a-1))(q:∀g,g<low->¬Full (fQ b a g) (a-1)):Calls prog 64 #[.int .i64 a] f λi e=>i=.returned (.pointer (some ⟨f.heap.size,0,none⟩))∧∃r,bD f.heap.size 133 119 r e∧Pj a b d low b (fQ b a low) r∧Below f.heap.size f e:=by
 have c:Hid (Good a b d):=o;have s:Hid (Full (fQ b a low) (a-1)∧∀g,g<low->¬Full (fQ b a g) (a-1)):=⟨p,q⟩;clear o p q;go_enter func64,ntmps64;go_wp2_with fail;refine(pC a f c.out.q2 c.out.uP).mono ?_;rintro i e ⟨rfl,rfl⟩;rw[c.out.pp];have f:((d:Int)==0)=false:=Xp;have f:((d:Int)==1)=false:=Xp;go_wp2_with fail;obtain⟨f,t,u,v,w,j⟩:=Hz a b d e;have k:Aj b a f:=⟨u,v,c.out.two⟩;refine(tz e.heap.size b a low f _ c.out.p2 c.out.Nw c.out.q2 c.out.uP c.out.Ri.1 c.out.neg t k D s.out.1 s.out.2).mono ?_;rintro i x ⟨rfl,l,y,m,z,A,B,C⟩
 have n:Hid (bD e.heap.size 133 119 l x∧Pj a b d low b (fQ b a low) l∧Below e.heap.size e x):=
   ⟨y,⟨k.congr (λa b _ j c=>m a b j c),(m 2 E E E).trans w,z,A,B⟩,
    ((XK _ _).alloc (aa _) _).grown C oi (by intro b a;simp at a;omega)⟩
 clear y m z A B C k u v w j t;go_wp2;go_ret;exact⟨X,l,n.out.1,n.out.2.1,n.out.2.2⟩
