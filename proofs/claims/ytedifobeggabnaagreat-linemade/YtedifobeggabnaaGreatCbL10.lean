/- Texts of ours, one behind the other: L10 O1 K1 K2 K3 J1 S1 S2 T1 W9 T2 T4 T5 T6 T7. -/
import Derived.Test.YtedifobeggabnaaGreatCbL9
import Derived.Test.YtedifobeggabnaaGreatChecked
import Derived.ProofKit
import Derived.OpenShut
import Derived.SizedLaws
namespace Go.Proofs.YtedifobeggabnaaGreat
set_option maxHeartbeats 8000000
set_option maxRecDepth 100000
open Tryz
variable {t:Option Addr}{l g d s u K y:Nat}{B:Nat->Int}{f D:World}{C:Type}{q z G O P Q R S T U V W Y Z ab ad ao ar av ax a0 a1 a2 a3 a4 a5 a6 a7 a8 a9 ba bb bc bg bk bl bm bn bo bp bs bw bx bz bA bB bE bM bN bO bQ bS bY b0 b1 b2 b3 b4 b6 b7 b8 ca cb cc cf cl cm cp cq cr cw cx cy cz cA cB cM cO cP cR c0 c1 c5 c6 c7 c8 c9 eM eN eO eQ eR eS eT eW eZ e0 e1 e2 e3 e4 e5 e6 e7 dc dd dg dq dr ds dB ea eb ec ed ee ef eg ei ej fe fl fo fr fs fu fv fw fx fy ga gb eo ep er et ev ew ey ez eA eB eC eD e8 e9:Value}{n o w:Nat->Nat}{b:FD}{j M:(Nat->Nat)->Prop}{p v:Nat->Nat->Nat}{fc:List Value}{r:Nat->Value}{gd:Array Oper}{A:Oper}{F:Act}{gf:Act->World->Prop}{N:Exit->Act->World->Prop}{gj:Prop}{gi:List Int}{eE:Code}
abbrev XM:=@Go.cell_regrown
abbrev XU:=@Go.wp_region_noPanic
abbrev XY:=@Go.NoPanic.normal
abbrev X0:=@Go.Calls.regrown_of
abbrev X6:=@Go.wp_region_quiet_below
abbrev YH:=@Go.IntKind.wrap_i64
theorem cd{a:Prop}(b:a:=by first|exact(XK _ _).drew.alloc (aa _) _|exact((XK _ _).drew.alloc (aa _) _).alloc (by simp) _|exact(XK _ _).alloc (aa _) _|exact((XK _ _).alloc (aa _) _).alloc (by simp) _):a:=b
theorem Xl{a:Prop}(b:a:=by rw[bq];omega):a:=b
theorem Xm{a:Prop}(b:a:=by first|(simp[cg];done)|(simp[cg];omega)):a:=b
theorem Xx{a:Prop}(b:a:=by rw[cg];omega):a:=b
section
open Go.RowKit Go.Sort
structure Ep(ao:Option Addr)(n cap:Nat)(z:Nat->Int)(w:World):Prop where
 sl:lu ao n z w
 lt:fp ao w.heap.size
 nil:ao=none->cap=0
 le:n<=cap
 cap:cap<=9223372036854775807
theorem Ep.arg(a:Ep t l g B f)(b:l<=1000000):Arg t l g B f:=⟨a.sl,a.lt,b,a.nil,a.le,a.cap⟩
end
section
open Go.ChangeShapes Go.WideShapes Go.ChangeAt Go.RowKit
theorem Lh:prog.cellsOf 3=1:=wL
theorem Le:prog.bytesOf 3=8:=wL
theorem L5:laidOutB prog=true:=wL
theorem JW{h:TypeId×Value->C}{d:DataW C}{i:List MemPlace}(a:Value.okWide prog f .any l 22 q)(u:DataW.Trod h prog f 0 (λ_=>true) true 22 q d i):∃i k h v,q=.slice i k h∧Ep i k h v f∧((d=.nil∧h=0)∨∃m n,d=.slice m n∧m.length+n.length=h):=by
 obtain⟨G,w,o,rfl⟩:=okWide_slice underlying22 a;obtain⟨i,h⟩:=u;rcases open_ints underlying22 underlying3 Lh h with⟨e,b⟩|⟨c,i,k,x,e,_,y,z,A,b,B,_⟩
 ·simp[Value.cells]at e;obtain⟨rfl,rfl,rfl⟩:=e;simp only[cK]at b;exact⟨none,0,0,λ_=>0,X,⟨λj D=>E,λF b=>(by cases b),λ_=>rfl,aa _,E⟩,I ⟨b.1,X⟩⟩
 ·simp[Value.cells]at e;obtain⟨rfl,rfl,rfl⟩:=e;simp only[cK]at b;simp only[ek]at A
  have e:c.spot=none∧c.block<f.heap.size:=by
   have h:f.has prog .any l c 3 o:=by
    unfold Value.okWide at a;rw[underlying22]at a;simp only at a;unfold Cell.okWide at a;rw[underlying22]at a;simp only at a;unfold Cell.ok at a;rw[underlying22]at a;exact a.2.2
   obtain⟨_,a,k,m,i,_⟩:=h;refine⟨a,?_⟩;rcases aR c.block f.heap.size with g|g
   ·exact g
   ·exfalso;have:f.heap[c.block]?=none:=bC g;simp[World.shape?,this]at i
  obtain⟨p,r,K⟩:=c;obtain⟨s,t⟩:=e;simp only at s t;subst s;refine⟨some ⟨p,r,none⟩,w,o,λj=>x.getD j 0,X,⟨λj D=>⟨p,r,X,?_⟩,λF b=>(by cases b;exact t),λg=>(by cases g),y,z⟩,J ⟨_,_,b.1,?_⟩⟩
  ·have:=B j E
   rwa [od]at this
  ·simp[lits];omega
theorem FZ{e:List TypeId}{f:List (DataW C)}{d:DataW C}{a j:Nat}(g:(DataW.weightsEach prog e f).all (·<=reachBytes)=true)(h:e[j]?=some 22)(i:f[j]?=some d)(k:(d=.nil∧a=0)∨∃b c,d=.slice b c∧b.length+c.length=a):a<=17592186044416:=by
 rcases k with⟨_,rfl⟩|⟨b,c,rfl,rfl⟩
 ·omega
 ·have:=sized_slice g h i underlying22;rw[Le]at this;unfold reachBytes at this;omega
end
section
open Go.RowKit Go.Sort
def oI(a:Int):Prop:= -9223372036854775808<=a∧a<=9223372036854775807
theorem CP(a:Int):oI (IntKind.i64.wrap a):=by
 unfold oI;rw[YH];omega
theorem Ba(h:Arg t l g B f)(i:l<=1000)(a:Nat)(k:a<=1000000):Calls prog 17 #[.slice t l g,.int .i64 a] f λk m=>(∃i,k=.returned (.int .i64 i)∧oI i)∧∃n,m=f.drewN n:=by
 have o:Hid (Arg t l g B f):=h;clear h;by_cases b:l=0
 ·have p:((l:Int)==0)=true:=by rw[b];rfl
  clear b;go_enter func17,ntmps17;go_wp2;go_ret;exact⟨⟨_,X,by unfold oI;omega⟩,0,X⟩
 ·have p:((l:Int)==0)=false:=by rw[aA];omega
  have⟨j,c⟩:=eaa (a % l);have⟨d,e⟩:=eaa (a / l);have q:j<l:=by rw[c];exact bZ _ E
  have i:d<=a:=by rw[e];exact j6 _ _
  have i:(a:Int).tmod (l:Int)=(j:Int):=by rw[Int.tmod_eq_emod_of_nonneg E,c];rfl
  have i:(a:Int).tdiv (l:Int)=(d:Int):=by rw[kO E,e];rfl
  obtain⟨u,v,rfl,r⟩:=o.out.sl j q;have⟨i,k⟩:=eaa (B j);rw[<-k]at r;obtain⟨a,m⟩:∃a,IntKind.i64.wrap (i+(d:Int)*7919)=a:=⟨_,X⟩;have s:Hid (oI a):=by show oI a;rw[<-m];exact CP _
  have a:¬(l:Int)=0:=E;have a:(j:Int)<(l:Int):=E;have a:(0:Int)<=(j:Int):=E;clear c e k b;go_enter func17,ntmps17;go_wp2
  go_quiet (fail)
  go_wp2;go_ret;exact⟨⟨_,X,by first|exact s.out|exact CP _⟩,_,X⟩
def Sj(b c:Nat)(a:Nat->Int):Prop:=∀j,j<c->0<=a j∧a j<(b:Int)
theorem Dd(h:Arg t l g B f)(J:l<=1000)(n c b:Nat)(v:n<=100000)(R:1<=c)(S:c<=100000)(u:b<=100000):Calls prog 16 #[.slice t l g,.int .i64 n,.int .i64 c,.int .i64 b] f λd m=>∃v y,d=.returned v∧aV f.heap.size v (zl b y) m∧Sj c b y∧Below f.heap.size f m:=by
 have K:Hid (Arg t l g B f):=h;clear h;go_enter func16,ntmps16;go_wp2;go_loopw [9,10] (λM p wr=>∃(a:Nat) (y:Nat->Int),a<=b∧p=.int .i64 a∧Hid (aV f.heap.size M (zl a y) wr∧Sj c a y∧Below f.heap.size f wr)) (λ_ p _=>b-(intOf p).toNat)
 case atStart=>exact⟨0,λ_=>0,E,X,aV.nil _ _,λj w=>E,XK _ _⟩
 case round=>
  obtain⟨a,y,T,rfl,i⟩:=hrel;have p:=i.out.2.2.size;by_cases p:a<b
  ·have N:(a:Int)<(b:Int):=by omega
   have x:Hid (Calls prog 17 #[.slice t l g,.int .i64 ((n:Int)+(a:Int))] wr λd m=>(∃k,d=.returned (.int .i64 k)∧oI k)∧∃b,m=wr.drewN b):=by
    have h:=Ba (K.out.below i.out.2.2) J (n+a) E;rw[Int.natCast_add]at h;exact h
   go_wp2_with fail
   refine x.out.mono ?_;rintro d z ⟨⟨k,rfl,q⟩,U,A⟩;have o:Hid (aV f.heap.size u9 (zl a y) z∧Below f.heap.size f z):=by rw[A];exact⟨i.out.1.drewN _,aO i.out.2.2 _⟩
   have O:=o.out.2.size;clear A;have C:=qe k (c:Int) E;have D:=p9 k (c:Int) E;have⟨e,n⟩:=eaa (pick k (c:Int));have P:Hid (∀f:World,Calls prog 15 #[.int .i64 k,.int .i64 c] f λd m=>d=.returned (.int .i64 e)∧m=f):=λf=>by rw[n];exact iT k c f q.1 q.2 E E
   rw[<-n]at C D;clear n q x
   go_wp2_with (first
    |(go_at_call 15;refine(P.out _).mono ?_;rintro d m ⟨rfl,r⟩;have r:=r.symm;subst r)
    |(at_builtin;refine kC rfl _ _ rfl f.heap.size _ (zl a y) rfl (o.out.1.alloc _) ⟨_,0,none⟩ 1 e rfl oi Xl x7 ?_;intro F s G I))
   have Q:Hid (aV f.heap.size F (zl (a+1) (λj=>if j=a then e else y j)) s∧Sj c (a+1) (λj=>if j=a then e else y j)∧Below f.heap.size f s):=by
    refine⟨?_,λj w=>?_,(o.out.2.alloc O _).grown I x7 (λb u=>(o.out.1.lt b u).1)⟩
    ·rw[sS,Ef (y:=y) (λj w=>by show(if j=a then e else y j)=y j;rw[af E])];show aV f.heap.size F (zl a y++[if a=a then e else y a]) s;rw[ai X];exact G
    ·show 0<=(if j=a then e else y j)∧(if j=a then e else y j)<(c:Int);by_cases d:j=a
     ·rw[ai d];exact⟨C,D⟩
     ·rw[af d];exact i.out.2.1 j E
   clear G I;go_roundw
   case rel=>exact⟨a+1,_,E,x9,Q.out⟩
   case measure=>simp[intOf];omega
  ·have N:¬(a:Int)<(b:Int):=by omega
   have d:a=b:=E;subst d;go_wp2;go_ret;exact⟨_,X,y,i.out.1,i.out.2.1,i.out.2.2⟩
def mn(a:Nat)(b:Nat->Nat):Prop:=(∀j,j<a->b j<a)∧∀c j,c<j->j<a->b c≠b j
def swp(a:Nat->Nat)(b c:Nat):Nat->Nat:=λj=>if j=c then a b else if j=b then a c else a j
theorem Ow(f:mn l n)(h:g<l)(i:d<l):mn l (swp n g d):=by
 have e:∀c b,c<l->b<l->n c=n b->c=b:=by
  intro c b k m a;rcases cJ c b with o|o|o
  ·exact absurd a (f.2 c b o m)
  ·exact o
  ·exact absurd a.symm (f.2 b c o k)
 refine⟨λj p=>?_,λc b o m a=>?_⟩
 ·unfold swp;split
  ·exact f.1 g h
  ·split
   ·exact f.1 d i
   ·exact f.1 j p
 ·unfold swp at a;have k:c<l:=E;by_cases o:c=d
  ·rw[ai o]at a;rw[af E]at a;by_cases f:b=g
   ·rw[ai f]at a;have:=e g d h i a;omega
   ·rw[af f]at a;have:=e g b h m a;omega
  ·rw[af o]at a;by_cases f:c=g
   ·rw[ai f]at a;by_cases o:b=d
    ·rw[ai o]at a;have:=e d g i h a;omega
    ·rw[af o,af E]at a;have:=e d b i m a;omega
   ·rw[af f]at a;by_cases o:b=d
    ·rw[ai o]at a;have:=e c g k h a;omega
    ·rw[af o]at a;by_cases f:b=g
     ·rw[ai f]at a;have:=e c d k i a;omega
     ·rw[af f]at a;have:=e c b k m a;omega
theorem aV.yy{y:Nat->Int}(e:aV l q (zl g y) f):∃h i,q=.slice h g i∧Ep h g i y f:=by
 rcases e.2 with⟨n,k⟩|⟨o,p,h,b,i,r,m,s,v,w⟩
 ·rw[bq]at k;subst k;exact⟨none,0,n,λj c=>E,λt d=>(by cases d),λ_=>rfl,aa _,E⟩
 ·rw[bq]at b m;refine⟨_,p,b,λj c=>⟨o,0,X,?_⟩,λt d=>(by cases d;exact X7 r),λa=>(by cases a),m,by unfold maxLen at s;omega⟩
  obtain⟨d,h,a,_,_,u,_⟩:=e.at (λa=>by
   have:=cF List.length a;rw[bq]at this;simp at this;omega)
  rw[bq,b]at a;cases a;rw[aW];have:=u j (by rw[bq];exact c)
  rwa [sR g y j c]at this
end
section
open Go.RowKit
end
def sf(a:FD):List (Nat×(Nat->Nat))->Nat->Nat
 |[]=>db
 |x::b=>dk a (aP a x.1 x.2) (sf a b)
def gZ(c:FD)(d:(Nat->Nat)->Prop)(e:Nat->Nat):Prop:=∃a:List (Nat×(Nat->Nat)),(∀b,b∈a->d b.2)∧e=sf c a
theorem ov(a:bV b):∀c,El b (sf b c)
 |[]=>mw a
 |_::c=>AA a (dw a _ _) (ov a c)
theorem C0(a:bV b):∀c m,sf b (c++m)=dk b (sf b c) (sf b m)
 |[],m=>(Da a (ov a m)).symm
 |x::c,m=>by
  show dk b (aP b x.1 x.2) (sf b (c++m))=dk b (dk b (aP b x.1 x.2) (sf b c)) (sf b m);rw[C0 a c m,q8 a (dw a _ _) (ov a c) (ov a m)]
theorem xb(d:bV b)(a:Nat):∀c,aP b a (sf b c)=sf b (c.map λx=>(b.mul a x.1,x.2))
 |[]=>oE d a
 |x::c=>by
  show aP b a (dk b (aP b x.1 x.2) (sf b c))=dk b (aP b (b.mul a x.1) x.2) (sf b (c.map λx=>(b.mul a x.1,x.2)));rw[ra d a (dw d _ _) (ov d c),kR d,xb d a c]
theorem gZ.el(a:bV b)(c:gZ b j n):El b n:=by
 obtain⟨d,_,rfl⟩:=c;exact ov a d
theorem Bp(a:FD)(b:(Nat->Nat)->Prop):gZ a b db:=⟨[],λd c=>by simp at c,X⟩
theorem fW(a:bV b)(c:El b n)(d:j n):gZ b j n:=
 ⟨[(1,n)],λf e=>by rw[fJ.1 e];exact d,by show n=dk b (aP b 1 n) db;rw[rb a c,mD a c]⟩
theorem qy(f:bV b)(a:gZ b j n)(e:gZ b j o):gZ b j (dk b n o):=by
 obtain⟨c,g,rfl⟩:=a;obtain⟨d,h,rfl⟩:=e;exact⟨c++d,λe i=>by rcases j4.1 i with a|a;exact g e a;exact h e a,(C0 f c d).symm⟩
theorem jY(e:bV b)(a:Nat)(c:gZ b j n):gZ b j (aP b a n):=by
 obtain⟨d,f,rfl⟩:=c;refine⟨d.map λc=>(b.mul a c.1,c.2),λc g=>?_,xb e a d⟩;obtain⟨y,h,rfl⟩:=gF.1 g;exact f y h
theorem vB{a Q:(Nat->Nat)->Prop}(f:Q db)(g:∀c n,Q c->Q n->Q (dk b c n))(h:∀i n,Q n->Q (aP b i n))(j:∀n,a n->Q n)(k:gZ b a n):Q n:=by
 obtain⟨d,e,rfl⟩:=k;induction d with
 |nil=>exact f
 |cons l d m=>exact g _ _ (h _ _ (j _ (e l (List.mem_cons_self ..)))) (m (λy o=>e y (eU _ o)))
theorem tU(a:bV b)(c:∀n,j n->gZ b M n)(d:gZ b j n):gZ b M n:=
 vB (Bp b M) (λ_ _=>qy a) (λe _=>jY a e) c d
theorem Ic(a:bV b)(d:gZ b j n)(c:gZ b j o):gZ b j (iF b n o):=by
 have e:iF b n o=dk b n (aP b (b.ng 1) o):=by
  funext i
  show b.sb (n i) (o i)=b.ad (n i) (b.mul (b.ng 1) (o i));rw[a.mul_comm,xf a (gV a),mM a (c.el a i)];rfl
 rw[e];exact qy a d (jY a _ c)
structure Eh(D:FD)(n k:Nat)(R:Nat->Nat->Nat)(p:Nat->Nat):Prop where
 el:∀i,i<k->El D (R i)
 bd:∀i,i<k->Bd n (R i)
 lt:∀i,i<k->p i<n
 mono:∀i j,i<j->j<k->p i<p j
 one:∀i,i<k->R i (p i)=1
 zero:∀i j,i<k->j<k->i≠j->R i (p j)=0
 lead:∀i c,i<k->c<p i->R i c=0
def cS(b:Nat)(c:Nat->Nat->Nat)(d:Nat->Nat):Prop:=∃a,a<b∧d=c a
def RX(a:FD)(b:Nat->Nat->Nat)(c:Nat->Nat)(d:Nat->Nat):Nat->Nat->Nat
 |0=>db
 |k+1=>dk a (RX a b c d k) (aP a (d (c k)) (b k))
theorem L8(g:bV b)(a:Nat->Nat->Nat)(c d:Nat->Nat)(e:Nat):∀k,(∀f,f<k->b.mul (d (c f)) (a f e)=0)->RX b a c d k e=0
 |0,_=>rfl
 |k+1,h=>by
  show b.ad (RX b a c d k e) (b.mul (d (c k)) (a k e))=0;rw[L8 g a c d e k (λf i=>h f E),h k E,b5 g (aX g)]
def ins(b:Nat)(d:C)(c:Nat->C):Nat->C:=λa=>if a<b then c a else if a=b then d else c (a-1)
theorem gg{x:C}{a:Nat->C}(b:g<l):ins l x a g=a g:=ai b
theorem ir(a:Nat)(b:C)(c:Nat->C):ins a b c a=b:=by unfold ins;rw[af E,ai X]
theorem gU{x:C}{a:Nat->C}(b:l<g):ins l x a g=a (g-1):=by unfold ins;rw[af E,af E]
def iu(a:FD)(b c:Nat->Nat)(d:Nat):Nat->Nat:=iF a b (aP a d c)
theorem vk(a:bV b)(c:Nat->Nat)(d:Nat)(e:El b n):El b (iu b n c d):=tj a e (dw a _ _)
theorem A6(c:bV b)(d:Nat)(f:Bd l n)(g:Bd l o):Bd l (iu b n o d):=λa e=>by
 show b.sb (n a) (b.mul d (o a))=0;rw[f a e,g a e,gI c,fA c (aX c)]
theorem kI(d:bV b)(e:Nat->Nat)(f:El b n){c k:Nat}(a:c=0∨e k=0):iu b n e c k=n k:=by
 show b.sb (n k) (b.mul c (e k))=n k;rcases a with a|a
 ·rw[a,qI d,oF d (f k)]
 ·rw[a,gI d,oF d (f k)]
theorem NB(a:bV b)(c:Nat)(d:gZ b j n)(e:gZ b j o):gZ b j (iu b n o c):=Ic a d (jY a c e)
theorem NA(a:bV b)(c:Nat->Nat)(d:Nat)(e:El b n):dk b (aP b d c) (iu b n c d)=n:=su a e (dw a _ _)
structure O8(D:FD)(n k:Nat)(R:Nat->Nat->Nat)(p:Nat->Nat)(r0:Nat->Nat)(t:Nat)(r:Nat->Nat):Prop where
 el:El D r
 bd:Bd n r
 zero:∀j,j<t->r (p j)=0
 OZ:gZ D (cS k R) (iF D r0 r)
theorem Jc(c:bV b)(a:El b o)(d:Bd l o):O8 b l g p n o 0 o:=
 ⟨a,d,λj e=>E,by rw[J4 c a];exact Bp _ _⟩
theorem Ma(a:bV b)(m:Eh b l g p n)(e:El b o)(c:O8 b l g p n o d w)(h:d<g):O8 b l g p n o (d+1) (iu b w (p d) (w (n d))):=by
 refine⟨vk a _ _ c.el,A6 a _ c.bd (m.bd d h),λj f=>?_,?_⟩
 ·by_cases q:j=d
  ·subst q;show b.sb (w (n j)) (b.mul (w (n j)) (p j (n j)))=0;rw[m.one j h,mM a (c.el _),fA a (c.el _)]
  ·rw[kI a _ c.el (J (m.zero d j h E (λf=>q f.symm)))];exact c.zero j E
 ·have q:iF b o (iu b w (p d) (w (n d)))=dk b (iF b o w) (aP b (w (n d)) (p d)):=by
   funext i
   show b.sb (o i) (b.sb (w i) (b.mul (w (n d)) (p d i)))=b.ad (b.sb (o i) (w i)) (b.mul (w (n d)) (p d i));have k:=e i;have e:=c.el i;have f:=a.bX (w (n d)) (p d i);refine nA a (a:=b.sb (w i) (b.mul (w (n d)) (p d i))) (lM a e f) (lM a k (lM a e f)) (oK a (lM a k e) f) ?_;rw[ue a k (lM a e f),gQ a (b.sb (o i) (w i)), <-g7 a (lM a e f) f (lM a k e),gQ a (b.sb (w i) _),ue a e f,ue a k e]
  rw[q];exact qy a c.OZ (jY a _ (fW a (m.el d h) ⟨d,h,X⟩))
def ID(b:(Nat->Nat)->Prop)(c:Nat->Nat)(a:Nat->Nat):Prop:=b a∨a=c
theorem Ee(a:Nat)(c:Nat->Nat->Nat)(d:Nat->Nat):cS (a+1) c d↔ID (cS a c) (c a) d:=by
 constructor
 ·rintro⟨b,e,rfl⟩;by_cases f:b=a
  ·subst f;exact J X
  ·exact I ⟨b,E,X⟩
 ·rintro(⟨b,e,rfl⟩|rfl)
  ·exact⟨b,E,X⟩
  ·exact⟨a,E,X⟩
theorem tS{P Q:(Nat->Nat)->Prop}(e:∀a,P a↔Q a)(a:Nat->Nat):gZ b P a↔gZ b Q a:=
 ⟨λ⟨a,h1,h2⟩=>⟨a,λc d=>(e _).1 (h1 c d),h2⟩,λ⟨a,h1,h2⟩=>⟨a,λc d=>(e _).2 (h1 c d),h2⟩⟩
theorem rk(a:gZ b j o):gZ b (ID j n) o:=by
 obtain⟨c,d,e⟩:=a;exact⟨c,λa f=>I (d a f),e⟩
theorem Od(d:bV b)(e:∀a,j a->El b a)(f:gZ b j n)(a:Nat->Nat):gZ b (ID j n) a↔gZ b j a:=
 ⟨λg=>tU d (λh c=>by rcases c with c|rfl;exact fW d (e h c) c;exact f) g,rk⟩
theorem Kl(d:bV b)(g:∀c,j c->El b c)(h:gZ b (ID j o) n)(i:gZ b (ID j n) o)(c:Nat->Nat):gZ b (ID j n) c↔gZ b (ID j o) c:=
 ⟨λe=>tU d (λf a=>by rcases a with a|rfl;exact rk (fW d (g f a) a);exact h) e,
  λe=>tU d (λf a=>by rcases a with a|rfl;exact rk (fW d (g f a) a);exact i) e⟩
theorem Ob(e:bV b)(f:∀a,j a->El b a)(i:∀a,M a->El b a)(k:El b n)(c:∀a,gZ b j a↔gZ b M a)(a:Nat->Nat):gZ b (ID j n) a↔gZ b (ID M n) a:=by
 have g:∀ {j M:(Nat->Nat)->Prop},(∀a,j a->El b a)->(∀a,gZ b j a->gZ b M a)->∀a,gZ b (ID j n) a->gZ b (ID M n) a:=λf c a l=>
  tU e (λh d=>by rcases d with d|rfl;exact rk (c h (fW e (f h d) d));exact fW e k (J X)) l
 exact⟨g f (λa=>(c a).1) a,g i (λa=>(c a).2) a⟩
theorem QS(k:bV b)(f:Eh b l g p n)(F:El b o)(y:Bd l o)(G:d<l)(B:o d=1)(C:∀q,q<d->o q=0)(v:∀j,j<g->o (n j)=0)(t:s<=g)(z:∀j,j<s->n j<d)(A:∀j,s<=j->j<g->d<n j):Eh b l (g+1) (ins s o λa=>iu b (p a) o (p a d)) (ins s d n):=by
 have K:∀a,s<=a->a<g->p a d=0:=λa M t=>f.lead a d t (A a M t)
 have m:∀a,a<g+1->(a<s)∨a=s∨(s<a∧a-1<g):=λa i=>E
 refine⟨λa i=>?_,λa i=>?_,λa i=>?_,λa j r t=>?_,λa i=>?_,λa j i t r=>?_,λa q i u=>?_⟩
 ·rcases m a i with c|c|⟨c,h⟩
  ·rw[gg c];exact vk k _ _ (f.el a E)
  ·rw[c,ir];exact F
  ·rw[gU c];exact vk k _ _ (f.el _ h)
 ·rcases m a i with c|c|⟨c,h⟩
  ·rw[gg c];exact A6 k _ (f.bd a E) y
  ·rw[c,ir];exact y
  ·rw[gU c];exact A6 k _ (f.bd _ h) y
 ·rcases m a i with c|c|⟨c,h⟩
  ·rw[gg c];exact f.lt a E
  ·rw[c,ir];exact G
  ·rw[gU c];exact f.lt _ h
 ·rcases m j t with c|c|⟨c,h⟩
  ·rw[gg c,gg E];exact f.mono a j r E
  ·rw[c,ir,gg E];exact z a E
  ·rw[gU c];rcases cJ a s with e|e|e
   ·rw[gg e];have:=z a e;have:=A (j-1) E h;omega
   ·rw[e,ir];exact A _ E h
   ·rw[gU e];exact f.mono _ _ E h
 ·rcases m a i with c|c|⟨c,h⟩
  ·rw[gg c,gg c,kI k _ (f.el a E) (J (v a E))];exact f.one a E
  ·rw[c,ir,ir];exact B
  ·rw[gU c,gU c,kI k _ (f.el _ h) (J (v _ h))];exact f.one _ h
 ·have D:∀a,a<g->iu b (p a) o (p a d) d=0:=λa i=>by
   show b.sb (p a d) (b.mul (p a d) (o d))=0;rw[B,mM k (f.el a i _),fA k (f.el a i _)]
  have x:∀a j,a<g->j<g->a≠j->iu b (p a) o (p a d) (n j)=0:=λa j i t r=>by
   rw[kI k _ (f.el a i) (J (v j t))];exact f.zero a j i t r
  rcases m j t with c|c|⟨c,h⟩
  ·rw[gg (x:=d) c];rcases m a i with e|e|⟨e,w⟩
   ·rw[gg e];exact x a j E E r
   ·rw[e,ir];exact v j E
   ·rw[gU e];exact x _ j w E E
  ·subst c;rw[ir j d];rcases m a i with e|e|⟨e,w⟩
   ·rw[gg e];exact D a E
   ·exact absurd e r
   ·rw[gU e];exact D _ w
  ·rw[gU (x:=d) c];rcases m a i with e|e|⟨e,w⟩
   ·rw[gg e];exact x a _ E h E
   ·rw[e,ir];exact v _ h
   ·rw[gU e];exact x _ _ w h E
 ·rcases m a i with c|c|⟨c,h⟩
  ·rw[gg c]at u;rw[gg c];have:=z a c;rw[kI k _ (f.el a E) (J (C q E))];exact f.lead a q E u
  ·rw[c,ir]at u;rw[c,ir];exact C q u
  ·rw[gU c]at u;rw[gU c,kI k _ (f.el _ h) (I (K _ E h))];exact f.lead _ q h u
theorem DO(c:bV b)(h:Eh b l g p n)(i:El b o)(t:s<=g)(k:Nat->Nat):gZ b (cS (g+1) (ins s o λa=>iu b (p a) o (p a d))) k↔gZ b (ID (cS g p) o) k:=by
 have m:gZ b (cS (g+1) (ins s o λa=>iu b (p a) o (p a d))) o:=fW c i ⟨s,E,(ir _ _ _).symm⟩;constructor
 ·intro j;refine tU c ?_ j
  have q:∀a,a<g->gZ b (ID (cS g p) o) (iu b (p a) o (p a d)):=λa f=>
   NB c _ (rk (fW c (h.el a f) ⟨a,f,X⟩)) (fW c i (J X))
  rintro r ⟨a,f,rfl⟩;rcases cJ a s with e|e|e
  ·rw[gg e];exact q a E
  ·rw[e,ir];exact fW c i (J X)
  ·rw[gU e];exact q _ E
 ·intro j;refine tU c ?_ j;rintro r (⟨a,f,rfl⟩|rfl)
  ·have i:gZ b (cS (g+1) (ins s o λa=>iu b (p a) o (p a d))) (iu b (p a) o (p a d)):=by
    refine fW c (vk c _ _ (h.el a f)) ?_;by_cases e:a<s
    ·exact⟨a,E,by rw[gg e]⟩
    ·exact⟨a+1,E,by rw[gU E,dh]⟩
   rw[<-NA c o (p a d) (h.el a f)];exact qy c (jY c _ m) i
  ·exact m
theorem NN(c:bV b)(f:∀j,j<=d->El b (v j))(h:∀a,gZ b (cS g p) a↔gZ b (cS d v) a)(k:O8 b l g p n (v d) g db)(a:Nat->Nat):gZ b (cS g p) a↔gZ b (cS (d+1) v) a:=by
 have i:=k.OZ;rw[xz c (f d (aa _))]at i;rw[tS (Ee d v),Od c (λa ⟨j,hj,e⟩=>by rw[e];exact f j E) ((h _).1 i)];exact h a
theorem QO(a:bV b)(i:Eh b l g p n)(f:∀j,j<=d->El b (v j))(m:∀c,gZ b (cS g p) c↔gZ b (cS d v) c)(h:O8 b l g p n (v d) g o){inv mU t:Nat}(q:b.mul (o mU) inv=1)(r:t<=g)(c:Nat->Nat):gZ b (cS (g+1) (ins t (aP b inv o) λd=>iu b (p d) (aP b inv o) (p d mU))) c↔gZ b (cS (d+1) v) c:=by
 have k:∀c,cS g p c->El b c:=λc ⟨j,hj,e⟩=>by rw[e];exact i.el j hj
 rw[DO a i (dw a _ _) r,tS (Ee d v), <-Ob a k (λc ⟨j,hj,e⟩=>by rw[e];exact f j E) (f d (aa _)) m];refine Kl a k ?_ ?_ c
 ·have e:o=iF b (v d) (iF b (v d) o):=by
   funext j
   show o j=b.sb (v d j) (b.sb (v d j) (o j));have c:=f d (aa _) j;have i:=h.el j;refine nA a (a:=b.sb (v d j) (o j)) (lM a c i) i (lM a c (lM a c i)) ?_;rw[ue a c (lM a c i),gQ a,ue a c i]
  refine jY a _ ?_;rw[e];exact Ic a (fW a (f d (aa _)) (J X)) (rk h.OZ)
 ·have e:v d=dk b o (iF b (v d) o):=(su a (f d (aa _)) h.el).symm;have c:o=aP b (o mU) (aP b inv o):=by rw[kR a,q,rb a h.el]
  rw[e];refine qy a ?_ (rk h.OZ);rw[c];exact jY a _ (fW a (dw a _ _) (J (by rw[<-c])))
section
open Go.RowKit Go.Sort
theorem E2(d:aV l q (zl (g+1) λj=>((n j:Nat):Int)) f):kW q (g,n) f∧∀a,q.ownBlock=some a->l<=a:=by
 have b:=d.V8 n (λa c=>by rw[bq]at c;exact sR _ _ a c);rw[bq]at b;exact⟨b.Ws,b.block⟩
theorem zN(Q:b∈ak)(gen e f:Nat){w:World}(R:l<=1000)(S:El b n)(T:El b o)(hc:g<b.q)(av:kW q (l,n) w)(ax:kW z (l,o) w)(U:eH b (.slice (some ⟨e,0,none⟩) (b.m+1) f) b.md w):Calls prog 89 #[.agg #[.int .i64 b.q,.int .i64 b.p,.int .i64 b.m,.int .i64 gen,.slice (some ⟨e,0,none⟩) (b.m+1) f],q,z,.int .i64 g] w λt V=>∃F,t=.returned F∧kW F (l,iu b n o g) V∧(∀a,F.ownBlock=some a->w.heap.size<=a)∧Below w.heap.size w V:=by
 obtain⟨W,cr,rfl,_,_,Y⟩:=av;obtain⟨go,co,rfl,_,_,Z⟩:=ax;have F:Below w.heap.size w (w.alloc (.cells #[.int .i64 b.q,.int .i64 b.p,.int .i64 b.m,.int .i64 gen,.slice (some ⟨e,0,none⟩) (b.m+1) f] 32)):=(XK _ _).alloc (aa _) _;have i:Hid (b∈ak∧El b n∧El b o∧Row W (l+1) n w∧Row go (l+1) o w∧eH b (.slice (some ⟨e,0,none⟩) (b.m+1) f) b.md w):=⟨Q,S,T,Y,Z,U⟩;have G:Hid (gN w.heap.size b gen (.slice (some ⟨e,0,none⟩) (b.m+1) f) (w.alloc (.cells #[.int .i64 b.q,.int .i64 b.p,.int .i64 b.m,.int .i64 gen,.slice (some ⟨e,0,none⟩) (b.m+1) f] 32))∧Below w.heap.size w (w.alloc (.cells #[.int .i64 b.q,.int .i64 b.p,.int .i64 b.m,.int .i64 gen,.slice (some ⟨e,0,none⟩) (b.m+1) f] 32))):=⟨eL b gen _ w,F⟩;clear Q S T Y Z U F;go_enter func89,ntmps89;go_wp2;go_loopw [9,10] (λvl K wr=>∃j:Nat,j<=l+1∧K=.int .i64 j∧Hid (aV (w.heap.size+1) vl (zl j λa=>((iu b n o g a:Nat):Int)) wr∧Below w.heap.size w wr∧gN w.heap.size b gen (.slice (some ⟨e,0,none⟩) (b.m+1) f) wr)∧w.heap.size<wr.heap.size) (λ_ K _=>l+1-(intOf K).toNat)
 case atStart=>exact⟨0,E,X,⟨aV.nil _ _,G.out.2,G.out.1⟩,oi⟩
 case round=>
  clear G;obtain⟨j,hj,rfl,c,a0⟩:=hrel;by_cases K:j<l+1
  ·have a1:(j:Int)<(l:Int)+1:=by omega
   have F:(0:Int)<=(j:Int):=E;have⟨k,F⟩:=eaa (n j);have⟨y,G⟩:=eaa (o j);have⟨m,Q⟩:=eaa (iu b n o g j);have ab:wr.cell? ⟨W,j,none⟩=some (.int .i64 (k:Nat)):=by rw[F];exact(i.out.2.2.2.1.below c.out.2.1 i.out.2.2.2.1.lt).cell j K
   have M:wr.cell? ⟨go,j,none⟩=some (.int .i64 (y:Nat)):=by rw[G];exact(i.out.2.2.2.2.1.below c.out.2.1 i.out.2.2.2.2.1.lt).cell j K
   have p:Hid (k=n j∧y=o j∧m=iu b n o g j):=⟨F,G,Q⟩;clear F G Q;have⟨r,s⟩:=eaa (decide (¬(g=0∨y=0)));have B:Hid (r=decide (¬(g=0∨y=0))):=s;clear s
   go_upto_region 6 with fail
   go_cut [30] (λvb N=>vb=.bool r∧N=wr)
   case first=>
    by_cases v:g=0
    ·have a2:((g:Int) !=0)=false:=by rw[v];rfl
     have s:r=false:=by rw[B.out,aq];intro h;exact h (I v)
     clear v;go_wp2
     go_meet
     case rel=>exact⟨by rw[s],X⟩
    ·have a2:((g:Int) !=0)=true:=by rw[dy];omega
     by_cases u:y=0
     ·have a3:((y:Int) !=0)=false:=by rw[u];rfl
      have s:r=false:=by rw[B.out,aq];intro h;exact h (J u)
      clear v u;go_wp2
      go_meet
      case rel=>exact⟨by rw[s],X⟩
     ·have a3:((y:Int) !=0)=true:=by rw[dy];omega
      have s:r=true:=by rw[B.out,aU];omega
      clear v u;go_wp2
      go_meet
      case rel=>exact⟨by rw[s],X⟩
   case rest=>
   obtain⟨a4,O⟩:=hcut;have O:=O.symm;subst a4 O
   go_upto_if 30 with fail
   go_cut [11] (λvx N=>vx=.int .i64 (m:Nat)∧Hid (Below wr.heap.size wr N))
   case first=>
    cases r with
    |false=>
     have HU:Hid ((k:Int)=(m:Int)):=by
      show _=_
      have u:g=0∨y=0:=by
       have h:=B.out;exact bK λR=>by rw[aU R]at h;cases h
      have h:=kI (dE i.out.1) o i.out.2.1 (c:=g) (k:=j) (by rcases u with h|h;exact I h;exact J (by rw[<-p.out.2.1];exact h));rw[<-p.out.2.2, <-p.out.1]at h;omega
     go_wp2
     go_meet
     case rel=>exact⟨by rw[HU.out],XK _ _⟩
    |true=>
     have⟨r,v⟩:=eaa (b.mul g y);have F:k<b.q:=by rw[p.out.1];exact i.out.2.1 j
     have G:y<b.q:=by rw[p.out.2.1];exact i.out.2.2.1 j
     have K:r<b.q:=by rw[v];exact(dE i.out.1).bX _ _
     have k0:=XM c.out.2.2.c0;have k1:=XM c.out.2.2.c1;have k2:=XM c.out.2.2.c2;have k3:=XM c.out.2.2.c3;have k4:=XM c.out.2.2.c4;have k5:=XM M
     have ad:Hid (∀d s,Calls prog 34 #[.agg #[.int .i64 b.q,.int .i64 b.p,.int .i64 b.m,.int .i64 gen,.slice (some ⟨e,0,none⟩) (b.m+1) f],.int .i64 (g:Nat),.int .i64 (y:Nat)] (grow (redrawn wr d) s) λt B=>t=.returned (.int .i64 (r:Nat))∧∃u:Regrown,B=grow (redrawn wr u.d) u.os):=λd s=>by
      rw[v];exact X0 (nR i.out.1 gen i.out.2.2.2.2.2 g y hc G _ (al c.out.2.1 (XQ wr d s)))
     have ao:Hid (∀d s,Calls prog 62 #[.agg #[.int .i64 b.q,.int .i64 b.p,.int .i64 b.m,.int .i64 gen,.slice (some ⟨e,0,none⟩) (b.m+1) f],.int .i64 (k:Nat),.int .i64 (r:Nat)] (grow (redrawn wr d) s) λt B=>t=.returned (.int .i64 (m:Nat))∧∃u:Regrown,B=grow (redrawn wr u.d) u.os):=λd s=>by
      have h:=DR i.out.1 gen (.slice (some ⟨e,0,none⟩) (b.m+1) f) (k:Nat) (r:Nat) (grow (redrawn wr d) s);rw[xN (dE i.out.1) F K,show b.sb k r=m from by rw[p.out.2.2,p.out.1,v,p.out.2.1];rfl]at h;exact X0 h
     clear v ab M;go_wp2;refine X6 wL wL ?_;repeat(go_big_quiet_step (first|(go_at_call 34;exact ad.out _ _)|(go_at_call 62;exact ao.out _ _)))
     refine XZ ?_;intro _ i;obtain⟨⟨dq,osq⟩,a5⟩:=i;subst a5;have a6:Hid (Below wr.heap.size wr (grow (redrawn wr dq) osq)):=XQ wr dq osq;clear k0 k1 k2 k3 k4 k5 ad ao;go_wp2
     go_meet
     case rel=>exact⟨X,a6.out⟩
   case rest=>
    obtain⟨a7,C⟩:=hcut;subst a7;clear ab M;have i:=C.out.size;have x:Hid (aV (w.heap.size+1) u9 (zl j λa=>((iu b n o g a:Nat):Int)) wc∧Below w.heap.size w wc∧gN w.heap.size b gen (.slice (some ⟨e,0,none⟩) (b.m+1) f) wc):=⟨c.out.1.below C.out (λa A=>(c.out.1.lt a A).2),al c.out.2.1 C.out,c.out.2.2.below C.out a0⟩;go_wp2_with (at_builtin;refine kC X _ _ X (w.heap.size+1) _ (zl j λa=>((iu b n o g a:Nat):Int)) X (x.out.1.alloc _) ⟨_,0,none⟩ 1 m X oi Xl x7 ?_;intro v2 P ar D);have i:Below wc.heap.size wc (wc.alloc (.cells #[.int .i64 (m:Int)] 3)):=(XK _ _).alloc (aa _) _;have k:=D.size
    have HR:Hid (aV (w.heap.size+1) v2 (zl (j+1) λa=>((iu b n o g a:Nat):Int)) P∧Below w.heap.size w P∧gN w.heap.size b gen (.slice (some ⟨e,0,none⟩) (b.m+1) f) P):=by
     refine⟨by rw[sS, <-p.out.2.2];exact ar,(al x.out.2.1 i).grown D x7 (λa A=>by have:=(x.out.1.lt a A).1;omega),?_⟩;refine(x.out.2.2.below i E).other (D.block w.heap.size x7 λt=>?_);have:=(x.out.1.lt _ t.symm).1;omega
    simp at k;clear ar D i;go_roundw
    case rel=>exact⟨j+1,E,x9,HR.out,E⟩
    case measure=>simp[intOf];omega
  ·have a1:¬(j:Int)<(l:Int)+1:=by omega
   have a8:j=l+1:=E;subst a8;go_wp2;go_ret;have h:=E2 c.out.1;exact⟨_,X,h.1,λa A=>by have:=h.2 a A;omega,c.out.2.1⟩
end
section
open Go.RowKit
def vI(c:Option Addr)(d:Nat)(e:Nat->Value)(f:World):Prop:=∀j,j<d->∃a b,c=some ⟨a,b,none⟩∧f.cell? ⟨a,b+j,none⟩=some (e j)
def vl(a:Nat)(b:Nat->Value):List Value:=(List.range a).map b
theorem cg(a:Nat)(b:Nat->Value):(vl a b).length=a:=by simp[vl]
theorem kM(a:Nat)(b:Nat->Value)(j:Nat)(c:j<a):(vl a b)[j]?=some (b j):=by
 unfold vl;rw[ck,qC c];rfl
theorem FL(a:f.heap[g]?=some (.cells #[] 22 (0,0)))(b:l<=g):fE l (.slice (some ⟨g,0,none⟩) 0 0) [] f:=
 ⟨X,J ⟨g,0,#[],X,b,a,aa _,Xu,X,X⟩⟩
theorem kl(a:World){base:Nat}(b:base<=a.heap.size):fE base (.slice (some ⟨a.heap.size,0,none⟩) 0 0) [] (a.alloc (.cells #[] 22)):=FL (dR _) b
theorem lF(a:World)(b:Obj)(c:l<=a.heap.size):fE l (.slice (some ⟨a.heap.size,0,none⟩) 0 0) [] ((a.alloc (.cells #[] 22)).alloc b):=Yw (kl a c) b
theorem lG(a:World)(b:Obj)(c:l<=a.heap.size):fE l (.slice (some ⟨a.heap.size+1,0,none⟩) 0 0) [] ((a.alloc b).alloc (.cells #[] 22)):=by
 have c:=kl (a.alloc b) (base:=l) x7;simp at c;exact c
theorem km(a:World){base:Nat}(b:base<=a.heap.size):aV base (.slice (some ⟨a.heap.size,0,none⟩) 0 0) [] (a.alloc (.cells #[] 3)):=p7 (dR _) b
theorem lH(a:World)(b:Obj)(c:l<=a.heap.size):aV l (.slice (some ⟨a.heap.size,0,none⟩) 0 0) [] ((a.alloc (.cells #[] 3)).alloc b):=Yw (km a c) b
theorem lI(a:World)(b:Obj)(c:l<=a.heap.size):aV l (.slice (some ⟨a.heap.size+1,0,none⟩) 0 0) [] ((a.alloc b).alloc (.cells #[] 3)):=by
 have c:=km (a.alloc b) (base:=l) x7;simp at c;exact c
theorem fE.alloc(b:fE l q fc f)(a:Obj):fE l q fc (f.alloc a):=Yw b a
theorem vI.below(e:vI t l r f)(g:Below f.heap.size f D):vI t l r D:=λj h=>by
 obtain⟨a,c,b,d⟩:=e j h
 have e:a<f.heap.size:=by
  rcases aR a f.heap.size with b|b
  ·exact b
  ·exfalso;have h:f.heap[a]?=none:=bC b;simp[World.cell?,h]at d
 exact⟨a,c,b,((iN g).1 a (c+j) e).trans d⟩
theorem vI.less(a:vI t l r f)(b:g<=l):vI t g r f:=λj c=>a j E
theorem vI.shift(b:vI (some ⟨l,0,none⟩) g r f)(e:d<=g):vI (some ⟨l,d,none⟩) (g-d) (λj=>r (d+j)) f:=λj h=>by
 obtain⟨e,h,c,a⟩:=b (d+j) E;cases c;exact⟨l,d,X,by rw[aW]at a;exact a⟩
theorem vI.one(a:f.cell? ⟨l,0,none⟩=some q):vI (some ⟨l,0,none⟩) 1 (λ_=>q) f:=λj b=>⟨l,0,X,by rw[show 0+j=0 from E];exact a⟩
theorem lu.one{a:Int}(b:f.cell? ⟨l,0,none⟩=some (.int .i64 a)):lu (some ⟨l,0,none⟩) 1 (λ_=>a) f:=λj c=>⟨l,0,X,by rw[show 0+j=0 from E];exact b⟩
theorem lu.less(a:lu t l B f)(b:g<=l):lu t g B f:=λj c=>a j E
theorem jX(e:lu t l B f)(g:Below f.heap.size f D):lu t l B D:=λj h=>by
 obtain⟨a,c,b,d⟩:=e j h
 have e:a<f.heap.size:=by
  rcases aR a f.heap.size with b|b
  ·exact b
  ·exfalso;have h:f.heap[a]?=none:=bC b;simp[World.cell?,h]at d
 exact⟨a,c,b,((iN g).1 a (c+j) e).trans d⟩
theorem F4(b:lu (some ⟨l,0,none⟩) g B f)(e:d<=g):lu (some ⟨l,d,none⟩) (g-d) (λj=>B (d+j)) f:=λj h=>by
 obtain⟨e,h,c,a⟩:=b (d+j) E;cases c;exact⟨l,d,X,by rw[aW]at a;exact a⟩
theorem cX(D:A.guard=none)(n o:Operand)(v:A.op=.call { callee:=.builtin .append,args:= #[n,o],argTypes:= #[23,23]})(d:Nat)(e:Value)(b:List Value)(w:F.eval n=e)(k:fE d e b f)(l:Option Addr)(a p:Nat)(g:Nat->Value)(q:F.eval o=.slice l a p)(x:vI l a g f)(E:∀j,j<a->(g j).oneCell'=true)(G:l=none->p=0)(Y:b.length+a<=1000000)(I:d<=f.heap.size)(i:World)(r:Below i.heap.size i f)(J:i.heap.size<=d)(y:∀m h,fE d m (b++vl a g) h->f.grownBy h e.ownBlock->Below i.heap.size i h->gf (F.put A.dst m) h):if Region.wanted A (yielded gd F.tmps)=true then Oper.wp prog A F f gf N else gj:=by
 have i:Region.wanted A (yielded gd F.tmps)=true:=by simp[Region.wanted,D]
 rw[ai i];obtain⟨z,B,K,M,O⟩:=X5 Fo;cases l with
 |none=>
  have P:a=0:=by
   rcases cL a with c|c
   ·exact c
   ·obtain⟨Q,R,S,_⟩:=x 0 c;cases S
  subst P;rw[G X]at q;have i:=run_append_owned_none (P:=prog) (w:=f) d 23 A.type 22 z 1 underlying23 B e b.length b k;unfold Oper.wp;simp[execOp,v,resolve,invoke,builtin,w,q,i,Result.andThen];refine y e f ?_ (gS _ _) r;have c:b++vl 0 g=b:=by simp[vl]
  rw[c];exact k
 |some T=>
  refine wp_append_own f n o 23 v d 22 z (.slice none 0 0) 1 24 underlying23 B K M O X x5 e b.length _ w k T a p (vl a g) q Xx ?_ ?_ ?_ ?_ I ?_
  ·intro j U s
   have C:j<a:=by
    have:=(b9.1 s).1
    rwa [cg]at this
   rw[kM a g j C]at s;cases s;obtain⟨Q,R,c,V⟩:=x j C;cases c;rw[od];exact V
  ·intro U W;obtain⟨t,u,rfl⟩:=gF.1 W;exact E t (bj.1 u)
  ·unfold maxLen;omega
  ·omega
  ·intro m h b a _;refine y m h ?_ a (r.grown a r.size (λt u=>aK J (YI k t u).1));unfold fE;rw[aQ,cg];exact b
theorem cQ(C:A.guard=none)(n o:Operand)(t:A.op=.call { callee:=.builtin .append,args:= #[n,o],argTypes:= #[22,22]})(d:Nat)(e:Value)(b:List Int)(u:F.eval n=e)(k:aV d e b f)(l:Option Addr)(a p:Nat)(h:Nat->Int)(q:F.eval o=.slice l a p)(v:lu l a h f)(D:l=none->p=0)(V:b.length+a<=1000000)(E:d<=f.heap.size)(i:World)(r:Below i.heap.size i f)(G:i.heap.size<=d)(w:∀m g,aV d m (b++zl a h) g->f.grownBy g e.ownBlock->Below i.heap.size i g->gf (F.put A.dst m) g):if Region.wanted A (yielded gd F.tmps)=true then Oper.wp prog A F f gf N else gj:=by
 have i:Region.wanted A (yielded gd F.tmps)=true:=by simp[Region.wanted,C]
 rw[ai i];obtain⟨x,y,I,J,K⟩:=X5 lV;cases l with
 |none=>
  have M:a=0:=by
   rcases cL a with c|c
   ·exact c
   ·obtain⟨O,P,Q,_⟩:=v 0 c;cases Q
  subst M;rw[D X]at q;have i:=run_append_owned_none (P:=prog) (w:=f) d 22 A.type 3 x 1 underlying22 y e b.length _ k;unfold Oper.wp;simp[execOp,t,resolve,invoke,builtin,u,q,i,Result.andThen];refine w e f ?_ (gS _ _) r;have c:b++zl 0 h=b:=by simp[zl]
  rw[c];exact k
 |some R=>
  refine wp_append_own f n o 22 t d 3 x (.int .i64 0) 1 8 underlying22 y I J K X x5 e b.length _ u k R a p ((zl a h).map (Value.int .i64)) q (by rw[gp,bq];omega) ?_ ?_ ?_ ?_ E ?_
  ·intro j S s
   have z:j<a:=by
    have:=(b9.1 s).1
    rwa [gp,bq]at this
   rw[ck,kr a h j z]at s;cases s;obtain⟨O,P,c,T⟩:=v j z;cases c;rw[od];exact T
  ·intro S U;obtain⟨B,_,rfl⟩:=gF.1 U;rfl
  ·unfold maxLen;omega
  ·omega
  ·intro m g b a _;refine w m g ?_ a (r.grown a r.size (λB c=>aK G (YI k B c).1));unfold aV;rw[dN,aQ,bq];exact b
end
section
open Go.RowKit Go.Sort
theorem lN{a:Addr}(c:f.cell? a=some q):a.block<f.heap.size:=by
 rcases aR a.block f.heap.size with b|b
 ·exact b
 ·exfalso;have d:f.heap[a.block]?=none:=bC b;simp[World.cell?,d]at c
def UA(e:Value)(c:Nat)(f:Nat->Nat)(d:World):Prop:=∃a b,e=.slice a (c+1) b∧Sl a (c+1) f d∧fp a d.heap.size∧(a=none->b=0)∧c+1<=b∧b<=9223372036854775807
theorem UA.below(c:UA q l n f)(a:Below f.heap.size f D):UA q l n D:=by
 obtain⟨d,e,g,h,b,i,j,k⟩:=c;exact⟨d,e,g,h.below a b,b.mono a.size,i,j,k⟩
theorem kW.W5(a:kW q (l,n) f):UA q l n f:=by
 obtain⟨b,c,d,e,g,h,i,j⟩:=a.sl;exact⟨b,c,d,h,i,j,e,g⟩
def vG(f:Option Addr)(g h:Nat)(i:Nat->Nat->Nat)(b:World):Prop:=∀a,a<g->∃c d e,f=some ⟨c,d,none⟩∧b.cell? ⟨c,d+a,none⟩=some e∧UA e h (i a) b
theorem vG.below(h:vG t l g p f)(a:Below f.heap.size f D):vG t l g p D:=λb i=>by
 obtain⟨c,d,j,k,e,m⟩:=h b i;exact⟨c,d,j,k,((iN a).1 c (d+b) (lN e)).trans e,m.below a⟩
def rl(a b:Nat)(c:Nat->Nat->Nat):List (Nat×(Nat->Nat)):=(List.range a).map λd=>(b,c d)
theorem Bf(a b:Nat)(c:Nat->Nat->Nat):(rl a b c).length=a:=by simp[rl]
theorem FP(a b:Nat)(c:Nat->Nat->Nat)(j:Nat)(d:j<a):(rl a b c)[j]?=some (b,c j):=by
 unfold rl;rw[ck,qC d];rfl
theorem DD{b R':Nat->Nat->Nat}(c:∀a,a<l->b a=R' a):rl l g b=rl l g R':=by
 unfold rl;exact jk (λj a=>by rw[c j (bj.1 a)])
structure lp(base:Nat)(ro:Option Addr)(k rc n:Nat)(R:Nat->Nat->Nat)(vs:Nat->Value)(w:World):Prop where
 own:fE base (.slice ro k rc) (vl k vs) w
 row:∀j,j<k->kW (vs j) (n,R j) w
 nil:ro=none->rc=0
theorem uH.rws(e:uH l q (rl g d p) f):∃b c a,q=.slice b g c∧lp l b g c d p a f:=by
 obtain⟨a,h,i⟩:=e;obtain⟨b,c,e,m,_,_,_⟩:=h.open;have k:a.length=g:=by rw[i.1,Bf]
 rw[k]at e;refine⟨b,c,λj=>a.getD j undef,e,?_,λj n=>?_,m⟩
 ·have m:vl g (λj=>a.getD j undef)=a:=by
   apply List.ext_getElem (by rw[cg,k]);intro k b o;rw[cg]at b;have c:=kM g (λj=>a.getD j undef) k b;rw[aE (by rw[cg];exact b)]at c;have b:=cC c;rw[b,aG,aE o];rfl
  rw[m, <-e];exact h
 ·have b:j<a.length:=by omega
  refine i.2 j _ _ ?_ (FP g d p j n);rw[aG,aE b];rfl
theorem lp.WV(c:lp l t g d s p r f):uH l (.slice t g d) (rl g s p) f:=by
 refine⟨vl g r,c.own,by rw[cg,Bf],λj h i a e=>?_⟩;have b:j<g:=by have:=(b9.1 a).1;rwa [cg]at this
 rw[kM g r j b]at a;rw[FP g s p j b]at e;cases a;cases e;exact c.row j b
theorem lp.below(a:lp l t g d s p r f)(b:Below f.heap.size f D):lp l t g d s p r D:=
 ⟨a.own.below b (aa _),λj c=>(a.row j c).below b (aa _),a.nil⟩
theorem lp.cell(c:lp l t g d s p r f)(j:Nat)(e:j<g):∃a,t=some ⟨a,0,none⟩∧f.cell? ⟨a,j,none⟩=some (r j)∧f.frozen? ⟨a,j,none⟩=false∧l<=a∧a<f.heap.size:=by
 obtain⟨m,n,b,_,h,i,k⟩:=c.own.open;rw[cg]at b;cases b;obtain⟨a,b,c,m⟩:=k j (r j) (kM g r j e);exact⟨a,b,c,m,i _ b,h _ b⟩
theorem lp.sl(a:lp l t g d s p r f):vI t g r f:=λj b=>by
 obtain⟨c,e,h,_⟩:=a.cell j b;exact⟨c,0,e,by rw[aW];exact h⟩
theorem lp.store(k:lp l t g d s p r f){c j:Nat}(e:t=some ⟨c,0,none⟩)(F:kW q (s,n) f):lp l t g d s (λa=>if a=j then n else p a) (λa=>if a=j then q else r a) (f.setCell ⟨c,j,none⟩ q):=by
 have w:=k.own
 have x:∀ {m:Value} {o:Nat×(Nat->Nat)},kW m o f->kW m o (f.setCell ⟨c,j,none⟩ q):=by
  rintro m o ⟨u,y,b,h,G,z⟩;refine⟨u,y,b,h,G,z.other (XR f _ q u ?_)⟩;intro o;have m:=z.apart w;rw[e]at m;exact m (by rw[o];rfl)
 refine⟨?_,λa i=>?_,k.nil⟩
 ·rcases w.2 with⟨h,_⟩|⟨u,y,v,A,I,B,C,K,M,D⟩
  ·rw[e]at h;cases h
  ·rw[e,cg]at A;cases A;have h:=X7 B;have m:f.heap[c]=.cells v 22 (0,0):=by simpa [Array.getElem?_eq_getElem h]using B
   refine⟨Xx,J ⟨c,d,v.setIfInBounds j q,by rw[e,cg],I,?_,by rw[cg];rw[cg]at C;exact C,K,by rw[Array.size_setIfInBounds];exact M,?_⟩⟩
   ·show(f.heap.modify c _)[c]?=_;rw[au (by simpa using h),Array.getElem_modify_self,m];rfl
   ·rw[cg]at D ⊢;apply m9;intro a;have c:(v.toList.take (g*1))[a]?=(vl g r)[a]?:=by rw[D]
    rw[dL]at c ⊢;by_cases i:a<g*1
    ·rw[ai i]at c ⊢;have e:a<g:=E;rw[kM g r a e]at c;rw[kM g _ a e,cU,jZ];rw[cU]at c;by_cases b:j=a
     ·rw[ai b,ai (by have:=(aL.1 c).1;omega),ai b.symm]
     ·rw[af b,af (λe=>b e.symm)];exact c
    ·rw[af i,en Xx]
 ·show kW (if a=j then q else r a) (s,if a=j then n else p a) _;by_cases b:a=j
  ·rw[ai b,ai b];exact x F
  ·rw[af b,af b];exact x (k.row a i)
theorem aV.apart(d:aV l q gi f)(e:fE g z fc f):q.ownBlock=none∨q.ownBlock≠z.ownBlock:=by
 rcases d.2 with⟨h,_⟩|⟨i,o,p,b,_,j,_⟩
 ·left;rw[h];rfl
 ·right
  rcases e.2 with⟨k,_⟩|⟨m,d,h,n,_,c,_⟩
  ·rw[b,k];intro a;cases a
  ·rw[b,n];intro a;have a:some i=some m:=a;cases a;rw[j]at c;simp at c
theorem kW.TO{c a j:Nat}{b:Nat×(Nat->Nat)}(d:kW G b f)(e:fE c q fc f)(g:q.ownBlock=some a):kW G b (f.setCell ⟨a,j,none⟩ z):=by
 obtain⟨a,c,h,i,k,b⟩:=d;refine⟨a,c,h,i,k,b.other (XR f _ z a ?_)⟩;intro a;exact b.apart e (by rw[g,a])
theorem aV.TO{b d a j:Nat}(c:aV b q gi f)(e:fE d z fc f)(g:z.ownBlock=some a):aV b q gi (f.setCell ⟨a,j,none⟩ G):=
 c.kept (jf (gS f (some a)) j G) (by rw[<-g];exact c.apart e)
theorem kW.store{b a e j g:Nat}{h d:Nat->Nat}(i:kW (.slice (some ⟨b,0,none⟩) (a+1) e) (a,h) f)(k:∀c,c<a+1->d c=if c=j then g else h c):kW (.slice (some ⟨b,0,none⟩) (a+1) e) (a,d) (f.setCell ⟨b,j,none⟩ (.int .i64 (g:Nat))):=by
 obtain⟨a,c,l,m,n,o⟩:=i;cases l;exact⟨b,e,X,m,n,o.store j g k⟩
theorem kW.row(a:kW (.slice (some ⟨l,0,none⟩) (g+1) d) (g,n) f):Row l (g+1) n f:=by
 obtain⟨e,h,b,i,j,c⟩:=a;cases b;exact c
theorem kW.congr{b d:Nat->Nat}(c:kW q (l,b) f)(e:∀a,a<l+1->b a=d a):kW q (l,d) f:=by
 obtain⟨a,b,g,h,i,j⟩:=c;exact⟨a,b,g,h,i,j.congr e⟩
theorem lp.congr(a:lp l t g d s p r f)(e:∀b,b<g->p b=v b):lp l t g d s v r f:=⟨a.own,λj c=>by rw[<-e j c];exact a.row j c,a.nil⟩
theorem Gk(b a:Nat)(e:a<=b)(d:Value)(c:Nat->Value):vl (b+1) (ins a d c)=vl a c++vl 1 (λ_=>d)++vl (b-a) (λj=>c (a+j)):=by
 apply m9;intro c;by_cases d:c<b+1
 ·rw[kM _ _ c d];rcases cJ c a with b|b|b
  ·rw[gg b,iJ,bL (by rw[cg];exact b),kM _ _ c b]
  ·rw[b,ir,iJ,bU Xx,cg,fN,bL Xx,kM _ _ 0 E]
  ·rw[gU b,bU (by rw[aQ,cg,cg];omega),aQ,cg,cg,kM _ _ _ E,show a+(c-(a+1))=c-1 from E]
 ·rw[en Xx,en (by rw[aQ,aQ,cg,cg,cg];omega)]
theorem Gr(b a:Nat)(e:a<=b)(d:Int)(c:Nat->Int):zl (b+1) (ins a d c)=zl a c++zl 1 (λ_=>d)++zl (b-a) (λj=>c (a+j)):=by
 apply m9;intro c;by_cases d:c<b+1
 ·rw[kr _ _ c d];rcases cJ c a with b|b|b
  ·rw[gg b,iJ,bL (by rw[bq];exact b),kr _ _ c b]
  ·rw[b,ir,iJ,bU Xl,bq,fN,bL Xl,kr _ _ 0 E]
  ·rw[gU b,bU (by rw[aQ,bq,bq];omega),aQ,bq,bq,kr _ _ _ E,show a+(c-(a+1))=c-1 from E]
 ·rw[en Xl,en (by rw[aQ,aQ,bq,bq,bq];omega)]
theorem LZ(a b:Nat)(c:Nat->Nat):(λj=>((ins a b c j:Nat):Int))=ins a (b:Int) (λj=>((c j:Nat):Int)):=by
 funext j
 unfold ins;split
 ·rfl
 ·split<;>rfl
theorem QP(a b:Nat)(c:Nat->Nat->Nat):rl (a+1) b c=rl a b c++[(b,c a)]:=by
 unfold rl;rw[j5,dN];rfl
structure sV(ao:Option Addr)(m:Nat)(A:Nat->Option Addr)(N C:Nat->Nat)(Z:Nat->Nat->Int)(w:World):Prop where
 cell:∀i,i<m->∃b off,ao=some ⟨b,off,none⟩∧w.cell? ⟨b,off+i,none⟩=some (.slice (A i) (N i) (C i))
 sl:∀i,i<m->lu (A i) (N i) (Z i) w
 le:∀i,i<m->N i<=C i
 cap:∀i,i<m->C i<=9223372036854775807
 nil:∀i,i<m->A i=none->C i=0
 qL:∀i,i<m->N i<=1000000
theorem sV.below{b:Nat->Option Addr}{c:Nat->Nat->Int}(a:sV t l b n o c f)(d:Below f.heap.size f D):sV t l b n o c D:=
 ⟨λb c=>by
  obtain⟨e,g,i,h⟩:=a.cell b c;exact⟨e,g,i,((iN d).1 e (g+b) (lN h)).trans h⟩,λb c=>jX (a.sl b c) d,a.le,a.cap,a.nil,a.qL⟩
def fU(b:Nat):Code->Option Code
 |.region i e d=>if i=b then some (.region i e d)else none
 |.seq a d=>match fU b a with
  |some c=>some c
  |none=>fU b d
 |.block _ c=>fU b c
 |.scope c=>fU b c
 |.loop c=>fU b c
 |.cond _ a d=>match fU b a with
  |some c=>some c
  |none=>fU b d
 |_=>none
theorem U6{gen v w a c k y g A x j l s t i:Nat}{d:Nat->Nat}(D:eE=((f59.body.bind (fU 23)).getD .skip))(e:(c:Int)<(x:Int))(m:(0:Int)<=(c:Int))(n:(k:Int)<(a:Int)+1)(B:(0:Int)<=(k:Int))(e:f.cell? ⟨i,0,none⟩=some (.int .i64 b.q))(m:f.cell? ⟨i,1,none⟩=some (.int .i64 b.p))(n:f.cell? ⟨i,2,none⟩=some (.int .i64 b.m))(B:f.cell? ⟨i,3,none⟩=some (.int .i64 gen))(C:f.cell? ⟨i,4,none⟩=some (.slice (some ⟨v,0,none⟩) (b.m+1) w))(e:f.cell? ⟨g,c,none⟩=some (.slice (some ⟨j,0,none⟩) (a+1) l))(m:f.cell? ⟨j,k,none⟩=some (.int .i64 (y:Nat)))(B:∀m,Below f.heap.size f m->Calls prog 89 #[.agg #[.int .i64 b.q,.int .i64 b.p,.int .i64 b.m,.int .i64 gen,.slice (some ⟨v,0,none⟩) (b.m+1) w],.slice (some ⟨j,0,none⟩) (a+1) l,.slice (some ⟨s,0,none⟩) (a+1) t,.int .i64 y] m λu e=>∃n,u=.returned n∧kW n (a,d) e∧Below f.heap.size f e∧e.cell? ⟨g,c,none⟩=some (.slice (some ⟨j,0,none⟩) (a+1) l)∧e.frozen? ⟨g,c,none⟩=false)(C:∀(E F I J K M bd e8 e9 fc gd gf gi gj gl gm gn:Value) (o p:Nat) (r:World),kW (.slice (some ⟨o,0,none⟩) (a+1) p) (a,d) r->Below f.heap.size f r->N .normal ⟨#[q,z,.pointer (some ⟨i,0,none⟩),G,O,P,.slice (some ⟨g,0,none⟩) x A,Q,R,.slice (some ⟨s,0,none⟩) (a+1) t,S,.int .i64 k,T,U,.int .i64 c,V,W,Y,Z,ab,ad,ao,ar,av,ax,a0,a1,a2,a3,a4,a5,a6,a7,a8,a9,ba,bb,bc,bg,bk,bl,bm,bn,bo,bp,bs,bw,bx,bz,bA,bB,bE,bM,bN,bO,bQ,bS,bY,b0,b1,b2,b3,b4,b6,b7,b8,ca,cb,cc,cf,cl,cm,cp,cq,cr,cw,cx,cy,cz,cA,cB,cM,cO,cP,cR,c0,c1,c5,c6,c7,c8,c9,E,F,I,J,K,M,bd,e8,e9,fc,gd,gf,gi,gj,gl,gm,gn,dc,dd,dg,dq,dr,ds,dB,ea,eb,ec,ed,ee,ef,eg,ei,ej,fe,fl,fo,fr,fs,fu,fv,fw,fx,fy,ga,gb,eo,ep,er,et,ev,ew,ey,ez,eA,eB,eC,eD],[]⟩ (r.setCell ⟨g,c,none⟩ (.slice (some ⟨o,0,none⟩) (a+1) p))):eE.wp prog N ⟨#[q,z,.pointer (some ⟨i,0,none⟩),G,O,P,.slice (some ⟨g,0,none⟩) x A,Q,R,.slice (some ⟨s,0,none⟩) (a+1) t,S,.int .i64 k,T,U,.int .i64 c,V,W,Y,Z,ab,ad,ao,ar,av,ax,a0,a1,a2,a3,a4,a5,a6,a7,a8,a9,ba,bb,bc,bg,bk,bl,bm,bn,bo,bp,bs,bw,bx,bz,bA,bB,bE,bM,bN,bO,bQ,bS,bY,b0,b1,b2,b3,b4,b6,b7,b8,ca,cb,cc,cf,cl,cm,cp,cq,cr,cw,cx,cy,cz,cA,cB,cM,cO,cP,cR,c0,c1,c5,c6,c7,c8,c9,eM,eN,eO,eQ,eR,eS,eT,eW,eZ,e0,e1,e2,e3,e4,e5,e6,e7,dc,dd,dg,dq,dr,ds,dB,ea,eb,ec,ed,ee,ef,eg,ei,ej,fe,fl,fo,fr,fs,fu,fv,fw,fx,fy,ga,gb,eo,ep,er,et,ev,ew,ey,ez,eA,eB,eC,eD],[]⟩ f:=by
 have gq:Hid (∀m,Below f.heap.size f m->Calls prog 89 #[.agg #[.int .i64 b.q,.int .i64 b.p,.int .i64 b.m,.int .i64 gen,.slice (some ⟨v,0,none⟩) (b.m+1) w],.slice (some ⟨j,0,none⟩) (a+1) l,.slice (some ⟨s,0,none⟩) (a+1) t,.int .i64 y] m λu e=>∃n,u=.returned n∧kW n (a,d) e∧Below f.heap.size f e∧e.cell? ⟨g,c,none⟩=some (.slice (some ⟨j,0,none⟩) (a+1) l)∧e.frozen? ⟨g,c,none⟩=false):=B;have HQ:Hid _:=C;clear B C;subst D
 conv=>arg 2;whnf
 refine XU ?_
 go_region_with (first
  |(go_at_call 89;refine(gq.out _ ?_).mono ?_;(first|exact(XK _ _).drew|exact XK _ _|exact aO (XK _ _) _);rintro u r ⟨v2,rfl,gr,gw,gR,g1⟩;obtain⟨o,p,rfl,gx,gy,gP⟩:=gr))
 all_goals
  exact XY (HQ.out _ _ _ _ _ _ _ _ _ _ _ _ _ _ _ _ _ o p r ⟨o,p,X,gx,gy,gP⟩ gw)
theorem NK{a:Nat->Value}{o:Exit->Act->World->Prop}(u:eE=((f59.body.bind (fU 27)).getD .skip))(p:vI none 0 a f∧(∀j,j<0->(a j).oneCell'=true))(r:∀(v w x y A B C D F I J K k:Value) (c:World),fE f.heap.size k (vl (0+1) (ins 0 (.slice (some ⟨g,0,none⟩) (l+1) d) a)) c->Below f.heap.size f c->o .normal ⟨#[q,z,G,O,P,Q,k,R,S,(.slice (some ⟨g,0,none⟩) (l+1) d),T,U,V,W,Y,.int .i64 (0:Nat),Z,ab,ad,ao,ar,av,ax,a0,a1,a2,a3,a4,a5,a6,a7,a8,a9,ba,bb,bc,bg,bk,bl,bm,bn,bo,bp,bs,bw,bx,bz,bA,bB,bE,bM,bN,bO,bQ,bS,bY,b0,b1,b2,b3,b4,b6,b7,b8,ca,cb,cc,cf,cl,cm,cp,cq,cr,cw,cx,cy,cz,cA,cB,cM,cO,cP,cR,c0,c1,c5,c6,c7,c8,c9,eM,eN,eO,eQ,eR,eS,eT,eW,eZ,e0,e1,e2,e3,e4,e5,e6,e7,dc,dd,dg,dq,dr,ds,dB,ea,eb,ec,ed,ee,ef,eg,ei,ej,v,w,x,y,A,B,C,D,F,I,J,K,eo,ep,er,et,ev,ew,ey,ez,eA,eB,eC,eD,e8,e9],[]⟩ c):eE.wp prog o ⟨#[q,z,G,O,P,Q,.slice none 0 0,R,S,(.slice (some ⟨g,0,none⟩) (l+1) d),T,U,V,W,Y,.int .i64 (0:Nat),Z,ab,ad,ao,ar,av,ax,a0,a1,a2,a3,a4,a5,a6,a7,a8,a9,ba,bb,bc,bg,bk,bl,bm,bn,bo,bp,bs,bw,bx,bz,bA,bB,bE,bM,bN,bO,bQ,bS,bY,b0,b1,b2,b3,b4,b6,b7,b8,ca,cb,cc,cf,cl,cm,cp,cq,cr,cw,cx,cy,cz,cA,cB,cM,cO,cP,cR,c0,c1,c5,c6,c7,c8,c9,eM,eN,eO,eQ,eR,eS,eT,eW,eZ,e0,e1,e2,e3,e4,e5,e6,e7,dc,dd,dg,dq,dr,ds,dB,ea,eb,ec,ed,ee,ef,eg,ei,ej,fe,fl,fo,fr,fs,fu,fv,fw,fx,fy,ga,gb,eo,ep,er,et,ev,ew,ey,ez,eA,eB,eC,eD,e8,e9],[]⟩ f:=by
 have m:Hid (vI none 0 a f∧(∀j,j<0->(a j).oneCell'=true)):=p;have M:Hid _:=r;clear p r;subst u
 conv=>arg 2;whnf
 refine XU ?_
 go_region_held3 (λw'=>True) (trivial)
   (first
     |(show(if Region.wanted (Oper.mk (some 127) _ _ _ _ _) _=true then _ else _);refine cX x8 _ _ x8 f.heap.size (.slice (some ⟨f.heap.size,0,none⟩) 0 0) [] x8 (by first|exact kl f.drew (aa _)|exact lF f.drew _ (aa _)|exact lG f.drew _ (aa _)|exact kl f (aa _)|exact lF f _ (aa _)|exact lG f _ (aa _)) none 0 0 a x8 ((m.out.1.less (aa _)).below cd) (λj e=>m.out.2 j E) (λb=>by first|rfl|cases b) B1 B1 f cd (aa _) ?_;intro N X n s i)
     |(show(if Region.wanted (Oper.mk (some 127) _ _ _ _ _) _=true then _ else _);refine cX x8 _ _ x8 f.heap.size (.slice (some ⟨f.heap.size+1,0,none⟩) 0 0) [] x8 (by first|exact kl f.drew (aa _)|exact lF f.drew _ (aa _)|exact lG f.drew _ (aa _)|exact kl f (aa _)|exact lF f _ (aa _)|exact lG f _ (aa _)) none 0 0 a x8 ((m.out.1.less (aa _)).below cd) (λj e=>m.out.2 j E) (λb=>by first|rfl|cases b) B1 B1 f cd (aa _) ?_;intro N X n s i)
     |(show(if Region.wanted (Oper.mk (some 130) _ _ _ _ _) _=true then _ else _);refine cX x8 _ _ x8 f.heap.size _ _ x8 (by first|exact n|exact n.alloc _) _ _ _ (λ_=>(.slice (some ⟨g,0,none⟩) (l+1) d)) x8 (vI.one (by first|(simp;done)|exact s.cell oi Xj)) (λ_ _=>rfl) (λb=>by cases b) Xm (by have:=i.size;first|omega|(simp;omega)) f (by first|exact i|exact i.alloc i.size _) (aa _) ?_;intro v2 wF bd gf t)
     |(show(if Region.wanted (Oper.mk (some 134) _ _ _ _ _) _=true then _ else _);refine cX x8 _ _ x8 f.heap.size _ _ x8 bd _ _ _ (λj=>a j) x8 (λj e=>absurd e oi) (λj e=>absurd e oi) (λb=>by first|rfl|cases b) Xm t.size f t (aa _) ?_;intro k c fc gi gd)
     |fail)
 all_goals
   refine XY (M.out _ _ _ _ _ _ _ _ _ _ _ _ k c ?_ gd);rw[Gk 0 0 (aa _) (.slice (some ⟨g,0,none⟩) (l+1) d) a];simpa [vl]using fc
theorem J5(v:eE=((f59.body.bind (fU 27)).getD .skip))(o:u<=1000)(w:(0:Int)<=(u:Int))(n:vI (some ⟨s,0,none⟩) u r f∧(∀j,j<u->(r j).oneCell'=true))(o:∀(w x y A B C D F I J K M i:Value) (b:World),fE f.heap.size i (vl (u+1) (ins u (.slice (some ⟨g,0,none⟩) (l+1) d) r)) b->Below f.heap.size f b->N .normal ⟨#[q,z,G,O,P,Q,i,R,S,(.slice (some ⟨g,0,none⟩) (l+1) d),T,U,V,W,Y,.int .i64 (u:Nat),Z,ab,ad,ao,ar,av,ax,a0,a1,a2,a3,a4,a5,a6,a7,a8,a9,ba,bb,bc,bg,bk,bl,bm,bn,bo,bp,bs,bw,bx,bz,bA,bB,bE,bM,bN,bO,bQ,bS,bY,b0,b1,b2,b3,b4,b6,b7,b8,ca,cb,cc,cf,cl,cm,cp,cq,cr,cw,cx,cy,cz,cA,cB,cM,cO,cP,cR,c0,c1,c5,c6,c7,c8,c9,eM,eN,eO,eQ,eR,eS,eT,eW,eZ,e0,e1,e2,e3,e4,e5,e6,e7,dc,dd,dg,dq,dr,ds,dB,ea,eb,ec,ed,ee,ef,eg,ei,ej,w,x,y,A,B,C,D,F,I,J,K,M,eo,ep,er,et,ev,ew,ey,ez,eA,eB,eC,eD,e8,e9],[]⟩ b):eE.wp prog N ⟨#[q,z,G,O,P,Q,.slice (some ⟨s,0,none⟩) u u,R,S,(.slice (some ⟨g,0,none⟩) (l+1) d),T,U,V,W,Y,.int .i64 (u:Nat),Z,ab,ad,ao,ar,av,ax,a0,a1,a2,a3,a4,a5,a6,a7,a8,a9,ba,bb,bc,bg,bk,bl,bm,bn,bo,bp,bs,bw,bx,bz,bA,bB,bE,bM,bN,bO,bQ,bS,bY,b0,b1,b2,b3,b4,b6,b7,b8,ca,cb,cc,cf,cl,cm,cp,cq,cr,cw,cx,cy,cz,cA,cB,cM,cO,cP,cR,c0,c1,c5,c6,c7,c8,c9,eM,eN,eO,eQ,eR,eS,eT,eW,eZ,e0,e1,e2,e3,e4,e5,e6,e7,dc,dd,dg,dq,dr,ds,dB,ea,eb,ec,ed,ee,ef,eg,ei,ej,fe,fl,fo,fr,fs,fu,fv,fw,fx,fy,ga,gb,eo,ep,er,et,ev,ew,ey,ez,eA,eB,eC,eD,e8,e9],[]⟩ f:=by
 have k:Hid (vI (some ⟨s,0,none⟩) u r f∧(∀j,j<u->(r j).oneCell'=true)):=n;have X:Hid _:=o;clear n o;subst v
 conv=>arg 2;whnf
 refine XU ?_
 go_region_held3 (λw'=>True) (trivial)
  (first
   |(show(if Region.wanted (Oper.mk (some 127) _ _ _ _ _) _=true then _ else _);refine cX x8 _ _ x8 f.heap.size (.slice (some ⟨f.heap.size,0,none⟩) 0 0) [] x8 (by first|exact kl f.drew (aa _)|exact lF f.drew _ (aa _)|exact lG f.drew _ (aa _)|exact kl f (aa _)|exact lF f _ (aa _)|exact lG f _ (aa _)) (some ⟨s,0,none⟩) u u r x8 ((k.out.1.less (aa _)).below cd) (λj c=>k.out.2 j E) (λa=>by first|rfl|cases a) B1 B1 f cd (aa _) ?_;intro v1 wC m p e)
   |(show(if Region.wanted (Oper.mk (some 127) _ _ _ _ _) _=true then _ else _);refine cX x8 _ _ x8 f.heap.size (.slice (some ⟨f.heap.size+1,0,none⟩) 0 0) [] x8 (by first|exact kl f.drew (aa _)|exact lF f.drew _ (aa _)|exact lG f.drew _ (aa _)|exact kl f (aa _)|exact lF f _ (aa _)|exact lG f _ (aa _)) (some ⟨s,0,none⟩) u u r x8 ((k.out.1.less (aa _)).below cd) (λj c=>k.out.2 j E) (λa=>by first|rfl|cases a) B1 B1 f cd (aa _) ?_;intro v1 wC m p e)
   |(show(if Region.wanted (Oper.mk (some 130) _ _ _ _ _) _=true then _ else _);refine cX x8 _ _ x8 f.heap.size _ _ x8 (by first|exact m|exact m.alloc _) _ _ _ (λ_=>(.slice (some ⟨g,0,none⟩) (l+1) d)) x8 (vI.one (by first|(simp;done)|exact p.cell oi Xj)) (λ_ _=>rfl) (λa=>by cases a) Xm (by have:=e.size;first|omega|(simp;omega)) f (by first|exact e|exact e.alloc e.size _) (aa _) ?_;intro v2 wF bd gf t)
   |(show(if Region.wanted (Oper.mk (some 134) _ _ _ _ _) _=true then _ else _);refine cX x8 _ _ x8 f.heap.size _ _ x8 bd _ _ _ (λj=>r j) x8 (λj c=>absurd c oi) (λj c=>absurd c oi) (λa=>by first|rfl|cases a) Xm t.size f t (aa _) ?_;intro i b fc gi gd)
   |fail)
 all_goals
  refine XY (X.out _ _ _ _ _ _ _ _ _ _ _ _ i b ?_ gd);rw[Gk u u (aa _) (.slice (some ⟨g,0,none⟩) (l+1) d) r];simpa [vl]using fc
theorem NJ(w:eE=((f59.body.bind (fU 27)).getD .skip))(i:y<=K)(p:(0:Int)<=(y:Int))(x:(y:Int)<=(K:Int))(A:(y:Int)<=(u:Int))(B:¬u=y)(C:K<=1000)(o:vI (some ⟨s,0,none⟩) K r f∧(∀j,j<K->(r j).oneCell'=true))(p:∀(x A B C D F I J M X bd fc k:Value) (c:World),fE f.heap.size k (vl (K+1) (ins y (.slice (some ⟨g,0,none⟩) (l+1) d) r)) c->Below f.heap.size f c->N .normal ⟨#[q,z,G,O,P,Q,k,R,S,(.slice (some ⟨g,0,none⟩) (l+1) d),T,U,V,W,Y,.int .i64 (y:Nat),Z,ab,ad,ao,ar,av,ax,a0,a1,a2,a3,a4,a5,a6,a7,a8,a9,ba,bb,bc,bg,bk,bl,bm,bn,bo,bp,bs,bw,bx,bz,bA,bB,bE,bM,bN,bO,bQ,bS,bY,b0,b1,b2,b3,b4,b6,b7,b8,ca,cb,cc,cf,cl,cm,cp,cq,cr,cw,cx,cy,cz,cA,cB,cM,cO,cP,cR,c0,c1,c5,c6,c7,c8,c9,eM,eN,eO,eQ,eR,eS,eT,eW,eZ,e0,e1,e2,e3,e4,e5,e6,e7,dc,dd,dg,dq,dr,ds,dB,ea,eb,ec,ed,ee,ef,eg,ei,ej,x,A,B,C,D,F,I,J,M,X,bd,fc,eo,ep,er,et,ev,ew,ey,ez,eA,eB,eC,eD,e8,e9],[]⟩ c):eE.wp prog N ⟨#[q,z,G,O,P,Q,.slice (some ⟨s,0,none⟩) K u,R,S,(.slice (some ⟨g,0,none⟩) (l+1) d),T,U,V,W,Y,.int .i64 (y:Nat),Z,ab,ad,ao,ar,av,ax,a0,a1,a2,a3,a4,a5,a6,a7,a8,a9,ba,bb,bc,bg,bk,bl,bm,bn,bo,bp,bs,bw,bx,bz,bA,bB,bE,bM,bN,bO,bQ,bS,bY,b0,b1,b2,b3,b4,b6,b7,b8,ca,cb,cc,cf,cl,cm,cp,cq,cr,cw,cx,cy,cz,cA,cB,cM,cO,cP,cR,c0,c1,c5,c6,c7,c8,c9,eM,eN,eO,eQ,eR,eS,eT,eW,eZ,e0,e1,e2,e3,e4,e5,e6,e7,dc,dd,dg,dq,dr,ds,dB,ea,eb,ec,ed,ee,ef,eg,ei,ej,fe,fl,fo,fr,fs,fu,fv,fw,fx,fy,ga,gb,eo,ep,er,et,ev,ew,ey,ez,eA,eB,eC,eD,e8,e9],[]⟩ f:=by
 have b:Hid (vI (some ⟨s,0,none⟩) K r f∧(∀j,j<K->(r j).oneCell'=true)):=o;have HQ:Hid _:=p;clear o p;subst w
 conv=>arg 2;whnf
 refine XU ?_
 go_region_held3 (λw'=>True) (trivial)
  (first
   |(show(if Region.wanted (Oper.mk (some 127) _ _ _ _ _) _=true then _ else _);refine cX x8 _ _ x8 f.heap.size (.slice (some ⟨f.heap.size,0,none⟩) 0 0) [] x8 (by first|exact kl f.drew (aa _)|exact lF f.drew _ (aa _)|exact lG f.drew _ (aa _)|exact kl f (aa _)|exact lF f _ (aa _)|exact lG f _ (aa _)) (some ⟨s,0,none⟩) y u r x8 ((b.out.1.less i).below cd) (λj t=>b.out.2 j E) (λa=>by cases a) B1 B1 f cd (aa _) ?_;intro v1 wC m v e)
   |(show(if Region.wanted (Oper.mk (some 127) _ _ _ _ _) _=true then _ else _);refine cX x8 _ _ x8 f.heap.size (.slice (some ⟨f.heap.size+1,0,none⟩) 0 0) [] x8 (by first|exact kl f.drew (aa _)|exact lF f.drew _ (aa _)|exact lG f.drew _ (aa _)|exact kl f (aa _)|exact lF f _ (aa _)|exact lG f _ (aa _)) (some ⟨s,0,none⟩) y u r x8 ((b.out.1.less i).below cd) (λj t=>b.out.2 j E) (λa=>by cases a) B1 B1 f cd (aa _) ?_;intro v1 wC m v e)
   |(show(if Region.wanted (Oper.mk (some 130) _ _ _ _ _) _=true then _ else _);refine cX x8 _ _ x8 f.heap.size _ _ x8 (by first|exact m|exact m.alloc _) _ _ _ (λ_=>(.slice (some ⟨g,0,none⟩) (l+1) d)) x8 (vI.one (by first|(simp;done)|exact v.cell oi Xj)) (λ_ _=>rfl) (λa=>by cases a) Xm (by have:=e.size;first|omega|(simp;omega)) f (by first|exact e|exact e.alloc e.size _) (aa _) ?_;intro v2 wF gd gj n)
   |(show(if Region.wanted (Oper.mk (some 134) _ _ _ _ _) _=true then _ else _);refine cX x8 _ _ x8 f.heap.size _ _ x8 gd (some ⟨s,y,none⟩) (K-y) (u-y) (λj=>r (y+j)) x8 ((b.out.1.below n).shift i) (λj t=>b.out.2 (y+j) E) (λa=>by cases a) Xm n.size f n (aa _) ?_;intro k c gf gl gi)
   |fail)
 all_goals
  refine XY (HQ.out _ _ _ _ _ _ _ _ _ _ _ _ k c ?_ gi);rw[Gk K y i (.slice (some ⟨g,0,none⟩) (l+1) d) r];exact gf
