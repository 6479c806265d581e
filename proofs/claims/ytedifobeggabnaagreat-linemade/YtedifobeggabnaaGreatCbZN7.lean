/- Texts of ours, one behind the other: ZN7 ZN8 ZN9 ZO1 ZO2 ZO3 ZO4. -/
import Derived.Test.YtedifobeggabnaaGreatCbZN6
import Derived.Test.YtedifobeggabnaaGreatCbZN3
namespace Go.Proofs.YtedifobeggabnaaGreat
set_option maxHeartbeats 16000000
set_option maxRecDepth 100000
open Tryz
variable {e o q j F x P A Y:Nat}{g:FD}{u:List (Nat×Nat×Int)}{s S:Value}{f k:World}{p:Nat->Prop}{y ab:TypeId}{R ar:List Value}{d:List (Nat×Nat×Nat)}{n v T:Option Addr}{V:Nat->Int}{r:Nat->Option Obj}{t ad:Value->Prop}{C:Act}
section
open Go.RowKit Go.Sort
open Go.Conc
structure Af(B Bn gx:Nat)(D:FD)(N K M:Nat)(c:Nat->Nat)(vs:Nat->Value)(Z:Nat->Nat->Int)(l:List (Nat×Nat×Int))(mv lv:Value)(w:World):Prop where
 xs:eh gx D.q c w
 gx:Bn<=gx
 m:uI B D.q K M mv vs Z w
 nz:ml B lv l w
 low:∀b,(mv.ownBlock=some b∨lv.ownBlock=some b∨∃i,i<M∧(vs i).ownBlock=some b)->b<Bn
 bd:∀p,p∈l->p.1<M∧p.2.1<N∧ -1<=p.2.2∧p.2.2<(D.q:Int)
theorem Af.at{c:Nat->Nat}{d:Nat->Value}{h:Nat->Nat->Int}(i:Af e o q g j F x c d h u s S f)(a:Nat)(b:a<u.length):Hh u a<x∧Hm u a<j∧(A1 u a= -1∨(0<=A1 u a∧A1 u a<(g.q:Int))):=by
 have c:u.getD a (0,0,0)=u[a]:=by rw[aG,aE b];rfl
 have:=i.bd _ (uW b);unfold Hh Hm A1;rw[c];exact⟨this.1,this.2.1,E⟩
theorem A2(a:(o,q,j)∈xq s e):s.ownBlock=some o:=by
 unfold xq at a;cases b:s.ownBlock with
 |none=>rw[b]at a;simp at a
 |some c=>rw[b]at a;simp at a;rw[a.1]
section
variable {B G z i:Nat}{D:FD}{N K M:Nat}{c:Nat->Nat}{b:Nat->Value}{Z:Nat->Nat->Int}{l:List (Nat×Nat×Int)}{w m:Value}{W O:World}{h:Nat->Option Obj}
def rD(i N K M:Nat)(w m:Value)(b:Nat->Value)(L:Nat):List (Nat×Nat×Nat):=(i,0,N)::(xq w (M*1)++(xq m (L*3)++(List.range M).flatMap λa=>xq (b a) (K*1)))
def WW(z i N K M L a b:Nat)(c:TypeId):Prop:=(a=i∧b=N∧c=3)∨(a<z∧b=M*1∧c=22)∨(a<z∧b=L*3∧c=47)∨(a<z∧b=K*1∧c=3)
theorem QF(a:s∈Ho l):∃c,s=.int .i64 c:=by
 unfold Ho at a;obtain⟨c,_,b⟩:=oJ.1 a;simp at b;rcases b with rfl|rfl|rfl<;>exact⟨_,X⟩
theorem qX(g:Af B z i D N K M c b Z l w m W)(k:N<=D.q)(d:(e,o,q)∈rD i N K M w m b l.length):o=0∧∃f h,W.heap[e]?=some (.cells f h)∧q<=f.size∧WW z i N K M l.length e q h∧∀a,a<q->(∃u,f.getD a undef=.int .i64 u)∨∃j,j<M∧f.getD a undef=b j:=by
 simp only[rD,az,j4,oJ,bj,cK]at d;rcases d with⟨rfl,rfl,rfl⟩|d|d|⟨a,x,d⟩
 ·obtain⟨r,⟨n,t,p,h⟩,k⟩:=g.xs;refine⟨X,n,_,t,E,I ⟨X,X,X⟩,λa q=>I ⟨((c a:Nat):Int),?_⟩⟩;have:=h a E;rw[k a E]at this;simp[Array.getD_eq_getD_getElem?,this]
 ·have n:=g.m.own;unfold fE at n;rw[cg]at n;obtain⟨t,p,h,f,k,r,s⟩:=A5 n d;refine⟨p,f,_,k,r,J (I ⟨g.low e (I (A2 d)),h,X⟩),λa q=>J ?_⟩;have:=s a q;unfold vl at this;obtain⟨j,y,v⟩:=gF.1 this;exact⟨j,bj.1 y,v.symm⟩
 ·obtain⟨t,p,h,f,k,r,s⟩:=A5 g.nz d;exact⟨p,f,_,k,r,J (J (I ⟨g.low e (J (I (A2 d))),h,X⟩)),λa q=>I (QF (s a q))⟩
 ·have n:=g.m.row a x;unfold aV at n;rw[bq]at n;obtain⟨t,p,h,f,k,r,s⟩:=A5 n d;refine⟨p,f,_,k,r,J (J (J ⟨g.low e (J (J ⟨a,x,A2 d⟩)),h,X⟩)),λa q=>I ?_⟩;obtain⟨u,_,v⟩:=gF.1 (s a q);exact⟨u,v.symm⟩
theorem Hd(g:Af B z i D N K M c b Z l w m W)(p:N<=D.q)(r:(e,o,q)∈rD i N K M w m b l.length):dX (rD i N K M w m b l.length) e=some (0,q):=by
 obtain⟨t,F,G,u,_,v,_⟩:=qX g p r;subst t;refine OO r λt x a=>?_
 obtain⟨y,I,A⟩:=t;have a:y=e:=a;subst a;obtain⟨C,r,t,s,_,E,_⟩:=qX g p x;subst C;rw[u]at s;cases s;have:=g.gx;show(0,A)=(0,q)
 congr 1
 rcases v with⟨h,j,d⟩|⟨h,j,d⟩|⟨h,j,d⟩|⟨h,j,d⟩<;>rcases E with⟨k,n,f⟩|⟨k,n,f⟩|⟨k,n,f⟩|⟨k,n,f⟩<;>first|omega|(exfalso;have a:=d.symm.trans f;revert a;decide)
theorem Hc(d:Af B z i D N K M c b Z l w m W)(f:N<=D.q)(g:(dX (rD i N K M w m b l.length) e).isSome=true):(SO (rD i N K M w m b l.length)).lo e=0:=by
 obtain⟨⟨h,j⟩,a⟩:=di.1 g;have:=(qX d f (sL a)).1;subst this;simp[SO,KU,a]
theorem Td(f:Af B z i D N K M c b Z l w m W)(g:N<=D.q)(h:∀a,(dX (rD i N K M w m b l.length) a).isSome=true->p a)(k:W.ownsRow e y j s o R)(n:∀d,d∈xq s q->d∈rD i N K M w m b l.length):bG p (SO (rD i N K M w m b l.length)) s:=by
 obtain⟨_,⟨rfl,_⟩|⟨r,t,u,rfl,_⟩⟩:=k
 ·simp[bG]
 ·have a:(dX (rD i N K M w m b l.length) r).isSome=true:=iZ.2 ⟨0,q,n _ (by simp[xq,Value.ownBlock])⟩;exact nP ⟨h _ a,λ_=>by rw[Hc f g a];exact fq _⟩
def FA(b:Value):Option Addr:=match b with |.slice a _ _=>a|_=>none
def Mw(a:Value):Nat:=match a with |.slice _ _ b=>b|_=>0
theorem TM(hD:D∈ak)(ar:1<=N)(b3:N<=10)(O:N<=D.q)(ab:1<=K)(hK:K<=N)(hM:M<=200)(b4:l.length<=200)(hP:mn D.q c)(k:Af B z i D N K M c b Z l w m W)(hh:∀e r f,(e,r,f)∈rD i N K M w m b l.length->∃ad,h e=some ad):Ez h (D.q:Nat) (K:Nat) (some ⟨i,0,none⟩) N D.q w m M (kt D (λa j=>((D.ev (zc K (Z a)) (c j) K:Nat):Int)) (Hh l) (Hm l) (A1 l) l.length) W:=by
 have⟨L,t⟩:=eaa (rD i N K M w m b l.length)
 have av:∀e r f,(e,r,f)∈L->r=0∧∃u A,W.heap[e]?=some (.cells u A)∧f<=u.size∧∀a,a<f->(∃ax,u.getD a undef=.int .i64 ax)∨∃j,j<M∧u.getD a undef=b j:=λe r f v=>by
  rw[t]at v;obtain⟨a1,u,A,R,a3,_,bn⟩:=qX k O v;exact⟨a1,u,A,R,a3,bn⟩
 have bo:∀e r f,(e,r,f)∈L->dX L e=some (0,f):=λe r f v=>by
  rw[t]at v ⊢;exact Hd k O v
 have a0:(i,0,N)∈L:=by rw[t];simp[rD]
 have a2:∀q,q∈xq w (M*1)->q∈L:=λq S=>by rw[t];exact eU _ (fR _ S)
 have a4:∀q,q∈xq m (l.length*3)->q∈L:=λq S=>by rw[t];exact eU _ (yR _ (fR _ S))
 have a5:∀a,a<M->∀q,q∈xq (b a) (K*1)->q∈L:=λa f q S=>by rw[t];simp only[rD,az,j4,oJ,bj];exact J (J (J ⟨a,f,S⟩))
 have ao:∀ {a6:Nat->Prop} (_:∀e,(dX L e).isSome=true->a6 e) {C:Value} {bp bs bx bz:Nat} {A:TypeId} {xs:List Value} (_:W.ownsRow bp A bz C bs xs) (_:∀q,q∈xq C bx->q∈L),bG a6 (SO L) C:=by
  rw[t];exact λhS=>Td k O hS
 obtain⟨bA,bB,bE⟩:=Aq (l:=λo=>mB Sd o=true) (wt:=j8) (W:=W) (K:=dX L) (Q:=λ_=>False) (λe r f bM=>by
  obtain⟨a1,u,A,R,a3,bN⟩:=av e r f (sL bM);refine⟨u,A,_,R,a3,λa _ f=>?_⟩;rcases bN a f with⟨ax,g⟩|⟨j,s,g⟩
  ·rw[g];exact ok_int _ _
  ·rw[g];exact ao (λe p=>I p) (k.m.row j s) (a5 j s)) (λe p=>p.elim)
 have Y:(dA j8 (dX L) W).heap.size=W.heap.size:=jP;have up:∀e,(dX L e).isSome=true->gG (λe=>(dX L e).isSome=true∨False) W.heap.size (dA j8 (dX L) W).heap.size e:=λe p=>I (I p)
 have P:∀ {e f a:Nat} {C:Value},(e,0,f)∈L->a<f->W.cell? ⟨e,a,none⟩=some C->(dA j8 (dX L) W).cell? ⟨e,a,none⟩=some C:=λv h2 g=>s0 (bo _ _ _ v) (fq _) h2 g
 have a7:Sl (some ⟨i,0,none⟩) N c (dA j8 (dX L) W):=λj s=>⟨i,0,X,by rw[aW];exact P a0 s (k.xs.cell j E)⟩
 have a8:fp (some ⟨i,0,none⟩) (dA j8 (dX L) W).heap.size:=λbO g=>by cases g;rw[Y];exact k.xs.lt
 have bQ:∀a,a<M->∃o x,b a=.slice (some ⟨o,0,none⟩) K x∧Sl (some ⟨o,0,none⟩) K (zc K (Z a)) (dA j8 (dX L) W)∧o<W.heap.size:=λa f=>by
  have y:=k.m.row a f;have bS:=y.lt;unfold aV at y;rw[bq]at y;obtain⟨o,x,g,_,_,_,U,h6⟩:=p8 y ab;refine⟨o,x,g,λj s=>⟨o,0,X,?_⟩,(bS o (by rw[g];rfl)).2⟩;rw[aW];refine P (a5 a f (o,0,K*1) (by rw[U];simp)) E ((h6 j E).trans ?_);have p:=k.m.KT a f j s;rw[ck,kr K (Z a) j s];show some (Value.int .i64 (Z a j))=some (.int .i64 ((zc K (Z a) j:Nat):Int));unfold zc;rw[ai s,Int.toNat_of_nonneg p.1]
 have bY:∃mo mc,w=.slice mo M mc∧KP mo M K (λa=>FA (b a)) (λa=>Mw (b a)) (λa=>zc K (Z a)) (dA j8 (dX L) W):=by
  have y:=k.m.own;unfold fE at y;rw[cg]at y;rcases cL M with h0|h0
  ·obtain⟨_,⟨g,_⟩|⟨o,x,u,g,_⟩⟩:=y
   ·exact⟨none,0,by rw[g,h0],λa f=>E⟩
   ·exact⟨_,x,g,λa f=>E⟩
  ·obtain⟨o,x,g,_,_,_,U,h6⟩:=p8 y h0;refine⟨_,x,g,λa f=>?_⟩;obtain⟨gr,cr,F,hs,hl⟩:=bQ a f;have Q:(o,0,M*1)∈L:=a2 _ (by rw[U];simp);refine⟨⟨o,0,X,?_,?_⟩,by show Sl (FA (b a)) K (zc K (Z a)) _;rw[F];exact hs,by show fp (FA (b a)) _;rw[F];intro bO hx;cases hx;rw[Y];exact hl⟩
   ·rw[Y];obtain⟨_,u,_,R,_⟩:=av _ _ _ Q;exact aC R
   ·rw[aW];refine P Q E ((h6 a E).trans ?_);rw[kM M b a f];show some (b a)=some (Value.slice (FA (b a)) K (Mw (b a)));rw[F];rfl
 have b0:∃V nc,m=.slice V l.length nc∧Eg V l.length (Hh l) (Hm l) (A1 l) (dA j8 (dX L) W):=by
  obtain⟨V,x,g,hz⟩:=ml.Wy k.nz;refine⟨V,x,g,λn G=>?_⟩;obtain⟨e,b6,e1,F,e3,e4,e5⟩:=hz n G;obtain⟨o,b7,e',_,_,_,U,_⟩:=p8 k.nz E;rw[e']at g;cases g;cases e1;have Q:(e,0,l.length*3)∈L:=a4 _ (by rw[U];simp);exact⟨e,0,X,by rw[Y];exact F,P Q E e3,P Q E e4,P Q E e5⟩
 obtain⟨mo,mc,a9,ba⟩:=bY;obtain⟨V,nc,bb,bc⟩:=b0;have bd:∀n,n<l.length->Hh l n<M:=λn G=>(k.at n G).1
 have bg:∀n,n<l.length->Hm l n<N:=λn G=>(k.at n G).2.1
 have bk:∀n,n<l.length->A1 l n= -1∨(0<=A1 l n∧A1 l n<(D.q:Int)):=λn G=>(k.at n G).2.2
 have hE:∀a,a<M->El D (zc K (Z a)):=λa f j=>by
  unfold zc;split
  ·rename_i s;have:=k.m.KT a f j s;omega
  ·have:=(dE hD).q2;omega
 have bl:∀a,a<N->c a<D.q:=λa f=>hP.1 a E
 have bm:∀a j,a<N->j<N->a≠j->c a≠c j:=λa j f s g=>by
  rcases aR a j with h1|h1
  ·exact hP.2 a j h1 E
  ·exact λF=>hP.2 j a E E F.symm
 have b1:∀e,((dX L e).isSome=true∨False)->(∃ad,h e=some ad)∧(SO L).cl e:=λe p=>by
  have p:(dX L e).isSome=true:=p.elim id False.elim;obtain⟨r,f,v⟩:=iZ.1 p;rw[t]at v;exact⟨hh e r f v,p⟩
 refine⟨SO L,λe=>(dX L e).isSome=true∨False,dA j8 (dX L) W,⟨PQ L,λ_ _=>BG,b1,bA,bB,bE,λC hv=>?_⟩,by show mB Sd _=true;kernel_rfl,by show mB Sd _=true;kernel_rfl,λT d=>?_,λT d=>?_⟩
 ·simp only[az,aD,bP]at hv;rcases hv with rfl|rfl|rfl
  ·have p:(dX L i).isSome=true:=iZ.2 ⟨_,_,a0⟩;exact nP ⟨up _ p,λ_=>by rw[t,Hc k O (by rw[<-t];exact p)];exact fq _⟩
  ·exact ao up k.m.own a2
  ·exact ao up k.nz a4
 ·rw[a9,bb];exact(PY (w:=dZ (dA j8 (dX L) W) T d) hD ar E O bl bm a7 a8 ab hK ba hE E bc E bd bg bk).mono λg b2 he=>he.1
 ·rw[a9,bb];exact(IH (w:=dZ (dA j8 (dX L) W) T d) hD ar E O bl bm a7 a8 ab hK ba hE E bc E bd bg bk).mono λg b2 ⟨g0,bw,h1,h2,_⟩=>⟨g0,bw,h1,h2⟩
end
end
section
open Go.RowKit Go.Sort
theorem xE(d:y≠ab)(g:f.ownsRow e y F s q R)(h:f.ownsRow o ab x S j ar):s.ownBlock=none∨s.ownBlock≠S.ownBlock:=by
 rcases g.2 with⟨i,_⟩|⟨k,r,t,c,_,l,_⟩
 ·left;rw[i];rfl
 ·right
  rcases h.2 with⟨m,_⟩|⟨n,g,i,p,_,b,_⟩
  ·rw[c,m];intro a;cases a
  ·rw[c,p];intro a;have a:some k=some n:=a;cases a;rw[l]at b;simp at b;exact d b.2
theorem RF{a:Int}(b: -9223372036854775808<=a)(c:a<=9223372036854775807):IntKind.i64.wrap a=a:=by
 rw[YH]
 first|omega|(unfold wrap64;omega)
def Wi(a:Option Addr)(b c:Nat)(d:FD)(e:Nat)(f g h cN:Int)(i:Act):Prop:=∃j k l m n o p q r s t u:Value,i=⟨#[.slice a b c,.int .i64 (d.q:Nat),.int .i64 (e:Nat),.int .i64 f,.int .i64 g,.int .i64 h,.int .i64 cN,U,U,U,U,U,U,U,.bool false,U,U,U,U,j,k,l,m,n,o,p,q,r,s,t,u,U,U,U,U,U,U,U,U,U,U,U,U,U,U,U,U,U,U,U,U,U,U,U,U,U,U,U,U,U,U,U,U,U,U,U,U,U,U,U,U,U,U,U,U,U,U,U,U,U,U,U,U,U,U,U,U,U,U,U,U,U,U,U,U,U,U,U,U,U],[]⟩
def Uy(a:Option Addr)(b c:Nat)(d:FD)(e f g:Nat)(h cN:Int)(i j:Value)(k:Act):Prop:=∃l m n o p q r s t u v w x y z A B C D E F G I J K M N O P Q R S T V W X Y Z ab ad ao ar av ax a0 a1 a2 a3 a4 a5 a6 a7 a8 a9 ba bb bc bd bg bk bl bm bn bo bp bs bw bx bz bA bB:Value,k=⟨#[.slice a b c,.int .i64 (d.q:Nat),.int .i64 (e:Nat),.int .i64 (f:Nat),.int .i64 (g:Nat),.int .i64 h,.int .i64 cN,U,U,U,U,U,U,U,.bool false,i,l,j,m,n,o,p,q,r,s,t,u,v,w,x,y,z,A,B,C,D,E,F,G,I,J,K,M,N,O,P,Q,R,S,T,V,W,X,Y,Z,ab,ad,ao,ar,av,ax,a0,a1,a2,a3,a4,a5,a6,a7,a8,a9,ba,bb,bc,bd,bg,bk,bl,bm,bn,bo,bp,bs,bw,bx,bz,bA,bB,U,U,U,U,U,U,U,U,U,U,U,U],[]⟩
theorem P6{ao:Option Addr}{n0 ca:Nat}{z:Nat->Int}(e f k l m cN:Int)(n:oI e)(o:oI f):∃(b:FD) (i:Nat),b∈ak∧1<=i∧i<=10∧i<=b.q∧∀a:World,Arg ao n0 ca z a->n0<=256->Eo prog 5 (oR f4 0) (λs d=>Wi ao n0 ca b i k l m cN s∧Below a.heap.size a d) ⟨#[.slice ao n0 ca,.int .i64 e,.int .i64 f,.int .i64 k,.int .i64 l,.int .i64 m,.int .i64 cN,U,U,U,U,U,U,U,U,U,U,U,U,U,U,U,U,U,U,U,U,U,U,U,U,U,U,U,U,U,U,U,U,U,U,U,U,U,U,U,U,U,U,U,U,U,U,U,U,U,U,U,U,U,U,U,U,U,U,U,U,U,U,U,U,U,U,U,U,U,U,U,U,U,U,U,U,U,U,U,U,U,U,U,U,U,U,U,U,U,U,U,U,U],[]⟩ a:=by
 obtain⟨b,k,l⟩:=Bl e;obtain⟨i,m,s⟩:=qd (m:=f) (k:=10) E;have s:=(dE k).q2;have⟨c,s⟩:=eaa (1+i);refine⟨b,if b.q<c then b.q else c,k,XE,XE,XE,λa w x=>?_⟩;have t:Hid (∀a:World,Calls prog 14 #[.int .i64 e] a λg d=>g=.returned (.int .i64 b.q)∧Below a.heap.size a d):=λa=>by rw[<-l];exact FX e a n.1 n.2
 have u:Hid (∀a:World,Calls prog 15 #[.int .i64 f,.int .i64 10] a λg d=>g=.returned (.int .i64 i)∧d=a):=λa=>by rw[<-m];exact iT f 10 a o.1 o.2 E E
 have e:IntKind.i64.wrap (1+(i:Int))=(c:Int):=eP E E;have e:¬(256:Int)<(n0:Int):=E;clear l m s;simp only[oR,f4,Eo];go_wp2_with fail;refine(t.out a).mono ?_;rintro g p ⟨rfl,q⟩;have r:Hid (Below a.heap.size a p):=q;clear q;go_wp2_with fail;refine(u.out p).mono ?_;rintro g d ⟨rfl,j⟩;have j:=j.symm;subst j;by_cases a:b.q<c
 ·have v:((b.q:Nat):Int)<(c:Int):=by omega
  go_wp2_with fail
  exact⟨⟨_,_,_,_,_,_,_,_,_,_,_,_,X⟩,r.out⟩
 ·have v:¬((b.q:Nat):Int)<(c:Int):=by omega
  go_wp2_with fail
  exact⟨⟨_,_,_,_,_,_,_,_,_,_,_,_,X⟩,r.out⟩
theorem P7{ao:Option Addr}{n0 ca:Nat}{z:Nat->Int}(hD:g∈ak)(av:1<=e)(b0:e<=10)(b4:e<=g.q)(m Q O cN:Int)(x:oI m)(A:oI Q)(a3:oI O):∃(b c:Nat),1<=b∧b<=e∧c<=7∧∀(a:World) (B:Act),Arg ao n0 ca z a->n0<=256->Wi ao n0 ca g e m Q O cN B->Eo prog 6 (oR f4 5) (λB d=>∃av p q n mv lv,Uy ao n0 ca g e b c O cN mv lv B∧uI av g.q b c mv p q d∧ml av lv n d∧(∀k,k∈n->k.1<c∧k.2.1<e∧ -1<=k.2.2∧k.2.2<(g.q:Int))∧n.length<=20∧a.heap.size<=av∧Below a.heap.size a d) B a:=by
 obtain⟨K0,a4,av⟩:=qd (m:=m) (k:=e) E;obtain⟨c,a5,av⟩:=qd (m:=Q) (k:=8) E;obtain⟨T,a6,av⟩:=qd (m:=O) (k:=20) E;have⟨b,bk⟩:=eaa (1+K0);have av:=(dE hD).q2;have av:=(dE hD).uP;refine⟨b,c,E,E,E,λa B R av hA=>?_⟩;obtain⟨b6,b7,b8,cb,cc,cf,cl,cm,cp,cq,cr,cw,rfl⟩:=hA;have HA:Hid (Arg ao n0 ca z a):=R
 have HP:Hid (∀(r:Int) (m:Nat),oI r->1<=m->m<=1000->∃c:Nat,c<m∧∀a:World,Calls prog 15 #[.int .i64 r,.int .i64 m] a λi d=>i=.returned (.int .i64 c)∧d=a):=λr m hx h1 h2=>by
  obtain⟨c,hM,av⟩:=qd (m:=r) (k:=m) E;exact⟨c,av,λa=>by rw[<-hM];exact iT r m a hx.1 hx.2 E E⟩
 have bl:Hid (∀a:World,Calls prog 15 #[.int .i64 m,.int .i64 e] a λi d=>i=.returned (.int .i64 K0)∧d=a):=λa=>by rw[<-a4];exact iT m e a x.1 x.2 E E
 have bm:Hid (∀a:World,Calls prog 15 #[.int .i64 Q,.int .i64 8] a λi d=>i=.returned (.int .i64 c)∧d=a):=λa=>by rw[<-a5];exact iT Q 8 a A.1 A.2 E E
 have ax:Hid (∀a:World,Calls prog 15 #[.int .i64 O,.int .i64 20] a λi d=>i=.returned (.int .i64 T)∧d=a):=λa=>by rw[<-a6];exact iT O 20 a a3.1 a3.2 E E
 have HR:Hid (∀(j:Nat) (O:World),j<=100->Below a.heap.size a O->Calls prog 17 #[.slice ao n0 ca,.int .i64 (j:Nat)] O λi d=>(∃r,i=.returned (.int .i64 r)∧oI r)∧∃m,d=O.drewN m):=λj O S hx=>Ba (HA.out.below hx) E j E
 have O:IntKind.i64.wrap (1+(K0:Int))=(b:Int):=eP E E;have O:1<=b∧b<=e∧b<=10:=E;clear a4 a5 a6 R bk;simp only[oR,f4,Eo];go_wp2_with fail;refine(bl.out a).mono ?_;rintro i d ⟨rfl,f⟩;have f:=f.symm;subst f;go_wp2_with fail;refine(bm.out a).mono ?_;rintro i d ⟨rfl,f⟩;have f:=f.symm;subst f;go_wp2_with fail;have bn:Hid (uI a.heap.size g.q b 0 (.slice none 0 0) (λ_=>undef) (λ_ _=>0) a):=⟨fE.nil _ _,λj S=>absurd S E,λj S=>absurd S E⟩;go_loopw [15,16] (λbo vi wr=>∃(o:Nat) (p:Nat->Value) (q:Nat->Nat->Int),o<=c∧vi=.int .i64 o∧Hid (uI a.heap.size g.q b o bo p q wr∧Below a.heap.size a wr)) (λ_ vi _=>c-(intOf vi).toNat)
 case atStart=>exact⟨0,λ_=>undef,λ_ _=>0,E,X,bn.out,XK _ _⟩
 case round=>
  obtain⟨o,p,q,hi,rfl,l⟩:=hrel;rename World=>wA;by_cases O:o<c
  ·have bp:(o:Int)<(c:Int):=by omega
   have⟨O,a0⟩:=eaa (o*b)
   have Q:O<=80:=by
    rw[a0];have:=cT (show o<=8 by omega) (show b<=10 by omega);omega
   have Q:IntKind.i64.wrap ((o:Int)*(b:Int))=(O:Int):=eP (by rw[a0];simp) E
   have HN:Hid (Calls prog 16 #[.slice ao n0 ca,.int .i64 O,.int .i64 g.q,.int .i64 b] wA λi d=>∃v w y,i=.returned (.slice v b w)∧aV wA.heap.size (.slice v b w) (zl b y) d∧Sj g.q b y∧Below wA.heap.size wA d):=by
    refine(Dd (HA.out.below l.out.2) E O g.q b E E E E).mono ?_;rintro i d ⟨cx,y,rfl,U,bs,u⟩;obtain⟨v,w,rfl,_⟩:=U.yy;exact⟨v,w,y,X,U,bs,u⟩
   clear a0;go_wp2_with fail;refine HN.out.mono ?_;rintro i C ⟨v,w,y,rfl,a7,a8,ab⟩;have O:=l.out.2.size;have Q:=ab.size;have D:Hid (uI a.heap.size g.q b o u15 p q C∧aV a.heap.size (.slice v b w) (zl b y) C∧Sj g.q b y∧Below a.heap.size a C):=⟨l.out.1.below ab,a7.mono O,a8,al l.out.2 ab⟩;have bw:(vl o p).length<=1000000:=Xx;clear a7 a8 ab HN;go_wp2_with (at_builtin;refine sY X _ _ X a.heap.size u15 (vl o p) X (D.out.1.own.below ((XK _ _).alloc (aa _) _) (aa _)) ⟨C.heap.size,0,none⟩ 1 (.slice v b w) X X Xk bw x7 ?_;intro v' s a9 a1);have O:Below C.heap.size C (C.alloc (.cells #[.slice v b w] 22)):=(XK _ _).alloc (aa _) _
   have HI:Hid (uI a.heap.size g.q b (o+1) v' (λj=>if j=o then .slice v b w else p j) (λj=>if j=o then y else q j) s∧Below a.heap.size a s):=by
    have U:=D.out.1.below O;exact⟨U.push (D.out.2.1.below O (λm x=>(D.out.2.1.lt m x).2)) D.out.2.2.1 a9 a1,(al D.out.2.2.2 O).grown a1 x7 (λm x=>U.own.A3 m x)⟩
   clear a9 a1 O D;go_wp2;go_roundw
   case rel=>exact⟨o+1,_,_,E,x9,HI.out⟩
   case measure=>simp[intOf];omega
  ·have bp:¬(o:Int)<(c:Int):=by omega
   have v:o=c:=E;have ba:Hid (uI a.heap.size g.q b c u15 p q wA∧Below a.heap.size a wA):=by rw[<-v];exact l.out
   clear v l;go_wp2;go_loopw [17,18] (λbx vj wr=>∃(j:Nat) (n:List (Nat×Nat×Int)),j<=19∧vj=.int .i64 j∧Hid (uI a.heap.size g.q b c u15 p q wr∧ml a.heap.size bx n wr∧(∀k,k∈n->k.1<c∧k.2.1<e∧ -1<=k.2.2∧k.2.2<(g.q:Int))∧n.length=j∧Below a.heap.size a wr)) (λ_ vj _=>20-(intOf vj).toNat)
   case atStart=>exact⟨0,[],E,X,ba.out.1,ml.nil _ _,λk F=>(by simp at F),X,ba.out.2⟩
   case round=>
    obtain⟨j,n,S,rfl,l⟩:=hrel;rename World=>wB;by_cases o:j<T
    ·have b1:(j:Int)<(T:Int):=by omega
     by_cases o:0<c
     ·have b2:(0:Int)<(c:Int):=by omega
      have b3:(c:Int) > 0:=E;have⟨G,v⟩:=eaa (3*j);have⟨V,w⟩:=eaa (3*j+1);have⟨W,C⟩:=eaa (3*j+2);have⟨I,o⟩:=eaa (g.q+1);have D:IntKind.i64.wrap (3*(j:Int))=(G:Int):=eP E E;have D:IntKind.i64.wrap ((G:Int)+1)=(V:Int):=eP E E;have D:IntKind.i64.wrap ((G:Int)+2)=(W:Int):=eP E E;have D:IntKind.i64.wrap ((g.q:Int)+1)=(I:Int):=eP E E;have a2:G<=100∧V<=100∧W<=100∧I<=65:=E;have HQ:Hid (I=g.q+1):=o;clear v w C o;go_wp2_with fail;refine(ax.out wB).mono ?_;rintro i d ⟨rfl,f⟩;have f:=f.symm;subst f;go_wp2_with fail;refine(HR.out G wB a2.1 l.out.2.2.2.2).mono ?_;rintro i J ⟨⟨x1,rfl,bz⟩,k4,bb⟩
      have Y:Hid (uI a.heap.size g.q b c u15 p q J∧ml a.heap.size u17 n J∧Below a.heap.size a J):=by
       rw[bb];have u:=aO (XK wB.heap.size wB) k4;exact⟨l.out.1.below u,l.out.2.1.below u (aa _),aO l.out.2.2.2.2 k4⟩
      have HL:Hid ((∀k,k∈n->k.1<c∧k.2.1<e∧ -1<=k.2.2∧k.2.2<(g.q:Int))∧n.length=j):=⟨l.out.2.2.1,l.out.2.2.2.1⟩;clear bb l;obtain⟨K,bA,o⟩:=HP.out x1 c bz E E;have bB:Hid (∀a:World,Calls prog 15 #[.int .i64 x1,.int .i64 c] a λi d=>i=.returned (.int .i64 K)∧d=a):=o;clear o;go_wp2_with fail;refine(bB.out J).mono ?_;rintro i d ⟨rfl,f⟩;have f:=f.symm;subst f;go_wp2_with fail;refine(HR.out V J a2.2.1 Y.out.2.2).mono ?_;rintro i M ⟨⟨x2,rfl,bE⟩,k5,bc⟩
      have Z:Hid (uI a.heap.size g.q b c u15 p q M∧ml a.heap.size u17 n M∧Below a.heap.size a M):=by
       rw[bc];have u:=aO (XK J.heap.size J) k5;exact⟨Y.out.1.below u,Y.out.2.1.below u (aa _),aO Y.out.2.2 k5⟩
      clear bc Y;obtain⟨N,bM,o⟩:=HP.out x2 e bE E E;have bN:Hid (∀a:World,Calls prog 15 #[.int .i64 x2,.int .i64 e] a λi d=>i=.returned (.int .i64 N)∧d=a):=o;clear o;go_wp2_with fail;refine(bN.out M).mono ?_;rintro i d ⟨rfl,f⟩;have f:=f.symm;subst f;go_wp2_with fail;refine(HR.out W M a2.2.2.1 Z.out.2.2).mono ?_;rintro i s ⟨⟨x3,rfl,bO⟩,k6,bd⟩
      have P:Hid (uI a.heap.size g.q b c u15 p q s∧ml a.heap.size u17 n s∧Below a.heap.size a s):=by
       rw[bd];have u:=aO (XK M.heap.size M) k6;exact⟨Z.out.1.below u,Z.out.2.1.below u (aa _),aO Z.out.2.2 k6⟩
      clear bd Z;obtain⟨P3,u,o⟩:=HP.out x3 I bO (by rw[HQ.out];omega) E;have bQ:Hid (∀a:World,Calls prog 15 #[.int .i64 x3,.int .i64 (I:Nat)] a λi d=>i=.returned (.int .i64 P3)∧d=a):=o;clear o;go_wp2_with fail;refine(bQ.out s).mono ?_;rintro i d ⟨rfl,f⟩;have f:=f.symm;subst f;obtain⟨t,o⟩:∃t:Int,t=(P3:Int)-1:=⟨_,X⟩;have u:IntKind.i64.wrap ((P3:Int)-1)=t:=by rw[o];exact RF E E
      have HV:Hid (-1<=t∧t<(g.q:Int)):=by
       have:=HQ.out;exact⟨E,E⟩
      have bS:n.length<=1000000:=by rw[HL.out.2];omega
      have u:=P.out.2.2.size;clear o;go_wp2_with (at_builtin;refine IF X _ _ X a.heap.size u17 n X (P.out.2.1.below ((XK _ _).alloc (aa _) _) (aa _)) s.heap.size 1 (K,N,t) X Xk Xk Xk bS x7 ?_;intro bY w7 bg ad);have ar:Below s.heap.size s (s.alloc (.cells #[.int .i64 (K:Nat),.int .i64 (N:Nat),.int .i64 t] 47)):=(XK _ _).alloc (aa _) _
      have HI:Hid (uI a.heap.size g.q b c u15 p q w7∧ml a.heap.size bY (n++[(K,N,t)]) w7∧(∀k,k∈n++[(K,N,t)]->k.1<c∧k.2.1<e∧ -1<=k.2.2∧k.2.2<(g.q:Int))∧(n++[(K,N,t)]).length=j+1∧Below a.heap.size a w7):=by
       have A:=P.out.1.below ar;have a:=P.out.2.1.below ar (aa _);refine⟨⟨A.own.kept ad (xE x5 A.own a),λB R=>World.ownsRow.kept (A.row B R) ad (xE x5 (A.row B R) a),A.KT⟩,bg,λk F=>?_,by rw[aQ,HL.out.2];rfl,(al P.out.2.2 ar).grown ad x7 (λm x=>(YI a m x).1)⟩;rcases j4.1 F with F|F
       ·exact HL.out.1 k F
       ·have:k=(K,N,t):=by simpa using F
        subst this;exact⟨bA,bM,HV.out⟩
      clear bg ad ar P;go_wp2;go_roundw
      case rel=>exact⟨j+1,_,E,x9,HI.out⟩
      case measure=>simp[intOf];omega
     ·have b2:¬(0:Int)<(c:Int):=by omega
      have b3:¬(c:Int) > 0:=E;go_wp2_with fail;refine(ax.out wB).mono ?_;rintro i d ⟨rfl,f⟩;have f:=f.symm;subst f;go_wp2;exact⟨_,p,q,n,u15,u17,⟨_,_,_,_,_,_,_,_,_,_,_,_,_,_,_,_,_,_,_,_,_,_,_,_,_,_,_,_,_,_,_,_,_,_,_,_,_,_,_,_,_,_,_,_,_,_,_,_,_,_,_,_,_,_,_,_,_,_,_,_,_,_,_,_,_,_,_,_,_,_,_,X⟩,l.out.1,l.out.2.1,λr y z h=>l.out.2.2.1 (r,y,z) h,by rw[l.out.2.2.2.1];omega,aa _,l.out.2.2.2.2⟩
    ·have b1:¬(j:Int)<(T:Int):=by omega
     go_wp2_with fail
     refine(ax.out wB).mono ?_;rintro i d ⟨rfl,f⟩;have f:=f.symm;subst f;go_wp2;exact⟨_,p,q,n,u15,u17,⟨_,_,_,_,_,_,_,_,_,_,_,_,_,_,_,_,_,_,_,_,_,_,_,_,_,_,_,_,_,_,_,_,_,_,_,_,_,_,_,_,_,_,_,_,_,_,_,_,_,_,_,_,_,_,_,_,_,_,_,_,_,_,_,_,_,_,_,_,_,_,_,X⟩,l.out.1,l.out.2.1,λr y z h=>l.out.2.2.1 (r,y,z) h,by rw[l.out.2.2.2.1];omega,aa _,l.out.2.2.2.2⟩
end
def Ft:List Nat:=[6,7,8,10,11,12,13,14,15,16,17,18,19,20,21,22,23,24,26,31,32,33,34,35,36,37,38,39,40,41,42,43,44,45,46,47,48,54,58,59,60,61,62,63,64,65,66,67,89,90,91,92,93,94,95,112,113,114,115,116,127]
theorem P4:(Ft.all λa=>RU prog (mB Ft) a)=true:=wq
theorem S4:uG prog (Uq Ft):=E6 Ft λa b=>(aM.1 P4) a b
def pk(a:List (Nat×Nat×Nat)):Fx:=KU (λb=>mB Ft b=true) j8 (dX a)
theorem AH(a:List (Nat×Nat×Nat)):uG prog (pk a):=S4.lift λ_=>dt
theorem Fu(a:List (Nat×Nat×Nat))(b:Nat->Prop)(c:Nat):uJ prog b (pk a) c:=⟨⟨λd _=>by rw[show prog.globals.size=0 by kernel_rfl];exact fq _,λ_ _=>BG⟩,AH a⟩
theorem uT.liftM{b:Code}(a:s7 prog (mB Ft) b=true):uT prog (pk d) b:=uT.lift (F:=RV (mB Ft)) (F':=pk d) (λ_ a=>a) (GG a)
theorem S3:Vo prog 4:=⟨⟨f4,func4,X,wq⟩,wq⟩
theorem Mj:Vo prog 3:=⟨⟨f3,func3,X,wq⟩,wq⟩
theorem SZ:s7 prog (mB Ft) (nX 11 (oR f4 0))=true:=wq
theorem S9:s7 prog (mB Ft) (nX 5 (oR f3 0))=true:=wq
theorem Qa:s7 prog (mB Ft) (oR f3 6)=true:=wq
theorem P8:Ky 11 (oR f4 0)=oR f4 11:=wq
theorem Mf:Ky 5 (oR f4 0)=oR f4 5:=wq
theorem Qc:Ky 5 (oR f3 0)=oR f3 5:=wq
section
open Go.RowKit Go.Sort
open Go.Conc
section
variable {b:Option Addr}{a c:Nat}{z:Nat->Int}{W i:World}{Q:Nat->Prop}
theorem Dy(o:Arg b a c z W)(q:Ey b W)(r:∀d,Q d->dX (jJ b a) d=none∧∃p,W.heap[d]?=some p∧vH (λd=>(dX (jJ b a) d).isSome=true∨Q d) (pk (jJ b a)) p):VW (λd=>(dX (jJ b a) d).isSome=true∨Q d) (pk (jJ b a)) W.heap.size W (dA j8 (dX (jJ b a)) W) W∧qB (gG (λd=>(dX (jJ b a) d).isSome=true∨Q d) W.heap.size (dA j8 (dX (jJ b a)) W).heap.size) (pk (jJ b a)) (dA j8 (dX (jJ b a)) W)∧KJ (pk (jJ b a)) W.heap.size (dA j8 (dX (jJ b a)) W):=by
 refine Aq (l:=λp=>mB Ft p=true) (wt:=j8) (W:=W) (K:=dX (jJ b a)) (λd w x s=>?_) r;obtain⟨l,rfl,rfl,rfl,rfl⟩:=Dx s;obtain⟨m,p,y,f⟩:=q l X;refine⟨m,p,y,f,?_,λg k t=>?_⟩
 ·split
  ·omega
  ·obtain⟨d,e,n,h⟩:=o.sl (a-1) E;cases n;obtain⟨u,v,y',i,_,j⟩:=fS h;have f:W.heap[d]?=_:=f;rw[f]at i;cases i;have p:e+(a-1)<m.size:=(aL.1 j).1;show e+a<=_;omega
 ·split at t
  ·omega
  ·have k:l.off<=g:=k;obtain⟨d,e,n,h⟩:=o.sl (g-l.off) E;cases n
   have l:e+(g-e)=g:=by
    have k:e<=g:=k;omega
   have h:W.cell? ⟨d,e+(g-e),none⟩=_:=h;rw[l]at h;obtain⟨u,v,y',i,_,j⟩:=fS h;have f:W.heap[d]?=_:=f;rw[f]at i;cases i;have j:m[g]?=_:=j;simp[Array.getD_eq_getD_getElem?,j,bG]
theorem Hw(f:∀e,(dX (jJ b a) e).isSome=true->p e):bG p (pk (jJ b a)) (.slice b a c):=by
 rw[bG];rintro d rfl;have e:=Hu d a;refine⟨f _ (by rw[e];rfl),λ_=>?_⟩;show((dX (jJ (some d) a) d.block).map (·.1)).getD 0<=d.off;rw[e];exact aa _
end
theorem S5{ao:Option Addr}{n0 ca:Nat}{z:Nat->Int}(o p j k e cN:Int)(w:oI o)(x:oI p)(y:oI j)(A:oI k)(B:oI e):∃(b:FD) (a c d:Nat),b∈ak∧1<=a∧a<=10∧a<=b.q∧1<=c∧c<=a∧d<=7∧∀f:World,Arg ao n0 ca z f->n0<=256->Eo prog 11 (oR f4 0) (λq l=>∃g r s h m n,Uy ao n0 ca b a c d e cN m n q∧uI g b.q c d m r s l∧ml g n h l∧(∀i,i∈h->i.1<d∧i.2.1<a∧ -1<=i.2.2∧i.2.2<(b.q:Int))∧h.length<=20∧f.heap.size<=g) ⟨#[.slice ao n0 ca,.int .i64 o,.int .i64 p,.int .i64 j,.int .i64 k,.int .i64 e,.int .i64 cN,U,U,U,U,U,U,U,U,U,U,U,U,U,U,U,U,U,U,U,U,U,U,U,U,U,U,U,U,U,U,U,U,U,U,U,U,U,U,U,U,U,U,U,U,U,U,U,U,U,U,U,U,U,U,U,U,U,U,U,U,U,U,U,U,U,U,U,U,U,U,U,U,U,U,U,U,U,U,U,U,U,U,U,U,U,U,U,U,U,U,U,U,U],[]⟩ f:=by
 obtain⟨b,a,i,t,u,v,C⟩:=P6 (ao:=ao) (n0:=n0) (ca:=ca) (z:=z) o p j k e cN w x;obtain⟨c,d,o,p,w,x⟩:=P7 (ao:=ao) (n0:=n0) (ca:=ca) (z:=z) i t u v j k e cN y A B;refine⟨b,a,c,d,i,t,u,v,o,p,w,λf e j=>RE (m:=6) 5 _ _ _ ?_⟩;rw[Mf];refine sM (λq l a=>?_) 5 _ _ _ (C f e j);refine sM (λc d b=>?_) 6 _ _ _ (x l q (e.below a.2) j a.1);obtain⟨g,r,s,h,m,n,c,d,e,f,i,j,_⟩:=b;exact⟨g,r,s,h,m,n,c,d,e,f,i,aK a.2.size j⟩
structure Wl(ao:Option Addr)(n0 ca:Nat)(W:World)(D:FD)(N K M:Nat)(ns cN:Int)(B:Nat)(vs:Nat->Value)(Z:Nat->Nat->Int)(l:List (Nat×Nat×Int))(mv lv:Value)(a:Act)(W1:World):Prop where
 slot:Uy ao n0 ca D N K M ns cN mv lv a
 m:uI B D.q K M mv vs Z W1
 nz:ml B lv l W1
 bd:∀p,p∈l->p.1<M∧p.2.1<N∧ -1<=p.2.2∧p.2.2<(D.q:Int)
 len:l.length<=20
 ge:W.heap.size<=B
 old:∀b,b<W.heap.size->W1.heap[b]?=W.heap[b]?
 size:W.heap.size<=W1.heap.size
theorem Me(N:Arg n e o V f)(R:Ey n f)(S:e<=256)(u v w x m cN:Int)(C:oI u)(O:oI v)(W:oI w)(Y:oI x)(Z:oI m):∃(p:FD) (i q r:Nat),p∈ak∧1<=i∧i<=10∧i<=p.q∧1<=q∧q<=i∧r<=7∧∀(A:(Nat->Prop)->Goroutine->World->Prop),(∀a k l b g h y z,Wl n e o f p i q r m cN a k l b g h y z->Wk prog A (iL (λc=>c<f.heap.size) f.heap.size z) (G ((base 4).at y [.code (oR f4 11)]) []) z)->Wk prog A (λc=>c<f.heap.size) (G (Frame.enter prog 4 #[.slice n e o,.int .i64 u,.int .i64 v,.int .i64 w,.int .i64 x,.int .i64 m,.int .i64 cN] .normal) []) f:=by
 obtain⟨p,i,q,r,hD,ab,ad,ao,ar,av,hM,hw⟩:=S5 (ao:=n) (n0:=e) (ca:=o) (z:=V) u v w x m cN C O W Y Z;refine⟨p,i,q,r,hD,ab,ad,ao,ar,av,hM,λA ax=>?_⟩;obtain⟨O,W,Y⟩:=Dy (Q:=λ_=>False) N R (λc s=>s.elim);have F:(dA j8 (dX (jJ n e)) f).heap.size=f.heap.size:=jP;have A:Frame.enter prog 4 #[.slice n e o,.int .i64 u,.int .i64 v,.int .i64 w,.int .i64 x,.int .i64 m,.int .i64 cN] .normal=(base 4).at ⟨#[.slice n e o,.int .i64 u,.int .i64 v,.int .i64 w,.int .i64 x,.int .i64 m,.int .i64 cN,U,U,U,U,U,U,U,U,U,U,U,U,U,U,U,U,U,U,U,U,U,U,U,U,U,U,U,U,U,U,U,U,U,U,U,U,U,U,U,U,U,U,U,U,U,U,U,U,U,U,U,U,U,U,U,U,U,U,U,U,U,U,U,U,U,U,U,U,U,U,U,U,U,U,U,U,U,U,U,U,U,U,U,U,U,U,U,U,U,U,U,U,U],[]⟩ [.code (oR f4 0)]:=(Yo _ func4 X).trans wq;rw[A]
 refine OQ (n:=11) (Q:=Sr n e) (F:=pk (jJ n e)) (V:=dA j8 (dX (jJ n e)) f) (W0:=f) (R:=λy K=>∃a k l b g h,Uy n e o p i q r m cN g h y∧uI a p.q q r g k l K∧ml a h b K∧(∀A,A∈b->A.1<r∧A.2.1<i∧ -1<=A.2.2∧A.2.2<(p.q:Int))∧b.length<=20∧f.heap.size<=a)
  (Fu _ _ _) (λc s=>?_) O ⟨⟨S3,λi t=>?_,λq p=>by simp[Frame.at]at p,X,X,X,I X⟩,λr B=>by simp at B,W,by rw[F];exact aa _,Y⟩ (uT.liftM SZ) (λT d=>?_) (λy P T d M=>?_) (λa' V1 z M Q D=>?_)
 ·have:=(O.Up c (s.elim id False.elim)).2.1
  rwa [F]at this
 ·have t:i∈(⟨#[.slice n e o,.int .i64 u,.int .i64 v,.int .i64 w,.int .i64 x,.int .i64 m,.int .i64 cN,U,U,U,U,U,U,U,U,U,U,U,U,U,U,U,U,U,U,U,U,U,U,U,U,U,U,U,U,U,U,U,U,U,U,U,U,U,U,U,U,U,U,U,U,U,U,U,U,U,U,U,U,U,U,U,U,U,U,U,U,U,U,U,U,U,U,U,U,U,U,U,U,U,U,U,U,U,U,U,U,U,U,U,U,U,U,U,U,U,U,U,U,U],[]⟩:Act).tmps:=t;simp only[aF,az,aD,bP]at t;rcases t with rfl|rfl|rfl|rfl|rfl|rfl|rfl|t
  ·exact Hw λc s=>I (I s)
  ·exact ok_int _ _
  ·exact ok_int _ _
  ·exact ok_int _ _
  ·exact ok_int _ _
  ·exact ok_int _ _
  ·exact ok_int _ _
  ·simp only[or_self]at t;subst t;exact xT
 ·refine sM (λy K m=>?_) 11 _ _ _ (hw (dZ (dA j8 (dX (jJ n e)) f) T d) ((Hv N).dZ T d) S);obtain⟨a,k,l,b,g,h,r,i,t,u,v,w⟩:=m;exact⟨a,k,l,b,g,h,r,i,t,u,v,by rw[<-F];exact w⟩
 ·obtain⟨a,k,l,b,g,h,r,i,t,u,v,w⟩:=M;have B:∀m p q,a<=m->P.heap[m]?=some (.cells p q)->(dZ P T d).heap[m]?=some (.cells p q):=λ_ _ _ _ x=>x
  exact⟨a,k,l,b,g,h,r,⟨kj i.own B,λj y=>kj (i.row j y) B,i.KT⟩,kj t B,u,v,w⟩
 ·obtain⟨a,k,l,b,g,h,r,i,t,u,v,w⟩:=M;rw[P8];have A:∀m p q,a<=m->V1.heap[m]?=some (.cells p q)->z.heap[m]?=some (.cells p q):=λm p q B x=>D.new Q.blk (J ⟨E,aC x⟩) (Q.cf.nw m E) x
  refine ax a k l b g h a' z ⟨r,⟨kj i.own A,λj y=>kj (i.row j y) A,i.KT⟩,kj t A,u,v,w,λc s=>?_,D.le⟩;by_cases C:Sr n e c
  ·exact(D.Up c (C.elim id False.elim)).2.2.2
  ·exact D.old c s C
end
section
open Go.Conc Go.RowKit Go.ConcR.Gen
open Go.ConcN.Gen
open Go.Sort
theorem Md:oR f4 11=.seq (Vv (oR f4 11)) (oR f4 12):=wq
def Wj(h:Frame):Prop:=
 ∀(c:(Nat->Prop)->Goroutine->World->Prop) (d:Nat) (e:Nat->Option Obj) (a:Nat->Prop) (f:World),Kp d e (λ_=>none) a f->
  (∀g b i,Kp d e (λ_=>none) a g->b.tmps[14]?=some (.bool true)->b.defers=[]->Wk prog c a (G { (base 4).at b i with mode:=.returning } []) g)->
  Wk prog c a (G (h.finish (.bool true)) []) f
theorem QZ(g:Arg n e o V f)(h:Ey n f)(i:∀c,n=some c->∃j,r c.block=some j):Pf prog r [.slice n e o] f (pk (jJ n e)) (Sr n e) (dA j8 (dX (jJ n e)) f):=by
 obtain⟨c,j,k⟩:=Dy (Q:=λ_=>False) g h (λb a=>a.elim);refine⟨AH _,λ_ _=>BG,λb a=>?_,c,j,k,λg d=>?_⟩
 ·have a:(dX (jJ n e) b).isSome=true:=a.elim id False.elim;obtain⟨⟨c,g⟩,l⟩:=di.1 a;obtain⟨m,p,rfl,_⟩:=Dx l;exact⟨i m p,a⟩
 ·simp only[az,aD,bP]at d;subst d;exact Hw λb a=>I (I a)
theorem Kg(b:World):Pf prog (λ_=>none) [] b (pk []) (λa=>(dX [] a).isSome=true∨False) (dA j8 (dX []) b):=by
 obtain⟨d,e,f⟩:=Aq (l:=λg=>mB Ft g=true) (wt:=j8) (W:=b) (K:=dX []) (Q:=λ_=>False) (λa i j h=>by simp[dX]at h) (λa c=>c.elim);exact⟨AH [],λ_ _=>BG,λa c=>by simp[dX]at c,d,e,f,λg b=>by simp at b⟩
section
variable {b:Option Addr}{c l:Nat}{z:Nat->Int}{D:FD}{N K M:Nat}{B cN:Int}{w m:Value}{a:Act}{i H:Nat}
theorem P0{Y:(Nat->Prop)->Goroutine->World->Prop}(bd:1<=D.q)(Z:D.q<=64)(bg:N<=D.q)(a3:c<=256)(g:Kp e r (λ_=>none) p f)(hs:Uy b c l D N K M B cN w m a)(a2:∀y:World,(∀j k,r j=some k->y.heap[j]?=some k)->Arg b c l z y∧Ey b y)(hh:∀a,b=some a->∃k,r a.block=some k)(a3:∀f:World,Calls prog 15 #[.int .i64 cN,.int .i64 8] f λn y=>n=.returned (.int .i64 (i:Nat))∧y=f)(Z:IntKind.i64.wrap (1+(i:Int))=(H:Int))(R:∀fc Z h' y o q,Kp e h' (λ_=>none) Z y->(∀j k,r j=some k->h' j=some k)->(∀j,Z j->p j∨e<=j)->eh o D.q q y->mn D.q q->e<=o->(∀k,y.heap[o]?=some k->h' o=some k)->Wj fc->Wk prog Y Z (G (Frame.enter prog 3 #[.int .i64 (D.q:Nat),.slice (some ⟨o,0,none⟩) N D.q,.int .i64 (K:Nat),w,m,.int .i64 (H:Nat)] .normal) [fc]) y):Wk prog Y p (G ((base 4).at a [.code (oR f4 11)]) []) f:=by
 have h:∀ {p:Nat->Prop} {r z:Nat->Option Obj} {f O:World},Kp e r z p f->dW dU (BV z) p f O->Kp e r z p O:=λg ab=>g.rely ab
 have bk:Hid (∀f:World,Calls prog 15 #[.int .i64 cN,.int .i64 8] f λn y=>n=.returned (.int .i64 (i:Nat))∧y=f):=a3;clear a3;obtain⟨bm,bn,bo,bp,bs,bw,bx,bz,bA,bB,bE,bM,bN,bO,bQ,bS,bY,b0,b1,b2,b3,b4,b6,b7,b8,ca,cb,cc,cf,cl,cm,cp,cq,cr,cw,cx,cy,cz,cA,cB,cM,cO,cP,cR,c0,c1,c5,c6,c7,c8,c9,dc,dd,dg,dq,dr,ds,dB,ea,eb,ec,ed,ee,ef,eg,ei,ej,eo,ep,er,et,rfl⟩:=hs;rw[Md];simp only[Vv,oR,f4];refine fL (n:=100) g ?_;refine aH (n:=30) (m:=70) ?_;repeat(first|u_c XJ h g|u_c XL h g|u_reg h g|u_cnd true h g|u_cnd false h g|u_c XN h g|u_op h g|u_skip h g)
 refine XO (λad t=>?_);replace g:=h g t;clear t;refine gT (n:=69) (f:=18) (vs:= #[.slice b c l,.int .i64 (D.q:Nat),.int .i64 (N:Nat)]) X X x5 X func18 wq wq Xf ?_;refine HG.stop (λs P=>?_);replace g:=h g P;clear P;have F:e<=s.heap.size:=g.size;obtain⟨ao,a4⟩:=a2 s λj k n=>g.mem j k n
 have a5:(dA j8 (dX (jJ b c)) s).heap.size=s.heap.size:=jP;refine rN (R:=λv ar=>∃A q,v=.slice (some ⟨A,0,none⟩) N D.q∧s.heap.size<=A∧eh A D.q q ar∧mn D.q q) (h0:=r) (vs:=[.slice b c l]) g (QZ ao a4 hh) (λj k n=>n) wq (by show mB Ft _=true;kernel_rfl) (λv x=>?_) (λT d=>?_) (λv bl T d hp=>?_) (λv V1 Q x a6 S=>?_)
 ·simp only[aF,az,aD,bP]at x;rcases x with rfl|rfl|rfl
  ·exact I oi
  ·exact J ⟨_,_,X⟩
  ·exact J ⟨_,_,X⟩
 ·refine(Dh (w:=dZ (dA j8 (dX (jJ b c)) s) T d) ((Hv ao).dZ T d) E D.q N bd E bg).mono ?_;rintro n ar ⟨A,q,rfl,hg,u,h2,_⟩;exact⟨_,X,A,q,X,by rw[<-a5];exact hg,u,h2⟩
 ·obtain⟨A,q,n,hg,u,h2⟩:=hp;obtain⟨av,⟨U,k1,k2,k3⟩,k4⟩:=u;exact⟨A,q,n,hg,⟨av,⟨U,k1,k2,k3⟩,k4⟩,h2⟩
 obtain⟨o,q,rfl,V,a7,a8⟩:=x
 have ax:eh o D.q q Q:=by
  obtain⟨av,⟨U,k1,k2,k3⟩,k4⟩:=a7;exact⟨av,⟨U,a6 o U _ V k1,k2,k3⟩,k4⟩
 have A:∀j k,r j=some k->j<s.heap.size:=λj k n=>g.He n
 have⟨u,y⟩:=eaa (mV r s.heap.size Q);have a9:∀j k,r j=some k->u j=some k:=λj k n=>by rw[y];exact pf n
 have ba:∀k,Q.heap[o]?=some k->u o=some k:=λk n=>by rw[y];exact wu A V n
 have a0:∀j,iL p s.heap.size Q j->p j∨e<=j:=λj C=>C.imp id λU=>aK F U.1
 have bb:e<=o:=aK F V;obtain⟨U,a1,_⟩:=ax.plain;have W:=ba _ a1;rw[<-y]at S;clear y g a7 a6 a5 ao a4 V F A;rename Kp _ u _ _ _=>g;have⟨y,A⟩:=eaa (iL p s.heap.size Q);rw[<-A]at g a0 ⊢;clear A;rw[XW];walk_nrm;refine fL (n:=100) g ?_;refine aH (n:=30) (m:=70) ?_;repeat(first|u_c XJ h g|u_c XL h g|u_reg h g|u_cnd true h g|u_cnd false h g|u_c XN h g|u_op h g|u_skip h g)
 refine XO (λad t=>?_);replace g:=h g t;clear t;refine gT (n:=69) (f:=15) (vs:= #[.int .i64 cN,.int .i64 8]) X X x5 X func15 wq wq Xf ?_;refine HG.stop (λbc y=>?_);replace g:=h g y;clear y;have F:e<=bc.heap.size:=g.size;refine rN (R:=λv _=>v=.int .i64 (i:Nat)) (h0:=λ_=>none) (vs:=[]) g (Kg bc) (λj k n=>by cases n) wq (by show mB Ft _=true;kernel_rfl) (λv x=>?_) (λT d=>(bk.out _).mono λn ar he=>⟨_,he.1,X⟩) (λv bl T d hp=>hp) (λv V1 W2 x _ S=>?_)
 ·simp only[aF,az,aD,bP]at x;rcases x with rfl|rfl<;>exact J ⟨_,_,X⟩
 subst x;replace g:=S.Ve (h':=u) λj k n=>pf n
 clear S;rw[XW];walk_nrm;refine fL (n:=100) g ?_;refine aH (n:=30) (m:=70) ?_;repeat(first|u_c XJ h g|u_c XL h g|u_reg h g|u_cnd true h g|u_cnd false h g|u_c XN h g|u_op h g|u_skip h g)
 refine XO (λad t=>?_);replace g:=h g t;clear t;refine gT (n:=69) (f:=3) (vs:= #[.int .i64 (D.q:Nat),.slice (some ⟨o,0,none⟩) N D.q,.int .i64 (K:Nat),w,m,.int .i64 (H:Nat)]) X X x5 X func3 wq wq Xf ?_;refine HG.stop (λx v=>?_);replace g:=h g v;clear v;refine R _ _ u x o q g a9 (λj C=>?_) ?_ a8 bb (λk n=>?_) ?_
 ·rcases C with C|C
  ·exact a0 j C
  ·exact J (aK F C.1)
 ·exact ax.other ((g.mem o _ W).trans a1.symm)
 ·have:=g.mem o _ W;rw[n]at this;rw[W,this]
 clear g R h F a9 a0 ba W bb a1 ax a8 a2 hh;intro Y e r p f g R;have h:∀ {p:Nat->Prop} {r z:Nat->Option Obj} {f O:World},Kp e r z p f->dW dU (BV z) p f O->Kp e r z p O:=λg ab=>g.rely ab
 rw[XW];walk_nrm;refine fL (n:=100) g ?_;refine aH (n:=60) (m:=40) ?_;repeat(first|u_c XJ h g|u_c XL h g|u_reg h g|u_cnd true h g|u_cnd false h g|u_c XN h g|u_op h g|u_skip h g)
 u_c X3 h g
 refine XO (λad t=>?_);replace g:=h g t;clear t;refine HG.stop (λs P=>?_);replace g:=h g P;clear P;exact R s ⟨_,_⟩ _ g X X
end
end
section
open Go.RowKit Go.Sort
open Go.Conc
section
variable {B z b:Nat}{D:FD}{N K M:Nat}{c:Nat->Nat}{a:Nat->Value}{Z:Nat->Nat->Int}{l:List (Nat×Nat×Int)}{w m:Value}{W:World}
theorem Qd(h:Af B z b D N K M c a Z l w m W)(i:N<=D.q)(k:∀d,(dX (rD b N K M w m a l.length) d).isSome=true->p d)(n:W.ownsRow e y j s o R)(r:∀f,f∈xq s q->f∈rD b N K M w m a l.length):bG p (pk (rD b N K M w m a l.length)) s:=by
 obtain⟨_,⟨rfl,_⟩|⟨g,t,u,rfl,_⟩⟩:=n
 ·simp[bG]
 ·have d:(dX (rD b N K M w m a l.length) g).isSome=true:=iZ.2 ⟨0,q,r _ (by simp[xq,Value.ownBlock])⟩;refine nP ⟨k _ d,λ_=>?_⟩;have f:(pk (rD b N K M w m a l.length)).lo g=0:=Hc h i d;rw[f];exact fq _
theorem Hb(x:D.q<=64)(R:N<=D.q)(a7:1<=K)(y:K<=N)(n:Af B z b D N K M c a Z l w m W)(t:d=rD b N K M w m a l.length){Q:Nat->Prop}(hQ:∀f,Q f->dX d f=none∧∃o,W.heap[f]?=some o∧vH (λf=>(dX d f).isSome=true∨Q f) (pk d) o):(VW (λf=>(dX d f).isSome=true∨Q f) (pk d) W.heap.size W (dA j8 (dX d) W) W∧qB (gG (λf=>(dX d f).isSome=true∨Q f) W.heap.size (dA j8 (dX d) W).heap.size) (pk d) (dA j8 (dX d) W)∧KJ (pk d) W.heap.size (dA j8 (dX d) W))∧(∀u:Nat->Prop,(∀f,(dX d f).isSome=true->u f)->bG u (pk d) (.slice (some ⟨b,0,none⟩) N D.q)∧bG u (pk d) w∧bG u (pk d) m)∧Arg (some ⟨b,0,none⟩) N D.q (λj=>((c j:Nat):Int)) (dA j8 (dX d) W)∧∃v S r T,w=.slice v M S∧m=.slice r l.length T∧KP v M K (λe=>FA (a e)) (λe=>Mw (a e)) (λe=>zc K (Z e)) (dA j8 (dX d) W)∧sV v M (λe=>FA (a e)) (λ_=>K) (λe=>Mw (a e)) Z (dA j8 (dX d) W)∧Eg r l.length (Hh l) (Hm l) (A1 l) (dA j8 (dX d) W):=by
 have av:∀f x g,(f,x,g)∈d->x=0∧∃p y,W.heap[f]?=some (.cells p y)∧g<=p.size∧∀e,e<g->(∃ax,p.getD e undef=.int .i64 ax)∨∃j,j<M∧p.getD e undef=a j:=λf x g A=>by
  rw[t]at A;obtain⟨a1,p,y,U,a3,_,o⟩:=qX n R A;exact⟨a1,p,y,U,a3,o⟩
 have a8:∀f x g,(f,x,g)∈d->dX d f=some (0,g):=λf x g A=>by
  rw[t]at A ⊢;exact Hd n R A
 have a0:(b,0,N)∈d:=by rw[t];simp[rD]
 have a2:∀o,o∈xq w (M*1)->o∈d:=λo F=>by rw[t];exact eU _ (fR _ F)
 have a4:∀o,o∈xq m (l.length*3)->o∈d:=λo F=>by rw[t];exact eU _ (yR _ (fR _ F))
 have a5:∀e,e<M->∀o,o∈xq (a e) (K*1)->o∈d:=λe g o F=>by rw[t];simp only[rD,az,j4,oJ,bj];exact J (J (J ⟨e,g,F⟩))
 have ar:∀ {u:Nat->Prop} (_:∀f,(dX d f).isSome=true->u f) {F:Value} {a9 ba bb bc:Nat} {y:TypeId} {xs:List Value} (_:W.ownsRow a9 y bc F ba xs) (_:∀o,o∈xq F bb->o∈d),bG u (pk d) F:=by
  rw[t];exact λV=>Qd n R V
 obtain⟨bd,bg,bk⟩:=Aq (l:=λi=>mB Ft i=true) (wt:=j8) (W:=W) (K:=dX d) (Q:=Q) (λf x g o=>by
  obtain⟨a1,p,y,U,a3,a9⟩:=av f x g (sL o);refine⟨p,y,_,U,a3,λe _ g=>?_⟩;rcases a9 e g with⟨ax,h⟩|⟨j,q,h⟩
  ·rw[h];exact ok_int _ _
  ·rw[h];exact ar (λf C=>I C) (n.m.row j q) (a5 j q)) hQ
 have ab:(dA j8 (dX d) W).heap.size=W.heap.size:=jP;have G:∀ {f g e:Nat} {F:Value},(f,0,g)∈d->e<g->W.cell? ⟨f,e,none⟩=some F->(dA j8 (dX d) W).cell? ⟨f,e,none⟩=some F:=λA o h=>s0 (a8 _ _ _ A) (fq _) o h
 have Y:∀e,e<M->∃i k,a e=.slice (some ⟨i,0,none⟩) K k∧K<=k∧k<=maxLen∧lu (some ⟨i,0,none⟩) K (Z e) (dA j8 (dX d) W)∧Sl (some ⟨i,0,none⟩) K (zc K (Z e)) (dA j8 (dX d) W)∧i<W.heap.size:=λe g=>by
  have o:=n.m.row e g;have x:=o.lt;unfold aV at o;rw[bq]at o;obtain⟨i,k,h,_,y,A,h5,h6⟩:=p8 o a7
  have O:lu (some ⟨i,0,none⟩) K (Z e) (dA j8 (dX d) W):=λj q=>⟨i,0,X,by
   rw[aW];refine G (a5 e g (i,0,K*1) (by rw[h5];simp)) E ((h6 j E).trans ?_);rw[ck,kr K (Z e) j q];rfl⟩
  refine⟨i,k,h,y,A,O,λj q=>?_,(x i (by rw[h];rfl)).2⟩;obtain⟨f,ad,e1,s⟩:=O j q;refine⟨f,ad,e1,s.trans ?_⟩;have C:=n.m.KT e g j q;show some (Value.int .i64 (Z e j))=some (.int .i64 ((zc K (Z e) j:Nat):Int));unfold zc;rw[ai q,Int.toNat_of_nonneg C.1]
 have bl:∃v S,w=.slice v M S∧KP v M K (λe=>FA (a e)) (λe=>Mw (a e)) (λe=>zc K (Z e)) (dA j8 (dX d) W):=by
  have o:=n.m.own;unfold fE at o;rw[cg]at o;rcases cL M with x|x
  ·obtain⟨_,⟨h,_⟩|⟨i,k,p,h,_⟩⟩:=o
   ·exact⟨none,0,by rw[h,x],λe g=>E⟩
   ·exact⟨_,k,h,λe g=>E⟩
  ·obtain⟨i,k,h,_,_,_,h5,h6⟩:=p8 o x;refine⟨_,k,h,λe g=>?_⟩;obtain⟨o,x,s,_,_,_,hs,hl⟩:=Y e g;have P:(i,0,M*1)∈d:=a2 _ (by rw[h5];simp);refine⟨⟨i,0,X,?_,?_⟩,by show Sl (FA (a e)) K (zc K (Z e)) _;rw[s];exact hs,by show fp (FA (a e)) _;rw[s];intro bm hx;cases hx;rw[ab];exact hl⟩
   ·rw[ab];obtain⟨_,p,_,U,_⟩:=av _ _ _ P;exact aC U
   ·rw[aW];refine G P E ((h6 e E).trans ?_);rw[kM M a e g];show some (a e)=some (Value.slice (FA (a e)) K (Mw (a e)));rw[s];rfl
 have bn:∃r T,m=.slice r l.length T∧Eg r l.length (Hh l) (Hm l) (A1 l) (dA j8 (dX d) W):=by
  obtain⟨r,k,h,O⟩:=ml.Wy n.nz;refine⟨r,k,h,λo p=>?_⟩;obtain⟨f,ad,e1,s,e3,e4,e5⟩:=O o p;obtain⟨i,p,o,_,_,_,h5,_⟩:=p8 n.nz E;rw[o]at h;cases h;cases e1;have P:(f,0,l.length*3)∈d:=a4 _ (by rw[h5];simp);exact⟨f,0,X,by rw[ab];exact s,G P E e3,G P E e4,G P E e5⟩
 obtain⟨v,S,bo,a6⟩:=bl;obtain⟨r,T,bp,bs⟩:=bn;refine⟨⟨bd,bg,bk⟩,λu V=>⟨?_,ar V n.m.own a2,ar V n.nz a4⟩,⟨λj q=>⟨b,0,X,by rw[aW];exact G a0 q (n.xs.cell j E)⟩,λbm h=>(by cases h;rw[ab];exact n.xs.lt),E,λh=>(by cases h),R,E⟩,v,S,r,T,bo,bp,a6,⟨λe g=>?_,λe g=>?_,λe g=>?_,λe g=>?_,λe g=>?_,λe g=>E⟩,bs⟩
 ·have C:(dX d b).isSome=true:=iZ.2 ⟨_,_,a0⟩;refine nP ⟨V _ C,λ_=>?_⟩
  have h:(pk d).lo b=0:=by
   rw[t]at C ⊢;exact Hc n R C
  rw[h];exact fq _
 ·obtain⟨f,ad,e1,_,s⟩:=(a6 e g).1;exact⟨f,ad,e1,s⟩
 ·obtain⟨i,k,h,_,_,O,_⟩:=Y e g;show lu (FA (a e)) K (Z e) _;rw[h];exact O
 ·obtain⟨i,k,h,f,_⟩:=Y e g;show K<=Mw (a e);rw[h];exact f
 ·obtain⟨i,k,h,_,f,_⟩:=Y e g;show Mw (a e)<=_;rw[h];show k<=_;unfold maxLen at f;omega
 ·obtain⟨i,k,h,_⟩:=Y e g;intro ao;have ao:FA (a e)=none:=ao;rw[h]at ao;cases ao
theorem P9(e:1<=N)(p:N<=10)(q:N<=D.q)(r:1<=K)(u:K<=N)(v:M<=200)(x:l.length<=200)(i:mn D.q c)(n:Af B z b D N K M c a Z l w m W):D.xa N (λj=>((c j:Nat):Int)) (K:Nat) M (λ_=>K) Z l.length (λd=>((Hh l d:Nat):Int)) (λd=>((Hm l d:Nat):Int)) (A1 l)=0:=by
 have p:∀e,e<N->c e<D.q:=λe q=>i.1 e E
 have r:∀e j,e<N->j<N->e≠j->c e≠c j:=λe j q o u=>by
  rcases aR e j with g|g
  ·exact i.2 e j g E
  ·exact λh=>i.2 j e E E h.symm
 have g:D.fI N (λj=>((c j:Nat):Int)) (K:Nat)=0:=by
  unfold FD.fI;rw[af E,af (not_not_intro (xr p r N (aa _))),af E]
 have s:∀f,f<=M->D.oW (K:Nat) (λ_=>K) Z f=0:=by
  intro f;induction f with
  |zero=>intro _;rfl
  |succ f k=>
   intro e;rw[FD.oW,k E,af oi,af oi];unfold FD.jG;rw[af E,ai (iM.2 λj o=>?_)];have e:=n.m.KT f E j o;unfold FD.has;exact aU ⟨E,E⟩
 have t:∀d,d<=l.length->D.oO M N (λd=>((Hh l d:Nat):Int)) (λd=>((Hm l d:Nat):Int)) (A1 l) d=0:=by
  intro d;induction d with
  |zero=>intro _;rfl
  |succ d k=>
   intro e;have e:=n.at d E;rw[FD.oO,k E,af oi,af E,af];rintro⟨e,h⟩
   have:D.has (A1 l d)=true:=by
    unfold FD.has;exact aU ⟨E,E⟩
   rw[this]at h;cases h
 unfold FD.xa;rw[g,af oi,af E,s M (aa _),af oi];exact t _ (aa _)
theorem LW{K m:Nat}:∀i,qW (λ_=>K) m i<=m+i*K
 |0=>by simp[qW]
 |i+1=>by
  have:=LW (K:=K) (m:=m) i;rw[Nat.succ_mul];unfold qW;split<;>omega
end
structure vF(lo M K bg:Nat)(am:Nat->Nat->Nat)(er:Nat->Nat)(ls:Nat->Bool)(tk:Nat->Option Value)(w:World):Prop where
 got:w.heap[bg]?=some (.cells (lU M tk) 39)
 ge:lo<=bg
 all:∀i,i<M->∃v,tk i=some v∧Gw lo ls er K am i v w
section
variable {l M K a b:Nat}{m:Nat->Nat->Nat}{z:Nat->Nat}{c:Nat->Bool}{i:Nat->Option Value}{w w':World}
theorem vF.cells(e:vF l M K a m z c i w)(f:∀b d h,BT M a i b->w.heap[b]?=some (.cells d h)->w'.heap[b]?=some (.cells d h)):vF l M K a m z c i w':=
 ⟨f _ _ _ (I X) e.got,e.ge,λj k=>by
  obtain⟨A,n,go,o,rfl,p,q⟩:=e.all j k;refine⟨_,n,go,o,X,p,λr=>?_⟩;obtain⟨s,t,g,d,rfl,u,v,x,y⟩:=q r;exact⟨s,t,g,d,X,u,f _ _ _ (J ⟨j,_,k,n,_,_,_,_,_,X,X⟩) v,x,y⟩⟩
theorem vF.WT(d:vF l M K a m z c i w):∃go f,VE a M K go f m z c w:=by
 have g:∀b,∃h:Option Addr×Nat,b<M->w.cell? ⟨a,b*3,none⟩=some (.slice h.1 (if c b then 0 else K) h.2)∧w.cell? ⟨a,b*3+1,none⟩=some (.int .i64 (z b:Nat))∧w.cell? ⟨a,b*3+2,none⟩=some (.bool (c b))∧(c b=false->Sl h.1 K (m b) w):=λb=>by
  by_cases e:b<M
  ·obtain⟨o,k,go,f,rfl,p,n⟩:=d.all b e;obtain⟨h,o,p⟩:=GX k;refine⟨(go,f),λ_=>⟨cell_of d.got ((eI E).trans (cF some h)),cell_of d.got ((eI E).trans (cF some o)),cell_of d.got ((eI E).trans (cF some p)),λq=>?_⟩⟩;obtain⟨_,_,r,u,rfl,_,s,_,t⟩:=n q;exact λj f=>⟨r,0,X,by rw[aW];exact cell_of s (t j f)⟩
  ·exact⟨(none,0),λd=>absurd d e⟩
 exact⟨λb=>(Classical.choose (g b)).1,λb=>(Classical.choose (g b)).2,λb e=>dH (g b) e⟩
theorem Gw.form{f:Addr}{b y:Value}(h:Gw l c z K m e (.agg #[.slice (some f) o q,b,y]) w):∃a d,f=⟨a,0,none⟩∧l<a∧w.heap[a]?=some (.cells d 3)∧∀b,b∈d->uY b:=by
 obtain⟨go,t,b,i,j⟩:=h
 have k:some f=go:=by
  simp at b;exact b.1.1
 subst k;cases g:c e with
 |true=>have:=(i g).1;cases this
 |false=>
  obtain⟨_,_,a,d,n,p,r,s,_⟩:=j g;cases n;exact⟨a,d,X,p,r,s⟩
theorem vF.low(d:vF l M K a m z c i w)(f:BT M a i b):l<=b:=by
 rcases f with rfl|⟨g,h,j,k,p,q,r,s,y,rfl,rfl⟩
 ·exact d.ge
 ·obtain⟨h,e,n⟩:=d.all g j;rw[k]at e;cases e;obtain⟨t,u,rfl,o,_⟩:=Gw.form n;exact KR o
theorem vF.WY(g:vF l M K a m z c i w){j:Fx}(q:∀b,BT M a i b->p b)(r:∀b,l<=b->¬j.cl b)(s:BT M a i b):∃k,w.heap[b]?=some k∧vH p j k:=by
 rcases s with rfl|⟨t,e,u,v,D,F,G,n,y,rfl,rfl⟩
 ·refine⟨_,g.got,λe h=>?_⟩;unfold lU at h;obtain⟨d,rfl⟩:=Array.mem_ofFn.1 h;have j:=d.2;obtain⟨e,f,go,I,rfl,o,N⟩:=g.all (d.1 / 3) E;obtain⟨k,x,A⟩:=GX f;have s:d.1 % 3=0∨d.1 % 3=1∨d.1 % 3=2:=E;rcases s with j|j|j
  ·have:d.1=d.1 / 3*3:=by omega
   rw[this,k];cases go with
   |none=>simp[bG]
   |some n=>
    have j:BT M b i n.block:=J ⟨_,_,E,f,_,_,_,_,_,X,X⟩;exact nP ⟨q _ j,λk=>absurd k (r _ (g.low j))⟩
  ·have:d.1=d.1 / 3*3+1:=by omega
   rw[this,x];exact ok_int _ _
  ·have:d.1=d.1 / 3*3+2:=by omega
   rw[this,A];exact pZ _
 ·obtain⟨e,f,o⟩:=g.all t u;rw[v]at f;cases f;obtain⟨O,P,rfl,_,B,C⟩:=Gw.form o;exact⟨_,B,λe h=>(C e h).ok _ _⟩
end
end
section
open Go.RowKit Go.Sort
open Go.Conc
open Go.ConcN (sumTo)
def OV(L:List (Nat×Nat×Nat))(a:Nat):Prop:=(dX L a).isSome=true∨False
theorem FK(d:f.ownsRow e y q s o R)(g:∀a,s.ownBlock=some a->k.heap[a]?=f.heap[a]?):k.ownsRow e y q s o R:=by
 obtain⟨b,h|⟨a,i,j,c,l,m,n⟩⟩:=d
 ·exact⟨b,I h⟩
 ·exact⟨b,J ⟨a,i,j,c,l,(g a (by rw[c];rfl)).trans m,n⟩⟩
theorem FI(a:Nat)(b:s.ownBlock=some e):(e,0,a)∈xq s a:=by
 unfold xq;rw[b];simp
theorem Kp.ext(g:Kp e r (λ_=>none) p f)(m:∀a,a<f.heap.size->k.heap[a]?=f.heap[a]?)(j:f.heap.size<=k.heap.size):Kp e (mV r f.heap.size k) (λ_=>none) (iL p f.heap.size k) k:=by
 have l:∀a c,mV r f.heap.size k a=some c->r a=some c∨(f.heap.size<=a∧k.heap[a]?=some c):=λa c b=>by
  unfold mV at b;cases h:r a with
  |some i=>rw[h]at b;exact I b
  |none=>
   rw[h]at b;have b:(if f.heap.size<=a then k.heap[a]? else none)=some c:=b;by_cases d:f.heap.size<=a
   ·rw[ai d]at b;exact J ⟨d,b⟩
   ·rw[af d]at b;cases b
 refine⟨λa c b=>?_,λa c b=>?_,aK g.size j,λa c b=>by simp at b,λa c b=>by simp at b,λa h=>h.elim (λi=>aj (g.lt a i) j) λi=>i.2⟩
 ·rcases l a c b with d|d
  ·exact(m a (g.He d)).trans (g.mem a c d)
  ·exact d.2
 ·rcases l a c b with d|d
  ·exact I (g.own a c d)
  ·exact J ⟨d.1,aC d.2⟩
theorem Mi{f y:Int}(r:RN g (some ⟨e,0,none⟩) o g.q q n j x v u.length P F A f y t C)(d:∀s,t (.int .i64 s))(w:t (.bool false))(a:t undef)(i:t (.slice (some ⟨e,0,none⟩) o g.q))(k:t (.slice n j x))(l:t (.slice v u.length P))(m:t (.slice (some ⟨A,0,none⟩) j j))(p:t (.tuple #[.slice (some ⟨A,0,none⟩) j j,.int .i64 f,.int .i64 y,.int .i64 0])):∀h,h∈C.tmps->t h:=by
 obtain⟨b,rfl,c⟩:=r
 have r:O5 t [.int .i64 (g.q:Nat),.slice (some ⟨e,0,none⟩) o g.q,.int .i64 (q:Nat),.slice n j x,.slice v u.length P,.int .i64 (F:Nat),U,U,U,U,U,U,.bool false,.int .i64 0,.slice (some ⟨A,0,none⟩) j j,.int .i64 f,.int .i64 y,.int .i64 0,U,U,U,U,U,U,U,U,b 0,b 1,b 2,b 3,b 4,b 5,b 6,b 7,b 8,b 9,b 10,b 11,b 12,b 13,b 14,b 15,b 16,b 17,b 18,b 19,b 20,b 21,b 22,b 23,b 24,b 25,b 26,b 27,b 28,b 29,b 30,b 31,b 32,b 33,b 34,b 35,.tuple #[.slice (some ⟨A,0,none⟩) j j,.int .i64 f,.int .i64 y,.int .i64 0],.int .i64 (g.q:Nat),.slice (some ⟨e,0,none⟩) o g.q,.int .i64 (q:Nat),.slice n j x,.slice v u.length P,.int .i64 (F:Nat),.tuple #[.slice (some ⟨A,0,none⟩) j j,.int .i64 f,.int .i64 y,.int .i64 0],.slice (some ⟨A,0,none⟩) j j,.int .i64 f,.int .i64 y,.int .i64 0,U,U,U,U,U,U,U,U,U,U,U,U,U,U,U,U,U,U,U,U,U,U,U,U,U,U,U,U,U,U,U,U,U,U,U,U,U,U,U,U,U,U,U,U,U,U,U,U,U,U,U,U,U,U,U,U,U,U,U,U,U,U,U,U,U,U,U,U,U,U,U,U,U,U,U,U,U,U,U,U,U,U,U,U,U,U,U,U,U,U,U,U,U,U,U,U]:=by
  simp only[O5,jy];exact⟨(d _),i,(d _),k,l,(d _),a,a,a,a,a,a,(w),(d _),m,(d _),(d _),(d _),a,a,a,a,a,a,a,a,(c _),(c _),(c _),(c _),(c _),(c _),(c _),(c _),(c _),(c _),(c _),(c _),(c _),(c _),(c _),(c _),(c _),(c _),(c _),(c _),(c _),(c _),(c _),(c _),(c _),(c _),(c _),(c _),(c _),(c _),(c _),(c _),(c _),(c _),(c _),(c _),p,(d _),i,(d _),k,l,(d _),p,m,(d _),(d _),(d _),a,a,a,a,a,a,a,a,a,a,a,a,a,a,a,a,a,a,a,a,a,a,a,a,a,a,a,a,a,a,a,a,a,a,a,a,a,a,a,a,a,a,a,a,a,a,a,a,a,a,a,a,a,a,a,a,a,a,a,a,a,a,a,a,a,a,a,a,a,a,a,a,a,a,a,a,a,a,a,a,a,a,a,a,a,a,a,a,a,a,a,a,a,a,a,a⟩
 exact λh a=>B3 r h (by simpa using a)
theorem RN.mono{a y:Int}(c:∀b,t b->ad b)(d:RN g n e o q v j F T x P A Y a y t C):RN g n e o q v j F T x P A Y a y ad C:=by
 obtain⟨f,rfl,h⟩:=d;exact⟨f,X,λa=>c _ (h a)⟩
theorem RN.defers{a y:Int}(b:RN g n e o q v j F T x P A Y a y t C):C.defers=[]:=by
 obtain⟨c,rfl,_⟩:=b;rfl
section
variable {B z a:Nat}{D:FD}{N K M H:Nat}{c:Nat->Nat}{b:Nat->Value}{Z:Nat->Nat->Int}{l:List (Nat×Nat×Int)}{m i:Value}{W Q:World}{h:Nat->Option Obj}{O:Nat->Prop}{cs:List Frame}{w:(Nat->Prop)->Goroutine->World->Prop}{L:List (Nat×Nat×Nat)}
theorem Af.win(d:Af B z a D N K M c b Z l m i W)(g:∀e f h,(e,f,h)∈rD a N K M m i b l.length->Q.heap[e]?=W.heap[e]?):Af B z a D N K M c b Z l m i Q:=by
 refine⟨d.xs.other (g a 0 N (by simp[rD])),d.gx,⟨FK d.m.own λe f=>g e 0 (M*1) ?_,λj h=>FK (d.m.row j h) λe f=>g e 0 (K*1) ?_,d.m.KT⟩,FK d.nz λe f=>g e 0 (l.length*3) ?_,d.low,d.bd⟩
 ·exact eU _ (fR _ (FI _ f))
 ·simp only[rD,az,j4,oJ,bj];exact J (J (J ⟨j,h,FI _ f⟩))
 ·exact eU _ (yR _ (fR _ (FI _ f)))
theorem Mm(R:D∈ak)(av:1<=N)(ax:N<=10)(S:N<=D.q)(V:1<=K)(Y:K<=N)(hM:M<=7)(a0:l.length<=200)(ab:1<=H)(a7:H<=8)(hP:mn D.q c)(A:Af B z a D N K M c b Z l m i W)(hL:L=rD a N K M m i b l.length)(hO:∀e,(dX L e).isSome=true->O e)(a1:∀s k o p q r,m=.slice o M p->i=.slice q l.length r->Uk D (some ⟨a,0,none⟩) N D.q (K:Nat) o M p q l.length r (H:Nat) 0 s->(∀t,t∈s.tmps->bG (gG (OV L) W.heap.size k.heap.size) (pk L) t)->(∀e,W.heap.size<=e->e<k.heap.size->∃v,k.heap[e]?=some v∧vH (gG (OV L) W.heap.size k.heap.size) (pk L) v)->(∀e,e<W.heap.size->k.heap[e]?=W.heap[e]?)->W.heap.size<=k.heap.size->Wk prog w (iL O W.heap.size k) (G ((base 3).at s [.code (oR f3 5)]) cs) k):Wk prog w O (G (Frame.enter prog 3 #[.int .i64 (D.q:Nat),.slice (some ⟨a,0,none⟩) N D.q,.int .i64 (K:Nat),m,i,.int .i64 (H:Nat)] .normal) cs) W:=by
 obtain⟨⟨a2,a3,a4⟩,ab,hX,o,p,q,r,a5,a6,a7,u,a8⟩:=Hb (dE R).uP S V Y A hL (Q:=λ_=>False) (λe f=>f.elim);have a9:(dA j8 (dX L) W).heap.size=W.heap.size:=jP;have h0:=P9 av ax S V Y E a0 hP A;obtain⟨vx,vm,vl⟩:=ab (gG (λe=>(dX L e).isSome=true∨False) W.heap.size (dA j8 (dX L) W).heap.size) (λe f=>I (I f))
 have S:qW (λ_=>K) M M<=6000:=by
  have S:=LW (K:=K) (m:=M) M;have S:M*K<=7*10:=cT E E;omega
 clear ab a7 A;subst a5 a6;clear hL;have A:Frame.enter prog 3 #[.int .i64 (D.q:Nat),.slice (some ⟨a,0,none⟩) N D.q,.int .i64 (K:Nat),.slice o M p,.slice q l.length r,.int .i64 (H:Nat)] .normal=(base 3).at ⟨#[.int .i64 (D.q:Nat),.slice (some ⟨a,0,none⟩) N D.q,.int .i64 (K:Nat),.slice o M p,.slice q l.length r,.int .i64 (H:Nat),U,U,U,U,U,U,U,U,U,U,U,U,U,U,U,U,U,U,U,U,U,U,U,U,U,U,U,U,U,U,U,U,U,U,U,U,U,U,U,U,U,U,U,U,U,U,U,U,U,U,U,U,U,U,U,U,U,U,U,U,U,U,U,U,U,U,U,U,U,U,U,U,U,U,U,U,U,U,U,U,U,U,U,U,U,U,U,U,U,U,U,U,U,U,U,U,U,U,U,U,U,U,U,U,U,U,U,U,U,U,U,U,U,U,U,U,U,U,U,U,U,U,U,U,U,U,U,U,U,U,U,U,U,U,U,U,U,U,U,U,U,U,U,U,U,U,U,U,U,U,U,U,U,U,U,U,U,U,U,U,U,U,U,U],[]⟩ [.code (oR f3 0)]:=(Yo _ func3 X).trans wq;rw[A]
 refine OQ (n:=5) (Q:=OV L) (F:=pk L) (V:=dA j8 (dX L) W) (W0:=W) (R:=λs _=>Uk D (some ⟨a,0,none⟩) N D.q (K:Nat) o M p q l.length r (H:Nat) 0 s)
  (Fu _ _ _) (λe f=>hO e (f.elim id False.elim)) a2 ⟨⟨Mj,λt g=>?_,λn F=>by simp[Frame.at]at F,X,X,X,I X⟩,λc A=>by simp at A,a3,by rw[a9];exact aa _,a4⟩ (uT.liftM S9) (λT d=>?_) (λs S T d P=>P) (λa' V1 k P Q x=>?_)
 ·have g:t∈(⟨#[.int .i64 (D.q:Nat),.slice (some ⟨a,0,none⟩) N D.q,.int .i64 (K:Nat),.slice o M p,.slice q l.length r,.int .i64 (H:Nat),U,U,U,U,U,U,U,U,U,U,U,U,U,U,U,U,U,U,U,U,U,U,U,U,U,U,U,U,U,U,U,U,U,U,U,U,U,U,U,U,U,U,U,U,U,U,U,U,U,U,U,U,U,U,U,U,U,U,U,U,U,U,U,U,U,U,U,U,U,U,U,U,U,U,U,U,U,U,U,U,U,U,U,U,U,U,U,U,U,U,U,U,U,U,U,U,U,U,U,U,U,U,U,U,U,U,U,U,U,U,U,U,U,U,U,U,U,U,U,U,U,U,U,U,U,U,U,U,U,U,U,U,U,U,U,U,U,U,U,U,U,U,U,U,U,U,U,U,U,U,U,U,U,U,U,U,U,U,U,U,U,U,U,U],[]⟩:Act).tmps:=g;simp only[aF,az,aD,bP]at g;rcases g with rfl|rfl|rfl|rfl|rfl|rfl|g
  ·exact ok_int _ _
  ·exact vx
  ·exact ok_int _ _
  ·exact vm
  ·exact vl
  ·exact ok_int _ _
  ·simp only[or_self]at g;subst g;exact xT
 ·refine sM (λs V h=>h.1) 5 _ _ _ (Tb (w:=dZ (dA j8 (dX L) W) T d) R (K:Nat) (H:Nat) (z:=λj=>((c j:Nat):Int)) (A:=λn=>FA (b n)) (Ns:=λ_=>K) (C:=λn=>Mw (b n)) (Z:=Z) (na:=λA=>((Hh l A:Nat):Int)) (np:=λA=>((Hm l A:Nat):Int)) (nv:=A1 l) (hX.dZ T d) ⟨u.cell,u.sl,u.le,u.cap,u.nil,u.qL⟩ E (λA S=>a8 A S) E E ?_ h0 E E);refine(Ja (w:=dZ (dA j8 (dX L) W) T d) (A:=λn=>FA (b n)) (N:=λ_=>K) (C:=λn=>Mw (b n)) (λn F=>u.cell n F) E (λ_ _=>E)).mono ?_;rintro ad ao ⟨rfl,rfl⟩;exact⟨by rw[aq E],XK _ _⟩
 ·have n:=x.size;rw[Qc];refine a1 a' k o p q r X X P (λt g=>?_) (λe f s=>?_) (λe f=>?_) x.le
  ·have:=Q.fr.tmps t g;rw[n]at this;exact this
  ·have k:gG (OV L) W.heap.size V1.heap.size e:=J ⟨f,by rw[n];exact s⟩;obtain⟨v,o,C⟩:=Q.blk e k (by rw[n];exact s);obtain⟨o',k,ar⟩:=x.Em.blk e v (J f) o;have ba:=Q.cf.nw e f;refine⟨o',k,?_⟩;rw[n]at C;cases v with
   |cells c0 t0 z0=>
    obtain⟨c',t',z',rfl,bb,_,_⟩:=ar;obtain rfl:=bb.1 ba;intro t g;obtain⟨ao,hu,rfl⟩:=Er.1 g;have:=C ao hu;rw[kK this];exact this
   |number bc y=>
    have ad:o'=.number (kp id bc) y:=ar;subst ad;exact C
   |_=>exact C.elim
  ·by_cases g:OV L e
   ·exact(x.Up e (g.elim id False.elim)).2.2.2
   ·exact x.old e f g
theorem Ta{lo s:Nat}{m:Nat->Nat}{c' y' am:Nat->Nat->Nat}{er:Nat->Nat}{ls:Nat->Bool}{tk:Nat->Option Value}(hD:D∈ak)(a2:1<=N)(bp:N<=10)(hN:N<=D.q)(a0:1<=K)(hK:K<=N)(hM:M<=7)(a3:l.length<=200)(hP:mn D.q c)(F:Af B z a D N K M c b Z l (.slice n M e) (.slice v l.length o) W)(hL:L=rD a N K M (.slice n M e) (.slice v l.length o) b l.length)(a4:∀g,W.heap.size<=g->g<f.heap.size->∃Y,f.heap[g]?=some Y∧vH (gG (OV L) W.heap.size f.heap.size) (pk L) Y)(hE:RN D (some ⟨a,0,none⟩) N D.q K n M e v l.length o H s (sumTo M er:Nat) (sumTo M (λi=>if ls i then 1 else 0):Nat) (bG (gG (OV L) W.heap.size f.heap.size) (pk L)) C)(a5:∀g,(dX L g).isSome=true->k.heap[g]?=W.heap[g]?)(a6:∀g,W.heap.size<=g->g<f.heap.size->k.heap[g]?=f.heap[g]?)(bs:W.heap.size<=lo)(bw:W.heap.size<=k.heap.size)(P:vF lo M K s am er ls tk k)(hW:IC D N K M c (kt D (λi j=>((D.ev (zc K (Z i)) (c j) K:Nat):Int)) (Hh l) (Hm l) (A1 l) l.length) m c' y' am er ls)(hO:∀g,((dX L g).isSome=true∨(W.heap.size<=g∧g<f.heap.size)∨BT M s tk g)->O g)(a7:∀U Q ad,U.tmps[12]?=some (.bool true)->U.defers=[]->(∀g,g<W.heap.size->Q.heap[g]?=k.heap[g]?)->k.heap.size<=Q.heap.size->Wk prog w (iL O k.heap.size Q) (G { (base 3).at U ad with mode:=.returning } cs) Q):Wk prog w O (G ((base 3).at C [.code (oR f3 6)]) cs) k:=by
 have a1:∀g,(dX L g).isSome=true->g<W.heap.size:=λg p=>by
  obtain⟨lo,q,hm⟩:=iZ.1 p;rw[hL]at hm;obtain⟨_,bx,R,x,_⟩:=qX F hN hm;exact aC x
 have ao:∀g,W.heap.size<=g->dX L g=none:=λg p=>by
  cases x:dX L g with
  |none=>rfl
  |some bz=>have:=a1 g (by rw[x];rfl);omega
 have a8:Af B z a D N K M c b Z l (.slice n M e) (.slice v l.length o) k:=F.win λg lo q hm=>a5 g (iZ.2 ⟨lo,q,by rw[hL];exact hm⟩)
 obtain⟨r,S⟩:∃r:Nat->Prop,r=λg=>(W.heap.size<=g∧g<f.heap.size)∨BT M s tk g:=⟨_,X⟩
 have up:∀g,gG (OV L) W.heap.size f.heap.size g->(dX L g).isSome=true∨r g:=λg p=>by
  rcases p with(p|p)|p
  ·exact I p
  ·exact p.elim
  ·exact J (by rw[S];exact I p)
 have JQ:∀g,lo<=g->¬(pk L).cl g:=λg p ar=>by
  have:=a1 g ar;omega
 obtain⟨⟨a9,ba,bb⟩,bc,hX,bA,bB,bE,bM,e1,e2,bd,_,bg⟩:=Hb (dE hD).uP hN a0 hK a8 hL (Q:=r) (λg p=>by
  rw[S]at p;rcases p with⟨c1,c2⟩|c
  ·obtain⟨Y,ho,hk⟩:=a4 g c1 c2;exact⟨ao g c1,Y,(a6 g c1 c2).trans ho,hk.mono up⟩
  ·have:=P.low c;exact⟨ao g E,P.WY (λu V=>J (by rw[S];exact J V)) JQ c⟩)
 cases e1
 cases e2
 have bk:(dA j8 (dX L) k).heap.size=k.heap.size:=jP;have av:∀g,((dX L g).isSome=true∨r g)->gG (λg=>(dX L g).isSome=true∨r g) k.heap.size (dA j8 (dX L) k).heap.size g:=λg p=>I p
 obtain⟨qx,qm,qn⟩:=bc (gG (λg=>(dX L g).isSome=true∨r g) k.heap.size (dA j8 (dX L) k).heap.size) (λg p=>av g (I p));have qb:bG (gG (λg=>(dX L g).isSome=true∨r g) k.heap.size (dA j8 (dX L) k).heap.size) (pk L) (.slice (some ⟨s,0,none⟩) M M):=nP ⟨av _ (J (by rw[S];exact J (I X))),λar=>absurd ar (JQ _ P.ge)⟩
 have qt:bG (gG (λg=>(dX L g).isSome=true∨r g) k.heap.size (dA j8 (dX L) k).heap.size) (pk L) (.tuple #[.slice (some ⟨s,0,none⟩) M M,.int .i64 (sumTo M er:Nat),.int .i64 (sumTo M (λi=>if ls i then 1 else 0):Nat),.int .i64 0]):=by
  rw[bG];intro ab hv;simp only[aF,az,aD,bP]at hv;rcases hv with rfl|rfl|rfl|rfl
  ·exact qb
  ·exact ok_int _ _
  ·exact ok_int _ _
  ·exact ok_int _ _
 have bl:∀ab,ab∈C.tmps->bG (gG (λg=>(dX L g).isSome=true∨r g) k.heap.size (dA j8 (dX L) k).heap.size) (pk L) ab:=Mi (hE.mono λab hv=>hv.mono λg p=>av g (up g p)) (λbN=>ok_int _ _) (pZ _) xT qx qm qn qb qt;have bm:∀u cs R,W.heap.size<=u->k.heap[u]?=some (.cells cs R)->(dA j8 (dX L) k).heap[u]?=some (.cells cs R):=λu cs R V x=>(qR (ao u V)).trans x
 obtain⟨go,gc,bn⟩:=(P.cells (w':=dA j8 (dX L) k) λu cs R V x=>bm u cs R (by have:=P.low V;omega) x).WT
 have bo:∀i,i<M->El D (zc K (Z i)):=λi q j=>by
  unfold zc;split
  ·rename_i hj;have:=F.m.KT i q j hj;omega
  ·have:=(dE hD).q2;omega
 refine PN (Q:=λg=>(dX L g).isSome=true∨r g) (F:=pk L) (V:=dA j8 (dX L) k) (W0:=k) (R:=λax _=>ax.defers=[]∧ax.tmps[12]?=some (.bool true)) (Fu _ _ _) (λg p=>hO g ?_) a9 ⟨⟨Mj,bl,λi q=>?_,hE.defers,X,X,I X⟩,λc hc=>by simp at hc,ba,by rw[bk];exact aa _,bb⟩ (λT d=>?_) (λax bO T d hR=>hR) (λU V1 Q ad hR hV=>?_)
 ·rcases p with p|p
  ·exact I p
  ·rw[S]at p;exact J p
 ·have q:i=.code (oR f3 6):=by simpa [Frame.at]using q
  subst q;exact uT.liftM Qa
 ·obtain⟨h,rfl,_⟩:=hE;exact Qb (w:=dZ (dA j8 (dX L) k) T d) hD (xo:=some ⟨a,0,none⟩) (mo:=n) (no:=v) (n:=N) (cx:=D.q) (k:=K) (N:=M) (mc:=e) (L:=l.length) (nc:=o) (bg:=s) (c:=c) (ao:=λi=>FA (b i)) (ca:=λi=>Mw (b i)) (av:=λi=>zc K (Z i)) (na:=Hh l) (np:=Hm l) (nv:=A1 l) (go:=go) (gc:=gc) (m:=m) (c':=c') (y':=y') (am:=am) (er:=er) (ls:=ls) (.int .i64 (H:Nat)) (h 0) (h 1) (h 2) (h 3) (h 4) (h 5) (h 6) (h 7) (h 8) (h 9) (h 10) (h 11) (h 12) (h 13) (h 14) (h 15) (h 16) (h 17) (h 18) (h 19) (h 20) (h 21) (h 22) (h 23) (h 24) (h 25) (h 26) (h 27) (h 28) (h 29) (h 30) (h 31) (h 32) (h 33) (h 34) (h 35) (.tuple #[.slice (some ⟨s,0,none⟩) M M,.int .i64 (Go.ConcN.sumTo M er:Nat),.int .i64 (Go.ConcN.sumTo M (λi=>if ls i then 1 else 0):Nat),.int .i64 0]) (.int .i64 (D.q:Nat)) (.slice (some ⟨a,0,none⟩) N D.q) (.int .i64 (K:Nat)) (.slice n M e) (.slice v l.length o) (.int .i64 (H:Nat)) (.tuple #[.slice (some ⟨s,0,none⟩) M M,.int .i64 (Go.ConcN.sumTo M er:Nat),.int .i64 (Go.ConcN.sumTo M (λi=>if ls i then 1 else 0):Nat),.int .i64 0]) (.slice (some ⟨s,0,none⟩) M M) (.int .i64 (Go.ConcN.sumTo M er:Nat)) (.int .i64 (Go.ConcN.sumTo M (λi=>if ls i then 1 else 0):Nat)) (.int .i64 0) a2 E a0 hK (λi q=>hP.1 i E) (hX.dZ T d) (λi q=>bd i q) bo E (λy A=>bg y A) a3 (λy A=>(F.at y A).1) (λy A=>(F.at y A).2.1) (λy A=>(F.at y A).2.2) hW (λi q=>bn i q)
 ·refine a7 U Q ad hR.2 hR.1 (λg p=>?_) hV.le;by_cases t:(dX L g).isSome=true∨r g
  ·rcases t with t|t
   ·exact(hV.Up g t).2.2.2
   ·exfalso;rw[S]at t;rcases t with t|t
    ·omega
    ·have:=P.low t;omega
  ·exact hV.old g E t
theorem Je{a3:Value->World->Prop}(A:D∈ak)(ab:1<=N)(av:N<=10)(hN:N<=D.q)(ad:1<=K)(hK:K<=N)(hM:M<=7)(ax:l.length<=200)(a6:1<=H)(a7:H<=8)(hP:mn D.q c)(hT:Af B z a D N K M c b Z l m i W)(C:Kp W.heap.size h (λ_=>none) O W)(hh:∀e F q,(e,F,q)∈rD a N K M m i b l.length->∃f,h e=some f)(bb:∀Wg r O1 u P,u.tmps[12]?=some (.bool true)->u.defers=[]->Kp W.heap.size h (λ_=>none) O1 r->(r.tape=W.tape∧r.os=W.os∧r.output=W.output)->jd prog a3 (λe=>p e∨e=Wg) O1 (λ_ _=>True) (G { (base 3).at u P with mode:=.returning } cs) r):jd prog a3 p O (λ_ _=>True) (G (Frame.enter prog 3 #[.int .i64 (D.q:Nat),.slice (some ⟨a,0,none⟩) N D.q,.int .i64 (K:Nat),m,i,.int .i64 (H:Nat)] .normal) cs) W:=by
 have⟨L,hL⟩:=eaa (rD a N K M m i b l.length)
 have a0:∀e,(dX L e).isSome=true->∃f,h e=some f:=λe k=>by
  obtain⟨F,q,Q⟩:=iZ.1 k;exact hh e F q (by rw[<-hL];exact Q)
 have bc:∀n,n<N->c n<D.q:=λn q=>hP.1 n E
 have bd:∀n j,n<N->j<N->n≠j->c n≠c j:=λn j q hj g=>by
  rcases aR n j with x|x
  ·exact hP.2 n j x E
  ·exact λe2=>hP.2 j n E E e2.symm
 have a3:=(dE A).uP
 refine iP (S1:=λ_ s _=>s.tape=W.tape∧s.os=W.os∧s.output=W.output) (Stop:=λO' g' s=>∃(o:World) (R:Option Addr) (S:Nat) (T:Option Addr) (U:Nat) (fc:Frame),m=.slice R M S∧i=.slice T l.length U∧(∀e,W.heap.size<=e->e<o.heap.size->∃f,o.heap[e]?=some f∧vH (gG (OV L) W.heap.size o.heap.size) (pk L) f)∧W.heap.size<=o.heap.size∧Kp W.heap.size (mV h W.heap.size o) (λ_=>none) O' s∧Wm D (some ⟨a,0,none⟩) N D.q K R M S T l.length U H (bG (gG (OV L) W.heap.size o.heap.size) (pk L)) cs fc∧g'=(G (Frame.enter prog 9 #[.int .i64 (D.q:Nat),.slice (some ⟨a,0,none⟩) N D.q,.int .i64 (K:Nat),m,i,.int .i64 (H:Nat)] .normal) (fc::cs)))
  (Mm A ab av hN ad hK hM ax a6 a7 hP hT hL (λe k=>by
   obtain⟨f,g⟩:=a0 e k;exact C.own e f g) λu o R S T U e1 e2 hA hv k ho hs=>?_) (λO' s ao t' _ V=>⟨V.tape,V.os,V.out⟩) (λO' g' s a8=>?_)
 ·subst e1 e2;exact Tc (C.ext ho hs) hA hv λfc s y hC=>Wk.stop λd=>⟨o,R,S,T,U,fc,X,X,k,hs,y.at d,hC,X⟩
 intro gs sl ao qq h0 bk bl a1 a9 a2;obtain⟨o,R,S,T,U,fc,rfl,rfl,bm,bS,y,hC,rfl⟩:=a8 s.drawn;replace y:Kp W.heap.size (mV h W.heap.size o) (λ_=>none) O' s:=y;clear a8;have Y:∀e f,h e=some f->mV h W.heap.size o e=some f:=λe f g=>pf g
 have a8:∀wx:World,(∀e f,mV h W.heap.size o e=some f->wx.heap[e]?=some f)->Af B z a D N K M c b Z l (.slice R M S) (.slice T l.length U) wx:=λwx hx=>hT.win λe F q Q=>by
  obtain⟨f,g⟩:=hh e F q Q;rw[hx e f (Y e f g),C.mem e f g]
 have bn:∃f,h a=some f:=hh a 0 N (by simp[rD])
 refine TH (ms:=.slice R M S) (ns:=.slice T l.length U) (n:=N) (cx:=D.q) (k:=K) (N:=M) (hs:=H) (bx:=a) (ox:=0) (c:=c) (y:=kt D (λn j=>((D.ev (zc K (Z n)) (c j) K:Nat):Int)) (Hh l) (Hm l) (A1 l) l.length) (h:=mV h W.heap.size o) (Sh0:=p) (fc:=fc) (cs:=cs) A ab E ad hK bc bd (λn j q hj=>xn A (λn j _ _=>J ⟨E,by have:=iQ (dE A) (zc K (Z n)) (c j) K;omega⟩) (λa3 hr=>(hT.at a3 hr).2.1) (λa3 hr=>(hT.at a3 hr).2.2) l.length (aa _) n j q hj) E a6 a7 y.here
  (λwx hx=>?_) ?_ (λwx hx=>TM A ab av hN ad hK E ax hP (a8 wx hx) (λe F q Q=>by
   obtain⟨f,g⟩:=hh e F q Q;exact⟨f,Y e f g⟩)) (λe k=>(a1 e k).2) a9 (λWg bg bo c' y' am er ls tk r t=>?_) gs sl ao qq h0 bk bl a1 a9 trivial
 ·have hr:=(a8 wx hx).xs;exact⟨λj hj=>⟨a,0,X,by rw[aW];exact hr.cell j E⟩,λbY g=>(by cases g;exact hr.lt),E,λg=>(by cases g),hN,E⟩
 ·obtain⟨f,g⟩:=bn;obtain⟨bp,F,hx⟩:=hT.xs.plain;have:=C.mem a f g;rw[F]at this;cases this;exact⟨bp,_,Y _ _ g,hx⟩
 have F:=t.Xc;obtain⟨R,e2,bs⟩:=AO (λe=>¬(p e∨e=Wg)) r
 have ar:∀e f,mV h W.heap.size o e=some f->e<r.heap.size∧¬(p e∨e=Wg):=λe f g=>by
  have x:=y.He g;have v:=y.own e f g;have h3:=t.size;exact⟨E,λF=>F.elim (λF=>(a1 e v).2 F) λF=>E⟩
 have bw:∀e f,mV h W.heap.size o e=some f->R e=some f:=λe f g=>(e2 e (ar e f g).2).trans (t.old e f g)
 have hQ:∀e,BT M bg tk e->e<r.heap.size∧¬(p e∨e=Wg):=λe k=>by
  rcases k with rfl|⟨n,ba,q,g,Q⟩
  ·exact t.VS
  ·obtain⟨F,e',_,h3⟩:=t.all n q;rw[g]at e';cases e';exact h3 e Q
 refine iP (S1:=λ_ w _=>w.tape=r.tape∧w.os=r.os∧w.output=r.output) (Stop:=λO2 Q w=>∃u P,u.tmps[12]?=some (.bool true)∧u.defers=[]∧Kp W.heap.size h (λ_=>none) O2 w∧Q=G { (base 3).at u P with mode:=.returning } cs)
  (hC bg _ _ _ _ _ _ _ bs λw R F S=>?_) (λO' s ao t' _ V=>⟨V.tape,V.os,V.out⟩) (λO2 Q w bx=>?_)
 ·have Q:∀e f,mV h W.heap.size o e=some f->w.heap[e]?=some f:=λe f g=>F.mem e f (bw e f g)
  have T:=y.size;have y:=F.size;have y:=t.size;have y:∀e,W.heap.size<=e->e<o.heap.size->mV h W.heap.size o e=some o.heap[e]! :=λe x v=>wu (λe f g=>C.He g) x (by rw[au v,getElem!_pos o.heap e v])
  refine Ta (lo:=s.heap.size) (m:=bo) (c':=c') (y':=y') (am:=am) (er:=er) (ls:=ls) (tk:=tk) A ab av hN ad hK hM ax hP hT hL bm S (λe k=>?_) (λe x v=>?_) T E (vF.cells (w:=r) ⟨t.got,t.WQ,λn q=>?_⟩ λe cs ao k g=>?_) t.out (λe k=>?_) (λU R P a4 hd V a1=>?_)
  ·obtain⟨f,g⟩:=a0 e k;rw[Q e f (Y e f g),C.mem e f g]
  ·rw[Q e _ (y e x v),au v,getElem!_pos o.heap e v]
  ·obtain⟨ba,g,o,_⟩:=t.all n q;exact⟨ba,g,o⟩
  ·exact F.mem e _ ((e2 e (hQ e k).2).trans g)
  ·rcases k with k|⟨x,v⟩|k
   ·obtain⟨f,g⟩:=a0 e k;exact ar e f (Y e f g)
   ·exact ar e _ (y e x v)
   ·exact hQ e k
  ·refine Wk.stop λd=>⟨U,P,a4,hd,⟨λe f g=>?_,λe f g=>I (ar e f (Y e f g)),?_,λe f g=>by simp at g,λe f g=>by simp at g,λe k=>?_⟩,X⟩
   ·exact(V e (C.He g)).trans (Q e f (Y e f g))
   ·show W.heap.size<=R.heap.size;omega
   ·show e<R.heap.size;rcases k with k|k
    ·have:=k.1;omega
    ·exact k.2
 ·intro bz bA t2 q2 bB bE bM bN bO a5;obtain⟨u,P,a4,hd,bQ,rfl⟩:=bx w.drawn;have e:=t.fix;exact bb Wg w O2 u P a4 hd bQ ⟨a5.1.trans (e.1.trans a2.1),a5.2.1.trans (e.2.1.trans a2.2.1),a5.2.2.trans (e.2.2.trans a2.2.2)⟩ bz bA t2 q2 bB bE bM bN bO trivial
