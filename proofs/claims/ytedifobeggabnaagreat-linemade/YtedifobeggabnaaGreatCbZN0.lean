/- Texts of ours, one behind the other: ZN0 ZN1 ZN2. -/
import Derived.Test.YtedifobeggabnaaGreatCbZI0
namespace Go.Proofs.YtedifobeggabnaaGreat
set_option maxHeartbeats 16000000
set_option maxRecDepth 100000
open Tryz
variable {a:FD}{f s m o:Nat->Nat}{c d g q:Nat->Int}{e p k z u C l:Nat}{t v x:Option Addr}{b B:World}{j:Nat->Nat->Int}{A:Nat->Option Addr}
section
open Go.RowKit Go.Sort
theorem Hn{zz1 Y':Nat->Nat->Int}(b:zz1 e=Y' e):∀r,kt a zz1 f s c r e=kt a Y' f s c r e
 |0=>b
 |r+1=>by
  show(if e=f r then dst a (kt a zz1 f s c r e) (s r) (c r)else kt a zz1 f s c r e)=(if e=f r then dst a (kt a Y' f s c r e) (s r) (c r)else kt a Y' f s c r e);rw[Hn b r]
def qP(b c d:Nat)(y:Nat->Int)(e:World):Prop:=∃a,bD b c 3 a e∧∀j,j<d->a j=.int .i64 (y j)
section
variable {G M n:Nat}{y y':Nat->Int}{w i:World}
theorem qP.cell(a:qP G M n y w)(c:n<=M)(j:Nat)(b:j<n):w.cell? ⟨G,j,none⟩=some (.int .i64 (y j)):=by
 obtain⟨e,c,d⟩:=a;have:=c.cell j E
 rwa [d j b]at this
theorem qP.free(a:qP G M n y w)(j:Nat):w.frozen? ⟨G,j,none⟩=false:=by
 obtain⟨c,b,_⟩:=a;exact b.free j
theorem qP.lt(a:qP G M n y w):G<w.heap.size:=by
 obtain⟨c,b,_⟩:=a;exact b.lt
theorem qP.below(b:qP G M n y w)(c:Below w.heap.size w i):qP G M n y i:=by
 obtain⟨d,a,e⟩:=b;exact⟨d,a.other (c.block G a.lt),e⟩
theorem qP.store(c:qP G M n y w)(a:Nat)(b:Int)(d:∀j,j<n->y' j=if j=a then b else y j):qP G M n y' (w.setCell ⟨G,a,none⟩ (.int .i64 b)):=by
 obtain⟨f,b,e⟩:=c;refine⟨_,b.store a _,λj c=>?_⟩;unfold upd;rw[d j c];by_cases b:j=a
 ·rw[ai b,ai b]
 ·rw[af b,af b];exact e j c
theorem qP.congr(a:qP G M n y w)(b:∀j,j<n->y' j=y j):qP G M n y' w:=by
 obtain⟨c,d,e⟩:=a;exact⟨c,d,λj a=>by rw[e j a,b j a]⟩
end
theorem Lg(W:a∈ak)(gen O P:Nat)(a8:1<=e)(hn:e<=64)(hk:k<=128)(hX:Sl t e f b)(hA:Sl v k s b)(ar:fp t b.heap.size)(av:fp v b.heap.size)(hx:∀l,l<e->f l<a.q)(ha:El a s)(hM:eH a (.slice (some ⟨O,0,none⟩) (a.m+1) P) a.md b)(hZ:Eg x u m o c b)(hL:u<=900)(a2:∀g,g<u->m g<=900)(ax:∀g,g<u->o g<e)(a0:∀g,g<u->c g= -1∨(0<=c g∧c g<(a.q:Int))):Calls prog 12 #[.agg #[.int .i64 a.q,.int .i64 a.p,.int .i64 a.m,.int .i64 gen,.slice (some ⟨O,0,none⟩) (a.m+1) P],.slice t e p,.slice v k z,.int .i64 (l:Nat),.slice x u C] b λr K=>∃i q,r=.returned (.slice (some ⟨i,0,none⟩) e q)∧b.heap.size<=i∧e<=q∧q<=9223372036854775807∧qP i q e (kt a (λ_ j=>((a.ev s (f j) k:Nat):Int)) m o c u l) K∧Below b.heap.size b K:=by
 have⟨n,T⟩:=eaa (b.alloc (.cells #[.int .i64 a.q,.int .i64 a.p,.int .i64 a.m,.int .i64 gen,.slice (some ⟨O,0,none⟩) (a.m+1) P] 32));have Q:Below b.heap.size b n:=by rw[T];exact(XK _ _).alloc (aa _) _
 have U:Hid (gN b.heap.size a gen (.slice (some ⟨O,0,none⟩) (a.m+1) P) n∧n.heap.size=b.heap.size+1):=⟨by rw[T];exact eL a gen _ b,by rw[T];simp⟩
 have HV:Hid (Calls prog 40 #[.agg #[.int .i64 a.q,.int .i64 a.p,.int .i64 a.m,.int .i64 gen,.slice (some ⟨O,0,none⟩) (a.m+1) P],.slice t e p,.slice v k z] n λr K=>∃i q,r=.returned (.slice (some ⟨i,0,none⟩) e q)∧n.heap.size<=i∧e<=q∧q<=9223372036854775807∧qP i q e (λj=>((a.ev s (f j) k:Nat):Int)) K∧Below n.heap.size n K):=by
  refine(Kf (ca:=z) (cx:=p) W gen O P hn hk (hX.below Q ar) (hA.below Q av) (ar.mono Q.size) (av.mono Q.size) hx ha (hM.below Q)).mono ?_;rintro r K ⟨B,rfl,ho,hb⟩;obtain⟨a8,a9,ba,e1,g1,g2,g3,g4,g5,g6⟩:=ho.row e (bq _ _) E;exact⟨a8,a9,by rw[e1],g1,g3,by unfold maxLen at g4;omega,⟨ba,g5,λj D=>by rw[g6 j D,sR _ _ j D]⟩,hb⟩
 have HZ:Hid (Eg x u m o c n):=hZ.below Q;have Y:Hid (a∈ak∧(∀g,g<u->m g<=900)∧(∀g,g<u->o g<e)∧(∀g,g<u->c g= -1∨(0<=c g∧c g<(a.q:Int)))∧Below b.heap.size b n):=⟨W,a2,ax,a0,Q⟩;have HY:Hid (∀g,g<=u->∀j,j<e->kt a (λ_ j=>((a.ev s (f j) k:Nat):Int)) m o c g l j= -1∨(0<=kt a (λ_ j=>((a.ev s (f j) k:Nat):Int)) m o c g l j∧kt a (λ_ j=>((a.ev s (f j) k:Nat):Int)) m o c g l j<(a.q:Int))):=λg hr j D=>xn (N:=l+1) W (λ_ j _ _=>J ⟨by show(0:Int)<=((a.ev s (f j) k:Nat):Int);omega,by have:=iQ (dE W) s (f j) k;show((a.ev s (f j) k:Nat):Int)<_;omega⟩) ax a0 g hr l j E D
 clear W hX hA ar av hx ha hM hZ a2 ax a0 Q;obtain⟨y,Q⟩:∃y:Nat->Nat->Int,y=λ_ j=>((a.ev s (f j) k:Nat):Int):=⟨_,X⟩
 have a3:Hid (Calls prog 40 #[.agg #[.int .i64 a.q,.int .i64 a.p,.int .i64 a.m,.int .i64 gen,.slice (some ⟨O,0,none⟩) (a.m+1) P],.slice t e p,.slice v k z] n λr K=>∃i q,r=.returned (.slice (some ⟨i,0,none⟩) e q)∧n.heap.size<=i∧e<=q∧q<=9223372036854775807∧qP i q e (kt a y m o c 0 l) K∧Below n.heap.size n K):=by rw[Q];exact HV.out
 have bb:Hid (∀g,g<=u->∀j,j<e->kt a y m o c g l j= -1∨(0<=kt a y m o c g l j∧kt a y m o c g l j<(a.q:Int))):=by rw[Q];exact HY.out
 rw[<-Q];clear Q HV HY;go_enter func12,ntmps12;obtain⟨c0,c1,c2,c3,c4⟩:=U.out.1;rw[T]at c0 c1 c2 c3 c4;go_wp2_with fail;rw[<-T];clear T c0 c1 c2 c3 c4;refine a3.out.mono ?_;rintro r w1 ⟨i,q,rfl,hG,a4,bc,a5,a6⟩;have H1:Hid (qP i q e (kt a y m o c 0 l) w1∧Below n.heap.size n w1):=⟨a5,a6⟩;have K:b.heap.size+1<=i:=by have:=U.out.2;omega
 clear a5 a6 hG a3;go_wp2_with fail;go_loopw [12] (λB wr=>∃g:Nat,g<=u∧B=.int .i64 g∧Hid (qP i q e (kt a y m o c g l) wr∧Below n.heap.size n wr)) (λB _=>u-(intOf B).toNat)
 case atStart=>exact⟨0,E,X,H1.out⟩
 case round=>
  obtain⟨g,hr,rfl,S⟩:=hrel;rename World=>wB;by_cases ab:g<u
  ·have bd:(g:Int)<(u:Int):=by omega
   have K:(0:Int)<=(g:Int):=E;obtain⟨K,Q,bg,T,m0,m1,m2⟩:=(HZ.out.below S.out.2) g ab;subst bg;have⟨mU,ad⟩:=eaa (m g);have⟨w,hp⟩:=eaa (o g);have⟨B,hv⟩:=eaa (c g);rw[<-ad]at m0;rw[<-hp]at m1;rw[<-hv]at m2;have⟨F,hu⟩:=eaa (kt a y m o c g l w);have a7:w<e:=by rw[hp];exact Y.out.2.2.1 g ab
   have K:B= -1∨(0<=B∧B<(a.q:Int)):=by rw[hv];exact Y.out.2.2.2.1 g ab
   have K:F= -1∨(0<=F∧F<(a.q:Int)):=by rw[hu];exact bb.out g E w a7
   have K:mU<=900:=by rw[ad];exact Y.out.2.1 g ab
   have HN:Hid (∀j,j<e->kt a y m o c (g+1) l j=if l=mU then dst a (kt a y m o c g l) w B j else kt a y m o c g l j):=λj _=>by
    show(if l=m g then dst a (kt a y m o c g l) (o g) (c g)else kt a y m o c g l) j=_;rw[<-ad, <-hp, <-hv];split<;>rfl
   have HU:Hid (F=kt a y m o c g l w):=hu;have⟨A,ao⟩:=eaa (wB.alloc (.cells #[.int .i64 (mU:Nat),.int .i64 (w:Nat),.int .i64 B] 47));have Q:Below wB.heap.size wB A:=by rw[ao];exact(XK _ _).alloc (aa _) _
   have K:bD wB.heap.size 3 47 (sa #[.int .i64 (mU:Nat),.int .i64 (w:Nat),.int .i64 B]) A:=by rw[ao];exact iV _ _ _ _ X
   have T:A.cell? ⟨wB.heap.size,0,none⟩=some (.int .i64 (mU:Nat)):=K.cell 0 E;have d1:A.cell? ⟨wB.heap.size,1,none⟩=some (.int .i64 (w:Nat)):=K.cell 1 E;have d2:A.cell? ⟨wB.heap.size,2,none⟩=some (.int .i64 B):=K.cell 2 E;have G:Hid (qP i q e (kt a y m o c g l) A∧Below n.heap.size n A):=⟨S.out.1.below Q,al S.out.2 Q⟩;have d3:A.cell? ⟨i,w,none⟩=some (.int .i64 F):=by rw[hu];exact G.out.1.cell a4 w a7
   have d4:=G.out.1.free w;have T:wB.heap.size<A.heap.size:=K.lt;have bk:=G.out.1.lt;have T:(w:Int)<(e:Int):=E;clear ad hp hv hu K Q S
   go_upto_region 6 with fail
   rw[<-ao];clear ao;by_cases M:mU=l
   ·have t1:((mU:Int) !=(l:Int))=false:=by rw[M];simp
    by_cases R:F= -1
    ·have t2:(F==(-1:Int))=true:=by rw[R];rfl
     have N:Hid (qP i q e (kt a y m o c (g+1) l) A):=G.out.1.congr λj D=>by
      rw[HN.out j D,ai M.symm];unfold dst;by_cases r:j=w
      ·rw[ai r,ai (J (by rw[<-HU.out];exact R)),r, <-HU.out,R]
      ·rw[af r]
     clear M R;go_wp2;go_roundw
     case rel=>exact⟨g+1,E,x9,N.out,G.out.2⟩
     case measure=>simp[intOf];omega
    ·have t2:(F==(-1:Int))=false:=aA.2 R;by_cases V:B= -1
     ·have t3:(B==(-1:Int))=true:=by rw[V];rfl
      have N:Hid (qP i q e (kt a y m o c (g+1) l) (A.setCell ⟨i,w,none⟩ (.int .i64 (-1)))∧Below n.heap.size n (A.setCell ⟨i,w,none⟩ (.int .i64 (-1)))):=⟨G.out.1.store w (-1) λj D=>by
       rw[HN.out j D,ai M.symm];unfold dst;by_cases r:j=w
       ·rw[ai r,ai r,ai (I V)]
       ·rw[af r,af r],G.out.2.setCell (by show n.heap.size<=i;have:=U.out.2;omega) _⟩
      clear M R V;go_wp2;go_roundw
      case rel=>exact⟨g+1,E,x9,N.out⟩
      case measure=>simp[intOf];omega
     ·have t3:(B==(-1:Int))=false:=aA.2 V;obtain⟨Z,bl⟩:∃Z:Nat,F=(Z:Int):=⟨F.toNat,E⟩;obtain⟨vn,bm⟩:∃vn:Nat,B=(vn:Int):=⟨B.toNat,E⟩;subst bl bm;have⟨B,F⟩:=eaa (dz a.p a.q Z vn)
      have N:Hid (∀K:World,qP i q e (kt a y m o c g l) K->qP i q e (kt a y m o c (g+1) l) (K.setCell ⟨i,w,none⟩ (.int .i64 (B:Nat)))):=λK Q=>Q.store w (B:Nat) λj D=>by
       rw[HN.out j D,ai M.symm];unfold dst;by_cases r:j=w
       ·rw[ai r,ai r,af, <-HU.out,F]
        ·simp
        ·rw[<-HU.out];exact λK=>K.elim V R
       ·rw[af r,af r]
      have gA:=U.out.1.below G.out.2 (by have:=U.out.2;omega);have K:=XM gA.c0;have K:=XM gA.c1;have K:=XM gA.c2;have K:=XM gA.c3;have K:=XM gA.c4;have K:=XM d1;have K:=XM d2;have K:=XM d3;have K:=lR bk d4
      have HA:Hid (∀d K,Calls prog 41 #[.agg #[.int .i64 a.q,.int .i64 a.p,.int .i64 a.m,.int .i64 gen,.slice (some ⟨O,0,none⟩) (a.m+1) P],.int .i64 (Z:Nat),.int .i64 (vn:Nat)] (grow (redrawn A d) K) λr Q=>r=.returned (.int .i64 (B:Nat))∧∃w:Regrown,Q=grow (redrawn A w.d) w.os):=λd K=>by
       rw[F];exact X0 (Dw Y.out.1 gen _ Z vn E E (grow (redrawn A d) K))
      clear M R V F gA;go_wp2;refine oe 13 wL wL ?_;simp only[cW,dC,cV,eF];repeat(go_big_quiet_step (first|(go_at_call 41;exact HA.out _ _)))
      refine XZ ?_;intro _ w;obtain⟨⟨ds,a1⟩,bn⟩:=w;subst bn;have w:=XQ A ds a1;have H7:Hid (qP i q e (kt a y m o c g l) (grow (redrawn A ds) a1)∧Below n.heap.size n (grow (redrawn A ds) a1)):=⟨G.out.1.below w,al G.out.2 w⟩;clear w;go_wp2;go_roundw
      case rel=>exact⟨g+1,E,x9,N.out _ H7.out.1,H7.out.2.setCell (by show n.heap.size<=i;have:=U.out.2;omega) _⟩
      case measure=>simp[intOf];omega
   ·have t1:((mU:Int) !=(l:Int))=true:=by simp;omega
    have N:Hid (qP i q e (kt a y m o c (g+1) l) A):=G.out.1.congr λj D=>by
     rw[HN.out j D,af (λr=>M r.symm)]
    clear M;go_wp2;go_roundw
    case rel=>exact⟨g+1,E,x9,N.out,G.out.2⟩
    case measure=>simp[intOf];omega
  ·have bd:¬(g:Int)<(u:Int):=by omega
   have pV:g=u:=E;have N:Hid (qP i q e (kt a y m o c u l) wB):=by rw[<-pV];exact S.out.1
   have HB:Hid (Below b.heap.size b wB):=al Y.out.2.2.2.2 S.out.2;clear pV S;go_wp2;go_ret;exact⟨i,q,X,E,a4,bc,N.out,HB.out⟩
def FD.oW(b:FD)(c:Int)(a:Nat->Nat)(d:Nat->Nat->Int):Nat->Int
 |0=>0
 |i+1=>if FD.oW b c a d i≠0 then FD.oW b c a d i else if((a i:Nat):Int)≠c then 6 else b.jG (a i) (d i)
def FD.oO(d:FD)(e f:Nat)(a b c:Nat->Int):Nat->Int
 |0=>0
 |r+1=>if FD.oO d e f a b c r≠0 then FD.oO d e f a b c r else if a r<0∨(e:Int)<=a r∨b r<0∨(f:Int)<=b r then 10 else if c r≠ -1∧d.has (c r)=false then 2 else 0
def FD.xa(a:FD)(d:Nat)(e:Nat->Int)(b:Int)(c:Nat)(f:Nat->Nat)(g:Nat->Nat->Int)(L:Nat)(h i j:Nat->Int):Int:=
 if a.fI d e b≠0 then a.fI d e b else if 200<c∨200<L then 4 else if a.oW b f g c≠0 then a.oW b f g c else a.oO c d h i j L
theorem Fv{b:Int}(c:a.oW b f j e≠0):∀N,e<=N->a.oW b f j N=a.oW b f j e
 |0,d=>by rw[show e=0 by omega]
 |N+1,d=>by
  by_cases d:e=N+1
  ·rw[d]
  ·have:=Fv c N E;show(if a.oW b f j N≠0 then _ else _)=_;rw[this,ai c]
theorem Fw(b:a.oO e p c d g k≠0):∀L,k<=L->a.oO e p c d g L=a.oO e p c d g k
 |0,f=>by rw[show k=0 by omega]
 |L+1,f=>by
  by_cases f:k=L+1
  ·rw[f]
  ·have:=Fw b L E;show(if a.oO e p c d g L≠0 then _ else _)=_;rw[this,ai b]
def K7(e:Option Addr)(L:Nat)(f g h:Nat->Int)(c:World):Prop:=∀a,a<L->∃b d,e=some ⟨b,d,none⟩∧b<c.heap.size∧c.cell? ⟨b,d+a*3,none⟩=some (.int .i64 (f a))∧c.cell? ⟨b,d+a*3+1,none⟩=some (.int .i64 (g a))∧c.cell? ⟨b,d+a*3+2,none⟩=some (.int .i64 (h a))
theorem K7.below(h:K7 t e c d g b)(a:Below b.heap.size b B):K7 t e c d g B:=λi j=>by
 obtain⟨k,l,m,f,n,o,p⟩:=h i j;exact⟨k,l,m,aj f a.size,fF a f n,fF a f o,fF a f p⟩
theorem Mg(hD:a∈ak){m cx e mc L nc:Nat}(o:Int)(hX:Arg t m cx c b)(hM:sV v e A f s j b)(hN:e<=1000000)(hZ:K7 x L d g q b)(hL:L<=1000000):Calls prog 7 #[.int .i64 a.q,.slice t m cx,.int .i64 o,.slice v e mc,.slice x L nc] b λu G=>u=.returned (.int .i64 (a.xa m c o e f j L d g q))∧Below b.heap.size b G:=by
 have⟨i,hR⟩:=eaa (a.xa m c o e f j L d g q);have⟨Q,a2⟩:=eaa (a.fI m c o);have a5:Hid (Calls prog 19 #[.int .i64 a.q,.slice t m cx,.int .i64 o] b λu G=>u=.returned (.int .i64 Q)∧Below b.heap.size b G):=by rw[a2];exact DC hD o hX
 have HF:Hid (∀z:World,Calls prog 10 #[.int .i64 a.q] z λu G=>∃B C,u=.returned (.tuple #[.agg #[.int .i64 a.q,.int .i64 a.p,.int .i64 a.m,.int .i64 a.gen,.slice (some ⟨B,0,none⟩) (a.m+1) C],.int .i64 0])∧Below z.heap.size z G):=λz=>(qj hD z).mono λu G ⟨B,C,O,_,h3⟩=>⟨B,C,O,h3⟩
 have Y:Hid (a∈ak∧sV v e A f s j b∧K7 x L d g q b):=⟨hD,hM,hZ⟩;have HR:Hid (i=if Q≠0 then Q else if 200<e∨200<L then 4 else if a.oW o f j e≠0 then a.oW o f j e else a.oO e m d g q L):=by show i=_;rw[hR,a2];rfl
 rw[<-hR];have bn:=hX.qL;clear hD hX hM hZ hR a2;go_enter func7,ntmps7;go_wp2_with fail;refine a5.out.mono ?_;rintro u w1 ⟨rfl,a6⟩;have Z:Hid (Below b.heap.size b w1):=a6;clear a6 a5;by_cases h0:Q=0
 ·have z0:(Q !=(0:Int))=false:=by rw[h0];rfl
  have ao:Hid (i=if 200<e∨200<L then 4 else if a.oW o f j e≠0 then a.oW o f j e else a.oO e m d g q L):=by show i=_;rw[HR.out,af (λy=>y h0)]
  clear h0 HR;by_cases a2:200<e
  ·have g1:(200:Int)<(e:Int):=by omega
   have r:Hid (i=4):=by show i=_;rw[ao.out,ai (I a2)]
   go_wp2;go_ret;exact⟨by rw[r.out];rfl,Z.out⟩
  ·have g1:¬(200:Int)<(e:Int):=by omega
   have bc:decide ((200:Int)<(e:Int))=false:=aq g1;by_cases a2:200<L
   ·have g2:(200:Int)<(L:Int):=by omega
    have r:Hid (i=4):=by show i=_;rw[ao.out,ai (J a2)]
    go_wp2;go_ret;exact⟨by rw[r.out];rfl,Z.out⟩
   ·have g2:¬(200:Int)<(L:Int):=by omega
    have bd:decide ((200:Int)<(L:Int))=false:=aq g2;have a7:Hid (i=if a.oW o f j e≠0 then a.oW o f j e else a.oO e m d g q L):=by show i=_;rw[ao.out,af E]
    clear ao;go_wp2_with fail;refine(HF.out w1).mono ?_;rintro u w2 ⟨B,C,rfl,a8⟩;have H2:Hid (Below b.heap.size b w2):=al Z.out a8;clear a8 HF Z;have⟨w,ar⟩:=eaa (w2.heap.size);have⟨wb,ab⟩:=eaa (w2.alloc (.cells #[.int .i64 a.q,.int .i64 a.p,.int .i64 a.m,.int .i64 a.gen,.slice (some ⟨B,0,none⟩) (a.m+1) C] 32))
    have H3:Hid (gN w a a.gen (.slice (some ⟨B,0,none⟩) (a.m+1) C) wb∧Below b.heap.size b wb∧b.heap.size<=w∧w<wb.heap.size):=by
     have K:=H2.out.size;refine⟨by rw[ab,ar];exact eL a a.gen _ w2,by rw[ab];exact al H2.out ((XK _ _).alloc (aa _) _),E,by rw[ab,ar];simp⟩
    go_upto_region 7 with fail
    rw[<-ab, <-ar];clear ab ar H2;clear bc bd g1 g2;go_wp2;go_loopw [14] (λl wr=>∃n:Nat,n<=e∧l=.int .i64 n∧Hid (a.oW o f j n=0∧gN w a a.gen (.slice (some ⟨B,0,none⟩) (a.m+1) C) wr∧Below b.heap.size b wr∧w<wr.heap.size)) (λl _=>e-(intOf l).toNat)
    case atStart=>exact⟨0,E,X,X,H3.out.1,H3.out.2.1,H3.out.2.2.2⟩
    case round=>
     obtain⟨n,hi,rfl,p⟩:=hrel;rename World=>wA;by_cases a3:n<e
     ·have av:(n:Int)<(e:Int):=by omega
      have bg:(0:Int)<=(n:Int):=E;obtain⟨ab,om,bk,m0⟩:=(Y.out.2.1.below p.out.2.2.1).cell n a3;subst bk;have⟨Ai,hA⟩:=eaa (A n);have⟨R,ab⟩:=eaa (f n);have⟨Ci,ao⟩:=eaa (s n);have⟨S,ar⟩:=eaa (a.jG R (j n));have a2:R<=1000000:=by rw[ab];exact Y.out.2.1.qL n a3
      have a9:Hid (Calls prog 20 #[.int .i64 a.q,.slice Ai R Ci] wA λu G=>u=.returned (.int .i64 S)∧Below wA.heap.size wA G):=by
       rw[ar,hA,ab,ao];exact Lp Y.out.1 (Y.out.2.1.below p.out.2.2.1) a3
      rw[<-hA, <-ab, <-ao]at m0
      have HS:Hid (a.oW o f j (n+1)=if(R:Int)≠o then 6 else S):=by
       show(if a.oW o f j n≠0 then _ else if((f n:Nat):Int)≠o then 6 else a.jG (f n) (j n))=_;rw[af (λy=>y p.out.1),ar, <-ab]
      have ad:Hid (a.oW o f j (n+1)≠0->i=a.oW o f j (n+1)):=λh=>by
       have P:=Fv h e E;show i=_;rw[a7.out,P,ai h]
      clear hA ab ao ar;by_cases O:(R:Int)=o
      ·have t1:((R:Int) !=o)=false:=by rw[O];simp
       have U:Hid (a.oW o f j (n+1)=S):=by show _=_;rw[HS.out,af (λy=>y O)]
       clear O;by_cases P:S=0
       ·have t2:(S !=(0:Int))=false:=by rw[P];rfl
        have V:Hid (a.oW o f j (n+1)=0):=by show _=_;rw[U.out,P]
        clear P;go_wp2_with fail;refine a9.out.mono ?_;rintro u w4 ⟨rfl,T⟩;have H4:Hid (gN w a a.gen (.slice (some ⟨B,0,none⟩) (a.m+1) C) w4∧Below b.heap.size b w4∧w<w4.heap.size):=⟨p.out.2.1.below T p.out.2.2.2,al p.out.2.2.1 T,aj p.out.2.2.2 T.size⟩;clear T;go_wp2;go_roundw
        case rel=>exact⟨n+1,E,x9,V.out,H4.out⟩
        case measure=>simp[intOf];omega
       ·have t2:(S !=(0:Int))=true:=by simp[P]
        have r:Hid (i=S):=by
         show i=_;rw[ad.out (by rw[U.out];exact P),U.out]
        clear P;go_wp2_with fail;refine a9.out.mono ?_;rintro u w4 ⟨rfl,T⟩;have H4:Hid (Below b.heap.size b w4):=al p.out.2.2.1 T;clear T;go_wp2;go_ret;exact⟨by rw[r.out];rfl,H4.out⟩
      ·have t1:((R:Int) !=o)=true:=by simp[O]
       have r:Hid (i=6):=by
        have K:=HS.out;rw[ai O]at K;show i=_;rw[ad.out (by rw[K];decide),K]
       have HB:Hid (Below b.heap.size b wA):=p.out.2.2.1;clear O;go_wp2;go_ret;exact⟨by rw[r.out];rfl,HB.out⟩
     ·have av:¬(n:Int)<(e:Int):=by omega
      have o:n=e:=E
      have ad:Hid (i=a.oO e m d g q L):=by
       have:=p.out.1;rw[o]at this;show i=_;rw[a7.out,af (λy=>y this)]
      have H5:Hid (gN w a a.gen (.slice (some ⟨B,0,none⟩) (a.m+1) C) wA∧Below b.heap.size b wA∧w<wA.heap.size):=p.out.2;clear o p;go_wp2;go_loopw [15] (λl wr=>∃k:Nat,k<=L∧l=.int .i64 k∧Hid (a.oO e m d g q k=0∧gN w a a.gen (.slice (some ⟨B,0,none⟩) (a.m+1) C) wr∧Below b.heap.size b wr∧w<wr.heap.size)) (λl _=>L-(intOf l).toNat)
      case atStart=>exact⟨0,E,X,X,H5.out⟩
      case round=>
       obtain⟨k,hr,rfl,p⟩:=hrel;rename World=>wB;clear av;by_cases n:k<L
       ·have av:(k:Int)<(L:Int):=by omega
        have bg:(0:Int)<=(k:Int):=E;obtain⟨o,O,bl,P,m0,m1,m2⟩:=(Y.out.2.2.below p.out.2.2.1) k n;subst bl;have⟨D,P⟩:=eaa (d k);have⟨F,R⟩:=eaa (g k);have⟨l,S⟩:=eaa (q k);rw[<-P]at m0;rw[<-R]at m1;rw[<-S]at m2
        have HS:Hid (a.oO e m d g q (k+1)=if D<0∨(e:Int)<=D∨F<0∨(m:Int)<=F then 10 else if l≠ -1∧a.has l=false then 2 else 0):=by
         show(if a.oO e m d g q k≠0 then _ else if d k<0∨(e:Int)<=d k∨g k<0∨(m:Int)<=g k then 10 else if q k≠ -1∧a.has (q k)=false then 2 else 0)=_;rw[af (λy=>y p.out.1), <-P, <-R, <-S]
        have ba:Hid (a.oO e m d g q (k+1)≠0->i=a.oO e m d g q (k+1)):=λh=>by
         show i=_;rw[ad.out,Fw h L E]
        have bb:Hid (∀(z:World),Calls prog 21 #[.agg #[.int .i64 a.q,.int .i64 a.p,.int .i64 a.m,.int .i64 a.gen,.slice (some ⟨B,0,none⟩) (a.m+1) C],.int .i64 l] z λu G=>u=.returned (.bool (a.has l))∧Below z.heap.size z G):=λz=>dp a a.gen (.slice (some ⟨B,0,none⟩) (a.m+1) C) l z
        have⟨n,ax⟩:=eaa (wB.alloc (.cells #[.int .i64 D,.int .i64 F,.int .i64 l] 47));have O:Below wB.heap.size wB n:=by rw[ax];exact(XK _ _).alloc (aa _) _
        have o:bD wB.heap.size 3 47 (sa #[.int .i64 D,.int .i64 F,.int .i64 l]) n:=by rw[ax];exact iV _ _ _ _ X
        have T:n.cell? ⟨wB.heap.size,0,none⟩=some (.int .i64 D):=o.cell 0 E;have T:n.cell? ⟨wB.heap.size,1,none⟩=some (.int .i64 F):=o.cell 1 E;have T:n.cell? ⟨wB.heap.size,2,none⟩=some (.int .i64 l):=o.cell 2 E;have N:Hid (gN w a a.gen (.slice (some ⟨B,0,none⟩) (a.m+1) C) n∧Below b.heap.size b n∧w<n.heap.size):=⟨p.out.2.1.below O p.out.2.2.2,al p.out.2.2.1 O,aj p.out.2.2.2 O.size⟩;have T:wB.heap.size<n.heap.size:=o.lt;have n:=N.out.1;obtain⟨T,Y,q2,q3,q4⟩:=n;clear P R S o O p
        go_upto_region 19 with fail
        rw[<-ax];clear ax
        have a0:Hid ((D<0∨(e:Int)<=D∨F<0∨(m:Int)<=F)->i=10):=λh=>by
         have K:=HS.out;rw[ai h]at K;rw[ba.out (by rw[K];decide),K]
        by_cases k1:D<0
        ·have t1:decide (D<0)=true:=aU k1;have r:Hid (i=10):=a0.out (I k1);go_wp2;go_ret;exact⟨by rw[r.out];rfl,N.out.2.1⟩
        ·have t1:decide (D<0)=false:=aq k1;by_cases k2:(e:Int)<=D
         ·have t2:decide ((e:Int)<=D)=true:=aU k2;have r:Hid (i=10):=a0.out (J (I k2));go_wp2;go_ret;exact⟨by rw[r.out];rfl,N.out.2.1⟩
         ·have t2:decide ((e:Int)<=D)=false:=aq k2;by_cases k3:F<0
          ·have t3:decide (F<0)=true:=aU k3;have r:Hid (i=10):=a0.out (J (J (I k3)));go_wp2;go_ret;exact⟨by rw[r.out];rfl,N.out.2.1⟩
          ·have t3:decide (F<0)=false:=aq k3;by_cases k4:(m:Int)<=F
           ·have t4:decide ((m:Int)<=F)=true:=aU k4;have r:Hid (i=10):=a0.out (J (J (J k4)));go_wp2;go_ret;exact⟨by rw[r.out];rfl,N.out.2.1⟩
           ·have t4:decide ((m:Int)<=F)=false:=aq k4;have U:Hid (a.oO e m d g q (k+1)=if l≠ -1∧a.has l=false then 2 else 0):=by show _=_;rw[HS.out,af E]
            by_cases W:l= -1
            ·have t5:(l !=(-1:Int))=false:=by rw[W];rfl
             have V:Hid (a.oO e m d g q (k+1)=0):=by show _=_;rw[U.out,af (λy=>y.1 W)]
             clear W;go_wp2;go_roundw
             case rel=>exact⟨k+1,E,x9,V.out,N.out⟩
             case measure=>simp[intOf];omega
            ·have t5:(l !=(-1:Int))=true:=by simp[W]
             have⟨a4,n⟩:=eaa (a.has l);have HH:Hid (∀(z:World),Calls prog 21 #[.agg #[.int .i64 a.q,.int .i64 a.p,.int .i64 a.m,.int .i64 a.gen,.slice (some ⟨B,0,none⟩) (a.m+1) C],.int .i64 l] z λu G=>u=.returned (.bool a4)∧Below z.heap.size z G):=by rw[n];exact bb.out
             have V:Hid (a.oO e m d g q (k+1)=if a4=false then 2 else 0):=by
              show _=_;rw[U.out,n];by_cases y:a.has l=false
              ·rw[ai ⟨W,y⟩,ai y]
              ·rw[af (λM=>y M.2),af y]
             clear W n bb;go_wp2_with fail;refine(HH.out _).mono ?_;rintro u w5 ⟨rfl,a1⟩;have H6:Hid (gN w a a.gen (.slice (some ⟨B,0,none⟩) (a.m+1) C) w5∧Below b.heap.size b w5∧w<w5.heap.size):=⟨N.out.1.below a1 N.out.2.2,al N.out.2.1 a1,aj N.out.2.2 a1.size⟩;clear a1;cases a4 with
             |true=>
              have bm:Hid (a.oO e m d g q (k+1)=0):=by show _=_;rw[V.out];rfl
              go_wp2;go_roundw
              case rel=>exact⟨k+1,E,x9,bm.out,H6.out⟩
              case measure=>simp[intOf];omega
             |false=>
              have r:Hid (i=2):=by
               have K:=V.out;rw[ai X]at K;show i=_;rw[ba.out (by rw[K];decide),K]
              go_wp2;go_ret;exact⟨by rw[r.out];rfl,H6.out.2.1⟩
       ·have av:¬(k:Int)<(L:Int):=by omega
        have e:k=L:=E
        have r:Hid (i=0):=by
         have:=p.out.1;rw[e]at this;show i=_;rw[ad.out,this]
        have HB:Hid (Below b.heap.size b wB):=p.out.2.2.1;clear e p;go_wp2;go_ret;exact⟨by rw[r.out];rfl,HB.out⟩
 ·have z0:(Q !=(0:Int))=true:=by simp[h0]
  have r:Hid (i=Q):=by show i=_;rw[HR.out,ai h0]
  go_wp2;go_ret;exact⟨by rw[r.out];rfl,Z.out⟩
theorem Lk(P:a∈ak)(N:K7 t k c d g b)(M:k<=1000000):Calls prog 24 #[.int .i64 a.q,.int .i64 (e:Nat),.int .i64 (p:Nat),.slice t k z] b λu x=>u=.returned (.int .i64 (a.oO e p c d g k))∧Below b.heap.size b x:=by
 have⟨m,M⟩:=eaa (a.oO e p c d g k);have HZ:Hid (K7 t k c d g b):=N;have Y:Hid (m=a.oO e p c d g k):=M;rw[<-M];clear N M;go_enter func24,ntmps24;go_wp2_with fail;refine(kh P b).mono ?_;rintro u q ⟨D,T,ad,rfl,B,_,_,O⟩;have y:Hid (Below b.heap.size b q∧gO D T a ad q∧D<q.heap.size∧T<q.heap.size):=⟨O,B,B.qY,B.sg⟩;clear B O;go_wp2;go_loopw [20] (λi wr=>∃f:Nat,f<=k∧i=.int .i64 f∧Hid (a.oO e p c d g f=0∧Below q.heap.size q wr)) (λi _=>k-(intOf i).toNat)
 case atStart=>exact⟨0,E,X,X,XK _ _⟩
 case round=>
  obtain⟨f,hr,rfl,v⟩:=hrel;rename World=>wB;by_cases B:f<k
  ·have av:(f:Int)<(k:Int):=by omega
   have M:(0:Int)<=(f:Int):=E;obtain⟨M,N,ax,O,m0,m1,m2⟩:=(HZ.out.below (al y.out.1 v.out.2)) f B;subst ax;have⟨j,M⟩:=eaa (c f);have⟨l,N⟩:=eaa (d f);have⟨i,O⟩:=eaa (g f);rw[<-M]at m0;rw[<-N]at m1;rw[<-O]at m2
   have Z:Hid (a.oO e p c d g (f+1)=if j<0∨(e:Int)<=j∨l<0∨(p:Int)<=l then 10 else if i≠ -1∧a.has i=false then 2 else 0):=by
    show(if a.oO e p c d g f≠0 then _ else if c f<0∨(e:Int)<=c f∨d f<0∨(p:Int)<=d f then 10 else if g f≠ -1∧a.has (g f)=false then 2 else 0)=_;rw[af (λr=>r v.out.1), <-M, <-N, <-O]
   have ab:Hid (a.oO e p c d g (f+1)≠0->m=a.oO e p c d g (f+1)):=λh=>by
    show m=_;rw[Y.out,Fw h k E]
   have⟨n,F⟩:=eaa (wB.alloc (.cells #[.int .i64 j,.int .i64 l,.int .i64 i] 47));have ad:Below wB.heap.size wB n:=by rw[F];exact(XK _ _).alloc (aa _) _
   have B:bD wB.heap.size 3 47 (sa #[.int .i64 j,.int .i64 l,.int .i64 i]) n:=by rw[F];exact iV _ _ _ _ X
   have P:n.cell? ⟨wB.heap.size,0,none⟩=some (.int .i64 j):=B.cell 0 E;have P:n.cell? ⟨wB.heap.size,1,none⟩=some (.int .i64 l):=B.cell 1 E;have P:n.cell? ⟨wB.heap.size,2,none⟩=some (.int .i64 i):=B.cell 2 E;have s:Hid (Below q.heap.size q n):=al v.out.2 ad;have C:Hid (∀P,Below q.heap.size q P->Below b.heap.size b P):=λP hx=>al y.out.1 hx
   have ao:Hid (Calls prog 45 #[.pointer (some ⟨D,0,none⟩),.int .i64 i] n λu x=>u=.returned (.bool (a.has i))∧x=n):=eG (y.out.2.1.below s.out y.out.2.2.1 y.out.2.2.2) i;have q:wB.heap.size<n.heap.size:=B.lt;clear M N O B ad v
   go_upto_region 5 with fail
   rw[<-F];clear F
   have G:Hid ((j<0∨(e:Int)<=j∨l<0∨(p:Int)<=l)->m=10):=λh=>by
    have w:=Z.out;rw[ai h]at w;rw[ab.out (by rw[w];decide),w]
   by_cases Q:j<0
   ·have t1:decide (j<0)=true:=aU Q;have o:Hid (m=10):=G.out (I Q);go_wp2;go_ret;exact⟨by rw[o.out];rfl,C.out _ s.out⟩
   ·have t1:decide (j<0)=false:=aq Q;by_cases R:(e:Int)<=j
    ·have t2:decide ((e:Int)<=j)=true:=aU R;have o:Hid (m=10):=G.out (J (I R));go_wp2;go_ret;exact⟨by rw[o.out];rfl,C.out _ s.out⟩
    ·have t2:decide ((e:Int)<=j)=false:=aq R;by_cases S:l<0
     ·have t3:decide (l<0)=true:=aU S;have o:Hid (m=10):=G.out (J (J (I S)));go_wp2;go_ret;exact⟨by rw[o.out];rfl,C.out _ s.out⟩
     ·have t3:decide (l<0)=false:=aq S;by_cases U:(p:Int)<=l
      ·have t4:decide ((p:Int)<=l)=true:=aU U;have o:Hid (m=10):=G.out (J (J (J U)));go_wp2;go_ret;exact⟨by rw[o.out];rfl,C.out _ s.out⟩
      ·have t4:decide ((p:Int)<=l)=false:=aq U;have ar:Hid (a.oO e p c d g (f+1)=if i≠ -1∧a.has i=false then 2 else 0):=by show _=_;rw[Z.out,af E]
       by_cases A:i= -1
       ·have t5:(i !=(-1:Int))=false:=by rw[A];rfl
        have K:Hid (a.oO e p c d g (f+1)=0):=by show _=_;rw[ar.out,af (λr=>r.1 A)]
        clear A;go_wp2;go_roundw
        case rel=>exact⟨f+1,E,x9,K.out,s.out⟩
        case measure=>simp[intOf];omega
       ·have t5:(i !=(-1:Int))=true:=by simp[A]
        have⟨V,j⟩:=eaa (a.has i);have HH:Hid (Calls prog 45 #[.pointer (some ⟨D,0,none⟩),.int .i64 i] n λu x=>u=.returned (.bool V)∧x=n):=by rw[j];exact ao.out
        have K:Hid (a.oO e p c d g (f+1)=if V=false then 2 else 0):=by
         show _=_;rw[ar.out,j];by_cases r:a.has i=false
         ·rw[ai ⟨A,r⟩,ai r]
         ·rw[af (λl=>r l.2),af r]
        clear A j ao;go_wp2_with fail;refine HH.out.mono ?_;rintro u x ⟨rfl,W⟩;have W:=W.symm;subst W;cases V with
        |true=>
         have a0:Hid (a.oO e p c d g (f+1)=0):=by show _=_;rw[K.out];rfl
         go_wp2;go_roundw
         case rel=>exact⟨f+1,E,x9,a0.out,s.out⟩
         case measure=>simp[intOf];omega
        |false=>
         have o:Hid (m=2):=by
          have w:=K.out;rw[ai X]at w;show m=_;rw[ab.out (by rw[w];decide),w]
         go_wp2;go_ret;exact⟨by rw[o.out];rfl,C.out _ s.out⟩
  ·have av:¬(f:Int)<(k:Int):=by omega
   have i:f=k:=E
   have o:Hid (m=0):=by
    have:=v.out.1;rw[i]at this;show m=_;rw[Y.out,this]
   have HB:Hid (Below b.heap.size b wB):=al y.out.1 v.out.2;clear i v;go_wp2;go_ret;exact⟨by rw[o.out];rfl,HB.out⟩
theorem PH(h:a∈ak)(m:Arg t e p c b)(n:Arg v k z d b)(l:a.fI e c (k:Nat)=0):Calls prog 23 #[.int .i64 a.q,.slice t e p,.slice v k z] b λo g=>∃r u w,o=.returned (.tuple #[.slice r u w,.int .i64 (a.jG k d)])∧Below b.heap.size b g:=by
 have y:Calls prog 22 #[.int .i64 a.q,.slice t e p,.int .i64 (k:Nat)] b λq g=>q=.returned (.int .i64 0)∧Below b.heap.size b g:=by
  have f:=re h (k:Nat) m;rw[l]at f;exact f
 by_cases i:a.jG k d=0
 ·obtain⟨A,B,r,u,w⟩:=zL l;obtain⟨l,C⟩:=QH r;obtain⟨D,r⟩:=SP l;have u:=Ue m r;rw[i];refine(IT h A B m.le D (λw j x l F o=>C w j x l F (by rw[r w x,r j l,o])) (λj l=>u.sl j l) u.lt E E (uF (dE h) i) (sP i n.sl) n.lt).mono ?_;rintro q g ⟨G,rfl,_,s⟩;exact⟨_,_,_,X,s⟩
 ·refine(IS a.q (a.jG k d) i y (λm l=>?_)).mono ?_
  ·have f:=n.below l;exact pN h f.sl f.lt f.qL
  ·rintro q g ⟨rfl,s⟩;exact⟨_,_,_,X,s⟩
theorem L9(R:a∈ak){m C e mc L nc:Nat}(i:Int)(M:Arg t m C c b)(hM:sV v e A f s j b)(O:e<=1000000)(hZ:K7 x L d g q b)(hL:L<=1000000):Calls prog 8 #[.int .i64 a.q,.slice t m C,.int .i64 i,.slice v e mc,.slice x L nc] b λn u=>n=.returned (.int .i64 (a.xa m c i e f j L d g q))∧Below b.heap.size b u:=by
 have⟨l,S⟩:=eaa (a.xa m c i e f j L d g q);have⟨w,O⟩:=eaa (a.fI m c i);have ab:Hid (Calls prog 22 #[.int .i64 a.q,.slice t m C,.int .i64 i] b λn u=>n=.returned (.int .i64 w)∧Below b.heap.size b u):=by rw[O];exact re R i M
 have F:Hid (a∈ak∧sV v e A f s j b∧K7 x L d g q b∧w=a.fI m c i∧Arg t m C c b):=⟨R,hM,hZ,O,M⟩;have T:Hid (l=if w≠0 then w else if 200<e∨200<L then 4 else if a.oW i f j e≠0 then a.oW i f j e else a.oO e m d g q L):=by show l=_;rw[S,O];rfl
 rw[<-S];have a3:=M.qL;clear R M hM hZ S O;go_enter func8,ntmps8;go_wp2_with fail;refine ab.out.mono ?_;rintro n w1 ⟨rfl,ad⟩;have P:Hid (Below b.heap.size b w1):=ad;clear ad ab;by_cases K:w=0
 ·have z0:(w !=(0:Int))=false:=by rw[K];rfl
  have y:Hid (a∈ak∧sV v e A f s j b∧K7 x L d g q b∧a.fI m c i=0∧Arg t m C c b):=⟨F.out.1,F.out.2.1,F.out.2.2.1,by rw[<-F.out.2.2.2.1];exact K,F.out.2.2.2.2⟩;have Q:Hid (l=if 200<e∨200<L then 4 else if a.oW i f j e≠0 then a.oW i f j e else a.oO e m d g q L):=by show l=_;rw[T.out,af (λD=>D K)]
  clear K T F;by_cases F:200<e
  ·have g1:(200:Int)<(e:Int):=by omega
   have o:Hid (l=4):=by show l=_;rw[Q.out,ai (I F)]
   go_wp2;go_ret;exact⟨by rw[o.out];rfl,P.out⟩
  ·have g1:¬(200:Int)<(e:Int):=by omega
   by_cases F:200<L
   ·have g2:(200:Int)<(L:Int):=by omega
    have o:Hid (l=4):=by show l=_;rw[Q.out,ai (J F)]
    go_wp2;go_ret;exact⟨by rw[o.out];rfl,P.out⟩
   ·have g2:¬(200:Int)<(L:Int):=by omega
    have ao:Hid (l=if a.oW i f j e≠0 then a.oW i f j e else a.oO e m d g q L):=by show l=_;rw[Q.out,af E]
    clear Q;go_wp2;go_loopw [33] (λU wr=>∃k:Nat,k<=e∧U=.int .i64 k∧Hid (a.oW i f j k=0∧Below b.heap.size b wr)) (λU _=>e-(intOf U).toNat)
    case atStart=>exact⟨0,E,X,X,P.out⟩
    case round=>
     obtain⟨k,hi,rfl,p⟩:=hrel;rename World=>wA;by_cases V:k<e
     ·have a0:(k:Int)<(e:Int):=by omega
      have F:(0:Int)<=(k:Int):=E;obtain⟨F,M,a1,m0⟩:=(y.out.2.1.below p.out.2).cell k V;subst a1;have⟨Ai,O⟩:=eaa (A k);have⟨r,M⟩:=eaa (f k);have⟨Ci,Q⟩:=eaa (s k);have⟨z,R⟩:=eaa (a.jG r (j k));have F:r<=1000000:=by rw[M];exact y.out.2.1.qL k V
      have ad:Hid ((r:Int)=i->Calls prog 23 #[.int .i64 a.q,.slice t m C,.slice Ai r Ci] wA λn u=>∃F S U,n=.returned (.tuple #[.slice F S U,.int .i64 z])∧Below wA.heap.size wA u):=λhk=>by
       have ab:a.fI m c (r:Nat)=0:=by rw[hk];exact y.out.2.2.2.1
       have a1:=(zL ab).2.2.2.1;rw[R];refine PH y.out.1 (y.out.2.2.2.2.below p.out.2) ?_ ab;rw[O,M,Q];exact(y.out.2.1.below p.out.2).arg V (by rw[<-M];omega)
      rw[<-O, <-M, <-Q]at m0
      have HS:Hid (a.oW i f j (k+1)=if(r:Int)≠i then 6 else z):=by
       show(if a.oW i f j k≠0 then _ else if((f k:Nat):Int)≠i then 6 else a.jG (f k) (j k))=_;rw[af (λD=>D p.out.1),R, <-M]
      have ar:Hid (a.oW i f j (k+1)≠0->l=a.oW i f j (k+1)):=λh=>by
       have B:=Fv h e E;show l=_;rw[ao.out,B,ai h]
      clear O M Q R;by_cases G:(r:Int)=i
      ·have t1:((r:Int) !=i)=false:=by rw[G];simp
       have W:Hid (a.oW i f j (k+1)=z):=by show _=_;rw[HS.out,af (λD=>D G)]
       have av:Hid (Calls prog 23 #[.int .i64 a.q,.slice t m C,.slice Ai r Ci] wA λn u=>∃F S U,n=.returned (.tuple #[.slice F S U,.int .i64 z])∧Below wA.heap.size wA u):=ad.out G;clear G;by_cases B:z=0
       ·have t2:(z !=(0:Int))=false:=by rw[B];rfl
        have a2:Hid (a.oW i f j (k+1)=0):=by show _=_;rw[W.out,B]
        clear B;go_wp2_with fail;refine av.out.mono ?_;rintro n Y ⟨eo,ea,eb,rfl,N⟩;have Z:Hid (Below b.heap.size b Y):=al p.out.2 N;clear N;go_wp2;go_roundw
        case rel=>exact⟨k+1,E,x9,a2.out,Z.out⟩
        case measure=>simp[intOf];omega
       ·have t2:(z !=(0:Int))=true:=by simp[B]
        have o:Hid (l=z):=by
         show l=_;rw[ar.out (by rw[W.out];exact B),W.out]
        clear B;go_wp2_with fail;refine av.out.mono ?_;rintro n Y ⟨eo,ea,eb,rfl,N⟩;have Z:Hid (Below b.heap.size b Y):=al p.out.2 N;clear N;go_wp2;go_ret;exact⟨by rw[o.out];rfl,Z.out⟩
      ·have t1:((r:Int) !=i)=true:=by simp[G]
       have o:Hid (l=6):=by
        have i:=HS.out;rw[ai G]at i;show l=_;rw[ar.out (by rw[i];decide),i]
       have HB:Hid (Below b.heap.size b wA):=p.out.2;clear G;go_wp2;go_ret;exact⟨by rw[o.out];rfl,HB.out⟩
     ·have a0:¬(k:Int)<(e:Int):=by omega
      have r:k=e:=E;have⟨k,i⟩:=eaa (a.oO e m d g q L)
      have o:Hid (l=k):=by
       have:=p.out.1;rw[r]at this;show l=_;rw[ao.out,af (λD=>D this),i]
      have HC:Hid (Calls prog 24 #[.int .i64 a.q,.int .i64 (e:Nat),.int .i64 (m:Nat),.slice x L nc] wA λn u=>n=.returned (.int .i64 k)∧Below wA.heap.size wA u):=by rw[i];exact Lk y.out.1 (y.out.2.2.1.below p.out.2) hL
      have HB:Hid (Below b.heap.size b wA):=p.out.2;clear r p i;go_wp2_with fail;refine HC.out.mono ?_;rintro n w3 ⟨rfl,ax⟩;have H5:Hid (Below b.heap.size b w3):=al HB.out ax;clear ax;go_wp2;go_ret;exact⟨by rw[o.out];rfl,H5.out⟩
 ·have z0:(w !=(0:Int))=true:=by simp[K]
  have o:Hid (l=w):=by show l=_;rw[T.out,ai K]
  go_wp2;go_ret;exact⟨by rw[o.out];rfl,P.out⟩
