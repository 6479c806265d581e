/- Texts of ours, one behind the other: ZH2 ZH3 ZH4. -/
import Derived.Test.YtedifobeggabnaaGreatCbZH0
import Derived.Test.YtedifobeggabnaaGreatCbZG3
import Derived.Test.YtedifobeggabnaaGreatCbZF9
namespace Go.Proofs.YtedifobeggabnaaGreat
open Tryz
variable {e:Option Addr}{a b:Nat}{f:Nat->Int}{g l:World}
section
open Go.RowKit Go.Sort
open Go.Conc (G)
def Ex(c:World)(d:Nat):Prop:=∃a e,c.heap[d]?=some (.cells a e)∧∀b,b∈a->uY b
def Gw(h:Nat)(b:Nat->Bool)(i:Nat->Nat)(d:Nat)(k:Nat->Nat->Nat)(a:Nat)(l:Value)(m:World):Prop:=
 ∃go c,l=.agg #[.slice go (if b a then 0 else d) c,.int .i64 (i a),.bool (b a)]∧(b a=true->go=none∧c=0)∧(b a=false->d<=c∧c<=9223372036854775807∧∃e f,go=some ⟨e,0,none⟩∧h<e∧m.heap[e]?=some (.cells f 3)∧(∀g,g∈f->uY g)∧∀j,j<d->f[j]?=some (.int .i64 (k a j:Nat)))
def WC(a:pJ)(b:Nat)(c:Nat->Nat->Nat):Nat->Value->World->Prop:=Gw a.bO a.ls a.er b c
structure Uj(p:pJ)(D:FD)(n cx k bx ox:Nat)(c:Nat->Nat)(bw:Nat->Nat)(y:Nat->Nat->Int)(m:Nat->Nat)(c' y' am:Nat->Nat->Nat):Prop where
 hD:D∈ak
 Wx:n<=64
 k1:1<=k
 kn:k<=n
 q:p.q=(D.q:Nat)
 kk:p.k=(k:Nat)
 xs:p.xs=.slice (some ⟨bx,ox,none⟩) n cx
 zz0:Arg (some ⟨bx,ox,none⟩) n cx (λj=>((c j:Nat):Int)) p.w0
 wo:∀i,i<p.N->p.wo i=some ⟨bw i,0,none⟩∧p.wn i=n
 zz1:∀i,i<p.N->Arg (some ⟨bw i,0,none⟩) n (p.wc i) (y i) p.w0
 ib:Ex p.w0 bx
 iw:∀i,i<p.N->Ex p.w0 (bw i)∧bx≠bw i
 rx:p.rd bx
 rw:∀i,i<p.N->p.rd (bw i)
 jG:∀i,i<p.N->D.BC n (λj=>((c j:Nat):Int)) (k:Nat) n (y i)=0
 mb:∀i,i<p.N->mh D n c (y i) (m i) (c' i) (y' i)
 out:∀i,i<p.N->(p.ls i=false∧fB D (m i) k (c' i) (y' i) (am i)∧p.er i=oX D k (m i) (c' i) (y' i) (am i))∨(p.ls i=true∧(∀a,¬fB D (m i) k (c' i) (y' i) a)∧p.er i=0)
 GM:p.GM=WC p k am
 Qm:∀i b,p.Qm i b↔i<p.N∧(b=bx∨b=bw i)
 F:p.F=Uq To
theorem pM(h:Arg e a b f g)(i:∀d,e=some d->∀c:Addr,c.block=d.block->l.cell? c=g.cell? c)(k:fp e l.heap.size):Arg e a b f l:=by
 obtain⟨m,_,c,d,n,o⟩:=h;refine⟨λj p=>?_,k,c,d,n,o⟩;obtain⟨c,d,h,k⟩:=m j p;exact⟨c,d,h,(i _ h ⟨c,d+j,none⟩ X).trans k⟩
theorem Arg.dZ(c:Arg e a b f g)(T:Tape)(d:Nat):Arg e a b f (Go.Proofs.YtedifobeggabnaaGreat.dZ g T d):=pM c (λ_ _ _ _=>rfl) c.lt
def VJ(c:FD)(i d b:Nat)(e y:Nat->Nat)(g:Value)(h:World):Prop:=(∃a,fB c d b e y a∧∃f,g=.agg #[f,.int .i64 (oX c b d e y a:Nat),.bool false]∧cG i f b a h∧BO f h)∨((∀a,¬fB c d b e y a)∧g=.agg #[.slice none 0 0,.int .i64 0,.bool true])
section
variable {p:pJ}{D:FD}{n s k q u:Nat}{c o:Nat->Nat}{y:Nat->Nat->Int}{m:Nat->Nat}{r y' t:Nat->Nat->Nat}{i:Nat}{w:World}
theorem VV{w:World}(g:Ex w a)(h:Ex w b)(f:a≠b):(∃c d,w.heap[a]?=some (.cells c d (0,0))∧(oU (oU w a) b).heap[a]?=some (.cells c d (0,c.size))∧∀e,e∈c->uY e)∧(∃c d,w.heap[b]?=some (.cells c d (0,0))∧(oU (oU w a) b).heap[b]?=some (.cells c d (0,c.size))∧∀e,e∈c->uY e):=by
 obtain⟨i,j,d,k⟩:=g;obtain⟨g,l,e,m⟩:=h;exact⟨⟨i,j,d,(qS _ f).trans (tu d),k⟩,⟨g,l,e,tu ((qS w f.symm).trans e),m⟩⟩
theorem Ex.of{w b:World}(c:Ex w a)(d:b.heap[a]?=w.heap[a]?):Ex b a:=by
 obtain⟨b,e,f,g⟩:=c;exact⟨b,e,d.trans f,g⟩
theorem Tt(a:Uj p D n s k q u c o y m r y' t)(h:i<p.N)(hr:qF (p.Kx prog) w):∃l ar,K6 (p.Kx prog) i w l ar:=by
 have ex:w.heap[q]?=p.w0.heap[q]?:=hr q a.rx;have ew:w.heap[o i]?=p.w0.heap[o i]?:=hr (o i) (a.rw i h);have ix:=a.ib.of ex;have iw:=(a.iw i h).1.of ew;obtain⟨fx,fw⟩:=VV ix iw (a.iw i h).2;have⟨l,O⟩:=eaa (oU (oU w q) (o i));have E:l.heap.size=w.heap.size:=by rw[O,ze,ze]
 have ar:∀f,l.cell? f=w.cell? f:=λf=>by rw[O,zd,zd]
 have ab:∀b,w.heap[b]?=p.w0.heap[b]?->∀f:Addr,f.block=b->l.cell? f=p.w0.cell? f:=λb e f v=>by
  rw[ar];subst v;simp[World.cell?,e]
 have ad:Arg (some ⟨q,u,none⟩) n s (λj=>((c j:Nat):Int)) l:=pM a.zz0 (λA z f v=>by cases z;exact ab q ex f v) (λA z=>by cases z;rw[E];exact aC ix.choose_spec.choose_spec.1);have ao:Arg (some ⟨o i,0,none⟩) n (p.wc i) (y i) l:=pM (a.zz1 i h) (λA z f v=>by cases z;exact ab (o i) ew f v) (λA z=>by cases z;rw[E];exact aC iw.choose_spec.choose_spec.1);rw[<-O]at fx fw;obtain⟨e1,e2⟩:=a.wo i h;have JQ:∀b,¬p.F.cl b:=λb e=>by rw[a.F]at e;exact e.elim
 refine⟨l,VJ D w.heap.size (m i) k (r i) (y' i),?_⟩
 obtain⟨s1,s2⟩:=Kj (F:=(p.Kx prog).F) (Q:=(p.Kx prog).Qm i) JQ (λb e=>by
  rcases((a.Qm i b).1 e).2 with rfl|rfl
  ·exact fx
  ·exact fw) E
 refine⟨E,s1,s2,⟨λb _=>JQ b,λb e=>absurd e (JQ b)⟩,λB C=>?_,⟨⟨λb _=>by show prog.globals.size<=b;rw[show prog.globals.size=0 by kernel_rfl];omega,λb (e:p.F.cl b)=>by rw[a.F]at e;exact e.elim⟩,by show uG prog p.F;rw[a.F];exact Tp⟩,λB M T d P=>P,λT d=>?_,λx M W1 B av hS O C P=>?_⟩
 ·have hq:∀b,b=q∨b=o i->gG ((p.Kx prog).Qm i) w.heap.size w.heap.size b:=λb e=>I ((a.Qm i b).2 ⟨h,e⟩)
  have C:B∈#[Value.int .i64 p.q,p.xs,.int .i64 p.k,.slice (p.wo i) (p.wn i) (p.wc i)]:=C;rw[a.xs,e1]at C;simp only[aF,az,aD,bP]at C;rcases C with rfl|rfl|rfl|rfl
  ·exact ok_int _ _
  ·exact nP ⟨hq _ (I X),λe=>absurd e (JQ _)⟩
  ·exact ok_int _ _
  ·exact nP ⟨hq _ (J X),λe=>absurd e (JQ _)⟩
 ·have C:=Mh (cx:=s) (cw:=p.wc i) a.hD (ad.dZ T d) (ao.dZ T d) a.Wx a.k1 a.kn (λO e=>by
   have:=OP a.hD (k:Nat) ((ad.dZ T d).below e) ((ao.dZ T d).below e);rw[a.jG i h]at this;exact this) (a.mb i h)
  have Q:(p.Kx prog).ma i= #[.int .i64 D.q,.slice (some ⟨q,u,none⟩) n s,.int .i64 (k:Nat),.slice (some ⟨o i,0,none⟩) n (p.wc i)]:=by
   show #[Value.int .i64 p.q,p.xs,.int .i64 p.k,.slice (p.wo i) (p.wn i) (p.wc i)]=_;rw[a.q,a.xs,a.kk,e1,e2]
  rw[Q];refine C.mono ?_;rintro F M ⟨_,⟨f,v,B,rfl,N,R⟩|⟨S,rfl⟩⟩
  ·refine⟨_,X,I ⟨f,v,B,X,?_,R⟩⟩;have:(Go.Proofs.YtedifobeggabnaaGreat.dZ l T d).heap.size=w.heap.size:=E;rw[this]at N;exact N
  ·exact⟨_,X,J ⟨S,X⟩⟩
 ·show p.GM i (bI x B) W1∧∀b,yh (bI x B) b->qE w.heap.size x M b;rw[a.GM];rcases P with⟨f,v,mv,rfl,N,R⟩|⟨S,rfl⟩
  ·rcases a.out i h with⟨G,K,U⟩|⟨_,K,_⟩
   ·have Q:=fB.one a.hD (a.mb i h) v K;subst Q;obtain⟨so,V,rfl,q1,q2,q3,q4,_,q6⟩:=N;obtain⟨g,rfl,hg⟩:=q6 (by have:=a.k1;omega);have W:w.heap.size<=g:=q3 _ X;have Y:g<M.heap.size:=q4 _ X
    obtain⟨Z,l1,l2⟩:=R g (by
     have:=a.k1;simp[Value.ownBlock])
    obtain⟨l,r1,r2⟩:=hS.blk g _ (J ⟨W,Y⟩) l1;obtain⟨c2,t2,z',r2,r4,r5,r3⟩:=r2;obtain rfl:=r4.1 (JQ g);obtain rfl:=r5 (JQ g);subst r2;have r3:z'=(0,0):=(r3.resolve_left (JQ g)).elim id id;subst r3;have l:Z.map (bI x)=Z:=(bf λA z=>(l2 A z).rn x).trans (jc _);rw[l]at r1
    have ev:bI x (.agg #[.slice (some ⟨g,0,none⟩) k V,.int .i64 (oX D k (m i) (r i) (y' i) (t i):Nat),.bool false])=.agg #[.slice (some ⟨x g,0,none⟩) k V,.int .i64 (oX D k (m i) (r i) (y' i) (t i):Nat),.bool false]:=by
     rw[lJ];simp[zP,da,fV,kp]
    rw[ev];refine⟨⟨some ⟨x g,0,none⟩,V,by rw[G,U];rfl,λc=>(by rw[G]at c;cases c),λ_=>⟨q1,q2,x g,Z,X,av _ ⟨g,W,Y,X⟩,r1,l2,λj hj=>?_⟩⟩,λb e=>?_⟩
    ·have:=hg.cell j hj;simp[World.cell?,l1]at this;exact this
    ·obtain⟨a',gn,gc,A,y,F,rfl⟩:=e;simp at F;obtain⟨⟨rfl,_⟩,_⟩:=F;exact⟨g,W,Y,X⟩
   ·exact absurd v (K f)
  ·rcases a.out i h with⟨_,K,_⟩|⟨G,_,U⟩
   ·exact absurd K (S _)
   ·have ev:bI x (.agg #[.slice none 0 0,.int .i64 0,.bool true])=.agg #[.slice none 0 0,.int .i64 0,.bool true]:=by
     rw[lJ];simp[dI,da,fV]
    rw[ev];refine⟨⟨none,0,by rw[G,U];rfl,λ_=>⟨X,X⟩,λc=>(by rw[G]at c;cases c)⟩,λb e=>?_⟩;obtain⟨a',gn,gc,A,y,F,_⟩:=e;simp at F
end
end
section
open Go.RowKit Go.Sort
open Go.Conc
open Go.ConcR (WgAt)
open Go.ConcN (sumTo)
section
variable {p:pJ}{D:FD}{n s k q t:Nat}{c o:Nat->Nat}{y:Nat->Nat->Int}{m:Nat->Nat}{r y' j:Nat->Nat->Nat}{i:Nat}{w:World}
theorem UR(e:Uj p D n s k q t c o y m r y' j)(z:kx p.Wg p.bO p.bB p.bM p.cO p.cB p.T p.b6 p.b7 p.b8 p.rd p.w0)(A:Uz p.rd (qF (p.Kx prog)) p.b6 p.b7 p.b8 p.q p.k p.xs)(B:p.T<p.bO)(Vw:¬p.rd p.T)(C:∀i,p.er i<=1000):p.Ok 3:=by
 refine⟨z,A,B,Vw,C,x5,x5,x5,λi x w N E a=>?_,λi x w a=>?_,λi x w O a F=>?_⟩
 ·rw[e.GM]at a ⊢;obtain⟨go,f,rfl,g,h⟩:=a;refine⟨go,f,X,g,λb=>?_⟩;obtain⟨G,I,l,u,rfl,J,v,K,M⟩:=h b;exact⟨G,I,l,u,X,J,(E l ⟨_,_,_,_,_,X,X⟩).trans v,K,M⟩
 ·rw[e.GM]at a;obtain⟨go,f,rfl,_,_⟩:=a;exact⟨_,_,_,X⟩
 ·rw[e.GM]at a;obtain⟨go,f,rfl,g,h⟩:=a;obtain⟨P,Q,R,S,y,d,rfl⟩:=F;simp at d;obtain⟨⟨rfl,_⟩,_⟩:=d;cases b:p.ls i with
  |true=>have:=(g b).1;cases this
  |false=>
   obtain⟨_,_,l,u,d,_,v,_⟩:=h b;cases d;exact⟨u,v⟩
theorem z7{b:Nat->Nat}(c:∀i,b i<=a):∀n,sumTo n b<=n*a
 |0=>by simp[sumTo]
 |n+1=>by
  have:=z7 c n;have:=c n;simp only[sumTo];rw[Pb];omega
theorem SC {d:mN}(a:Uj d.p D n s k q t c o y m r y' j)(b:d.Ah 3)(f:d.p.ye=yk d)(g:d.p.bO≠d.p.bB)(h:d.p.cO≠d.p.cB)(p:d.p.N<=900)(l:d.p.H<1000000):du (d.p.Kx prog) where
 hand:=PS b.ok.ok (λi w e _ p=>Tt a e p) (by rw[a.F];show mB To _=true;kernel_rfl) (λi u v=>by
  rcases((a.Qm i u).1 v)with⟨e,rfl|rfl⟩
  ·exact a.rx
  ·exact a.rw i e)
 main:=Qf b f
 c1:=b.ok.ok.hd.rO
 c2:=b.ok.ok.hd.rB
 Wr:=g
 Ri:=by
  have:=z7 b.ok.ok.er d.p.N;show sumTo d.p.N d.p.er<1000000;omega
 qL:=by show d.p.N<1000000;omega
 cN:=l
 ob:=h
end
def pJ.at(p:pJ)(d:mN)(nb p0:Nat)(a:World):pJ:={ p with nb:=nb,p0:=p0,w0:=a,BK:=Iz d,Ei:=Ix d,vE:=Ew d,ye:=yk { d with p:={ p with w0:=a }},Fin:=K3 d }
def mN.at(d:mN)(a b:Nat)(c:World):mN:={ d with p:=d.p.at d a b c }
section
variable {P:Program}{d:mN}{D:FD}{n s k q t:Nat}{c p:Nat->Nat}{y:Nat->Nat->Int}{m:Nat->Nat}{r y' o:Nat->Nat->Nat}{i:Nat}{w:World}{Sh0:Nat->Prop}{j:Value->World->Prop}
structure WB(d:mN)(Sh0:Nat->Prop)(tk:Nat->Option Value)(bg:Nat)(w w1:World):Prop where
 got:w1.heap[bg]?=some (.cells (lU d.p.N tk) 39)
 all:∀i,i<d.p.N->∃v,tk i=some v∧d.p.GM i v w1∧∀b,yh v b->b<w1.heap.size∧¬nW (d.p.Kx prog) b
 xQ:jz (d.p.Kx prog) w1 (sumTo d.p.N d.p.er:Nat) (sumTo d.p.N (λi=>if d.p.ls i then 1 else 0):Nat)
 Ek:∀b,d.p.rd b->w1.heap[b]?=w.heap[b]?
 fix:w1.tape=w.tape∧w1.os=w.os∧w1.output=w.output
 WO:d.p.bO<bg
 VS:¬d.p.rd bg∧¬nW (d.p.Kx prog) bg∧bg<w1.heap.size
 wg:d.p.Wg<w1.heap.size
theorem Px(B:∀b e,(d.at b e w).Ah 3)(J:∀b e,Uj (d.at b e w).p D n s k q t c p y m r y' o)(K:d.p.bO≠d.p.bB)(M:d.p.cO≠d.p.cB)(N:d.p.N<=900)(l:d.p.H<1000000)(z:1<=d.p.H){i:Frame}(O:Uw d 0 i)(mb:∀a,d.p.rd a->a<w.heap.size∧¬Sh0 a∧¬nW (d.p.Kx prog) a)(A:WgAt iY.tWg d.p.Wg w 0 0)(P:jz (d.p.Kx prog) w 0 0)(Q:w.heap[d.p.cO]?=some (.chan 0 #[] false 0 0 false))(R:w.heap[d.p.cB]?=some (.chan d.p.N #[] false 0 0 false))(S:∀a,Sh0 a->a<d.p.bO)(T:∀e g b,WB d Sh0 e g w b->jd prog j (λa=>Sh0 a∨a=d.p.Wg) (λa=>a<b.heap.size∧¬(Sh0 a∨a=d.p.Wg)) (λ_ _=>True) (G (d.c.finish (.slice (some ⟨g,0,none⟩) d.p.N d.p.N)) d.cs) b){U:Nat->Prop}:jd prog j Sh0 U (λ_ b=>∀e,e∈b->La (λa=>¬nW (d.p.Kx prog) a) e.act) (G i (d.c::d.cs)) w:=by
 intro e U b ab V W Y hO a5 Z;have v:=B e.size b.size;have ab:du ((d.at e.size b.size w).p.Kx prog):=SC (J e.size b.size) v X K M N l;have J:gz ((d.at e.size b.size w).p.Kx prog) w:=⟨0,0,A⟩;have B:=SK v X l d.p.H 0 i w (aW _) ⟨J,λa _=>rfl⟩ O;obtain⟨l,J⟩:∃l,d.p.H=l+1:=⟨d.p.H-1,E⟩
 have K:H0 ((d.at e.size b.size w).p.Kx prog) (AtKdS ((d.at e.size b.size w).p.Kx prog) (nZ ((d.at e.size b.size w).p.Kx prog) (((d.at e.size b.size w).p.Kx prog).H-1))) 340 dU (G i (d.c::d.cs)) w:=by
  have u:((d.at e.size b.size w).p.Kx prog).H-1=l:=by show d.p.H-1=l;omega
  rw[u];rw[J]at B;exact B
 have i:=IK (K:=((d.at e.size b.size w).p.Kx prog)) (Sh0:=Sh0) z X X X V W Y K (λa h=>h.elim) mb Z A P Q R;obtain⟨B,ad,f,ao,x,t',r1,l,A⟩:=Lq ab z _ e w U b i;obtain⟨⟨b,ar,e⟩,⟨q',av⟩,ax,a0,a1,a2,C,a3,i,F⟩:=Pq l A;have hf:K3 d x.tk x.md.O b f:=e f (dW.refl f);obtain⟨g,I,a4,rfl⟩:=hf;obtain⟨e,i,l⟩:=a2 g I.1
 have z:d.p.bO<f.heap.size:=by
  have b:=v.ok.ok.hd;have u:f.heap[d.p.bO]?=w.heap[d.p.bO]?:=C d.p.bO b.rO;have v:d.p.bO<w.heap.size:=b.lt d.p.bO b.rO;rw[au v]at u;exact aC u
 exact rJ.after r1 (T x.tk g f ⟨a4,a0,a1,C,a3,I.2.2.2.2,⟨l,i,e⟩,F⟩ ad ao t' q' ar av ax (λa h=>h) (λa h=>h.elim (λc=>Nat.lt_trans (S a c) z) (λc=>c▸F)) trivial)
