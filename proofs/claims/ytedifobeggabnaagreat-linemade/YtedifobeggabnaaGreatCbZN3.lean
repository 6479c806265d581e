/- Texts of ours, one behind the other: ZN3 ZN4 ZN5. -/
import Derived.Test.YtedifobeggabnaaGreatCbZN0
import Derived.Test.YtedifobeggabnaaGreatCbZK2
namespace Go.Proofs.YtedifobeggabnaaGreat
set_option maxHeartbeats 16000000
set_option maxRecDepth 100000
open Tryz
variable {l:Nat->Nat}{c m e g f o:Nat}{i j p:Option Addr}{d:World}{b:FD}
section
open Go.RowKit Go.Sort
open Go.ConcN (sumTo)
def VE(c f e:Nat)(go:Nat->Option Addr)(g:Nat->Nat)(h:Nat->Nat->Nat)(i:Nat->Nat)(d:Nat->Bool)(b:World):Prop:=∀a,a<f->b.cell? ⟨c,a*3,none⟩=some (.slice (go a) (if d a then 0 else e) (g a))∧b.cell? ⟨c,a*3+1,none⟩=some (.int .i64 (i a:Nat))∧b.cell? ⟨c,a*3+2,none⟩=some (.bool (d a))∧(d a=false->Sl (go a) e (h a) b)
theorem sumTo_le:∀n,(∀a,a<n->l a<=c)->sumTo n l<=n*c
 |0,_=>by simp[sumTo]
 |n+1,b=>by
  have d:=sumTo_le n (λa e=>b a E);have a:=b n E;rw[Nat.succ_mul];show sumTo n l+l n<=_;omega
theorem TP(a:Sl i c l d)(b:1<=c)(e:c<=1000000):kA (.slice i c m) (zl c λj=>((l j:Nat):Int)) d:=Sl.W6 a b e
theorem Qb(hD:b∈ak){xo mo no:Option Addr}{n cx k N mc L nc bg:Nat}{c:Nat->Nat}{ao go:Nat->Option Addr}{ca gc:Nat->Nat}{av:Nat->Nat->Nat}{na np:Nat->Nat}{nv:Nat->Int}{m:Nat->Nat}{c' y' am:Nat->Nat->Nat}{er:Nat->Nat}{ls:Nat->Bool}(Q R a6 b2 b3 b4 b6 b7 b8 cb cc cf cl cm cp cq cr cw cy cz cA cB cM cO cP cR c0 c1 c5 c6 c7 c8 c9 dc dd dg dq dr ds dB ea eb ec ed ee ef eg ei ej:Value){w:World}(eo:1<=n)(hn:n<=64)(a5:1<=k)(hk:k<=n)(hc:∀a,a<n->c a<b.q)(O:Arg xo n cx (λj=>((c j:Nat):Int)) w)(hM:KP mo N k ao ca av w)(hE:∀a,a<N->El b (av a))(hN:N<=200)(hZ:Eg no L na np nv w)(hL:L<=200)(bn:∀f,f<L->na f<N)(bo:∀f,f<L->np f<n)(bp:∀f,f<L->nv f= -1∨(0<=nv f∧nv f<(b.q:Int)))(hW:IC b n k N c (kt b (λa j=>((b.ev (av a) (c j) k:Nat):Int)) na np nv L) m c' y' am er ls)(hG:VE bg N k go gc am er ls w):(oR f3 6).wp prog (λg P _=>(g=.normal∨g=.ret)∧P.defers=[]∧P.tmps[12]?=some (.bool true)) ⟨#[.int .i64 (b.q:Nat),.slice xo n cx,.int .i64 (k:Nat),.slice mo N mc,.slice no L nc,Q,U,U,U,U,U,U,.bool false,.int .i64 0,.slice (some ⟨bg,0,none⟩) N N,.int .i64 (sumTo N er:Nat),.int .i64 (sumTo N (λa=>if ls a then 1 else 0):Nat),.int .i64 0,U,U,U,U,U,U,U,U,R,a6,b2,b3,b4,b6,b7,b8,cb,cc,cf,cl,cm,cp,cq,cr,cw,cy,cz,cA,cB,cM,cO,cP,cR,c0,c1,c5,c6,c7,c8,c9,dc,dd,dg,dq,dr,ds,dB,ea,eb,ec,ed,ee,ef,eg,ei,ej,U,U,U,U,U,U,U,U,U,U,U,U,U,U,U,U,U,U,U,U,U,U,U,U,U,U,U,U,U,U,U,U,U,U,U,U,U,U,U,U,U,U,U,U,U,U,U,U,U,U,U,U,U,U,U,U,U,U,U,U,U,U,U,U,U,U,U,U,U,U,U,U,U,U,U,U,U,U,U,U,U,U,U,U,U,U,U,U,U,U,U,U,U,U,U,U],[]⟩ w:=by
 simp only[oR,f3];have K:Hid (Arg xo n cx (λj=>((c j:Nat):Int)) w∧KP mo N k ao ca av w∧Eg no L na np nv w∧VE bg N k go gc am er ls w):=⟨O,hM,hZ,hG⟩;have B:Hid (b∈ak∧(∀a,a<n->c a<b.q)∧(∀a,a<N->El b (av a))∧(∀f,f<L->na f<N)∧(∀f,f<L->np f<n)∧(∀f,f<L->nv f= -1∨(0<=nv f∧nv f<(b.q:Int)))):=⟨hD,hc,hE,bn,bo,bp⟩;have HW:Hid (IC b n k N c (kt b (λa j=>((b.ev (av a) (c j) k:Nat):Int)) na np nv L) m c' y' am er ls):=hW;have bs:Hid (∀e:World,Calls prog 10 #[.int .i64 b.q] e λg o=>∃u v,g=.returned (.tuple #[.agg #[.int .i64 b.q,.int .i64 b.p,.int .i64 b.m,.int .i64 b.gen,.slice (some ⟨u,0,none⟩) (b.m+1) v],.int .i64 0])∧eH b (.slice (some ⟨u,0,none⟩) (b.m+1) v) b.md o∧Below e.heap.size e o):=λe=>qj hD e
 obtain⟨D,Q⟩:∃a6:Nat->Nat,a6=λa=>sumTo a er:=⟨_,X⟩
 obtain⟨p,R⟩:∃a6:Nat->Nat,a6=λa=>sumTo a (λa=>if ls a then 1 else 0):=⟨_,X⟩
 have M:Hid ((∀a,D (a+1)=D a+er a)∧(∀a,p (a+1)=p a+if ls a then 1 else 0)∧D 0=0∧p 0=0∧(∀a,D a<=a*1000)∧∀a,p a<=a*1):=by
  refine⟨λa=>by rw[Q];rfl,λa=>by rw[R];rfl,by rw[Q];rfl,by rw[R];rfl,λa=>?_,λa=>?_⟩
  ·rw[Q];exact sumTo_le a λj _=>hW.qL j
  ·rw[R];exact sumTo_le a λj _=>XE
 rw[show sumTo N er=D N by rw[Q],show sumTo N (λa=>if ls a then 1 else 0)=p N by rw[R]];clear hD O hM hZ hG hc hE bn bo bp hW Q R;go_wp2_with fail;refine(bs.out w).mono ?_;rintro g S ⟨u,v,rfl,bw,bx⟩;have⟨r,a0⟩:=eaa (S.heap.size);have⟨q,T⟩:=eaa (S.alloc (.cells #[.int .i64 b.q,.int .i64 b.p,.int .i64 b.m,.int .i64 b.gen,.slice (some ⟨u,0,none⟩) (b.m+1) v] 32))
 have V:Hid (gN r b b.gen (.slice (some ⟨u,0,none⟩) (b.m+1) v) q∧Below w.heap.size w q∧r<q.heap.size∧eH b (.slice (some ⟨u,0,none⟩) (b.m+1) v) b.md q):=by
  have Q:Below S.heap.size S q:=by rw[T];exact(XK _ _).alloc (aa _) _
  refine⟨by rw[T,a0];exact eL b b.gen _ S,al bx Q,by rw[T,a0];simp,bw.below Q⟩
 clear bw bx
 go_upto_region 14 with fail
 rw[<-T, <-a0];clear T a0 bs;have bz:=M.out.2.2.1;have bA:=M.out.2.2.2.1;go_wp2;go_loopw [20,21,22] (λep et a7 wr=>∃a:Nat,a<=N∧a7=.int .i64 a∧ep=.int .i64 (D a:Nat)∧et=.int .i64 (p a:Nat)∧Hid (Below q.heap.size q wr)) (λ_ _ a7 _=>N-(intOf a7).toNat)
 case atStart=>exact⟨0,E,X,by rw[bz];rfl,by rw[bA];rfl,XK _ _⟩
 case round=>
  obtain⟨a,hi,rfl,rfl,rfl,W⟩:=hrel;rename World=>wA;clear bz bA;by_cases F:a<N
  ·have ev:(a:Int)<(N:Int):=by omega
   have Q:(0:Int)<=(a:Int):=E;have HB:Hid (Below w.heap.size w wA):=al V.out.2.1 W.out;obtain⟨⟨bB,om,ew,bE,a8⟩,ey,ez⟩:=(K.out.2.1.below HB.out) a F;subst ew;have⟨a9,ba⟩:=eaa (ao a);have⟨bb,bc⟩:=eaa (ca a);have⟨C,G⟩:=eaa (ls a);have⟨bd,Y⟩:=eaa (er a);have⟨a1,bM⟩:=eaa (go a);have⟨a2,bN⟩:=eaa (gc a);obtain⟨Z,a3⟩:∃Q:List Int,Q=if C then []else zl k λj=>((am a j:Nat):Int):=⟨_,X⟩
   rw[<-ba, <-bc]at a8
   have bO:Hid (∀e,Below wA.heap.size wA e->Calls prog 12 #[.agg #[.int .i64 b.q,.int .i64 b.p,.int .i64 b.m,.int .i64 b.gen,.slice (some ⟨u,0,none⟩) (b.m+1) v],.slice xo n cx,.slice a9 k bb,.int .i64 (a:Nat),.slice no L nc] e λg o=>∃t l,g=.returned (.slice (some ⟨t,0,none⟩) n l)∧n<=l∧l<=9223372036854775807∧qP t l n (kt b (λa j=>((b.ev (av a) (c j) k:Nat):Int)) na np nv L a) o∧Below e.heap.size e o):=λe s=>by
    have gA:=al HB.out s;obtain⟨_,Q,R⟩:=(K.out.2.1.below gA) a F;rw[ba,bc];have O:=K.out.1.below gA;refine(Lg B.out.1 b.gen u v eo hn E (λj hj=>O.sl j hj) Q O.lt R B.out.2.1 (B.out.2.2.1 a F) (V.out.2.2.2.below (al W.out s)) (K.out.2.2.1.below gA) E (λf S=>by have:=B.out.2.2.2.1 f S;omega) B.out.2.2.2.2.1 B.out.2.2.2.2.2).mono ?_;rintro g o ⟨t,l,h1,_,h4,h5,f,O⟩;refine⟨t,l,h1,h4,h5,?_,O⟩;rw[<-Hn (zz1:=λ_ j=>((b.ev (av a) (c j) k:Nat):Int)) (Y':=λa j=>((b.ev (av a) (c j) k:Nat):Int)) X L];exact f
   have bQ:Hid (∀e t l,Below wA.heap.size wA e->qP t l n (kt b (λa j=>((b.ev (av a) (c j) k:Nat):Int)) na np nv L a) e->n<=l->l<=9223372036854775807->Calls prog 11 #[.agg #[.int .i64 b.q,.int .i64 b.p,.int .i64 b.m,.int .i64 b.gen,.slice (some ⟨u,0,none⟩) (b.m+1) v],.slice xo n cx,.int .i64 (k:Nat),.slice (some ⟨t,0,none⟩) n l] e λg o=>∃y A z,g=.returned (.tuple #[.slice y A z,.int .i64 (bd:Nat),.bool (!C)])∧kA (.slice y A z) Z o∧Below e.heap.size e o):=λe t l s ab h4 h5=>by
    have gA:=al HB.out s;have hA:Arg (some ⟨t,0,none⟩) n l (kt b (λa j=>((b.ev (av a) (c j) k:Nat):Int)) na np nv L a) e:=⟨λj hj=>⟨t,0,X,by rw[aW];exact ab.cell h4 j hj⟩,λx s=>(by cases s;exact ab.lt),E,λg=>(by cases g),h4,h5⟩;refine(yH B.out.1 b.gen u v (K.out.1.below gA) hA hn a5 hk B.out.2.1 (HW.out.mb a F) (V.out.2.2.2.below (al W.out s))).mono ?_;rintro g o ⟨bS,h|h⟩
    ·obtain⟨P,ha,eE,rfl,hv⟩:=h;rcases HW.out.out a F with⟨l1,l2,l3⟩|⟨_,l2,_⟩
     ·have bY:=fB.one B.out.1 (HW.out.mb a F) ha l2;obtain⟨y,z,rfl⟩:=aV.form hv;rw[G,l1,Y,l3, <-bY];refine⟨y,_,z,X,?_,bS⟩;have f:Z=zl k λj=>((P j:Nat):Int):=by rw[a3,G,l1,bY];rfl
      rw[f];exact aV.slice hv Xl
     ·exact absurd ha (l2 P)
    ·obtain⟨h1,rfl⟩:=h;rcases HW.out.out a F with⟨_,l2,_⟩|⟨l1,_,l3⟩
     ·exact absurd l2 (h1 _)
     ·rw[G,l1,Y,l3];refine⟨none,0,0,X,?_,bS⟩;rw[a3,G,l1];exact I ⟨X,none,0,X⟩
   have bk:Hid (∀e,Below wA.heap.size wA e->e.cell? ⟨bg,a*3,none⟩=some (.slice a1 (if C then 0 else k) a2)∧e.cell? ⟨bg,a*3+1,none⟩=some (.int .i64 (bd:Nat))∧e.cell? ⟨bg,a*3+2,none⟩=some (.bool C)∧kA (.slice a1 (if C then 0 else k) a2) Z e):=λe s=>by
    have gA:=al HB.out s;obtain⟨x,B,O,q3⟩:=K.out.2.2.2 a F;rw[bM,bN,Y,G];have f:=lN x;refine⟨fF gA f x,fF gA f B,fF gA f O,?_⟩;rw[a3,G];cases hl:ls a with
    |true=>exact I ⟨X,_,_,X⟩
    |false=>
     show kA (.slice (go a) k (gc a)) (zl k λj=>((am a j:Nat):Int)) e;exact TP ((q3 hl).below gA ((q3 hl).WX a5)) a5 E
   have b0:Hid (∀e y A z,Below wA.heap.size wA e->kA (.slice y A z) Z e->Calls prog 13 #[.slice a1 (if C then 0 else k) a2,.slice y A z] e λg o=>g=.returned (.bool true)∧Below e.heap.size e o):=λe y A z s f=>by
    refine(NZ (bk.out e s).2.2.2 f).mono ?_;rintro g o ⟨rfl,d,rfl⟩;exact⟨oi,aO (XK _ _) d⟩
   have f:IntKind.i64.wrap ((D a:Int)+(bd:Int))=(D (a+1):Int):=eP (by rw[M.out.1 a,Y];simp) (by have:=M.out.2.2.2.2.1 (a+1);have:=BI 1000 (show a+1<=200 by omega);omega);have bl:Hid (p (a+1)=p a+if C then 1 else 0):=by rw[G];exact M.out.2.1 a
   have f:p a<=200:=by have:=M.out.2.2.2.2.2 a;omega
   have ad:Hid (∀e,Below wA.heap.size wA e->(λe:World=>e.cell? ⟨r,0,none⟩=some (.int .i64 b.q)∧e.cell? ⟨r,1,none⟩=some (.int .i64 b.p)∧e.cell? ⟨r,2,none⟩=some (.int .i64 b.m)∧e.cell? ⟨r,3,none⟩=some (.int .i64 b.gen)∧e.cell? ⟨r,4,none⟩=some (.slice (some ⟨u,0,none⟩) (b.m+1) v)∧e.cell? ⟨bB,om+a,none⟩=some (.slice a9 k bb)) e):=λe s=>by
    have gA:=V.out.1.below (al W.out s) V.out.2.2.1;exact⟨gA.c0,gA.c1,gA.c2,gA.c3,gA.c4,fF s bE a8⟩
   clear ba bc G Y bM bN a3 bE a8 ey ez;go_wp2;refine XU ?_;refine Ed (S:=λe:World=>e.cell? ⟨r,0,none⟩=some (.int .i64 b.q)∧e.cell? ⟨r,1,none⟩=some (.int .i64 b.p)∧e.cell? ⟨r,2,none⟩=some (.int .i64 b.m)∧e.cell? ⟨r,3,none⟩=some (.int .i64 b.gen)∧e.cell? ⟨r,4,none⟩=some (.slice (some ⟨u,0,none⟩) (b.m+1) v)∧e.cell? ⟨bB,om+a,none⟩=some (.slice a9 k bb)) 20 wq ?_;have HD:Hid (Below wA.heap.size wA wA.drew):=(XK _ _).drew;have i:=ad.out _ HD.out;refine iz 0 i ?_;try simp only[Act.put,ae,ah,ag]
   refine iz 1 i ?_;try simp only[Act.put,ae,ah,ag]
   refine iz 2 i ?_;try simp only[Act.put,ae,ah,ag]
   refine iz 3 i ?_;try simp only[Act.put,ae,ah,ag]
   refine iz 4 i ?_;try simp only[Act.put,ae,ah,ag]
   refine iz 5 i ?_;try simp only[Act.put,ae,ah,ag]
   refine iz 6 i ?_;try simp only[Act.put,ae,ah,ag]
   refine iz 7 i ?_;try simp only[Act.put,ae,ah,ag]
   refine iz 8 i ?_;try simp only[Act.put,ae,ah,ag]
   refine iz 9 i ?_;try simp only[Act.put,ae,ah,ag]
   refine iz 10 i ?_;try simp only[Act.put,ae,ah,ag]
   refine xY (i:=11) wq Xe (λKK hK=>?_);have HK:Hid _:=hK;clear hK;go_simp;refine(bO.out _ HD.out).mono ?_;rintro g w5 ⟨t,l,rfl,eA,eB,ab,hb⟩;have ar:Hid (Below wA.heap.size wA w5∧qP t l n (kt b (λa j=>((b.ev (av a) (c j) k:Nat):Int)) na np nv L a) w5):=⟨al HD.out hb,ab⟩;clear hb ab i;refine HK.out _ _ (λ_=>ad.out _ ar.out.1) ?_;clear HK KK;try simp only[Act.put,ae,ah,ag]
   refine xY (i:=12) wq Xe (λKK hK=>?_);have HK:Hid _:=hK;clear hK;go_simp;refine(bQ.out _ t l ar.out.1 ar.out.2 eA eB).mono ?_;rintro g J ⟨y,A,z,rfl,b1,hb⟩;have e:Hid (Below wA.heap.size wA J∧kA (.slice y A z) Z J):=⟨al ar.out.1 hb,b1⟩;clear hb b1;refine HK.out _ _ (λ_=>ad.out _ e.out.1) ?_;clear HK KK;have i:=ad.out _ e.out.1;try simp only[Act.put,ae,ah,ag]
   refine iz 13 i ?_;try simp only[Act.put,ae,ah,ag]
   refine iz 14 i ?_;try simp only[Act.put,ae,ah,ag]
   refine iz 15 i ?_;try simp only[Act.put,ae,ah,ag]
   refine iz 16 i ?_;try simp only[Act.put,ae,ah,ag]
   refine iz 17 i ?_;try simp only[Act.put,ae,ah,ag]
   refine iz 18 i ?_;try simp only[Act.put,ae,ah,ag]
   refine iz 19 i ?_;try simp only[Act.put,ae,ah,ag]
   refine Ec wq (XY ?_);have H6:Hid (Below q.heap.size q J):=al W.out e.out.1;obtain⟨g0,f,l,_⟩:=bk.out J e.out.1;have a4:Hid (Calls prog 13 #[.slice a1 (if C then 0 else k) a2,.slice y A z] J λg o=>g=.returned (.bool true)∧Below J.heap.size J o):=b0.out J y A z e.out.1 e.out.2;clear bO bQ bk b0 ad i ar e HD;cases C with
   |true=>
    have bm:IntKind.i64.wrap ((p a:Int)+1)=(p (a+1):Int):=eP (by rw[bl.out];simp) (by rw[bl.out];simp;omega);simp only[ek,Eu]at g0 a4 ⊢;go_wp2_with fail;refine a4.out.mono ?_;rintro g w7 ⟨rfl,ax⟩;have H7:Hid (Below q.heap.size q w7):=al H6.out ax;clear ax;go_wp2;go_roundw
    case rel=>exact⟨a+1,E,x9,X,X,H7.out⟩
    case measure=>simp[intOf];omega
   |false=>
    have bm:p (a+1)=p a:=by rw[bl.out];rfl
    simp only[Bool.false_eq_true,if_false,rv]at g0 a4 ⊢;go_wp2_with fail;refine a4.out.mono ?_;rintro g w7 ⟨rfl,ax⟩;have H7:Hid (Below q.heap.size q w7):=al H6.out ax;have eC:Hid (p (a+1)=p a):=bm;clear ax bm;go_wp2;go_roundw
    case rel=>exact⟨a+1,E,x9,X,by rw[eC.out],H7.out⟩
    case measure=>simp[intOf];omega
  ·have ev:¬(a:Int)<(N:Int):=by omega
   have eD:N=a:=E;subst eD;go_wp2
end
section
open Go.RowKit Go.Sort
def Uk(a:FD)(b:Option Addr)(c d:Nat)(e:Int)(f:Option Addr)(g h:Nat)(i:Option Addr)(L j:Nat)(cN k:Int)(l:Act):Prop:=∃m n o p q r s t u v w x y z A B C D E F G I J K M N O P Q R S T V W X Y:Value,l=⟨#[.int .i64 (a.q:Nat),.slice b c d,.int .i64 e,.slice f g h,.slice i L j,.int .i64 cN,U,U,U,U,U,U,.bool false,.int .i64 k,U,U,U,U,U,U,U,U,U,U,U,U,m,n,o,p,q,r,s,t,u,v,w,x,y,z,A,B,C,D,E,F,G,I,J,K,M,N,O,P,Q,R,S,T,V,W,X,Y,U,U,U,U,U,U,U,U,U,U,U,U,U,U,U,U,U,U,U,U,U,U,U,U,U,U,U,U,U,U,U,U,U,U,U,U,U,U,U,U,U,U,U,U,U,U,U,U,U,U,U,U,U,U,U,U,U,U,U,U,U,U,U,U,U,U,U,U,U,U,U,U,U,U,U,U,U,U,U,U,U,U,U,U,U,U,U,U,U,U,U,U,U,U,U,U,U,U,U,U,U,U,U,U,U,U,U,U],[]⟩
theorem Tb(q:b∈ak){z:Nat->Int}(l cN:Int){A:Nat->Option Addr}{Ns C:Nat->Nat}{Z:Nat->Nat->Int}{na np nv:Nat->Int}{w:World}(r:Arg i c m z w)(s:sV j e A Ns C Z w)(v:e<=1000000)(t:K7 p f na np nv w)(a:c<=100)(k:f<=400)(x:Calls prog 6 #[.slice j e g] w λd k=>d=.returned (.bool false)∧Below w.heap.size w k)(u:b.xa c z l e Ns Z f na np nv=0)(M:1<=cN)(N:cN<=8):Eo prog 5 (oR f3 0) (λa k=>Uk b i c m l j e g p f o cN 0 a∧Below w.heap.size w k) ⟨#[.int .i64 (b.q:Nat),.slice i c m,.int .i64 l,.slice j e g,.slice p f o,.int .i64 cN,U,U,U,U,U,U,U,U,U,U,U,U,U,U,U,U,U,U,U,U,U,U,U,U,U,U,U,U,U,U,U,U,U,U,U,U,U,U,U,U,U,U,U,U,U,U,U,U,U,U,U,U,U,U,U,U,U,U,U,U,U,U,U,U,U,U,U,U,U,U,U,U,U,U,U,U,U,U,U,U,U,U,U,U,U,U,U,U,U,U,U,U,U,U,U,U,U,U,U,U,U,U,U,U,U,U,U,U,U,U,U,U,U,U,U,U,U,U,U,U,U,U,U,U,U,U,U,U,U,U,U,U,U,U,U,U,U,U,U,U,U,U,U,U,U,U,U,U,U,U,U,U,U,U,U,U,U,U,U,U,U,U,U,U],[]⟩ w:=by
 have y:Hid (Calls prog 6 #[.slice j e g] w λd k=>d=.returned (.bool false)∧Below w.heap.size w k):=x
 have O:Hid (∀a,Below w.heap.size w a->Calls prog 7 #[.int .i64 b.q,.slice i c m,.int .i64 l,.slice j e g,.slice p f o] a λd k=>d=.returned (.int .i64 0)∧Below a.heap.size a k):=λa n=>by
  have h:=Mg (mc:=g) (nc:=o) q l (r.below n) (s.below n) v (t.below n) E;rw[u]at h;exact h
 have P:Hid (∀a,Below w.heap.size w a->Calls prog 8 #[.int .i64 b.q,.slice i c m,.int .i64 l,.slice j e g,.slice p f o] a λd k=>d=.returned (.int .i64 0)∧Below a.heap.size a k):=λa n=>by
  have h:=L9 (mc:=g) (nc:=o) q l (r.below n) (s.below n) v (t.below n) E;rw[u]at h;exact h
 have a:¬(100:Int)<(c:Int):=E;have k:¬(400:Int)<(f:Int):=E;have l:¬cN<1:=E;have n:¬(8:Int)<cN:=E;have v:decide ((100:Int)<(c:Int))=false:=aq a;have a:decide ((400:Int)<(f:Int))=false:=aq k;have a:decide (cN<1)=false:=aq l;have a:decide ((8:Int)<cN)=false:=aq n;clear q r s t x u M N;simp only[oR,f3,Eo];go_wp2_with fail;refine y.out.mono ?_;rintro d B ⟨rfl,D⟩;have F:Hid (Below w.heap.size w B):=D;clear D y;go_wp2_with fail;refine(O.out B F.out).mono ?_;rintro d G ⟨rfl,I⟩;have J:Hid (Below w.heap.size w G):=al F.out I;clear I;go_wp2_with fail;refine(P.out G J.out).mono ?_;rintro d Q ⟨rfl,K⟩;have R:Hid (Below w.heap.size w Q):=al J.out K;clear K;go_wp2_with fail;exact⟨⟨_,_,_,_,_,_,_,_,_,_,_,_,_,_,_,_,_,_,_,_,_,_,_,_,_,_,_,_,_,_,_,_,_,_,_,_,X⟩,R.out⟩
end
section
open Go.Conc Go.RowKit Go.ConcR.Gen
open Go.ConcN.Gen
theorem Ml:oR f3 5=.seq (Vv (oR f3 5)) (oR f3 6):=wq
section
variable {D:FD}{v s u:Option Addr}{n q k N r L t H:Nat}{a:Act}
theorem Uk.fn(ad:Uk D v n q (k:Nat) s N r u L t (H:Nat) 0 a):∃b:Nat->Value,a=⟨#[.int .i64 (D.q:Nat),.slice v n q,.int .i64 (k:Nat),.slice s N r,.slice u L t,.int .i64 (H:Nat),U,U,U,U,U,U,.bool false,.int .i64 0,U,U,U,U,U,U,U,U,U,U,U,U,b 0,b 1,b 2,b 3,b 4,b 5,b 6,b 7,b 8,b 9,b 10,b 11,b 12,b 13,b 14,b 15,b 16,b 17,b 18,b 19,b 20,b 21,b 22,b 23,b 24,b 25,b 26,b 27,b 28,b 29,b 30,b 31,b 32,b 33,b 34,b 35,U,U,U,U,U,U,U,U,U,U,U,U,U,U,U,U,U,U,U,U,U,U,U,U,U,U,U,U,U,U,U,U,U,U,U,U,U,U,U,U,U,U,U,U,U,U,U,U,U,U,U,U,U,U,U,U,U,U,U,U,U,U,U,U,U,U,U,U,U,U,U,U,U,U,U,U,U,U,U,U,U,U,U,U,U,U,U,U,U,U,U,U,U,U,U,U,U,U,U,U,U,U,U,U,U,U,U,U],[]⟩∧∀c,b c∈a.tmps:=by
 obtain⟨d,e,f,g,h,i,j,l,m,o,p,w,x,y,z,A,B,C,E,F,G,I,J,K,M,O,P,Q,R,S,T,V,W,Y,Z,ab,rfl⟩:=ad;refine⟨λc=>match c with|0=>d|1=>e|2=>f|3=>g|4=>h|5=>i|6=>j|7=>l|8=>m|9=>o|10=>p|11=>w|12=>x|13=>y|14=>z|15=>A|16=>B|17=>C|18=>E|19=>F|20=>G|21=>I|22=>J|23=>K|24=>M|25=>O|26=>P|27=>Q|28=>R|29=>S|30=>T|31=>V|32=>W|33=>Y|34=>Z|_=>ab,X,λc=>?_⟩;show(match c with|0=>d|1=>e|2=>f|3=>g|4=>h|5=>i|6=>j|7=>l|8=>m|9=>o|10=>p|11=>w|12=>x|13=>y|14=>z|15=>A|16=>B|17=>C|18=>E|19=>F|20=>G|21=>I|22=>J|23=>K|24=>M|25=>O|26=>P|27=>Q|28=>R|29=>S|30=>T|31=>V|32=>W|33=>Y|34=>Z|_=>ab)∈_;split<;>simp
def RN(D:FD)(v:Option Addr)(n q k:Nat)(s:Option Addr)(N r:Nat)(u:Option Addr)(L t H:Nat)(c:Nat)(d e:Int)(f:Value->Prop)(a:Act):Prop:=∃b:Nat->Value,a=⟨#[.int .i64 (D.q:Nat),.slice v n q,.int .i64 (k:Nat),.slice s N r,.slice u L t,.int .i64 (H:Nat),U,U,U,U,U,U,.bool false,.int .i64 0,.slice (some ⟨c,0,none⟩) N N,.int .i64 d,.int .i64 e,.int .i64 0,U,U,U,U,U,U,U,U,b 0,b 1,b 2,b 3,b 4,b 5,b 6,b 7,b 8,b 9,b 10,b 11,b 12,b 13,b 14,b 15,b 16,b 17,b 18,b 19,b 20,b 21,b 22,b 23,b 24,b 25,b 26,b 27,b 28,b 29,b 30,b 31,b 32,b 33,b 34,b 35,.tuple #[.slice (some ⟨c,0,none⟩) N N,.int .i64 d,.int .i64 e,.int .i64 0],.int .i64 (D.q:Nat),.slice v n q,.int .i64 (k:Nat),.slice s N r,.slice u L t,.int .i64 (H:Nat),.tuple #[.slice (some ⟨c,0,none⟩) N N,.int .i64 d,.int .i64 e,.int .i64 0],.slice (some ⟨c,0,none⟩) N N,.int .i64 d,.int .i64 e,.int .i64 0,U,U,U,U,U,U,U,U,U,U,U,U,U,U,U,U,U,U,U,U,U,U,U,U,U,U,U,U,U,U,U,U,U,U,U,U,U,U,U,U,U,U,U,U,U,U,U,U,U,U,U,U,U,U,U,U,U,U,U,U,U,U,U,U,U,U,U,U,U,U,U,U,U,U,U,U,U,U,U,U,U,U,U,U,U,U,U,U,U,U,U,U,U,U,U,U],[]⟩∧∀g,f (b g)
def Wm(D:FD)(v:Option Addr)(n q k:Nat)(s:Option Addr)(N r:Nat)(u:Option Addr)(L t H:Nat)(m:Value->Prop)(b:List Frame)(o:Frame):Prop:=
 ∀(c:Nat) (d e:Int) (f:(Nat->Prop)->Goroutine->World->Prop) (g:Nat) (h:Nat->Option Obj) (a:Nat->Prop) (i:World),Kp g h (λ_=>none) a i->
  (∀j l,Kp g h (λ_=>none) a j->RN D v n q k s N r u L t H c d e m l->Wk prog f a (G ((base 3).at l [.code (oR f3 6)]) b) j)->
  Wk prog f a (G (o.finish (.tuple #[.slice (some ⟨c,0,none⟩) N N,.int .i64 d,.int .i64 e,.int .i64 0])) b) i
theorem Tc{p:(Nat->Prop)->Goroutine->World->Prop}{g:Nat->Option Obj}{f:Nat->Prop}{w:Value->Prop}{x:List Frame}(b:Kp c g (λ_=>none) f d)(F:Uk D v n q (k:Nat) s N r u L t (H:Nat) 0 a)(z:∀A,A∈a.tmps->w A)(i:∀A B,Kp c g (λ_=>none) f B->Wm D v n q k s N r u L t H w x A->Wk prog p f (G (Frame.enter prog 9 #[.int .i64 (D.q:Nat),.slice v n q,.int .i64 (k:Nat),.slice s N r,.slice u L t,.int .i64 (H:Nat)] .normal) (A::x)) B):Wk prog p f (G ((base 3).at a [.code (oR f3 5)]) x) d:=by
 have e:∀ {f:Nat->Prop} {g h:Nat->Option Obj} {d j:World},Kp c g h f d->dW dU (BV h) f d j->Kp c g h f j:=λb l=>b.rely l
 obtain⟨C,rfl,E⟩:=F.fn;have I:Hid (∀x,w (C x)):=λx=>z _ (E x)
 clear E z;have⟨rest,w⟩:=eaa (oR f3 6);rw[Ml, <-w];have x:Hid (rest=oR f3 6):=w;clear w;simp only[Vv,oR,f3];refine fL (n:=100) b ?_;refine aH (n:=30) (m:=70) ?_;repeat(first|u_c XJ e b|u_c XL e b|u_reg e b|u_cnd true e b|u_cnd false e b|u_c XN e b|u_op e b|u_skip e b)
 refine XO (λJ m=>?_);replace b:=e b m;clear m;refine gT (n:=69) (f:=9) (vs:= #[.int .i64 (D.q:Nat),.slice v n q,.int .i64 (k:Nat),.slice s N r,.slice u L t,.int .i64 (H:Nat)]) X X x5 X func9 wq wq Xf ?_;refine HG.stop (λy o=>?_);replace b:=e b o;clear o;refine i _ y b ?_;clear b i e;intro w z A p c g f d b i;rw[<-x.out]at i;have e:∀ {f:Nat->Prop} {g h:Nat->Option Obj} {d j:World},Kp c g h f d->dW dU (BV h) f d j->Kp c g h f j:=λb l=>b.rely l
 rw[XW];walk_nrm;refine fL (n:=100) b ?_;refine aH (n:=60) (m:=40) ?_;repeat(first|u_c XJ e b|u_c XL e b|u_reg e b|u_cnd true e b|u_cnd false e b|u_c XN e b|u_op e b|u_skip e b)
 refine XO (λJ m=>?_);replace b:=e b m;clear m;refine HG.stop (λy o=>?_);replace b:=e b o;clear o;refine i y _ b ⟨C,X,I.out⟩
