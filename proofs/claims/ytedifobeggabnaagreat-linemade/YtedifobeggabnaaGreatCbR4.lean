/- Texts of ours, one behind the other: R4. -/
import Derived.Test.YtedifobeggabnaaGreatCbM5
import Derived.StillTailTactics
namespace Go.Proofs.YtedifobeggabnaaGreat
open Tryz
open Go.RowKit
variable {b e g o j l d i p:Nat}{c f:World}{a:FD}{m:Value}{n:Nat->Nat}
theorem pz(a b c:Nat):∀k,horner a (λj=>jo b j) c k=pU a b c k
 |0=>rfl
 |k+1=>by rw[horner,pU,pz a b c k]
def Poly(c a:Nat)(d:Nat)(e:World):Prop:=∃b,bD c a 3 b e∧∀j,j<a->b j=.int .i64 (jo d j:Nat)
theorem Poly.cell(d:Poly b e g c)(j:Nat)(a:j<e):c.cell? ⟨b,j,none⟩=some (.int .i64 (jo g j:Nat)):=by
 obtain⟨i,f,h⟩:=d;rw[f.cell j a,h j a]
theorem Poly.free(a:Poly b e g c)(j:Nat):c.frozen? ⟨b,j,none⟩=false:=by
 obtain⟨f,d,h⟩:=a;exact d.free j
theorem Poly.store(h:Poly b e g c)(a d:Nat)(i:d<64):Poly b e (uQ g a d) (c.setCell ⟨b,a,none⟩ (.int .i64 (d:Nat))):=by
 obtain⟨n,k,l⟩:=h;refine⟨_,k.store a _,λj m=>?_⟩;rw[IZ g a d j i];by_cases f:j=a
 ·subst f;rw[mH,ai X]
 ·rw[upd_ne _ _ _ f,af f];exact l j m
theorem Poly.drew(a:Poly b e g c):Poly b e g c.drew:=by
 obtain⟨d,f,h⟩:=a;exact⟨d,f.drew,h⟩
def qD(a b:Nat)(d:Nat->Nat)(c:World):Prop:=∀j,j<b->c.cell? ⟨a,j,none⟩=some (.int .i64 (d j:Nat))
theorem qD.other{d:Nat->Nat}(a:qD b e d c)(g:f.heap[b]?=c.heap[b]?):qD b e d f:=
 λj h=>(Ya (a:=⟨b,j,none⟩) g).trans (a j h)
theorem qD.below{a b B:Nat}{d:Nat->Nat}(e:qD a b d c)(g:Below B c f)(h:a<B):qD a b d f:=
 e.other (g.block a h)
structure mj(D:FD)(gen:Nat)(v:Value)(gm:Nat)(md:Nat->Nat)(a b gx gy gl B:Nat)(w:World)(N:Nat)(wr:World):Prop where
 yE:Poly gl (2*D.m) N wr
 nx:qD gx D.m (rV D.p a) wr
 ny:qD gy D.m (rV D.p b) wr
 nm:qD gm D.m md wr
 box:gN B D gen v wr
 vR:Below B w wr
theorem mj.step(h:mj a b m e n g o j l d i c p f)(t:j<d)(u:l<d)(v:e<d)(w:i<d)(q r:Nat)(x:r<64):mj a b m e n g o j l d i c (uQ p q r) (f.setCell ⟨d,q,none⟩ (.int .i64 (r:Nat))):=
 have s:∀k,k<d->(f.setCell ⟨d,q,none⟩ (.int .i64 (r:Nat))).heap[k]?=f.heap[k]?:=λk y=>XR f ⟨d,q,none⟩ _ k (by show k≠d;omega)
 ⟨h.yE.store q r x,h.nx.other (s _ t),h.ny.other (s _ u),h.nm.other (s _ v),h.box.other (s _ w),h.vR.setCell (by show i<=d;omega) _⟩
theorem mj.drew(h:mj a b m e n g o j l d i c p f):mj a b m e n g o j l d i c p f.drew:=
 ⟨h.yE.drew,h.nx.other X,h.ny.other X,h.nm.other X,h.box.other X,h.vR.drew⟩
theorem aO(a:Below b c f)(d:Nat):Below b c (f.drewN d):=⟨a.os,a.tape,a.output,a.size,a.block⟩
theorem eP{a:Int}(c:a=(b:Int))(d:b<=9223372036854775807):IntKind.i64.wrap a=(b:Int):=by
 rw[IntWalk.i64_left,c];exact uC b d
set_option maxHeartbeats 8000000 in
set_option maxRecDepth 100000 in
theorem J9(hm:2<=a.m)(bm:a.m<=6)(hp:2<=a.p)(P:a.p<=64)(gen p Q cm:Nat)(k:Nat->Nat)(d f:Nat)(c:World)(ha:d<64)(hb:f<64)(h1:a.has d=true)(h2:a.has f=true)(b6:a.m<Q)(bn:p<c.heap.size)(a4:∀j,k j<a.p)(hN:qD p a.m k c):Calls prog 34 #[rf a.q a.p a.m gen (.slice (some ⟨p,0,none⟩) Q cm),.int .i64 d,.int .i64 f] c λm w'=>m=.returned (.int .i64 (pU a.p (tP a.p a.m k (og a.p a.m d f a.m) a.m) a.m a.m:Nat))∧Below c.heap.size c w':=by
 have b6:((a.m:Int)==1)=false:=Xp;have bo:Hid (∀j,k j<a.p):=a4;have HN:Hid (qD p a.m k c):=hN;clear a4 hN;unfold rf;go_enter func34,ntmps34;obtain⟨n,hv⟩:∃n:Value,n=.slice (some ⟨p,0,none⟩) Q cm:=⟨_,X⟩;rw[<-hv];have bp:Hid (n=.slice (some ⟨p,0,none⟩) Q cm):=hv;clear hv;go_wp2_with fail;refine(dp a gen n d _).mono ?_;rintro m w1 ⟨rfl,V⟩;have ab:Hid (gN c.heap.size a gen n w1∧Below c.heap.size c w1):=⟨(eL a gen n c).below V oi,((XK _ _).alloc (aa _) _).trans (V.mono oi)⟩;have bs:c.heap.size<w1.heap.size:=by have:=V.size;simp at this;omega
 obtain⟨u,v,w,x,q⟩:=ab.out.1;clear V;go_wp2_with fail;refine(dp a gen n f _).mono ?_;rintro m w2 ⟨rfl,W⟩;have ad:Hid (gN c.heap.size a gen n w2∧Below c.heap.size c w2):=⟨ab.out.1.below W bs,ab.out.2.trans (W.mono E)⟩;have bw:c.heap.size<w2.heap.size:=by have:=W.size;omega
 clear u v w x q W;obtain⟨u,v,w,x,q⟩:=ad.out.1;go_wp2_with fail;refine(kE d a.p a.m _ E E P E).mono ?_;rintro m O ⟨vx,rfl,a5,Y⟩;have ao:Hid (gN c.heap.size a gen n O∧Below c.heap.size c O):=⟨ad.out.1.below Y bw,ad.out.2.trans (Y.mono E)⟩;have bx:c.heap.size<O.heap.size:=by have:=Y.size;omega
 obtain⟨y,cx,fx,rfl,b7,bz,b8,ca,a6,a7⟩:=a5.row a.m (g8 _ _ _) E;have bA:Hid (qD y a.m (rV a.p d) O):=λj G=>by rw[a6.cell j E,a7 j G,nG _ _ _ _ G];rfl
 clear u v w x q Y a5 a6 a7;obtain⟨u,v,w,x,q⟩:=ao.out.1;go_wp2_with fail;refine(kE f a.p a.m _ E E P E).mono ?_;rintro m C ⟨vy,rfl,a8,R⟩;have Z:Hid (gN c.heap.size a gen n C∧Below c.heap.size c C):=⟨ao.out.1.below R bx,ao.out.2.trans (R.mono E)⟩;have bB:O.heap.size<=C.heap.size:=R.size;obtain⟨D,cy,fy,rfl,cb,S,cc,cf,a9,ba⟩:=a8.row a.m (g8 _ _ _) E;have ar:Hid (qD y a.m (rV a.p d) C∧qD D a.m (rV a.p f) C∧qD p a.m k C):=⟨bA.out.below R bz,λj G=>by rw[a9.cell j E,ba j G,nG _ _ _ _ G];rfl,HN.out.below Z.out.2 bn⟩;clear u v w x q R a8 a9 ba;obtain⟨u,v,w,x,q⟩:=Z.out.1;go_wp2_with (at_make;refine iS X _ _ X _ (2*a.m) X X E E ?_;intro w5 bb bc);obtain⟨r,O,fl,bd,bE,bM,bN,bO,bg,bk⟩:=bb.row (2*a.m) oi E;simp only[Value.slice.injEq,bt,Addr.mk.injEq,jy,j7]at bd;obtain⟨rfl,rfl⟩:=bd;have O:Below C.heap.size C w5:=cH bc (aa _) (λb hk=>by simp at hk)
 have HS:Hid (mj a gen n p k d f y D C.heap.size c.heap.size c 0 w5):=
  ⟨⟨fl,bg,λj G=>by rw[bk j G,jq,I0];rfl⟩,ar.out.1.below O E,ar.out.2.1.below O S,ar.out.2.2.below O E,Z.out.1.below O E,Z.out.2.trans (O.mono E)⟩
 have⟨r,R⟩:=eaa (C.heap.size);rw[<-R]at HS ⊢ bM S;have av:y<r:=E;have ax:p<r:=E;have a0:c.heap.size<r:=E;clear u v w x q O bb bc bg bk bE R bB bN bO;go_loopw [10] (λe wr=>∃b F:Nat,b<=a.m∧e=.int .i64 b∧Hid (F=og a.p a.m d f b)∧mj a gen n p k d f y D r c.heap.size c F wr) (λe _=>a.m-(intOf e).toNat)
 case atStart=>exact⟨0,0,E,X,X,HS.out⟩
 case round=>
  obtain⟨e,F,hi,rfl,HI,A⟩:=hrel;have g:Hid (mj a gen n p k d f y D r c.heap.size c F wr):=A;clear A;obtain⟨u,v,w,x,q⟩:=g.out.box;by_cases bQ:e<a.m
  ·go_wp2;go_loopw [11] (λb wr=>∃j l:Nat,j<=a.m∧b=.int .i64 j∧Hid (l=Ar a.p d f e F j)∧mj a gen n p k d f y D r c.heap.size c l wr) (λb _=>a.m-(intOf b).toNat)
   case atStart=>exact⟨0,F,E,X,X,g.out⟩
   case round=>
    clear u v w x q;obtain⟨b,l,hk,rfl,M,A⟩:=hrel;have g:Hid (mj a gen n p k d f y D r c.heap.size c l wr):=A;clear A;obtain⟨u,v,w,x,q⟩:=g.out.box;by_cases a1:b<a.m
    ·have x1:=g.out.nx e bQ;have x2:=g.out.ny b a1;have x3:=g.out.yE.cell (e+b) E;have x4:=g.out.yE.free (e+b);have y1:rV a.p d e<a.p:=bZ _ E;have y2:rV a.p f b<a.p:=bZ _ E;have y3:=rZ l (e+b);have y4:rV a.p d e*rV a.p f b<=64*64:=cT E E;have y5:((rV a.p d e:Nat):Int)*((rV a.p f b:Nat):Int)<=4096:=Xq;have y6:0<=((rV a.p d e:Nat):Int)*((rV a.p f b:Nat):Int):=Xq;go_wp2;obtain⟨o,I⟩:∃o:Nat,o=e+b:=⟨_,X⟩;obtain⟨z,K⟩:∃z:Nat,z=rV a.p d e*rV a.p f b:=⟨_,X⟩;obtain⟨B,T⟩:∃B:Nat,B=jo l o+z:=⟨_,X⟩;obtain⟨s,J⟩:∃s:Nat,s=B % a.p:=⟨_,X⟩;rw[<-I]at x3 x4 y3;have bS:IntKind.i64.wrap ((e:Int)+(b:Int))=(o:Int):=eP E E;have bY:IntKind.i64.wrap (((rV a.p d e:Nat):Int)*((rV a.p f b:Nat):Int))=(z:Int):=eP (by rw[K,bW]) E;have b0:IntKind.i64.wrap (((jo l o:Nat):Int)+(z:Int))=(B:Int):=eP E E;have b1:((B:Nat):Int).tmod (a.p:Int)=(s:Int):=by rw[J];rfl
     have b2:(o:Int)<2*(a.m:Int):=E;have C:(e:Int)<(a.m:Int):=E;have b3:(b:Int)<(a.m:Int):=E;have a2:s<64:=by rw[J];exact aj (bZ _ E) P
     have b4:¬a.p=0:=E;have U:Hid (o=e+b∧s=(jo l (e+b)+rV a.p d e*rV a.p f b) % a.p):=⟨I,by rw[J,T,K,I]⟩;clear I K T J y4 y5 y6
     go_still_tail 24,wL
     go_wp2;go_roundw
     case rel=>exact⟨b+1,uQ l o s,E,x9,by rw[M.out,U.out.2,U.out.1,M.out];rfl,(g.out.step av S ax a0 o s a2).drew⟩
     case measure=>simp[intOf];omega
    ·have m:b=a.m:=by omega
     have N:Hid (l=og a.p a.m d f (e+1)):=by show _=_;rw[M.out,m,HI.out];rfl
     clear m;go_wp2;go_roundw
     case rel=>exact⟨e+1,l,E,x9,N.out,g.out⟩
     case measure=>simp[intOf];omega
  ·have m:e=a.m:=by omega
   have N:Hid (F=og a.p a.m d f a.m):=by show _=_;rw[HI.out,m]
   clear m HI;go_wp2;go_loopw [12] (λe wr=>∃j l:Nat,j<=a.m∧e=.int .i64 ((2*a.m-1-j:Nat):Int)∧Hid (l=tP a.p a.m k F j)∧mj a gen n p k d f y D r c.heap.size c l wr) (λe _=>(intOf e).toNat)
   case atStart=>exact⟨0,F,E,x9,X,g.out⟩
   case round=>
    clear u v w x q g;obtain⟨j,l,G,rfl,HJ,A⟩:=hrel;have g:Hid (mj a gen n p k d f y D r c.heap.size c l wr):=A;clear A;obtain⟨u,v,w,x,q⟩:=g.out.box;obtain⟨i,ht⟩:∃i:Nat,i=2*a.m-1-j:=⟨_,X⟩;rw[<-ht];by_cases e:j<a.m
    ·have e:a.m<=i:=by omega
     have bl:i<2*a.m:=E;have HT:Hid (i=2*a.m-1-j):=ht;clear ht;go_wp2;go_loopw [13] (λb wr=>∃a3 t:Nat,a3<=a.m∧b=.int .i64 a3∧Hid (t=Dz a.p a.m k i l a3)∧mj a gen n p k d f y D r c.heap.size c t wr) (λb _=>a.m-(intOf b).toNat)
     case atStart=>exact⟨0,l,E,X,X,g.out⟩
     case round=>
      clear u v w x q g;obtain⟨b,t,hk,rfl,M,A⟩:=hrel;have g:Hid (mj a gen n p k d f y D r c.heap.size c t wr):=A;clear A;obtain⟨u,v,w,x,q⟩:=g.out.box;by_cases a1:b<a.m
      ·have x1:=g.out.nm b a1;have x2:=g.out.yE.cell i bl;have x3:=g.out.yE.cell (i-a.m+b) E;have x4:=g.out.yE.free (i-a.m+b);have y1:=bo.out b;have y2:=rZ t i;have y3:=rZ t (i-a.m+b);have c:=q;rw[bp.out]at c;clear q;go_wp2;obtain⟨e,p⟩:∃e:Nat,e=i-a.m:=⟨_,X⟩;obtain⟨o,I⟩:∃o:Nat,o=i-a.m+b:=⟨_,X⟩;obtain⟨c,n⟩:∃c:Nat,c=a.p-k b:=⟨_,X⟩;obtain⟨z,K⟩:∃z:Nat,z=jo t i*c:=⟨_,X⟩;obtain⟨B,T⟩:∃B:Nat,B=jo t o+z:=⟨_,X⟩;obtain⟨s,J⟩:∃s:Nat,s=B % a.p:=⟨_,X⟩;rw[<-I]at x3 x4 y3;have q:z<=64*64:=by rw[K];exact cT E E
       have a2:s<64:=by rw[J];exact aj (bZ _ E) P
       have u:IntKind.i64.wrap ((i:Int)-(a.m:Int))=(e:Int):=eP E E;have bS:IntKind.i64.wrap ((e:Int)+(b:Int))=(o:Int):=eP E E;have e:IntKind.i64.wrap ((a.p:Int)-((k b:Nat):Int))=(c:Int):=eP E E;have bY:IntKind.i64.wrap (((jo t i:Nat):Int)*(c:Int))=(z:Int):=eP (by rw[K,bW]) E;have b0:IntKind.i64.wrap (((jo t o:Nat):Int)+(z:Int))=(B:Int):=eP E E;have b1:((B:Nat):Int).tmod (a.p:Int)=(s:Int):=by rw[J];rfl
       have b2:(o:Int)<2*(a.m:Int):=E;have c:(i:Int)<2*(a.m:Int):=E;have b3:(b:Int)<(Q:Int):=E;have b4:¬a.p=0:=E;have U:Hid (o=i-a.m+b∧s=(jo t (i-a.m+b)+jo t i*(a.p-k b)) % a.p):=⟨I,by rw[J,T,K,n,I]⟩;clear I K T J n p q
       go_still_tail 34,wL
       go_wp2;go_roundw
       case rel=>exact⟨b+1,uQ t o s,E,x9,by rw[M.out,U.out.2,U.out.1,M.out];rfl,(g.out.step av S ax a0 o s a2).drew⟩
       case measure=>simp[intOf];omega
      ·have m:b=a.m:=by omega
       have N:Hid (uQ t i 0=tP a.p a.m k F (j+1)):=by show _=_;rw[M.out,m,HJ.out,HT.out];rfl
       have x2:=g.out.yE.cell i bl;have x4:=g.out.yE.free i;clear m;go_wp2;go_roundw
       case rel=>exact⟨j+1,uQ t i 0,E,by rw[HT.out];go_num,N.out,g.out.step av S ax a0 i 0 E⟩
       case measure=>simp[intOf];omega
    ·have m:j=a.m:=by omega
     have b:i<a.m:=E;have N:Hid (l=tP a.p a.m k (og a.p a.m d f a.m) a.m):=by show _=_;rw[HJ.out,m,N.out]
     have HC:Hid (∀b,Calls prog 58 #[.slice (some ⟨r,0,none⟩) a.m (2*a.m),.int .i64 a.p] (wr.drewN b) λm w'=>m=.returned (.int .i64 (pU a.p l a.m a.m:Nat))∧w'=wr.drewN b):=by
      intro b;rw[<-pz];exact xm r (2*a.m) a.p a.m (λj=>jo l j) (wr.drewN b) P bm (λj=>rZ _ _) (λj G=>g.out.yE.cell j E)
     clear ht m;go_wp2
     go_quiet ((go_at_call 58;exact YR (HC.out _)))
     go_wp2;go_ret;exact⟨aY (by rw[N.out]),aO g.out.vR _⟩
