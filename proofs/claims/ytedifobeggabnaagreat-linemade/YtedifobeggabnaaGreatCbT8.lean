/- Texts of ours, one behind the other: T8 T3 X1 X2 X3 X4 X5 X6 X7 X8 X9 X10 X11 S3 X12 X13 X14 X15 X16 S4 T9 X17 X18 S5 T10 X19 X20 S6 O2 O3 L11 L12 L13 L14 U23 H1 H2 H3 H4 K4 S8 Y1 Y2 Y3 S9 Y4. -/
import Derived.Test.YtedifobeggabnaaGreatCbL10
import Derived.Shelf.Abstract
namespace Go.Proofs.YtedifobeggabnaaGreat
set_option maxHeartbeats 8000000
set_option maxRecDepth 100000
open Tryz
variable {e f l m n u e4 fy ga gd gb:Nat}{b w A e5 e6:World}{q z v y F G K M N O P Q R S T U V W Y Z ab ad ao ar av ax a0 a1 a2 a3 a4 a5 a6 a7 a8 a9 ba bb bc bd bg bk bl bm bn bo bp bs bw bx bz bA bB bE bM bN bO bQ bS bY b0 b1 b2 b3 b4 b6 b7 b8 ca cb cc cf cl cm cp cq cr cw cx cy cz cA cB cM cO cP cR c0 c1 c5 c6 c7 c8 c9 dc dd dg dq dr ds dB ea eb ec ed ee ef eg ei ej eo ep er et ev ew ey ez eA eB eC eD eE eM eN eO eQ eR eS eT eW eZ e8 e9 fc fe fl fo fr fs fu fv fw fx e0 e1:Value}{e2:Code}{g p x:Nat->Nat}{e3:Exit->Act->World->Prop}{a:FD}{k C:Nat->Nat->Nat}{o B:Option Addr}{s:Nat->Value}{t:Nat->Int}{e7:Nat->Option Addr}{D:Nat->Nat->Int}
theorem Xk{a:Prop}(b:a:=by rw[YB _ _ _ _ _ (0,0) (dR _)];rfl):a:=b
theorem Xn{a:Prop}(b:a:=by first|(simp[bq];done)|(simp[bq];omega)):a:=b
section
open Go.RowKit Go.Sort
theorem NM{a:Nat->Nat}{k:Exit->Act->World->Prop}(r:e2=((f59.body.bind (fU 28)).getD .skip))(l:lu none 0 (λj=>((a j:Nat):Int)) b)(m:∀(s t u w x A B C D E I J g:Value) (d:World),aV b.heap.size g (zl (0+1) (ins 0 ((e:Nat):Int) (λj=>((a j:Nat):Int)))) d->Below b.heap.size b d->k .normal ⟨#[q,z,v,y,F,G,K,g,M,N,O,.int .i64 (e:Nat),P,Q,R,.int .i64 (0:Nat),S,T,U,V,W,Y,Z,ab,ad,ao,ar,av,ax,a0,a1,a2,a3,a4,a5,a6,a7,a8,a9,ba,bb,bc,bd,bg,bk,bl,bm,bn,bo,bp,bs,bw,bx,bz,bA,bB,bE,bM,bN,bO,bQ,bS,bY,b0,b1,b2,b3,b4,b6,b7,b8,ca,cb,cc,cf,cl,cm,cp,cq,cr,cw,cx,cy,cz,cA,cB,cM,cO,cP,cR,c0,c1,c5,c6,c7,c8,c9,dc,dd,dg,dq,dr,ds,dB,ea,eb,ec,ed,ee,ef,eg,ei,ej,eo,ep,er,et,ev,ew,ey,ez,eA,eB,eC,eD,eE,eM,eN,eO,eQ,eR,eS,eT,eW,eZ,s,t,u,w,x,A,B,C,D,E,I,J,e0,e1],[]⟩ d):e2.wp prog k ⟨#[q,z,v,y,F,G,K,.slice none 0 0,M,N,O,.int .i64 (e:Nat),P,Q,R,.int .i64 (0:Nat),S,T,U,V,W,Y,Z,ab,ad,ao,ar,av,ax,a0,a1,a2,a3,a4,a5,a6,a7,a8,a9,ba,bb,bc,bd,bg,bk,bl,bm,bn,bo,bp,bs,bw,bx,bz,bA,bB,bE,bM,bN,bO,bQ,bS,bY,b0,b1,b2,b3,b4,b6,b7,b8,ca,cb,cc,cf,cl,cm,cp,cq,cr,cw,cx,cy,cz,cA,cB,cM,cO,cP,cR,c0,c1,c5,c6,c7,c8,c9,dc,dd,dg,dq,dr,ds,dB,ea,eb,ec,ed,ee,ef,eg,ei,ej,eo,ep,er,et,ev,ew,ey,ez,eA,eB,eC,eD,eE,eM,eN,eO,eQ,eR,eS,eT,eW,eZ,e8,e9,fc,fe,fl,fo,fr,fs,fu,fv,fw,fx,e0,e1],[]⟩ b:=by
 have n:Hid (lu none 0 (λj=>((a j:Nat):Int)) b):=l;have X:Hid _:=m;clear l m;subst r
 conv=>arg 2;whnf
 refine XU ?_
 go_region_held3 (λw'=>True) (trivial)
   (first
     |(show(if Region.wanted (Oper.mk (some 139) _ _ _ _ _) _=true then _ else _);refine cQ x8 _ _ x8 b.heap.size (.slice (some ⟨b.heap.size,0,none⟩) 0 0) [] x8 (by first|exact km b.drew (aa _)|exact lH b.drew _ (aa _)|exact lI b.drew _ (aa _)|exact km b (aa _)|exact lH b _ (aa _)|exact lI b _ (aa _)) none 0 0 (λj=>((a j:Nat):Int)) x8 (jX (n.out.less (aa _)) cd) (λc=>by first|rfl|cases c) B1 B1 b cd (aa _) ?_;intro v1 wI i o f)
     |(show(if Region.wanted (Oper.mk (some 139) _ _ _ _ _) _=true then _ else _);refine cQ x8 _ _ x8 b.heap.size (.slice (some ⟨b.heap.size+1,0,none⟩) 0 0) [] x8 (by first|exact km b.drew (aa _)|exact lH b.drew _ (aa _)|exact lI b.drew _ (aa _)|exact km b (aa _)|exact lH b _ (aa _)|exact lI b _ (aa _)) none 0 0 (λj=>((a j:Nat):Int)) x8 (jX (n.out.less (aa _)) cd) (λc=>by first|rfl|cases c) B1 B1 b cd (aa _) ?_;intro v1 wI i o f)
     |(show(if Region.wanted (Oper.mk (some 142) _ _ _ _ _) _=true then _ else _);refine cQ x8 _ _ x8 b.heap.size _ _ x8 (by first|exact i|exact i.alloc _) _ _ _ (λ_=>((e:Nat):Int)) x8 (lu.one (by first|(simp;done)|exact o.cell oi Xj)) (λc=>by cases c) Xn (by have:=f.size;first|omega|(simp;omega)) b (by first|exact f|exact f.alloc f.size _) (aa _) ?_;intro v2 wJ e3 e6 p)
     |(show(if Region.wanted (Oper.mk (some 146) _ _ _ _ _) _=true then _ else _);refine cQ x8 _ _ x8 b.heap.size _ _ x8 e3 _ _ _ (λj=>((a j:Nat):Int)) x8 (λj hj=>absurd hj oi) (λc=>by first|rfl|cases c) Xn p.size b p (aa _) ?_;intro g d e4 e7 e5)
     |fail)
 all_goals
   refine XY (X.out _ _ _ _ _ _ _ _ _ _ _ _ g d ?_ e5);rw[Gr 0 0 (aa _) ((e:Nat):Int) (λj=>((a j:Nat):Int))];simpa [zl]using e4
theorem J6(s:e2=((f59.body.bind (fU 28)).getD .skip))(n:l<=1000)(t:(0:Int)<=(l:Int))(m:lu (some ⟨f,0,none⟩) l (λj=>((g j:Nat):Int)) b)(n:∀(t u w x A B C D E I J X i:Value) (c:World),aV b.heap.size i (zl (l+1) (ins l ((e:Nat):Int) (λj=>((g j:Nat):Int)))) c->Below b.heap.size b c->e3 .normal ⟨#[q,z,v,y,F,G,K,i,M,N,O,.int .i64 (e:Nat),P,Q,R,.int .i64 (l:Nat),S,T,U,V,W,Y,Z,ab,ad,ao,ar,av,ax,a0,a1,a2,a3,a4,a5,a6,a7,a8,a9,ba,bb,bc,bd,bg,bk,bl,bm,bn,bo,bp,bs,bw,bx,bz,bA,bB,bE,bM,bN,bO,bQ,bS,bY,b0,b1,b2,b3,b4,b6,b7,b8,ca,cb,cc,cf,cl,cm,cp,cq,cr,cw,cx,cy,cz,cA,cB,cM,cO,cP,cR,c0,c1,c5,c6,c7,c8,c9,dc,dd,dg,dq,dr,ds,dB,ea,eb,ec,ed,ee,ef,eg,ei,ej,eo,ep,er,et,ev,ew,ey,ez,eA,eB,eC,eD,eE,eM,eN,eO,eQ,eR,eS,eT,eW,eZ,t,u,w,x,A,B,C,D,E,I,J,X,e0,e1],[]⟩ c):e2.wp prog e3 ⟨#[q,z,v,y,F,G,K,.slice (some ⟨f,0,none⟩) l l,M,N,O,.int .i64 (e:Nat),P,Q,R,.int .i64 (l:Nat),S,T,U,V,W,Y,Z,ab,ad,ao,ar,av,ax,a0,a1,a2,a3,a4,a5,a6,a7,a8,a9,ba,bb,bc,bd,bg,bk,bl,bm,bn,bo,bp,bs,bw,bx,bz,bA,bB,bE,bM,bN,bO,bQ,bS,bY,b0,b1,b2,b3,b4,b6,b7,b8,ca,cb,cc,cf,cl,cm,cp,cq,cr,cw,cx,cy,cz,cA,cB,cM,cO,cP,cR,c0,c1,c5,c6,c7,c8,c9,dc,dd,dg,dq,dr,ds,dB,ea,eb,ec,ed,ee,ef,eg,ei,ej,eo,ep,er,et,ev,ew,ey,ez,eA,eB,eC,eD,eE,eM,eN,eO,eQ,eR,eS,eT,eW,eZ,e8,e9,fc,fe,fl,fo,fr,fs,fu,fv,fw,fx,e0,e1],[]⟩ b:=by
 have o:Hid (lu (some ⟨f,0,none⟩) l (λj=>((g j:Nat):Int)) b):=m;have HQ:Hid _:=n;clear m n;subst s
 conv=>arg 2;whnf
 refine XU ?_
 go_region_held3 (λw'=>True) (trivial)
  (first
   |(show(if Region.wanted (Oper.mk (some 139) _ _ _ _ _) _=true then _ else _);refine cQ x8 _ _ x8 b.heap.size (.slice (some ⟨b.heap.size,0,none⟩) 0 0) [] x8 (by first|exact km b.drew (aa _)|exact lH b.drew _ (aa _)|exact lI b.drew _ (aa _)|exact km b (aa _)|exact lH b _ (aa _)|exact lI b _ (aa _)) (some ⟨f,0,none⟩) l l (λj=>((g j:Nat):Int)) x8 (jX (o.out.less (aa _)) cd) (λa=>by first|rfl|cases a) B1 B1 b cd (aa _) ?_;intro v1 wI k p d)
   |(show(if Region.wanted (Oper.mk (some 139) _ _ _ _ _) _=true then _ else _);refine cQ x8 _ _ x8 b.heap.size (.slice (some ⟨b.heap.size+1,0,none⟩) 0 0) [] x8 (by first|exact km b.drew (aa _)|exact lH b.drew _ (aa _)|exact lI b.drew _ (aa _)|exact km b (aa _)|exact lH b _ (aa _)|exact lI b _ (aa _)) (some ⟨f,0,none⟩) l l (λj=>((g j:Nat):Int)) x8 (jX (o.out.less (aa _)) cd) (λa=>by first|rfl|cases a) B1 B1 b cd (aa _) ?_;intro v1 wI k p d)
   |(show(if Region.wanted (Oper.mk (some 142) _ _ _ _ _) _=true then _ else _);refine cQ x8 _ _ x8 b.heap.size _ _ x8 (by first|exact k|exact k.alloc _) _ _ _ (λ_=>((e:Nat):Int)) x8 (lu.one (by first|(simp;done)|exact p.cell oi Xj)) (λa=>by cases a) Xn (by have:=d.size;first|omega|(simp;omega)) b (by first|exact d|exact d.alloc d.size _) (aa _) ?_;intro v2 wJ e4 e7 r)
   |(show(if Region.wanted (Oper.mk (some 146) _ _ _ _ _) _=true then _ else _);refine cQ x8 _ _ x8 b.heap.size _ _ x8 e4 _ _ _ (λj=>((g j:Nat):Int)) x8 (λj hj=>absurd hj oi) (λa=>by first|rfl|cases a) Xn r.size b r (aa _) ?_;intro i c e5 fy e6)
   |fail)
 all_goals
  refine XY (HQ.out _ _ _ _ _ _ _ _ _ _ _ _ i c ?_ e6);rw[Gr l l (aa _) ((e:Nat):Int) (λj=>((g j:Nat):Int))];simpa [zl]using e5
theorem NL(w:e2=((f59.body.bind (fU 28)).getD .skip))(i:n<=m)(t:(0:Int)<=(n:Int))(x:(n:Int)<=(m:Int))(A:(n:Int)<=(l:Int))(B:¬l=n)(C:m<=1000)(s:lu (some ⟨f,0,none⟩) m (λj=>((g j:Nat):Int)) b)(t:∀(x A B C D E I J X e4 e5 e6 k:Value) (c:World),aV b.heap.size k (zl (m+1) (ins n ((e:Nat):Int) (λj=>((g j:Nat):Int)))) c->Below b.heap.size b c->e3 .normal ⟨#[q,z,v,y,F,G,K,k,M,N,O,.int .i64 (e:Nat),P,Q,R,.int .i64 (n:Nat),S,T,U,V,W,Y,Z,ab,ad,ao,ar,av,ax,a0,a1,a2,a3,a4,a5,a6,a7,a8,a9,ba,bb,bc,bd,bg,bk,bl,bm,bn,bo,bp,bs,bw,bx,bz,bA,bB,bE,bM,bN,bO,bQ,bS,bY,b0,b1,b2,b3,b4,b6,b7,b8,ca,cb,cc,cf,cl,cm,cp,cq,cr,cw,cx,cy,cz,cA,cB,cM,cO,cP,cR,c0,c1,c5,c6,c7,c8,c9,dc,dd,dg,dq,dr,ds,dB,ea,eb,ec,ed,ee,ef,eg,ei,ej,eo,ep,er,et,ev,ew,ey,ez,eA,eB,eC,eD,eE,eM,eN,eO,eQ,eR,eS,eT,eW,eZ,x,A,B,C,D,E,I,J,X,e4,e5,e6,e0,e1],[]⟩ c):e2.wp prog e3 ⟨#[q,z,v,y,F,G,K,.slice (some ⟨f,0,none⟩) m l,M,N,O,.int .i64 (e:Nat),P,Q,R,.int .i64 (n:Nat),S,T,U,V,W,Y,Z,ab,ad,ao,ar,av,ax,a0,a1,a2,a3,a4,a5,a6,a7,a8,a9,ba,bb,bc,bd,bg,bk,bl,bm,bn,bo,bp,bs,bw,bx,bz,bA,bB,bE,bM,bN,bO,bQ,bS,bY,b0,b1,b2,b3,b4,b6,b7,b8,ca,cb,cc,cf,cl,cm,cp,cq,cr,cw,cx,cy,cz,cA,cB,cM,cO,cP,cR,c0,c1,c5,c6,c7,c8,c9,dc,dd,dg,dq,dr,ds,dB,ea,eb,ec,ed,ee,ef,eg,ei,ej,eo,ep,er,et,ev,ew,ey,ez,eA,eB,eC,eD,eE,eM,eN,eO,eQ,eR,eS,eT,eW,eZ,e8,e9,fc,fe,fl,fo,fr,fs,fu,fv,fw,fx,e0,e1],[]⟩ b:=by
 have o:Hid (lu (some ⟨f,0,none⟩) m (λj=>((g j:Nat):Int)) b):=s;have HQ:Hid _:=t;clear s t;subst w
 conv=>arg 2;whnf
 refine XU ?_
 go_region_held3 (λw'=>True) (trivial)
  (first
   |(show(if Region.wanted (Oper.mk (some 139) _ _ _ _ _) _=true then _ else _);refine cQ x8 _ _ x8 b.heap.size (.slice (some ⟨b.heap.size,0,none⟩) 0 0) [] x8 (by first|exact km b.drew (aa _)|exact lH b.drew _ (aa _)|exact lI b.drew _ (aa _)|exact km b (aa _)|exact lH b _ (aa _)|exact lI b _ (aa _)) (some ⟨f,0,none⟩) n l (λj=>((g j:Nat):Int)) x8 (jX (o.out.less i) cd) (λa=>by first|rfl|cases a) B1 B1 b cd (aa _) ?_;intro v1 wI p u d)
   |(show(if Region.wanted (Oper.mk (some 139) _ _ _ _ _) _=true then _ else _);refine cQ x8 _ _ x8 b.heap.size (.slice (some ⟨b.heap.size+1,0,none⟩) 0 0) [] x8 (by first|exact km b.drew (aa _)|exact lH b.drew _ (aa _)|exact lI b.drew _ (aa _)|exact km b (aa _)|exact lH b _ (aa _)|exact lI b _ (aa _)) (some ⟨f,0,none⟩) n l (λj=>((g j:Nat):Int)) x8 (jX (o.out.less i) cd) (λa=>by first|rfl|cases a) B1 B1 b cd (aa _) ?_;intro v1 wI p u d)
   |(show(if Region.wanted (Oper.mk (some 142) _ _ _ _ _) _=true then _ else _);refine cQ x8 _ _ x8 b.heap.size _ _ x8 (by first|exact p|exact p.alloc _) _ _ _ (λ_=>((e:Nat):Int)) x8 (lu.one (by first|(simp;done)|exact u.cell oi Xj)) (λa=>by cases a) Xn (by have:=d.size;first|omega|(simp;omega)) b (by first|exact d|exact d.alloc d.size _) (aa _) ?_;intro v2 wJ e7 gb r)
   |(show(if Region.wanted (Oper.mk (some 146) _ _ _ _ _) _=true then _ else _);refine cQ x8 _ _ x8 b.heap.size _ _ x8 e7 (some ⟨f,n,none⟩) (m-n) (l-n) (λj=>((g (n+j):Nat):Int)) x8 (F4 (jX o.out r) i) (λa=>by first|rfl|cases a) Xn r.size b r (aa _) ?_;intro k c fy gd ga)
   |fail)
 all_goals
  refine XY (HQ.out _ _ _ _ _ _ _ _ _ _ _ _ k c ?_ ga);rw[Gr m n i ((e:Nat):Int) (λj=>((g j:Nat):Int))];exact fy
structure yT(D:FD)(gen:Nat)(vm:Value)(n:Nat)(M:Nat->Nat->Nat)(w:World)(i:Nat)(vr vp:Value)(wr:World)(k:Nat)(R:Nat->Nat->Nat)(p:Nat->Nat):Prop where
 rows:uH (w.heap.size+1) vr (rl k n R) wr
 Ur:aV (w.heap.size+1) vp (zl k λj=>((p j:Nat):Int)) wr
 OY:Eh D (n+1) k R p
 OZ:∀v,gZ D (cS k R) v↔gZ D (cS i M) v
 many:k=i∨∃j,j<i∧gZ D (cS j M) (M j)
 vR:Below w.heap.size w wr
 box:gN w.heap.size D gen vm wr
theorem J7(g:Below b.heap.size b w)(h:gN b.heap.size a e q w):yT a e q f k b 0 (.slice none 0 0) (.slice none 0 0) w 0 (λ_=>db) (λ_=>0):=
 ⟨uH.nil _ _,aV.nil _ _,⟨λc d=>E,λc d=>E,λc d=>E,λc j _ i=>E,λc d=>E,λc j d=>E,λc l d=>E⟩,λm=>by
  rw[tS (P:=cS 0 λ_=>db) (Q:=cS 0 k)];exact λi=>⟨λ⟨c,d,_⟩=>E,λ⟨c,d,_⟩=>E⟩,I X,g,h⟩
theorem rh(T:a∈ak)(U:∀j,j<=l->El a (k j))(D:yT a e q f k b l z v w m C g)(F:O8 a (f+1) m C g (k l) m p)(i:x=aP a e4 p)(d:a.mul (p u) e4=1)(V:∀c,c<u->p c=0)(W:∀j,j<n->g j<u)(X:∀j,n<=j->j<m->u<g j)(K:n<=m)(Y:u<f+1)(M:lp (b.heap.size+1) o m gd f (λl=>iu a (C l) x (C l u)) s A)(Z:kW (.slice (some ⟨fy,0,none⟩) (f+1) ga) (f,x) A)(N:Below b.heap.size b A)(h5:gN b.heap.size a e q A)(ab:b.heap.size<A.heap.size)(O:fE A.heap.size (.slice B (m+1) gb) (vl (m+1) (ins n (.slice (some ⟨fy,0,none⟩) (f+1) ga) s)) e5)(G:Below A.heap.size A e5)(ad:aV e5.heap.size y (zl (m+1) (ins n ((u:Nat):Int) (λj=>((g j:Nat):Int)))) e6)(P:Below e5.heap.size e5 e6):yT a e q f k b (l+1) (.slice B (m+1) gb) y e6 (m+1) (ins n x λl=>iu a (C l) x (C l u)) (ins n u g):=by
 have h:=dE T;have T:=N.size;have r:=al G P;have T:=G.size;have ao:El a x:=by rw[i];exact dw h _ _
 have e1:x u=1:=by rw[i];show a.mul e4 (p u)=1;rw[h.mul_comm];exact d
 have Q:∀c,p c=0->x c=0:=λc t=>by rw[i];show a.mul e4 (p c)=0;rw[t,gI h]
 have R:=QO h D.OY U D.OZ F (inv:=e4) (mU:=u) (t:=n) d K;rw[<-i]at R;obtain⟨_,_,S,ar,_⟩:=O.open;rw[cg]at S;cases S
 have S:lp (b.heap.size+1) B (m+1) gb f (ins n x λl=>iu a (C l) x (C l u)) (ins n (.slice (some ⟨fy,0,none⟩) (f+1) ga) s) e6:=by
  refine⟨(O.below P (aa _)).mono E,λj G=>?_,ar⟩;rcases cJ j n with d|d|d
  ·rw[gg d,gg d];exact(M.row j E).below r (aa _)
  ·rw[d,ir,ir];exact Z.below r (aa _)
  ·rw[gU d,gU d];exact(M.row (j-1) E).below r (aa _)
 refine⟨S.WV,?_,QS h D.OY ao ?_ Y e1 (λc t=>Q c (V c t)) (λj G=>Q _ (F.zero j G)) K W X,R,?_,al N r,h5.below r ab⟩
 ·rw[LZ];exact ad.mono E
 ·rw[i];exact λc t=>by show a.mul e4 (p c)=0;rw[F.bd c t,gI h]
 ·rcases D.many with c|⟨j,G,c⟩
  ·exact I E
  ·exact J ⟨j,E,c⟩
theorem ux(hD:a∈ak)(gen B C:Nat)(hm:e<=1000)(hn:f<=1000)(b6:∀c,c<e->El a (k c)∧Bd (f+1) (k c))(hA:vG o e f k b)(hM:eH a (.slice (some ⟨B,0,none⟩) (a.m+1) C) a.md b):Calls prog 59 #[.agg #[.int .i64 a.q,.int .i64 a.p,.int .i64 a.m,.int .i64 gen,.slice (some ⟨B,0,none⟩) (a.m+1) C],.slice o e l] b λu I=>∃vr vp A s m,u=.returned (.tuple #[vr,vp])∧A<=e∧uH b.heap.size vr (rl A f s) I∧aV b.heap.size vp (zl A λj=>((m j:Nat):Int)) I∧Eh a (f+1) A s m∧(∀K,gZ a (cS A s) K↔gZ a (cS e k) K)∧(A=e∨∃j,j<e∧gZ a (cS j k) (k j))∧Below b.heap.size b I:=by
 have b7:Below b.heap.size b (b.alloc (.cells #[.int .i64 a.q,.int .i64 a.p,.int .i64 a.m,.int .i64 gen,.slice (some ⟨B,0,none⟩) (a.m+1) C] 32)):=(XK _ _).alloc (aa _) _;have w:Hid (a∈ak∧(∀c,c<e->El a (k c)∧Bd (f+1) (k c))∧vG o e f k b∧eH a (.slice (some ⟨B,0,none⟩) (a.m+1) C) a.md b):=⟨hD,b6,hA,hM⟩;have b8:Hid (yT a gen (.slice (some ⟨B,0,none⟩) (a.m+1) C) f k b 0 (.slice none 0 0) (.slice none 0 0) (b.alloc (.cells #[.int .i64 a.q,.int .i64 a.p,.int .i64 a.m,.int .i64 gen,.slice (some ⟨B,0,none⟩) (a.m+1) C] 32)) 0 (λ_=>db) (λ_=>0)):=J7 b7 (eL a gen _ b);clear hD b6 hA hM b7;go_enter func59,ntmps59;go_wp2;go_loopw [6,7,8] (λvr vp vi wr=>∃(c A:Nat) (s:Nat->Nat->Nat) (m:Nat->Nat),c<=e∧A<=c∧vi=.int .i64 c∧Hid (yT a gen (.slice (some ⟨B,0,none⟩) (a.m+1) C) f k b c vr vp wr A s m)∧b.heap.size<wr.heap.size) (λ_ _ vi _=>e-(intOf vi).toNat)
 case atStart=>exact⟨0,0,_,_,E,E,X,b8.out,oi⟩
 case round=>
  clear b8;obtain⟨c,A,s,m,hi,ew,rfl,n,ab⟩:=hrel;rename World=>wA;by_cases bn:c<e
  ·have ey:(c:Int)<(e:Int):=by omega
   have b6:(0:Int)<=(c:Int):=E;obtain⟨ro,rc,vs,ez,ca⟩:=n.out.rows.rws;obtain⟨po,W,eA,ad⟩:=n.out.Ur.yy;subst ez eA;obtain⟨x,fv,a6,rfl,a0,eB⟩:=(w.out.2.2.1.below n.out.vR) c bn;obtain⟨eC,eD,rfl,cb,cc,cf,_,_⟩:=eB;have a7:Hid (lp (b.heap.size+1) ro A rc f s vs wA∧Ep po A W (λj=>((m j:Nat):Int)) wA):=⟨ca,ad⟩;have HC:Hid (Calls prog 60 #[.slice eC (f+1) eD] wA λu I=>∃K,u=.returned K∧cG wA.heap.size K (f+1) (k c) I∧Below wA.heap.size wA I):=Cg cb E cf cc;clear cb cc cf ca ad;go_wp2_with fail;refine HC.out.mono ?_;rintro u w1 ⟨v9,rfl,bA,a1⟩;have H1:Hid (kW v9 (f,k c) w1∧(∀x,v9.ownBlock=some x->wA.heap.size<=x)∧Below wA.heap.size wA w1):=⟨bA.Ws,bA.block,a1⟩;clear bA a1 HC a0;go_wp2_with fail;go_loopw [9,10] (λv9 T M=>∃(i:Nat) (v:Nat->Nat),i<=A∧T=.int .i64 i∧Hid (O8 a (f+1) A s m (k c) i v∧kW v9 (f,v) M∧(∀x,v9.ownBlock=some x->wA.heap.size<=x)∧Below wA.heap.size wA M)) (λ_ T _=>A-(intOf T).toNat)
   case atStart=>exact⟨0,k c,E,X,Jc (dE w.out.1) (w.out.2.1 c bn).1 (w.out.2.1 c bn).2,H1.out⟩
   case round=>
    clear H1;obtain⟨i,v,ht,rfl,t⟩:=hrel;rename World=>wB;obtain⟨Q,c9,rfl,fw,fx,cl⟩:=t.out.2.1;by_cases a3:i<A
    ·have eE:(i:Int)<(A:Int):=by omega
     have bA:(0:Int)<=(i:Int):=E;have cm:=n.out.OY.lt i a3;have eM:((m i:Nat):Int)<(f:Int)+1:=E;have eN:(0:Int)<=((m i:Nat):Int):=E;obtain⟨R,rfl,a8,_⟩:=(a7.out.1.below t.out.2.2.2).cell i a3;obtain⟨gP,oP,rfl,a9⟩:=(a7.out.2.sl.below t.out.2.2.2 a7.out.2.lt) i a3;have bB:wB.cell? ⟨gP,oP+i,none⟩=some (.int .i64 (m i:Nat)):=a9;clear a9;have⟨z,hx⟩:=eaa (v (m i));have eO:wB.cell? ⟨Q,m i,none⟩=some (.int .i64 (z:Nat)):=by rw[hx];exact cl.cell (m i) cm
     have bo:z<a.q:=by rw[hx];exact t.out.1.el _
     obtain⟨k0,k1,k2,k3,k4⟩:=n.out.box.below t.out.2.2.2 ab
     have bp:Hid (∀d,Calls prog 89 #[.agg #[.int .i64 a.q,.int .i64 a.p,.int .i64 a.m,.int .i64 gen,.slice (some ⟨B,0,none⟩) (a.m+1) C],.slice (some ⟨Q,0,none⟩) (f+1) c9,vs i,.int .i64 z] (wB.drewN d) λu I=>∃K,u=.returned K∧kW K (f,iu a v (s i) z) I∧(∀x,K.ownBlock=some x->wB.heap.size<=x)∧Below wB.heap.size wB I):=λd=>by
      have bs:Below wB.heap.size wB (wB.drewN d):=aO (XK _ _) d;refine(zN (w:=wB.drewN d) w.out.1 gen B C hn t.out.1.el (n.out.OY.el i a3) bo (t.out.2.1.below bs (aa _)) (((a7.out.1.below t.out.2.2.2).row i a3).below bs (aa _)) ((w.out.2.2.2.below (al n.out.vR t.out.2.2.2)).below bs)).mono ?_;rintro u I ⟨K,rfl,S,U,h3⟩;exact⟨K,X,S,U,bs.trans h3⟩
     have cp:Hid (O8 a (f+1) A s m (k c) (i+1) (iu a v (s i) z)):=by
      have h:=Ma (dE w.out.1) n.out.OY (w.out.2.1 c bn).1 t.out.1 a3;rw[<-hx]at h;exact h
     have⟨pt,a3⟩:=eaa (m i);rw[<-a3]at bB eO eM eN;clear hx cl cm a3;go_wp2;refine iU 13 wL wL ?_;simp only[cW,dC,cV,eF];repeat(go_big_quiet_step (fail))
     refine XZ ?_;intro _ ba;obtain⟨eQ,bb⟩:=ba;subst bb;go_wp2_with fail;refine(bp.out eQ).mono ?_;rintro u w2 ⟨v2,rfl,bc,cq,Y⟩;have eR:=t.out.2.2.2.size;have HR:Hid (O8 a (f+1) A s m (k c) (i+1) (iu a v (s i) z)∧kW v2 (f,iu a v (s i) z) w2∧(∀x,v2.ownBlock=some x->wA.heap.size<=x)∧Below wA.heap.size wA w2):=⟨cp.out,bc,λx hb=>by have:=cq x hb;omega,al t.out.2.2.2 Y⟩;clear bc cq Y k0 k1 k2 k3 k4 bp cp;go_wp2;go_roundw
     case rel=>exact⟨i+1,_,E,x9,HR.out⟩
     case measure=>simp[intOf];omega
    ·have eS:i=A:=by omega
     subst eS;have eE:¬(i:Int)<(i:Int):=E;go_wp2_with fail;go_loopw [11] (λva M=>∃p:Nat,p<=f+1∧va=.int .i64 p∧Hid (∀q,q<p->v q=0)∧M=wB) (λva _=>f+1-(intOf va).toNat)
     case atStart=>exact⟨0,E,X,λq hc=>E,X⟩
     case round=>
      obtain⟨p,ha,rfl,HZ,bE⟩:=hrel;have bE:=bE.symm;subst bE;by_cases bd:p<f+1
      ·have cr:(p:Int)<(f:Int)+1:=by omega
       have eT:(0:Int)<=(p:Int):=E;have⟨z,hx⟩:=eaa (v p);have cw:wB.cell? ⟨Q,p,none⟩=some (.int .i64 (z:Nat)):=by rw[hx];exact t.out.2.1.row.cell p bd
       have HX:Hid (z=v p):=hx;clear hx;by_cases a2:z=0
       ·have eW:((z:Int)==0)=true:=by rw[a2];rfl
        have eZ:Hid (∀q,q<p+1->v q=0):=λq hc=>if u:q=p then by rw[u, <-HX.out,a2]else HZ.out q E
        clear a2;go_wp2;go_roundw
        case rel=>exact⟨p+1,E,x9,eZ.out,Xo⟩
        case measure=>simp[intOf];omega
       ·have eW:((z:Int)==0)=false:=by rw[aA];omega
        have cx:((p:Int)==(f:Int)+1)=false:=Xp;have bo:z<a.q:=by rw[HX.out];exact t.out.1.el _
        have⟨N,a3⟩:=eaa (a.iv z);have e0:N<a.q:=by rw[a3];exact G6 w.out.1 _
        have HI:Hid (a.mul (v p) N=1∧v p≠0):=⟨by rw[<-HX.out,a3];exact CW w.out.1 bo a2,by rw[<-HX.out];exact a2⟩;have k0:=XM (n.out.box.below t.out.2.2.2 ab).c0;have k1:=XM (n.out.box.below t.out.2.2.2 ab).c1;have k2:=XM (n.out.box.below t.out.2.2.2 ab).c2;have k3:=XM (n.out.box.below t.out.2.2.2 ab).c3;have k4:=XM (n.out.box.below t.out.2.2.2 ab).c4;have k5:=XM cw
        have cy:Hid (∀d os,Calls prog 61 #[.agg #[.int .i64 a.q,.int .i64 a.p,.int .i64 a.m,.int .i64 gen,.slice (some ⟨B,0,none⟩) (a.m+1) C],.int .i64 (z:Nat)] (grow (redrawn wB d) os) λu bM=>u=.returned (.int .i64 (N:Nat))∧∃m:Regrown,bM=grow (redrawn wB m.d) m.os):=λd os=>by
         have h:=xD w.out.1 gen (z:Nat) (w.out.2.2.2.below (al n.out.vR (al t.out.2.2.2 (XQ wB d os))));rw[lW w.out.1 bo a2]at h;rw[show N=a.pw z (a.q-2)from by rw[a3];rfl];exact X0 h
        clear a3 a2;go_wp2;refine X6 wL wL ?_;repeat(go_big_quiet_step (first|(go_at_call 61;exact cy.out _ _)))
        refine XZ ?_;intro _ ba;obtain⟨⟨dq,osq⟩,bb⟩:=ba;subst bb;have⟨z,a2⟩:=eaa (grow (redrawn wB dq) osq);have a3:Below wB.heap.size wB z:=by rw[a2];exact XQ wB dq osq
        have H5:Hid (kW (.slice (some ⟨Q,0,none⟩) (f+1) c9) (f,v) z∧Below wA.heap.size wA z∧wA.heap.size<=Q):=⟨t.out.2.1.below a3 (aa _),al t.out.2.2.2 a3,t.out.2.2.1 Q X⟩;rw[<-a2];clear a2 a3 k0 k1 k2 k3 k4 k5 cy cw;go_wp2_with fail;go_loopw [13] (λvj M=>∃j:Nat,j<=f+1∧vj=.int .i64 j∧Hid (kW (.slice (some ⟨Q,0,none⟩) (f+1) c9) (f,λq=>if q<j then a.mul N (v q)else v q) M∧Below wA.heap.size wA M)) (λvj _=>f+1-(intOf vj).toNat)
        case atStart=>exact⟨0,E,X,H5.out.1.congr (λq _=>XC),H5.out.2.1⟩
        case round=>
         obtain⟨j,hj,rfl,V⟩:=hrel;rename World=>wD;have e1:=H5.out.2.2;by_cases a2:j<f+1
         ·have e3:(j:Int)<(f:Int)+1:=by omega
          have z:(0:Int)<=(j:Int):=E;have a4:=V.out.1.row;have⟨y,hy⟩:=eaa (v j);have⟨a6,z⟩:=eaa (a.mul N (v j))
          have bg:wD.cell? ⟨Q,j,none⟩=some (.int .i64 (y:Nat)):=by
           have h:=a4.cell j a2;rw[af E, <-hy]at h;exact h
          have bN:y<a.q:=by rw[hy];exact t.out.1.el _
          have gA:=n.out.box.below V.out.2 ab;have k0:=XM gA.c0;have k1:=XM gA.c1;have k2:=XM gA.c2;have k3:=XM gA.c3;have k4:=XM gA.c4;have k5:=XM bg;have k7:=lR a4.lt (a4.free j)
          have e4:Hid (∀d os,Calls prog 34 #[.agg #[.int .i64 a.q,.int .i64 a.p,.int .i64 a.m,.int .i64 gen,.slice (some ⟨B,0,none⟩) (a.m+1) C],.int .i64 (y:Nat),.int .i64 (N:Nat)] (grow (redrawn wD d) os) λu bM=>u=.returned (.int .i64 (a6:Nat))∧∃m:Regrown,bM=grow (redrawn wD m.d) m.os):=λd os=>by
           rw[z,(dE w.out.1).mul_comm, <-hy];exact X0 (nR w.out.1 gen w.out.2.2.2 y N bN e0 _ (al n.out.vR (al V.out.2 (XQ wD d os))))
          have HV:Hid (∀q,q<f+1->(if q<j+1 then a.mul N (v q)else v q)=if q=j then a6 else if q<j then a.mul N (v q)else v q):=λq _=>by
           by_cases u:q=j
           ·rw[ai u,ai E,z,u]
           ·rw[af u];by_cases e2:q<j
            ·rw[ai e2,ai E]
            ·rw[af e2,af E]
          clear hy z bg a4 gA;go_wp2;refine oe 10 wL wL ?_;simp only[cW,dC,cV,eF];repeat(go_big_quiet_step (first|(go_at_call 34;exact e4.out _ _)))
          refine XZ ?_;intro _ ba;obtain⟨⟨ds,bO⟩,bb⟩:=ba;subst bb;have z:=XQ wD ds bO;have H7:Hid (kW (.slice (some ⟨Q,0,none⟩) (f+1) c9) (f,λq=>if q<j then a.mul N (v q)else v q) (grow (redrawn wD ds) bO)∧Below wA.heap.size wA (grow (redrawn wD ds) bO)):=⟨V.out.1.below z (aa _),al V.out.2 z⟩;clear z;go_wp2;go_roundw
          case rel=>exact⟨j+1,E,x9,H7.out.1.store HV.out,H7.out.2.setCell e1 _⟩
          case measure=>simp[intOf];omega
         ·have e3:¬(j:Int)<(f:Int)+1:=by omega
          have⟨O,z⟩:=eaa (aP a N v)
          have H8:Hid (lp (b.heap.size+1) ro i rc f s vs wD∧aV (b.heap.size+1) (.slice po i W) (zl i λj=>((m j:Nat):Int)) wD∧kW (.slice (some ⟨Q,0,none⟩) (f+1) c9) (f,O) wD∧Below b.heap.size b wD∧gN b.heap.size a gen (.slice (some ⟨B,0,none⟩) (a.m+1) C) wD):=
           ⟨a7.out.1.below V.out.2,n.out.Ur.below V.out.2 (λx hb=>(n.out.Ur.lt x hb).2),V.out.1.congr (λq hc=>by show(if q<j then a.mul N (v q)else v q)=O q;rw[ai E,z];rfl),al n.out.vR V.out.2,n.out.box.below V.out.2 ab⟩
          have cz:b.heap.size<wD.heap.size:=by have:=V.out.2.size;omega
          have bw:Hid (O=aP a N v∧El a O):=⟨z,by rw[z];exact dw (dE w.out.1) _ _⟩;clear z V H5;go_wp2_with fail;go_loopw [14] (λT M=>∃(g:Nat) (av:Nat->Value),g<=i∧T=.int .i64 g∧Hid (lp (b.heap.size+1) ro i rc f (λc=>if c<g then iu a (s c) O (s c p)else s c) av M∧aV (b.heap.size+1) (.slice po i W) (zl i λj=>((m j:Nat):Int)) M∧kW (.slice (some ⟨Q,0,none⟩) (f+1) c9) (f,O) M∧Below b.heap.size b M∧gN b.heap.size a gen (.slice (some ⟨B,0,none⟩) (a.m+1) C) M)∧b.heap.size<M.heap.size) (λT _=>i-(intOf T).toNat)
          case atStart=>exact⟨0,vs,E,X,⟨H8.out.1.congr (λc _=>XC),H8.out.2⟩,cz⟩
          case round=>
           clear H8 cz;obtain⟨g,av,hs,rfl,P,bx⟩:=hrel;rename World=>wE;by_cases bk:g<i
           ·have cA:(g:Int)<(i:Int):=by omega
            have e5:(0:Int)<=(g:Int):=E;obtain⟨R,rfl,a8,cB,fy,cM⟩:=P.out.1.cell g bk;have z:=P.out.1.row g bk;rw[af E]at z;obtain⟨gs,cs,qW,_,_,cO⟩:=z;have⟨y,hy⟩:=eaa (s g p);have bg:wE.cell? ⟨gs,p,none⟩=some (.int .i64 (y:Nat)):=by rw[hy];exact cO.cell p bd
            have bN:y<a.q:=by rw[hy];exact n.out.OY.el g bk _
            rw[qW]at a8;obtain⟨k0,k1,k2,k3,k4⟩:=P.out.2.2.2.2
            have bp:Hid (∀w1,Below wE.heap.size wE w1->Calls prog 89 #[.agg #[.int .i64 a.q,.int .i64 a.p,.int .i64 a.m,.int .i64 gen,.slice (some ⟨B,0,none⟩) (a.m+1) C],.slice (some ⟨gs,0,none⟩) (f+1) cs,.slice (some ⟨Q,0,none⟩) (f+1) c9,.int .i64 y] w1 λu I=>∃K,u=.returned K∧kW K (f,iu a (s g) O y) I∧Below wE.heap.size wE I∧I.cell? ⟨R,g,none⟩=some (.slice (some ⟨gs,0,none⟩) (f+1) cs)∧I.frozen? ⟨R,g,none⟩=false):=λw1 a1=>by
             have a4:kW (.slice (some ⟨gs,0,none⟩) (f+1) cs) (f,s g) wE:=by
              have h:=P.out.1.row g bk;rw[af E,qW]at h;exact h
             refine(zN w.out.1 gen B C hn (n.out.OY.el g bk) bw.out.2 bN (a4.below a1 (aa _)) (P.out.2.2.1.below a1 (aa _)) (w.out.2.2.2.below (al P.out.2.2.2.1 a1))).mono ?_;rintro u I ⟨K,rfl,S,_,h3⟩;have z:=al a1 h3;exact⟨K,X,S,z,((iN z).1 R g cM).trans a8,by rw[World.frozen?_of_block (w:=wE) (z.block R cM)];exact cB⟩
            have e6:Hid (av g=.slice (some ⟨gs,0,none⟩) (f+1) cs∧y=s g p):=⟨qW,hy⟩;clear hy cO qW;go_wp2;refine U6 wL cA e5 cr eT k0 k1 k2 k3 k4 a8 bg bp.out ?_;intro K N V a1 a2 a3 a4 a6 a7 ba bb bk bn bo bp bs bA z I w2 bc Y;have K:=Y.size;have N:=(P.out.1.below Y).store X (j:=g) bc
            have a5:Hid (lp (b.heap.size+1) (some ⟨R,0,none⟩) i rc f (λc=>if c<g+1 then iu a (s c) O (s c p)else s c) (λc=>if c=g then .slice (some ⟨z,0,none⟩) (f+1) I else av c) (w2.setCell ⟨R,g,none⟩ (.slice (some ⟨z,0,none⟩) (f+1) I))∧aV (b.heap.size+1) (.slice po i W) (zl i λj=>((m j:Nat):Int)) (w2.setCell ⟨R,g,none⟩ (.slice (some ⟨z,0,none⟩) (f+1) I))∧kW (.slice (some ⟨Q,0,none⟩) (f+1) c9) (f,O) (w2.setCell ⟨R,g,none⟩ (.slice (some ⟨z,0,none⟩) (f+1) I))∧Below b.heap.size b (w2.setCell ⟨R,g,none⟩ (.slice (some ⟨z,0,none⟩) (f+1) I))∧gN b.heap.size a gen (.slice (some ⟨B,0,none⟩) (a.m+1) C) (w2.setCell ⟨R,g,none⟩ (.slice (some ⟨z,0,none⟩) (f+1) I))∧wE.heap.size<=(w2.setCell ⟨R,g,none⟩ (.slice (some ⟨z,0,none⟩) (f+1) I)).heap.size):=by
             have z:=(P.out.1.below Y).own;refine⟨N.congr (λc hi=>?_),(P.out.2.1.below Y (λx hb=>(P.out.2.1.lt x hb).2)).TO z X,(P.out.2.2.1.below Y (aa _)).TO z X,(al P.out.2.2.2.1 Y).setCell (by show b.heap.size<=R;omega) _,(P.out.2.2.2.2.below Y bx).setOther _ (by show b.heap.size≠R;omega) _,aK K (by simp[World.setCell])⟩;show(if c=g then iu a (s g) O y else if c<g then iu a (s c) O (s c p)else s c)=if c<g+1 then iu a (s c) O (s c p)else s c
             by_cases u:c=g
             ·rw[ai u,ai E,u,e6.out.2]
             ·rw[af u];by_cases e2:c<g
              ·rw[ai e2,ai E]
              ·rw[af e2,af E]
            clear N K bc Y k0 k1 k2 k3 k4 bg a8 cB;go_wp2;go_roundw
            case rel=>exact⟨g+1,_,E,x9,⟨a5.out.1,a5.out.2.1,a5.out.2.2.1,a5.out.2.2.2.1,a5.out.2.2.2.2.1⟩,by have:=a5.out.2.2.2.2.2;omega⟩
            case measure=>simp[intOf];omega
           ·have cA:¬(g:Int)<(i:Int):=by omega
            have e7:g=i:=E;subst e7;have D:Hid (lp (b.heap.size+1) ro g rc f (λc=>iu a (s c) O (s c p)) av wE∧aV (b.heap.size+1) (.slice po g W) (zl g λj=>((m j:Nat):Int)) wE∧kW (.slice (some ⟨Q,0,none⟩) (f+1) c9) (f,O) wE∧Below b.heap.size b wE∧gN b.heap.size a gen (.slice (some ⟨B,0,none⟩) (a.m+1) C) wE):=⟨P.out.1.congr (λc hi=>by rw[ai hi]),P.out.2⟩;clear P
            go_upto_block 10 with fail
            go_cut [15] (λT wx=>∃r:Nat,r<=g∧T=.int .i64 r∧Hid ((∀j,j<r->m j<p)∧(∀j,r<=j->j<g->p<m j))∧wx=wE)
            case first=>
             go_wp2_with fail
             go_loopw [15] (λT M=>∃r:Nat,r<=g∧T=.int .i64 r∧Hid (∀j,j<r->m j<p)∧M=wE) (λT _=>g-(intOf T).toNat)
             case atStart=>exact⟨0,E,X,λj hj=>E,X⟩
             case round=>
              obtain⟨r,hq,rfl,HQ,bQ⟩:=hrel;have bQ:=bQ.symm;subst bQ;by_cases cP:r<g
              ·have bz:(r:Int)<(g:Int):=by omega
               have bS:(0:Int)<=(r:Int):=E;obtain⟨e8,e9,e',ad⟩:=D.out.2.1.yy;cases e';obtain⟨gP,oP,rfl,a9⟩:=ad.sl r cP;have bB:wE.cell? ⟨gP,oP+r,none⟩=some (.int .i64 (m r:Nat)):=a9;clear a9 ad;have⟨pq,z⟩:=eaa (m r);rw[<-z]at bB;have cR:Hid (pq=m r):=z;clear z;by_cases ad:pq<p
               ·have fc:(pq:Int)<(p:Int):=by omega
                have fe:Hid (∀j,j<r+1->m j<p):=λj hj=>if u:j=r then by rw[u, <-cR.out];exact ad else HQ.out j E
                go_wp2;go_roundw
                case rel=>exact⟨r+1,E,x9,fe.out,Xo⟩
                case measure=>simp[intOf];omega
               ·have fc:¬(pq:Int)<(p:Int):=by omega
                have fl:Hid (∀j,r<=j->j<g->p<m j):=λj S U=>by
                 have z:m r≠p:=λu=>by
                  have h3:=t.out.1.zero r cP;rw[u]at h3;exact HI.out.2 h3
                 have z:=cR.out;by_cases u:j=r
                 ·rw[u];omega
                 ·have:=n.out.OY.mono r j E U;omega
                go_wp2
                go_meet
                case rel=>exact⟨r,hq,X,⟨HQ.out,fl.out⟩,X⟩
              ·have bz:¬(r:Int)<(g:Int):=by omega
               go_wp2
               go_meet
               case rel=>exact⟨r,hq,X,⟨HQ.out,λj S U=>E⟩,X⟩
            case rest=>
             obtain⟨r,hq,rfl,HQ,bY⟩:=hcut;have bY:=bY.symm;subst bY;have bz:(r:Int)<=(g:Int):=E;have bS:(0:Int)<=(r:Int):=E;have u:=D.out.1.sl;have b0:Hid (vI ro g av wE∧(∀j,j<g->(av j).oneCell'=true)):=⟨u,λj hj=>(D.out.1.row j hj).one⟩;clear u
             go_upto_region 27 with fail
             go_cut [6] (λv6 wx=>∃ao ar,v6=.slice ao (g+1) ar∧Hid (fE wE.heap.size (.slice ao (g+1) ar) (vl (g+1) (ins r (.slice (some ⟨Q,0,none⟩) (f+1) c9) av)) wx∧Below wE.heap.size wE wx))
             case first=>
              rcases D.out.1.own.2 with⟨S,U⟩|⟨R,fo,fr,hv,_,fs,b1,a0,_,_⟩
              ·rw[cg]at U;subst U;cases S;have b2:r=0:=E;subst b2;refine NK wL b0.out ?_;intro c0 c1 c5 c6 c7 c8 dc dd dg dr dB ea v3 wG F G;go_wp2
               go_meet
               case rel=>
                obtain⟨ao,ar,Z,_⟩:=F.open;rw[cg]at Z;exact⟨ao,ar,Z,by rw[<-Z];exact F,G⟩
              ·rw[cg]at hv b1;cases hv;by_cases bl:rc=r
               ·have b3:g=r:=by omega
                clear a0;subst b3;subst bl;refine J5 wL E E b0.out ?_;intro c0 c1 c5 c6 c7 c8 dc dd dg dr dB ea v3 wG F G;go_wp2
                go_meet
                case rel=>
                 obtain⟨ao,ar,Z,_⟩:=F.open;rw[cg]at Z;exact⟨ao,ar,Z,by rw[<-Z];exact F,G⟩
               ·clear a0;refine NJ wL hq bS bz E bl E b0.out ?_;intro c0 c1 c5 c6 c7 c8 dc dd dg dr dB ea v3 wG F G;go_wp2
                go_meet
                case rel=>
                 obtain⟨ao,ar,Z,_⟩:=F.open;rw[cg]at Z;exact⟨ao,ar,Z,by rw[<-Z];exact F,G⟩
             case rest=>
              obtain⟨ao,ar,rfl,HW⟩:=hcut;rename World=>wH;have eb:Hid (aV (b.heap.size+1) (.slice po g W) (zl g λj=>((m j:Nat):Int)) wH):=D.out.2.1.below HW.out.2 (λx hb=>(D.out.2.1.lt x hb).2)
              have b4:Hid (lu po g (λj=>((m j:Nat):Int)) wH):=by
               obtain⟨e8,e9,e',ad⟩:=eb.out.yy;cases e';exact ad.sl
              go_upto_region 28 with fail
              rcases eb.out.2 with⟨S,U⟩|⟨gP,fo,fr,hv,_,fs,b1,a0,_,_⟩
              ·rw[bq]at U;subst U;cases S;have b2:r=0:=E;subst b2;refine NM wL b4.out ?_;intro ec ed ee ef eg ei ej eo ep er et ev v3 wK F G;have ax:Hid (aV wH.heap.size v3 (zl (0+1) (ins 0 ((p:Nat):Int) (λj=>((m j:Nat):Int)))) wK∧Below wH.heap.size wH wK):=⟨F,G⟩
               have bm:b.heap.size<wK.heap.size:=by
                have S:=HW.out.2.size;have U:=G.size;omega
               clear F G;go_wp2;go_roundw
               case rel=>exact⟨c+1,0+1,_,_,E,E,x9,rh w.out.1 (λj hj=>(w.out.2.1 j E).1) n.out t.out.1 bw.out.1 HI.out.1 HZ.out HQ.out.1 HQ.out.2 (aa _) bd D.out.1 D.out.2.2.1 D.out.2.2.2.1 D.out.2.2.2.2 bx HW.out.1 HW.out.2 ax.out.1 ax.out.2,bm⟩
               case measure=>simp[intOf];omega
              ·rw[bq]at hv b1;cases hv;by_cases bl:W=r
               ·have b3:g=r:=by omega
                clear a0;subst b3;subst bl;refine J6 wL E E b4.out ?_;intro ec ed ee ef eg ei ej eo ep er et ev v3 wK F G;have ax:Hid (aV wH.heap.size v3 (zl (W+1) (ins W ((p:Nat):Int) (λj=>((m j:Nat):Int)))) wK∧Below wH.heap.size wH wK):=⟨F,G⟩
                have bm:b.heap.size<wK.heap.size:=by
                 have S:=HW.out.2.size;have U:=G.size;omega
                clear F G;go_wp2;go_roundw
                case rel=>exact⟨c+1,W+1,_,_,E,E,x9,rh w.out.1 (λj hj=>(w.out.2.1 j E).1) n.out t.out.1 bw.out.1 HI.out.1 HZ.out HQ.out.1 HQ.out.2 (aa _) bd D.out.1 D.out.2.2.1 D.out.2.2.2.1 D.out.2.2.2.2 bx HW.out.1 HW.out.2 ax.out.1 ax.out.2,bm⟩
                case measure=>simp[intOf];omega
               ·clear a0;refine NL wL hq bS bz E bl E b4.out ?_;intro ec ed ee ef eg ei ej eo ep er et ev v3 wK F G;have ax:Hid (aV wH.heap.size v3 (zl (g+1) (ins r ((p:Nat):Int) (λj=>((m j:Nat):Int)))) wK∧Below wH.heap.size wH wK):=⟨F,G⟩
                have bm:b.heap.size<wK.heap.size:=by
                 have S:=HW.out.2.size;have U:=G.size;omega
                clear F G;go_wp2;go_roundw
                case rel=>exact⟨c+1,g+1,_,_,E,E,x9,rh w.out.1 (λj hj=>(w.out.2.1 j E).1) n.out t.out.1 bw.out.1 HI.out.1 HZ.out HQ.out.1 HQ.out.2 hq bd D.out.1 D.out.2.2.1 D.out.2.2.2.1 D.out.2.2.2.2 bx HW.out.1 HW.out.2 ax.out.1 ax.out.2,bm⟩
                case measure=>simp[intOf];omega
      ·have cx:p=f+1:=by omega
       subst cx;have cr:¬((f+1:Nat):Int)<(f:Int)+1:=E;have g:(((f+1:Nat):Int)==(f:Int)+1)=true:=oi
       have HR:Hid (yT a gen (.slice (some ⟨B,0,none⟩) (a.m+1) C) f k b (c+1) (.slice ro i rc) (.slice po i W) wB i s m):=by
        have p:v=db:=by
         funext q
         by_cases hc:q<f+1
         ·exact HZ.out q hc
         ·exact t.out.1.bd q E
        have g:=t.out.1;rw[p]at g;have p:∀j,j<=c->El a (k j):=λj hj=>(w.out.2.1 j E).1
        refine⟨n.out.rows.below t.out.2.2.2 (aa _),n.out.Ur.below t.out.2.2.2 (λx hb=>(n.out.Ur.lt x hb).2),n.out.OY,NN (dE w.out.1) p n.out.OZ g,J ?_,al n.out.vR t.out.2.2.2,n.out.box.below t.out.2.2.2 ab⟩;have S:=g.OZ;rw[xz (dE w.out.1) (p c (aa _))]at S;exact⟨c,E,(n.out.OZ _).1 S⟩
       have eR:=t.out.2.2.2.size;go_wp2;go_roundw
       case rel=>exact⟨c+1,i,s,m,E,E,x9,HR.out,E⟩
       case measure=>simp[intOf];omega
  ·have ey:¬(c:Int)<(e:Int):=by omega
   have fu:c=e:=E;subst fu;go_wp2
   go_ret2
   exact⟨_,_,X,A,ew,s,n.out.rows.mono E,m,n.out.Ur.mono E,n.out.OY,n.out.OZ,n.out.many,n.out.vR⟩
end
section
open Go.RowKit
theorem yB{n:Array Value}(s:∀args b,(callFunc e args).run prog b=.ok (.enter e args) b){c cap:Nat}{p:Nat->Bool}(s:lu o c t b)(x:c<=1000000)(u:∀j,j<c->Calls prog e (#[.int .i64 (t j)]++n) b λd g=>d=.returned (.bool (p j))∧g=b):Calls prog 128 #[.slice o c cap,.func (.func e) #[] n] b λd g=>g=b∧((∃f:Nat,f<c∧p f=true∧(∀j,j<f->p j=false)∧d=.returned (.int .i64 f))∨((∀j,j<c->p j=false)∧d=.returned (.int .i64 (-1)))):=by
 have v:Hid (lu o c t b∧∀j,j<c->Calls prog e (#[.int .i64 (t j)]++n) b λd g=>d=.returned (.bool (p j))∧g=b):=⟨s,u⟩;clear s u;go_enter func128,ntmps128;go_wp2;go_loopw [5,8] (λ_ f wr=>∃a:Nat,a<=c∧f=.int .i64 a∧Hid (∀j,j<a->p j=false)∧wr=b) (λ_ f _=>c-(intOf f).toNat)
 case atStart=>exact⟨0,E,X,(show Hid _ from λj w=>E),X⟩
 case round=>
  obtain⟨a,y,rfl,q,rfl⟩:=hrel;by_cases r:a<c
  ·obtain⟨z,A,rfl,B⟩:=v.out.1 a r;have f:(a:Int)<(c:Int):=E;have m:=v.out.2 a r;by_cases k:p a=true
   ·have l:Hid (p a=true):=k;rw[k]at m;clear k;go_wp2_with (go_at_fn e;refine m.mono ?_;rintro d g ⟨rfl,i⟩;have i:=i.symm;subst i);go_ret;exact⟨X,I ⟨a,r,l.out,q.out,X⟩⟩
   ·have f:p a=false:=by simpa using k
    have l:Hid (∀j,j<a+1->p j=false):=λj w=>by
     by_cases d:j=a
     ·rw[d];exact f
     ·exact q.out j E
    rw[f]at m;clear k f;go_wp2_with (go_at_fn e;refine m.mono ?_;rintro d g ⟨rfl,i⟩;have i:=i.symm;subst i);go_roundw
    case rel=>exact⟨a+1,E,x9,l.out,Xo⟩
    case measure=>simp[intOf];omega
  ·have l:Hid (∀j,j<c->p j=false):=λj w=>q.out j E
   go_wp2;go_ret;exact⟨X,J ⟨l.out,X⟩⟩
theorem Mq{i:Array Oper}{rest:List Oper}{c:Oper}{f:Act}(m:c.guard=none)(g h:Operand)(n:c.op=Op.makeSlice 23 g h)(d:Int)(a:Nat)(o:f.eval g=.int .i64 d)(p:f.eval h=.int .i64 d)(j:d=(a:Int))(e:a<=1000000)(q:∀e,bD b.heap.size a 22 (λ_=> .slice none 0 0) e->b.grownBy e none->wpList prog i e3 rest (f.put c.dst (.slice (some ⟨b.heap.size,0,none⟩) a a)) e):wpList prog i e3 (c::rest) f b:=by
 obtain⟨f,i,r,s,t⟩:=X5 Fo;refine wpList_make_full b m g h 23 n b.heap.size 22 f (.slice none 0 0) 1 underlying23 i r s .i64 .i64 d d a o p j j (by rw[t];omega) Xu (aa _) ?_;intro e d f;refine q e ?_ f
 have e:(madeCells (Value.slice none 0 0).cells (a*1)).toList=List.replicate a (.slice none 0 0):=by
  rw[BJ];exact YO _ _
 rw[e]at d;rcases d.2 with⟨e,_⟩|⟨f,g,k,l,_,u,_,_,h,v⟩
 ·simp at e
 ·simp only[Value.slice.injEq,bt,Addr.mk.injEq,jy,j7]at l;obtain⟨rfl,rfl⟩:=l;refine⟨k,u,E,λc e=>?_⟩;have d:(k.toList.take (a*1))[c]?=(List.replicate a (Value.slice none 0 0))[c]?:=by rw[v]
  rw[dL,ai E,jv,ai e]at d;rw[<-cU];exact d
theorem aV.same{c:List Int}(d:aV e q c b)(f:∀a,q.ownBlock=some a->w.heap[a]?=b.heap[a]?):aV e q c w:=by
 obtain⟨c,a⟩:=d;refine⟨c,?_⟩;rcases a with a|⟨c,g,h,d,i,j,k⟩
 ·exact I a
 ·exact J ⟨c,g,h,d,i,by rw[f c (by rw[d];rfl)];exact j,k⟩
end
def lE(a:Nat)(b:Nat->Nat):Nat->Nat
 |0=>0
 |c+1=>if ∀d,d<a->b d≠c then lE a b c+1 else lE a b c
def AE(a:Nat)(b:Nat->Nat):Nat->Nat->Nat
 |0,_=>0
 |c+1,d=>if d=lE a b c then c else AE a b c d
theorem pX(b:∀a,a<e->g a≠f):lE e g (f+1)=lE e g f+1:=ai b
theorem xg(b:¬ ∀a,a<e->g a≠f):lE e g (f+1)=lE e g f:=af b
theorem AY(a:Nat)(b:Nat->Nat):∀c,lE a b c<=c
 |0=>aa _
 |c+1=>by
  have:=AY a b c;by_cases d:∀e,e<a->b e≠c
  ·rw[pX d];omega
  ·rw[xg d];omega
theorem AF(b:Nat)(c:Nat->Nat)(a:Nat):AE b c (a+1) (lE b c a)=a:=ai X
theorem pj{a i:Nat}(b:i<lE e g a):AE e g (a+1) i=AE e g a i:=af E
theorem tn{k:Nat}{p:Nat->Nat}:∀c i,i<lE k p c->AE k p c i<c∧∀j,j<k->p j≠AE k p c i
 |0,i,a=>absurd a (by simp[lE])
 |c+1,i,a=>by
  by_cases b:∀i,i<k->p i≠c
  ·rw[pX b]at a;by_cases d:i=lE k p c
   ·rw[d,AF];exact⟨E,b⟩
   ·rw[pj E];have:=tn (k:=k) (p:=p) c i E;exact⟨Nat.lt_succ_of_lt this.1,this.2⟩
  ·rw[xg b]at a;rw[pj a];have:=tn (k:=k) (p:=p) c i a;exact⟨Nat.lt_succ_of_lt this.1,this.2⟩
theorem rY:∀c i j,i<j->j<lE e g c->AE e g c i<AE e g c j
 |0,i,j,_,a=>absurd a (by simp[lE])
 |c+1,i,j,b,a=>by
  by_cases d:∀i,i<e->g i≠c
  ·rw[pX d]at a;rw[pj (i:=i) E];by_cases f:j=lE e g c
   ·rw[f,AF];exact(tn c i E).1
   ·rw[pj E];exact rY c i j b E
  ·rw[xg d]at a;rw[pj a,pj (i:=i) E];exact rY c i j b a
theorem PM{a b j:Nat}(d:b<lE e g a)(f:j<lE e g a)(c:AE e g a b=AE e g a j):b=j:=by
 rcases cJ b j with c|c|c
 ·have:=rY a b j c f;omega
 ·exact c
 ·have:=rY a j b c d;omega
def BL(b:FD)(c:Nat->Nat->Nat)(d:Nat->Nat)(a:Nat):Nat->Nat->Nat
 |0,j=>if j=a then 1 else 0
 |r+1,j=>if j=d r then b.ng (c r a)else BL b c d a r j
theorem Nj(c:bV a):∀r,(∀d,d<r->El a (k d))->El a (BL a k g e r)
 |0,_=>λj=>by
  show(if j=e then 1 else 0)<a.q;by_cases b:j=e
  ·rw[ai b];exact gV c
  ·rw[af b];exact aX c
 |r+1,f=>λj=>by
  show(if j=g r then a.ng (k r e)else BL a k g e r j)<a.q;by_cases b:j=g r
  ·rw[ai b];exact ia c (f r E e)
  ·rw[af b];exact Nj c r (λd h=>f d E) j
theorem Nh(h:e<f):∀r,(∀b,b<r->g b<f)->Bd f (BL a k g e r)
 |0,_=>λj c=>by
  show(if j=e then 1 else 0)=0;rw[af E]
 |r+1,d=>λj c=>by
  show(if j=g r then a.ng (k r e)else BL a k g e r j)=0;rw[af (by have:=d r E;omega)];exact Nh h r (λb i=>d b E) j c
theorem xk{b j:Nat}:∀r,(∀c,c<r->g c≠j)->BL a k g b r j=if j=b then 1 else 0
 |0,_=>rfl
 |r+1,d=>by
  show(if j=g r then a.ng (k r b)else BL a k g b r j)=_;rw[af (λb=>d r E b.symm)];exact xk r (λc b=>d c E)
def sj(c:FD)(d:Nat->Nat->Nat)(a:Nat->Nat)(b e:Nat):Nat->Nat->Nat:=λf=>BL c d a (AE b a e f) b
theorem Nl(b:l<lE e g f):sj a k g e (f+1) l=sj a k g e f l:=by
 unfold sj;rw[pj b]
theorem Tw(d:FD)(e:Nat->Nat->Nat)(a:Nat->Nat)(b c:Nat):sj d e a b (c+1) (lE b a c)=BL d e a c b:=by
 unfold sj;rw[AF]
theorem Nk(c:bV a)(d:∀b,b<e->El a (k b))(f b:Nat):El a (sj a k g e f b):=Nj c e d
theorem FH(b:∀l,l<f->g l<e)(c:l<lE f g e):Bd e (sj a k g f e l):=Nh (tn e l c).1 f b
theorem A0{b j:Nat}(h:b<lE f g e)(d:j<lE f g e):sj a k g f e b (AE f g e j)=if b=j then 1 else 0:=by
 unfold sj;rw[xk f (tn e j d).2];by_cases c:b=j
 ·rw[ai c,c,ai X]
 ·rw[af c,af (λb=>c (PM h d b.symm))]
theorem QD(d:bV a){j:Nat}(h:j<lE f g e):¬gZ a (cS j (sj a k g f e)) (sj a k g f e j):=λi=>by
 have l:sj a k g f e j (AE f g e j)=0:=by
  refine vB (Q:=λb=>b (AE f g e j)=0) X (λm b n c=>?_) (λo b c=>?_) (λb c=>?_) i
  ·show a.ad (m _) (b _)=0;rw[n,c,b5 d (aX d)]
  ·show a.mul o (b _)=0;rw[c,gI d]
  ·obtain⟨p,q,rfl⟩:=c;rw[A0 E h,af E]
 rw[A0 h h,ai X]at l;omega
theorem GW:(f:Int)∈zl e (λj=>((g j:Nat):Int))↔¬ ∀a,a<e->g a≠f:=by
 rw[Gs];constructor
 ·rintro⟨j,d,c⟩ b;exact b j d E
 ·intro b;refine bK λd=>b λa h c=>d ⟨a,h,by rw[c]⟩
section
open Go.RowKit Go.Sort
theorem DL(c:a∈ak)(gen:Nat)(d:Value)(b:Nat)(f:b<a.q)(wr:World):Calls prog 35 #[.agg #[.int .i64 a.q,.int .i64 a.p,.int .i64 a.m,.int .i64 gen,d],.int .i64 b] wr λe g=>e=.returned (.int .i64 (a.ng b:Nat))∧Below wr.heap.size wr g:=by
 have e:=DK c gen d b wr;rw[M7 (dE c) f]at e;exact e
theorem lp.Qg{a g n:Nat}(c:lp e o a g n k s b):vG o a n k b:=λd f=>by
 obtain⟨a,g,h,_⟩:=c.cell d f;exact⟨a,0,_,g,by rw[aW];exact h,(c.row d f).W5⟩
theorem Ka(hD:a∈ak)(gen r s:Nat){w n N ca:Nat}(hN:N=n+1)(hm:w<=1000)(hn:n<=900)(a2:∀g,g<w->El a (k g)∧Bd (n+1) (k g))(hA:vG o w n k b)(hM:eH a (.slice (some ⟨r,0,none⟩) (a.m+1) s) a.md b):Calls prog 36 #[.agg #[.int .i64 a.q,.int .i64 a.p,.int .i64 a.m,.int .i64 gen,.slice (some ⟨r,0,none⟩) (a.m+1) s],.slice o w ca,.int .i64 (N:Nat)] b λx S=>∃m f i e A T,x=.returned m∧f<=w∧Eh a N f i e∧(∀m,gZ a (cS f i) m↔gZ a (cS w k) m)∧uH b.heap.size m (rl (lE f e N) n A) S∧Eh a N (lE f e N) A T∧(∀m,gZ a (cS (lE f e N) A) m↔gZ a (cS (lE f e N) (sj a i e f N)) m)∧Below b.heap.size b S:=by
 have a3:Below b.heap.size b (b.alloc (.cells #[.int .i64 a.q,.int .i64 a.p,.int .i64 a.m,.int .i64 gen,.slice (some ⟨r,0,none⟩) (a.m+1) s] 32)):=(XK _ _).alloc (aa _) _;have z:Hid (a∈ak∧(∀g,g<w->El a (k g)∧Bd (n+1) (k g))∧vG o w n k b∧eH a (.slice (some ⟨r,0,none⟩) (a.m+1) s) a.md b):=⟨hD,a2,hA,hM⟩;have I:Hid (gN b.heap.size a gen (.slice (some ⟨r,0,none⟩) (a.m+1) s) (b.alloc (.cells #[.int .i64 a.q,.int .i64 a.p,.int .i64 a.m,.int .i64 gen,.slice (some ⟨r,0,none⟩) (a.m+1) s] 32))∧Below b.heap.size b (b.alloc (.cells #[.int .i64 a.q,.int .i64 a.p,.int .i64 a.m,.int .i64 gen,.slice (some ⟨r,0,none⟩) (a.m+1) s] 32))):=⟨eL a gen _ b,a3⟩;have B:Hid (N=n+1):=hN;have b0:N<=901:=E;clear hD a2 hA hM a3 hN;go_enter func36,ntmps36;go_wp2_with fail;refine(ux z.out.1 gen r s hm E z.out.2.1 (z.out.2.2.1.below I.out.2) (z.out.2.2.2.below I.out.2)).mono ?_;rintro x l ⟨vr,vp,f,i,e,rfl,hk,J,C,hR,hS,_,U⟩;obtain⟨ro,rc,vs,rfl,a4⟩:=J.rws;obtain⟨V,W,rfl,a5⟩:=C.yy;have a2:(b.alloc (.cells #[.int .i64 a.q,.int .i64 a.p,.int .i64 a.m,.int .i64 gen,.slice (some ⟨r,0,none⟩) (a.m+1) s] 32)).heap.size=b.heap.size+1:=oi;have a6:b.heap.size<l.heap.size:=by have:=U.size;omega
 rw[<-B.out]at hR
 have p:Hid (vG ro f n i l∧kA (.slice V f W) (zl f λj=>((e j:Nat):Int)) l∧Ep V f W (λj=>((e j:Nat):Int)) l∧Eh a N f i e∧(∀m,gZ a (cS f i) m↔gZ a (cS w k) m)∧Below b.heap.size b l∧gN b.heap.size a gen (.slice (some ⟨r,0,none⟩) (a.m+1) s) l):=
  ⟨a4.Qg,C.slice Xl,a5,hR,hS,al I.out.2 U,I.out.1.below U E⟩
 have w:=λK=>(C.lt K)
 have HO:Hid (aV (b.heap.size+1) (.slice V f W) (zl f λj=>((e j:Nat):Int)) l):=by rw[a2]at C;exact C
 clear J C hR hS U a4 a5 w I a2;go_wp2_with fail;go_loopw [9,10] (λvl vc wr=>∃c:Nat,c<=N∧vc=.int .i64 c∧Hid (uH l.heap.size vl (rl (lE f e c) n (sj a i e f c)) wr∧Below l.heap.size l wr)) (λ_ vc _=>N-(intOf vc).toNat)
 case atStart=>exact⟨0,E,X,⟨uH.nil _ _,XK _ _⟩⟩
 case round=>
  obtain⟨c,hc,rfl,u⟩:=hrel;rename World=>wA;by_cases bn:c<N
  ·have bo:(c:Int)<(N:Int):=by omega
   have M:Hid (Calls prog 43 #[.int .i64 (c:Nat),.slice V f W] wA λx S=>x=.returned (.bool (decide ((c:Int)∈zl f λj=>((e j:Nat):Int))))∧∃d,S=wA.drewN d):=
    LX (c:Int) ((HO.out.below u.out.2 (λK hq=>(HO.out.lt K hq).2)).slice Xl)
   by_cases D:∀g,g<f->e g≠c
   ·rw[aq (λh=>GW.1 h D)]at M;have bp:Hid (∀g,g<f->e g≠c):=D;clear D;go_wp2_with fail;refine M.out.mono ?_;rintro x q ⟨rfl,d,a7⟩
    have F:Hid (uH l.heap.size u9 (rl (lE f e c) n (sj a i e f c)) q∧Below l.heap.size l q):=by
     rw[a7];have O:Below wA.heap.size wA (wA.drewN d):=⟨X,X,X,aa _,λ_ _=>rfl⟩;exact⟨u.out.1.below O (aa _),al u.out.2 O⟩
    clear M u a7 wA;go_wp2_with (at_make;refine iS X _ _ X _ N X X X E ?_;intro Y Z a8;have bs:=(ji Z).cell c bn;have bw:=(ji Z).free c);have I:Hid (Row q.heap.size N db Y∧Below q.heap.size q Y):=⟨ji Z,cH a8 (aa _) (λf hk=>by simp at hk)⟩;clear Z a8 bs bw;have⟨v,w⟩:=eaa (q.heap.size);have ar:Hid (Row v N db Y∧Below q.heap.size q Y):=by rw[w];exact I.out
    rw[<-w];have a9:q.heap.size<=v:=E;clear I w;go_loopw [12] (λvi wi=>∃g:Nat,g<=f∧vi=.int .i64 g∧Hid (Row v N (BL a i e c g) wi∧Below q.heap.size q wi)) (λvi _=>f-(intOf vi).toNat)
    case atStart=>exact⟨0,E,X,ar.out.1.store c 1 (λj _=>by show(if j=c then 1 else 0)=if j=c then 1 else db j;rfl),ar.out.2.setCell a9 _⟩
    case round=>
     clear ar;obtain⟨g,hi,rfl,t⟩:=hrel;rename World=>wB;by_cases ab:g<f
     ·have bx:(g:Int)<(f:Int):=by omega
      have w:(0:Int)<=(g:Int):=E;have ad:=al F.out.2 t.out.2;obtain⟨b1,oA,uA,rfl,ba,bz⟩:=(p.out.1.below ad) g ab;obtain⟨xA,b2,rfl,bb,bA,_⟩:=bz;obtain⟨b3,ox,rfl,av⟩:=bb c (by have:=B.out;omega);have bc:=p.out.2.2.1.sl.below ad p.out.2.2.1.lt;obtain⟨bB,op,rfl,P⟩:=bc g ab;have⟨w,I⟩:=eaa (i g c);have⟨y,S⟩:=eaa (e g);have⟨Q,U⟩:=eaa (a.ng w);rw[<-I]at av;replace P:wB.cell? ⟨bB,op+g,none⟩=some (.int .i64 ((e g:Nat):Int)):=P;rw[<-S]at P;have V:y<N:=by rw[S];exact p.out.2.2.2.1.lt g ab
      have W:(y:Int)<(N:Int):=E;have W:(c:Int)<(n:Int)+1:=by have:=B.out;omega
      have W:w<a.q:=by rw[I];exact p.out.2.2.2.1.el g ab c
      have gA:=p.out.2.2.2.2.2.2.below ad a6;have k0:=XM gA.c0;have k1:=XM gA.c1;have k2:=XM gA.c2;have k3:=XM gA.c3;have k4:=XM gA.c4;have Y:=XM (t.out.1.cell y V);have V:=XM ba;have V:=XM av;have V:=XM P;have V:=lR t.out.1.lt (t.out.1.free y)
      have bE:Hid (∀d V,Calls prog 35 #[.agg #[.int .i64 a.q,.int .i64 a.p,.int .i64 a.m,.int .i64 gen,.slice (some ⟨r,0,none⟩) (a.m+1) s],.int .i64 (w:Nat)] (grow (redrawn wB d) V) λx Y=>x=.returned (.int .i64 (Q:Nat))∧∃e:Regrown,Y=grow (redrawn wB e.d) e.os):=λd V=>by
       rw[U];exact X0 (DL z.out.1 gen _ w W _)
      have G:Hid (∀j,j<N->BL a i e c (g+1) j=if j=y then Q else BL a i e c g j):=λj _=>by
       rw[U,I,S];rfl
      clear I S U av P ba gA ad bb bA bc;go_wp2;refine oe 15 wL wL ?_;simp only[cW,dC,cV,eF];repeat(go_big_quiet_step (first|(go_at_call 35;exact bE.out _ _)|fail))
      refine XZ ?_;intro _ w;obtain⟨⟨ds,ax⟩,bM⟩:=w;subst bM;have w:=XQ wB ds ax;have H7:Hid (Row v N (BL a i e c g) (grow (redrawn wB ds) ax)∧Below q.heap.size q (grow (redrawn wB ds) ax)):=⟨t.out.1.below w t.out.1.lt,al t.out.2 w⟩;clear w;go_wp2;go_roundw
      case rel=>exact⟨g+1,E,x9,H7.out.1.store y Q G.out,H7.out.2.setCell a9 _⟩
      case measure=>simp[intOf];omega
     ·have bx:¬(g:Int)<(f:Int):=by omega
      have bN:g=f:=E;subst bN;obtain⟨ao,I,w⟩:=F.out.1;have bO:ao.length<=1000000:=by rw[w.1,Bf];have:=AY g e c;omega
      have G:Hid (fE l.heap.size u9 ao wB∧rF ao (rl (lE g e c) n (sj a i e g c)) wB∧kW (.slice (some ⟨v,0,none⟩) N N) (n,BL a i e c g) wB):=by
       refine⟨I.below t.out.2 (aa _),w.below t.out.2 (aa _),⟨v,N,by rw[B.out],by rw[B.out];exact aa _,E,?_⟩⟩;show Row v (n+1) _ wB;rw[<-B.out];exact t.out.1
      have P:=t.out.2.size;have P:=F.out.2.size;clear I w;go_wp2_with (at_builtin;refine sY X _ _ X l.heap.size u9 ao X (G.out.1.below ((XK _ _).alloc (aa _) _) (aa _)) ⟨wB.heap.size,0,none⟩ 1 (.slice (some ⟨v,0,none⟩) N N) X X Xk bO x7 ?_;intro v' w6 bd a0);have w:Below wB.heap.size wB (wB.alloc (.cells #[.slice (some ⟨v,0,none⟩) N N] 22)):=(XK _ _).alloc (aa _) _;have v:=G.out.1.below w (aa _);have I:=al F.out.2 (al t.out.2 w)
      have HR:Hid (uH l.heap.size v' (rl (lE g e (c+1)) n (sj a i e g (c+1))) w6∧Below l.heap.size l w6):=by
       refine⟨⟨_,bd,?_⟩,I.grown a0 x7 (λK hq=>v.A3 K hq)⟩;have h:=((G.out.2.1.below w (aa _)).snoc (G.out.2.2.below w (aa _))).grown v a0;rw[pX bp.out,QP,Tw,DD (R':=sj a i e g c) (λj R=>Nl R)];exact h
      clear bd a0 v I w;go_roundw
      case rel=>exact⟨c+1,E,x9,HR.out⟩
      case measure=>simp[intOf];omega
   ·rw[aU (GW.2 D)]at M
    have F:Hid (∀d,uH l.heap.size u9 (rl (lE f e (c+1)) n (sj a i e f (c+1))) (wA.drewN d)∧Below l.heap.size l (wA.drewN d)):=λd=>by
     have O:Below wA.heap.size wA (wA.drewN d):=⟨X,X,X,aa _,λ_ _=>rfl⟩;rw[xg D,DD (R':=sj a i e f c) (λj R=>Nl R)];exact⟨u.out.1.below O (aa _),al u.out.2 O⟩
    clear D;go_wp2_with fail;refine M.out.mono ?_;rintro x q ⟨rfl,d,rfl⟩;go_wp2;go_roundw
    case rel=>exact⟨c+1,E,x9,F.out d⟩
    case measure=>simp[intOf];omega
  ·have bo:¬(c:Int)<(N:Int):=by omega
   have bQ:c=N:=E;subst bQ;obtain⟨lo,lc,ls,rfl,bg⟩:=u.out.1.rws;have HL:Hid (vG lo (lE f e c) n (sj a i e f c) wA):=bg.Qg;clear bg;have gA:=p.out.2.2.2.2.2.2.below u.out.2 a6;have k0:=gA.c0;have k1:=gA.c1;have k2:=gA.c2;have k3:=gA.c3;have k4:=gA.c4;clear gA;go_wp2_with fail;have l:=AY f e c;refine(ux z.out.1 gen r s E E (λg hi=>⟨Nk (dE z.out.1) p.out.2.2.2.1.el _ _,by rw[<-B.out];exact FH p.out.2.2.2.1.lt hi⟩) HL.out (z.out.2.2.2.below (al p.out.2.2.2.2.2.1 (u.out.2.mono (by exact aa _))))).mono ?_;rintro x w7 ⟨vr,vp,bS,A,T,rfl,b4,J,C,a1,bk,bl,bm⟩;rw[<-B.out]at a1
   have bY:bS=lE f e c:=by
    rcases bl with h|⟨j,R,h⟩
    ·exact h
    ·exact absurd h (QD (dE z.out.1) R)
   subst bY;have HE:Hid (uH wA.heap.size vr (rl (lE f e c) n A) w7∧Eh a c (lE f e c) A T∧(∀m,gZ a (cS (lE f e c) A) m↔gZ a (cS (lE f e c) (sj a i e f c)) m)∧Below wA.heap.size wA w7):=⟨J,a1,bk,bm⟩;clear J C a1 bk bl bm;go_wp2;go_ret;have c:=p.out.2.2.2.2.2.1.size;have c:=u.out.2.size;refine⟨_,f,i,e,A,T,X,hk,p.out.2.2.2.1,p.out.2.2.2.2.1,HE.out.1.mono E,HE.out.2.1,HE.out.2.2.1,(al p.out.2.2.2.2.2.1 (al u.out.2 HE.out.2.2.2))⟩
end
section
open Go.RowKit
theorem Fl(c:Int)(m:lu o e t b)(r:e<=1000000):Calls prog 65 #[.slice o e f,.int .i64 c] b λg r=>r=b∧((∃d:Nat,d<e∧t d=c∧g=.returned (.int .i64 d))∨((∀j,j<e->t j≠c)∧g=.returned (.int .i64 (-1)))):=by
 have s:Hid (lu o e t b):=m;clear m;go_enter func65,ntmps65;go_wp2;go_loopw [5,8] (λ_ d wr=>∃a:Nat,a<=e∧d=.int .i64 a∧Hid (∀j,j<a->t j≠c)∧wr=b) (λ_ d _=>e-(intOf d).toNat)
 case atStart=>exact⟨0,E,X,(show Hid _ from λj n=>E),X⟩
 case round=>
  obtain⟨a,w,rfl,p,rfl⟩:=hrel;by_cases q:a<e
  ·obtain⟨x,z,rfl,u⟩:=s.out a q;have d:(a:Int)<(e:Int):=E;have⟨y,k⟩:=eaa (t a);rw[<-k]at u;by_cases i:c=y
   ·have v:(c==y)=true:=br.2 i;have l:Hid (t a=c):=by rw[<-k,i];rfl
    clear i k;go_wp2;go_ret;exact⟨X,I ⟨a,q,l.out,X⟩⟩
   ·have v:(c==y)=false:=aA.2 i
    have l:Hid (∀j,j<a+1->t j≠c):=λj n=>by
     by_cases g:j=a
     ·rw[g, <-k];exact λg=>i g.symm
     ·exact p.out j E
    clear i k;go_wp2;go_roundw
    case rel=>exact⟨a+1,E,x9,l.out,Xo⟩
    case measure=>simp[intOf];omega
  ·have l:Hid (∀j,j<e->t j≠c):=λj n=>p.out j E
   go_wp2;go_ret;exact⟨X,J ⟨l.out,X⟩⟩
theorem rS{a ca:Nat}{z:Nat->Int}{w:World}(c:Int)(g:lu o a z w)(l:a<=1000000):Calls prog 46 #[.slice o a ca,.int .i64 c] w λe i=>e=.returned (.bool (decide (c∈zl a z)))∧i=w:=by
 have m:Hid (lu o a z w):=g;clear g;go_enter func46,ntmps46;go_wp2_with fail;refine(Fl c m.out l).mono ?_;rintro e i ⟨b,⟨k,n,d,rfl⟩|⟨d,rfl⟩⟩
 ·have b:=b.symm;subst b;have g:(0:Int)<=(k:Int):=E
  have f:Hid (decide (c∈zl a z)=true):=by
   show _=_;rw[bu];exact Gs.2 ⟨k,n,d⟩
  clear d;go_wp2;go_ret;exact⟨by rw[f.out];rfl,X⟩
 ·have b:=b.symm;subst b
  have f:Hid (decide (c∈zl a z)=false):=by
   show _=_;rw[eV];intro h;obtain⟨j,a,e⟩:=Gs.1 h;exact d j a e
  clear d;go_wp2;go_ret;exact⟨by rw[f.out];rfl,X⟩
end
def oT(a:Nat)(b:Nat->Nat):Nat->Nat:=λj=>if j<a then b j else 0
section
open Go.RowKit Go.Sort
end
section
open Go.RowKit
end
section
open Go.ChangeShapes Go.WideShapes Go.ChangeAt Go.RowKit
end
section
open Go.RowKit Go.Sort
def qW(a:Nat->Nat)(b:Nat):Nat->Nat
 |0=>b
 |i+1=>if qW a b i<=6000 then qW a b i+a i else qW a b i
theorem CO{N:Nat->Nat}{m i:Nat}(a:¬qW N m i<=6000):∀d,qW N m (i+d)=qW N m i
 |0=>rfl
 |d+1=>by
  show(if qW N m (i+d)<=6000 then qW N m (i+d)+N (i+d)else qW N m (i+d))=_;rw[CO a d,af a]
theorem Ja{A:Nat->Option Addr}{N C:Nat->Nat}{w:World}(n:∀a,a<e->∃d g,o=some ⟨d,g,none⟩∧w.cell? ⟨d,g+a,none⟩=some (.slice (A a) (N a) (C a)))(t:e<=17592186044416)(p:∀a,a<e->N a<=17592186044416):Calls prog 6 #[.slice o e f] w λt u=>t=.returned (.bool (decide (6000<qW N e e)))∧u=w:=by
 have q:Hid ((∀a,a<e->∃d g,o=some ⟨d,g,none⟩∧w.cell? ⟨d,g+a,none⟩=some (.slice (A a) (N a) (C a)))∧∀a,a<e->N a<=17592186044416):=⟨n,p⟩;clear n p;go_enter func6,ntmps6;go_wp2;go_loopw [3,4] (λv l wr=>∃(b a:Nat),a<=e∧v=.int .i64 b∧l=.int .i64 a∧b<=17592186044416+17592186044416∧Hid (b=qW N e a)∧wr=w) (λ_ l _=>e-(intOf l).toNat)
 case atStart=>exact⟨e,0,E,X,X,E,(show Hid _ from rfl),X⟩
 case round=>
  obtain⟨b,a,D,rfl,rfl,F,j,m⟩:=hrel;have m:=m.symm;subst m;by_cases r:a<e
  ·have x:(a:Int)<(e:Int):=by omega
   by_cases i:b<=6000
   ·have y:(b:Int)<=6000:=by omega
    obtain⟨d,g,rfl,z⟩:=q.out.1 a r;have g:=q.out.2 a r;have⟨k,d⟩:=eaa (N a);rw[<-d]at z g
    have c:Hid (b+k=qW N e (a+1)):=by
     show b+k=if qW N e a<=6000 then qW N e a+N a else qW N e a
     rw[<-j.out,ai i,d]
    clear d;go_wp2;go_roundw
    case rel=>exact⟨b+k,a+1,E,x9,x9,E,c.out,Xo⟩
    case measure=>simp[intOf];omega
   ·have y:¬(b:Int)<=6000:=by omega
    have s:(6000:Int)<(b:Int):=E
    have c:Hid (decide (6000<qW N e e)=true):=by
     show _=_;have d:=CO (N:=N) (m:=e) (i:=a) (by rw[<-j.out];exact i) (e-a);rw[show a+(e-a)=e from E]at d;rw[bu,d, <-j.out];omega
    clear i;go_wp2;go_ret;exact⟨by rw[c.out];rfl,X⟩
  ·have x:¬(a:Int)<(e:Int):=by omega
   have B:e=a:=E;subst B;by_cases i:b<=6000
   ·have s:¬(6000:Int)<(b:Int):=by omega
    have c:Hid (decide (6000<qW N e e)=false):=by
     show _=_;rw[eV, <-j.out];omega
    clear i;go_wp2;go_ret;exact⟨by rw[c.out];rfl,X⟩
   ·have s:(6000:Int)<(b:Int):=by omega
    have c:Hid (decide (6000<qW N e e)=true):=by
     show _=_;rw[bu, <-j.out];omega
    clear i;go_wp2;go_ret;exact⟨by rw[c.out];rfl,X⟩
theorem Pp(a:FD)(b:Nat->Int):a.jG 0 b=0:=by
 unfold FD.jG;rw[af E];rfl
theorem Dl(d:a∈ak)(f:Option Addr)(g:Nat)(b:World):Calls prog 20 #[.int .i64 a.q,.slice f 0 g] b λe i=>e=.returned (.int .i64 0)∧Below b.heap.size b i:=by
 have j:Hid (a∈ak):=d;clear d;go_enter func20,ntmps20;go_wp2_with fail;refine(qj j.out b).mono ?_;rintro e k ⟨l,m,rfl,_,c⟩;have n:Hid (Below b.heap.size b (k.alloc (.cells #[.int .i64 a.q,.int .i64 a.p,.int .i64 a.m,.int .i64 a.gen,.slice (some ⟨l,0,none⟩) (a.m+1) m] 32))):=c.alloc c.size _;clear c;unfold rf;go_wp2;refine YP 1 ?_;rw[rounds_succ];go_wp2;go_ret;exact⟨X,n.out⟩
theorem pH(b:Bd e g):zc e (λj=>((g j:Nat):Int))=g:=by
 funext j
 unfold zc;by_cases a:j<e
 ·rw[ai a];simp
 ·rw[af a,b j E]
theorem kQ(b:El a g)(c:e<=128):a.jG e (λj=>((g j:Nat):Int))=0:=by
 unfold FD.jG;rw[af E,ai (iM.2 (λj _=>jT (b j)))]
theorem cG.arg(d:cG e q f g b)(h:f<=1000000):∃a c,q=.slice a f c∧Arg a f c (λj=>((g j:Nat):Int)) b:=by
 obtain⟨a,c,rfl,i,k,_,l,m,n⟩:=d.open;exact⟨a,c,X,n,l,h,m,i,k⟩
theorem Pl(a:World)(b:Nat->Int):Arg none 0 0 b a:=⟨λj c=>absurd c E,λe d=>(by cases d),E,λ_=>rfl,E,E⟩
theorem sV.arg(a:sV o e e7 g p D b){j:Nat}(c:j<e)(f:g j≠0):Arg (e7 j) (g j) (p j) (D j) b:=by
 refine⟨a.sl j c,λi f=>?_,a.qL j c,a.nil j c,a.le j c,a.cap j c⟩;obtain⟨i,k,d,h⟩:=a.sl j c 0 E;rw[f]at d;cases d;exact lN h
theorem Lp(d:a∈ak)(h:sV o e e7 g p D b){j:Nat}(i:j<e):Calls prog 20 #[.int .i64 a.q,.slice (e7 j) (g j) (p j)] b λc f=>c=.returned (.int .i64 (a.jG (g j) (D j)))∧Below b.heap.size b f:=by
 by_cases f:g j=0
 ·rw[f,Pp];exact Dl d _ _ _
 ·have c:=h.arg i f;exact Dk d c.sl c.lt c.qL
structure uI(base q c i:Nat)(v:Value)(vs:Nat->Value)(Z:Nat->Nat->Int)(w:World):Prop where
 own:fE base v (vl i vs) w
 row:∀j,j<i->aV base (vs j) (zl c (Z j)) w
 KT:∀j,j<i->Sj q c (Z j)
theorem uI.below(a:uI e f l m q s D b)(c:Below b.heap.size b w):uI e f l m q s D w:=
 ⟨a.own.below c (aa _),λj d=>(a.row j d).below c (λg h=>((a.row j d).lt g h).2),a.KT⟩
theorem uI.push{y:Nat->Int}(c:uI e f l m q s D b)(g:aV e v (zl l y) b)(i:Sj f l y)(k:fE e z (vl m s++[v]) w)(h:b.grownBy w q.ownBlock):uI e f l (m+1) z (λj=>if j=m then v else s j) (λj=>if j=m then y else D j) w:=by
 refine⟨?_,λj d=>?_,λj d=>?_⟩
 ·have a:vl (m+1) (λj=>if j=m then v else s j)=vl m s++[v]:=by
   unfold vl;rw[j5,dN]
   congr 1
   ·exact jk (λj d=>by rw[af (by have:=bj.1 d;omega)])
   ·simp
  rw[a];exact k
 ·by_cases a:j=m
  ·simp only[ai a];exact g.kept h (g.apart c.own)
  ·simp only[af a];exact(c.row j E).kept h ((c.row j E).apart c.own)
 ·by_cases a:j=m
  ·simp only[ai a];exact i
  ·simp only[af a];exact c.KT j E
theorem IQ{r T:Nat}(F:a∈ak)(G:gO r T a s b){j f ca cb t:Nat}(hn:j<=1000)(hm:f<=1000)(I:El a g)(J:El a p)(K:Bd j g)(M:Bd f p)(N:Sl o j g b)(O:Sl B f p b)(P:fp o b.heap.size)(Q:fp B b.heap.size)(V:t<a.q):Calls prog 110 #[.pointer (some ⟨r,0,none⟩),.slice o j ca,.int .i64 (t:Nat),.slice B f cb] b λl n=>l=.returned (.slice (some ⟨b.heap.size,0,none⟩) (max j f) (max j f))∧Row b.heap.size (max j f) (iF a g (aP a t p)) n∧Below b.heap.size b n:=by
 have i:Hid (gO r T a s b∧a∈ak∧Sl o j g b∧Sl B f p b∧El a g∧El a p∧Bd j g∧Bd f p∧fp o b.heap.size∧fp B b.heap.size):=⟨G,F,N,O,I,J,K,M,P,Q⟩;clear G F N O I J K M P Q;have⟨k,x⟩:=eaa (max j f);rw[<-x];have F:k<=1000:=E;have W:j<=k:=E;have F:f<=k:=E;have a0:(if(j:Int)<(f:Int)then(f:Int)else(j:Int))=(k:Int):=by split<;>omega
 have Y:Hid (k=max j f):=x;clear x;go_enter func110,ntmps110
 go_wp2_with (first
  |(at_make;refine iS rfl _ _ rfl _ k rfl rfl (by have:=Y.out;omega) E ?_;intro w1 R z)
  |(show wpList _ _ _ (Oper.mk (some 20) _ _ _ _ _::_) _ _;(refine Ch rfl _ _ rfl b.heap.size k k j ca o rfl rfl db g (ji R) (i.out.2.2.1.below (cH z (aa _) (λc A=>by simp at A)) i.out.2.2.2.2.2.2.2.2.1) W b.heap.size b (cH z (aa _) (λc A=>by simp at A)) (aa _) ?_);intro v S U))
 all_goals
  have C:Hid (Below b.heap.size b v∧Row b.heap.size k g v):=⟨U,S.congr (λc _=>by show(if c<j then g c else db c)=g c;split;rfl;exact(i.out.2.2.2.2.2.2.1 c E).symm)⟩;clear R z U S;have⟨q,j⟩:=eaa (b.heap.size);have w:Hid (Below b.heap.size b v∧Row q k g v∧q=b.heap.size):=by rw[j];exact⟨C.out.1,C.out.2,X⟩
  rw[<-j];have Z:b.heap.size<=q:=E;clear C j;go_loopw [23] (λD wr=>∃e:Nat,e<=f∧D=.int .i64 e∧Hid (Row q k (λc=>if c<e then a.sb (g c) (a.mul t (p c))else g c) wr∧Below b.heap.size b wr)) (λD _=>f-(intOf D).toNat)
  case atStart=>exact⟨0,E,X,w.out.2.1.congr (λc _=>XC),w.out.1⟩
  case round=>
   obtain⟨e,hr,rfl,m⟩:=hrel;rename World=>wr;by_cases ab:e<f
   ·obtain⟨bb,a1,rfl,ad⟩:=(i.out.2.2.2.1.below m.out.2 i.out.2.2.2.2.2.2.2.2.2) e ab
    have z:wr.cell? ⟨q,e,none⟩=some (.int .i64 (g e:Nat)):=by
     have h:=m.out.1.cell e E;rw[af E]at h;exact h
    have j:=m.out.1.free e;have⟨j,v⟩:=eaa (g e);have⟨x,gA⟩:=eaa (p e);rw[<-v]at z;rw[<-gA]at ad;have⟨y,z⟩:=eaa (a.mul t x);have⟨u,A⟩:=eaa (a.sb j y);have D:=dE i.out.2.1;have C:=i.out.1.below m.out.2 i.out.1.qY i.out.1.sg
    have ao:Hid (∀d,Calls prog 67 #[.pointer (some ⟨r,0,none⟩),.int .i64 (t:Nat),.int .i64 (x:Nat)] (wr.drewN d) λl n=>l=.returned (.int .i64 (y:Nat))∧∃c,n=(wr.drewN d).drewN c):=λd=>by
     rw[z];exact mR i.out.2.1 (C.drewN d) V (by rw[gA];exact i.out.2.2.2.2.2.1 e)
    have ar:Hid (∀d,Calls prog 126 #[.pointer (some ⟨r,0,none⟩),.int .i64 (j:Nat),.int .i64 (y:Nat)] (wr.drewN d) λl n=>l=.returned (.int .i64 (u:Nat))∧∃c,n=(wr.drewN d).drewN c):=λd=>by
     rw[A];exact By i.out.2.1 (C.drewN d) (by rw[v];exact i.out.2.2.2.2.1 e) (by rw[z];exact D.bX _ _)
    have HV:Hid (∀c,c<k->(if c<e+1 then a.sb (g c) (a.mul t (p c))else g c)=if c=e then u else if c<e then a.sb (g c) (a.mul t (p c))else g c):=λc _=>by
     rw[A,z,v,gA];by_cases l:c=e
     ·rw[ai l,ai E,l]
     ·rw[af l];by_cases j:c<e
      ·rw[ai j,ai E]
      ·rw[af j,af E]
    have j:(e:Int)<(k:Int):=E;have av:(e:Int)<(f:Int):=E;clear v gA z A D C;go_wp2;refine iU 13 wL wL ?_;simp only[cW,dC,cV,eF];repeat(go_big_quiet_step (first|(go_at_call 67;exact XS (ao.out _))|(go_at_call 126;exact XS (ar.out _))|fail))
    refine XZ ?_;intro _ j;obtain⟨nq,ax⟩:=j;subst ax;go_wp2;go_roundw
    case rel=>exact⟨e+1,E,x9,(m.out.1.drewN nq).store e u HV.out,(aO m.out.2 nq).setCell Z _⟩
    case measure=>simp[intOf];omega
   ·have av:¬(e:Int)<(f:Int):=by omega
    have HE:Hid (Row q k (iF a g (aP a t p)) wr):=m.out.1.congr (λc _=>by
     show(if c<e then a.sb (g c) (a.mul t (p c))else g c)=a.sb (g c) (a.mul t (p c));split
     ·rfl
     ·rw[i.out.2.2.2.2.2.2.2.1 c E,gI (dE i.out.2.1),oF (dE i.out.2.1) (i.out.2.2.2.2.1 c)])
    go_wp2;go_ret;refine⟨by rw[<-w.out.2.2];rfl,?_,m.out.2⟩;rw[<-w.out.2.2];exact HE.out
theorem aV.UE(d:aV e q (zl f λj=>((g j:Nat):Int)) b)(h:f<=1000000):∃a c,q=.slice a f c∧Arg a f c (λj=>((g j:Nat):Int)) b:=by
 obtain⟨a,c,i,k⟩:=d.yy;exact⟨a,c,i,k.arg h⟩
theorem Arg.drewN(a:Arg o e f t b)(c:Nat):Arg o e f t (b.drewN c):=⟨a.sl,a.lt,a.qL,a.nil,a.le,a.cap⟩
