/- Texts of ours, one behind the other: ZF9 ZF10 ZF11 ZF12 ZF13 ZF14. -/
import Derived.Test.YtedifobeggabnaaGreatCbZE19
import Derived.Conc.TokenWalk
namespace Go.Proofs.YtedifobeggabnaaGreat
set_option maxHeartbeats 8000000
set_option maxRecDepth 100000
open Tryz
variable {c m r s t:Nat}{p u:Array Value}{q v:Bool}{f:List Frame}
section
open Go.Conc Go.RowKit Go.ConcR.Gen
open Go.ConcN.Gen
def We(d:mN)(a:Nat)(b:Frame):Prop:=∃c e f g h i j k l m n o p q r s t u v w x y z A B C D E F G I J K M N O P Q R S T U V W X Y Z ab ad ao ar av ax a0 a1 a2:Value,b=(base 25).at ⟨#[d.ws,.int .i64 d.hs,mW d.p.T d.p.b6 d.p.b7 d.p.b8,c,e,.pointer (some ⟨d.p.bM,0,none⟩),.slice none 0 0,.pointer (some ⟨d.p.bO,0,none⟩),.pointer (some ⟨d.p.bB,0,none⟩),.pointer (some ⟨d.p.Wg,0,none⟩),.slice (some ⟨a,0,none⟩) d.p.N d.p.N,f,g,h,i,j,k,l,m,n,o,p,q,r,s,t,u,v,w,x,y,z,A,B,C,D,E,F,G,I,J,K,M,N,O,P,Q,R,S,T,U,V,W,X,Y,.chan (some d.p.cB),Z,ab,ad,ao,ar,av,ax,a0,a1,a2],[]⟩ [.code (jR f25),.inLoop (jR f25),.inBlock 5,.code ((gH f25) 11)]
section
variable {d:mN}{O:Nat->Prop}{w a:World}{b:Nat->Option Value}{i j:Nat}{n:Frame}{o:List Frame}{x:TypeId}{go:Option Addr}{k g:Nat}{e:Int}{l:Bool}
theorem Ck(i:d.Ok x)(h:kz d O c)(e:iq d c b w)(g:We d c n):H0 (d.p.Kx prog) (qJ (d.p.Kx prog) b) 10 O (G n (d.c::d.cs)) w:=by
 have f:∀ {w a},iq d c b w->dW d.p.rd (gz (d.p.Kx prog)) O w a->iq d c b a:=eY h.1;obtain⟨j,k,l,m,o,p,q,r,s,t,u,v,y,z,A,B,C,D,E,F,I,J,K,M,N,P,Q,R,S,T,U,V,W,Y,Z,ab,ad,ao,ar,av,ax,a0,a1,a2,a3,a4,a5,a6,a7,a8,a9,ba,bb,bc,bd,bg,rfl⟩:=g
 have g:∀(w:World),iq d c b w->qJ (d.p.Kx prog) b O (G ((base 25).at ⟨#[d.ws,.int .i64 d.hs,mW d.p.T d.p.b6 d.p.b7 d.p.b8,j,k,.pointer (some ⟨d.p.bM,0,none⟩),.slice none 0 0,.pointer (some ⟨d.p.bO,0,none⟩),.pointer (some ⟨d.p.bB,0,none⟩),.pointer (some ⟨d.p.Wg,0,none⟩),.slice (some ⟨c,0,none⟩) d.p.N d.p.N,l,m,o,p,q,r,s,t,u,v,y,z,A,B,C,D,E,F,I,J,K,M,N,P,Q,R,S,T,U,V,W,Y,Z,ab,ad,ao,ar,av,ax,a0,a1,a2,a3,a4,.chan (some d.p.cB),a5,a6,a7,a8,a9,ba,bb,bc,bd,bg],[]⟩ [.inRegion (tf f25) [0,1],.code (jj (jR f25)),.inLoop (jR f25),.inBlock 5,.code ((gH f25) 11)]) (d.c::d.cs)) w:=λw e=>⟨_,_,X,by
  show d.p.Ei O _ _;rw[i.Ei];exact⟨c,h,X,j,k,l,m,o,p,q,r,s,t,u,v,y,z,A,B,C,D,E,F,I,J,K,M,N,P,Q,R,S,T,U,V,W,Y,Z,ab,ad,ao,ar,av,ax,a0,a1,a2,a3,a4,a5,a6,a7,a8,a9,ba,bb,bc,bd,bg,X⟩,by
  show d.p.vE b O w;rw[i.vE];exact⟨c,h,e.2⟩⟩
 unfold H0;generalize qJ (d.p.Kx prog) b=h at g ⊢;generalize (gH f25) 11=h at g ⊢;simp only[tf,jR,jj,gH,f25]at g ⊢;refine aH (n:=10) (m:=0) ?_;u_c XL f e;u_reg f e;refine XO (λi h=>?_);replace e:=f e h;clear h;refine HG.stop (λh i=>?_);exact g h (f e i)
theorem SH(h:d.Ok x)(hR:Ix d O n o)(hG:Ew d b O w)(cP:gz (d.p.Kx prog) w)(mb:qF (d.p.Kx prog) w){cx:(Nat->Prop)->Goroutine->World->Prop}(hj:j<d.p.N)(hN:∀O m w n,kz d O m->iq d m (λi=>if i=j then some (.agg #[.slice go k g,.int .i64 e,.bool l])else b i) w->We d m n->H0 (d.p.Kx prog) cx c O (G n (d.c::d.cs)) w):H0 (d.p.Kx prog) cx (c+200) O (G (n.finish (recvd true (.agg #[.int .i64 j,.slice go k g,.int .i64 e,.bool l]) true)) o) w:=by
 obtain⟨m,v,rfl,Y,Z,ab,ad,ao,ar,av,ax,a0,a1,a2,a3,a4,a5,a6,a7,a8,a9,ba,bb,bc,bd,bg,bk,bl,bm,bn,bo,bp,bs,bw,bx,bz,bA,bB,bE,bM,bN,bO,bQ,bS,bY,b0,b1,b2,b3,b4,b6,b7,b8,ca,cb,cc,cf,cl,cm,rfl⟩:=hR;obtain⟨c1,cR,hG⟩:=hG;obtain rfl:=v.eq cR;have r:∀ {w a},iq d m b w->dW d.p.rd (gz (d.p.Kx prog)) O w a->iq d m b a:=eY v.1;have f:iq d m b w:=⟨⟨cP,mb⟩,hG⟩;have cP:=h.N;rw[XW];have hS:∀(Y Z ab ad ao ar av ax a0 a1 a2 a3 a4 a5 a6 a7 a8 a9 ba bb bc bd bg bk bl bm bn bo bp bs bw bx bz bA bB bE bM bN bO bQ bS bY b0 b1 b2 b3 b4 b6 b7 b8 ca cb cc cf cl cm:Value) (O:Nat->Prop) (w:World),kz d O m->iq d m (λi=>if i=j then some (.agg #[.slice go k g,.int .i64 e,.bool l])else b i) w->HG prog true d.p.rd (gz (d.p.Kx prog)) cx c O (G ((base 25).at ⟨#[d.ws,.int .i64 d.hs,mW d.p.T d.p.b6 d.p.b7 d.p.b8,Y,Z,.pointer (some ⟨d.p.bM,0,none⟩),.slice none 0 0,.pointer (some ⟨d.p.bO,0,none⟩),.pointer (some ⟨d.p.bB,0,none⟩),.pointer (some ⟨d.p.Wg,0,none⟩),.slice (some ⟨m,0,none⟩) d.p.N d.p.N,ab,ad,ao,ar,av,ax,a0,a1,a2,a3,a4,a5,a6,a7,a8,a9,ba,bb,bc,bd,bg,bk,bl,bm,bn,bo,bp,bs,bw,bx,bz,bA,bB,bE,bM,bN,bO,bQ,bS,bY,b0,b1,b2,b3,.chan (some d.p.cB),b4,b6,b7,b8,ca,cb,cc,cf,cl,cm],[]⟩ [.code (jR f25),.inLoop (jR f25),.inBlock 5,.code ((gH f25) 11)]) (d.c::d.cs)) w:=λY Z ab ad ao ar av ax a0 a1 a2 a3 a4 a5 a6 a7 a8 a9 ba bb bc bd bg bk bl bm bn bo bp bs bw bx bz bA bB bE bM bN bO bQ bS bY b0 b1 b2 b3 b4 b6 b7 b8 ca cb cc cf cl cm O w v f=>hN O m w _ v f ⟨Y,Z,ab,ad,ao,ar,av,ax,a0,a1,a2,a3,a4,a5,a6,a7,a8,a9,ba,bb,bc,bd,bg,bk,bl,bm,bn,bo,bp,bs,bw,bx,bz,bA,bB,bE,bM,bN,bO,bQ,bS,bY,b0,b1,b2,b3,b4,b6,b7,b8,ca,cb,cc,cf,cl,cm,X⟩
 clear hN;unfold H0;generalize (gH f25) 11=Y at hS ⊢;generalize hT:jj (jR f25)=Y;generalize Y:(jR f25)=Z at hS ⊢;subst hT;simp only[recvd,tf,jR,gH,jj,f25];walk_nrm;refine aH (n:=40) (m:=c+160) ?_;repeat(first|u_c XJ r f|u_c XL r f|u_reg r f|u_cnd true r f|u_cnd false r f|u_c XN r f|u_op r f|u_skip r f)
 u_c Yc r f
 repeat(first|u_c XJ r f|u_c XL r f|u_reg r f|u_cnd true r f|u_cnd false r f|u_c XN r f|u_op r f|u_skip r f)
 refine XO (λP t=>?_);replace f:=r f t;clear t;refine gK 59 (n:=c+101) ?_;refine zg r f (.cells #[.int .i64 0,.slice none 0 0,.int .i64 0,.bool false] 100) X X x5 (λa=>Xf) (λa=>Xr) (λa F=>?_);have⟨i,hx⟩:=eaa (a.heap.size);have cz:=h.ok.Ff F.1.2;have cA:¬d.p.rd i:=λQ=>by have:=cz.lt i Q;omega
 have cB:i≠m:=by have:=aC F.2;omega
 have cM:i≠d.p.Wg:=by
  obtain⟨st,sm,R⟩:=F.1.1;have:d.p.Wg<a.heap.size:=aC R;omega
 have cp:kz d (λy=>O y∨y=i) m:=⟨I v.1,λA C=>C.elim (v.2.1 A) λe=>by have:=aC F.2;omega,v.2.2⟩
 have cy:iq d m b { a with heap:=a.heap.push (.cells #[.int .i64 0,.slice none 0 0,.int .i64 0,.bool false] 100)}∧IA i { a with heap:=a.heap.push (.cells #[.int .i64 0,.slice none 0 0,.int .i64 0,.bool false] 100)}:=by
  refine⟨o9 (x:=i) h (λA C _=>?_) ⟨cA,cB,cM⟩ F,?_⟩
  ·show(a.heap.push _)[A]?=_;rw[cv,af E]
  ·subst hx;show(a.heap.push _)[a.heap.size]?=_;simp
 rw[<-hx];clear f cz;generalize r:({ a with heap:=a.heap.push (.cells #[.int .i64 0,.slice none 0 0,.int .i64 0,.bool false] 100)}:World)=S at cy ⊢;clear r F hx;have cO:∀ {w a},(iq d m b w∧IA i w)->dW d.p.rd (gz (d.p.Kx prog)) (λy=>O y∨y=i) w a->(iq d m b a∧IA i a):=λh T=>⟨eY cp.1 h.1 T,(T.qH i (J (J X))).trans h.2⟩
 walk_nrm;refine nJ (x:=i) (C':= #[.int .i64 j,.slice go k g,.int .i64 e,.bool l]) (f:=λw=>(((w.setCell ⟨i,0,none⟩ (.int .i64 j)).setCell ⟨i,1,none⟩ (.slice go k g)).setCell ⟨i,2,none⟩ (.int .i64 e)).setCell ⟨i,3,none⟩ (.bool l)) (es:= #[⟨.cell ⟨i,0,none⟩,true,false⟩,⟨.cell ⟨i,1,none⟩,true,false⟩,⟨.cell ⟨i,2,none⟩,true,false⟩,⟨.cell ⟨i,3,none⟩,true,false⟩]) cO cy (J X) (λw h=>h.2) X X x5 (λa p=>?_) (λa p=>?_) (λa p=>?_) (λcq D=>?_) (λa S U K hz V=>?_)
 ·refine⟨cD (cD (cD (cD p 0 _) 1 _) 2 _) 3 _,by rw[size_setCell,size_setCell,size_setCell,size_setCell],⟨X,X,X⟩,λy B=>by rw[heap_setCell,af B,heap_setCell,af B,heap_setCell,af B,heap_setCell,af B]⟩
 ·have c0:=cell_of (o:=0) p X;have f0:=bF p 0;have s:=cD p 0 (.int .i64 j);have M:=cell_of (o:=1) s X;have f1:=bF s 1;have u:=cD s 1 (.slice go k g);have N:=cell_of (o:=2) u X;have f2:=bF u 2;have W:=cD u 2 (.int .i64 e);have c3:=cell_of (o:=3) W X;have f3:=bF W 3;go_simp
 ·have c0:=cell_of (o:=0) p X;have f0:=bF p 0;have s:=cD p 0 (.int .i64 j);have M:=cell_of (o:=1) s X;have f1:=bF s 1;have u:=cD s 1 (.slice go k g);have N:=cell_of (o:=2) u X;have f2:=bF u 2;have W:=cD u 2 (.int .i64 e);have c3:=cell_of (o:=3) W X;have f3:=bF W 3;simp[go_sem, *];rw[X8 (hv:=rfl),X8 (hv:=rfl),M,c3];simp only[f1,f3];rfl
 ·simp only[aF,az,aD,bP]at D;rcases D with rfl|rfl|rfl|rfl<;>exact⟨_,X⟩
 ·replace f:iq d m b S∧yx i j go k g e l S:=⟨o9 (x:=i) h (λA _ C=>K A C) ⟨cA,cB,cM⟩ U.1,V⟩;clear U K hz V cy cO;have q:∀ {w a},(iq d m b w∧yx i j go k g e l w)->dW d.p.rd (gz (d.p.Kx prog)) (λy=>O y∨y=i) w a->(iq d m b a∧yx i j go k g e l a):=λh T=>⟨eY cp.1 h.1 T,(T.qH i (J (J X))).trans h.2⟩
  walk_nrm;refine aH (n:=30) (m:=c+69) ?_;repeat(first|u_c XJ q f|u_c XL q f|u_reg q f|u_cnd true q f|u_cnd false q f|u_c XN q f|u_op q f|u_skip q f)
  refine XO (λP t=>?_);replace f:=q f t;clear t;refine gK 10 (n:=c+59) ?_;refine fb (.int .i64 j) X X x5 (J (J X)) (cell_of (o:=0) f.2 X) (λa p=>Xf) (λa p=>Xh) ?_;walk_nrm;refine aH (n:=9) (m:=c+49) ?_;u_op q f;refine XO (λP t=>?_);replace f:=q f t;clear t;refine fH (.agg #[.slice go k g,.int .i64 e,.bool l]) X X x5 (λa p=>?_) (λa p cq D=>?_) ?_
  ·have z:=(q f p).2;unfold yx at z;have M:=cell_of (o:=1) z X;have N:=cell_of (o:=2) z X;have c3:=cell_of (o:=3) z X;go_simp
  ·have z:=(q f p).2;unfold yx at z;have R:=aC z;have M:=cell_of (o:=1) z X;have N:=cell_of (o:=2) z X;have c3:=cell_of (o:=3) z X
   have h0:∀r:Array Event,r= #[⟨.cell ⟨i,1,none⟩,false,false⟩,⟨.cell ⟨i,2,none⟩,false,false⟩,⟨.cell ⟨i,3,none⟩,false,false⟩]->cq∈r->BS d.p.rd (λy=>O y∨y=i) a.heap.size cq:=λr h0 hm=>by
    rw[h0]at hm;simp only[aF,az,aD,bP]at hm;rcases hm with rfl|rfl|rfl<;>exact⟨X,R,I (J X)⟩
   refine h0 _ ?_ D;simp[go_sem, *]
  walk_nrm;refine aH (n:=20) (m:=c+28) ?_;repeat(first|u_c XJ q f|u_c XL q f|u_reg q f|u_cnd true q f|u_cnd false q f|u_c XN q f|u_op q f|u_skip q f)
  refine XO (λP t=>?_);replace f:=q f t;clear t;refine nJ (x:=m) (C:=lU d.p.N b) (C':=lU d.p.N λi=>if i=j then some (.agg #[.slice go k g,.int .i64 e,.bool l])else b i) (f:=λw=>((w.setCell ⟨m,j*3,none⟩ (.slice go k g)).setCell ⟨m,j*3+1,none⟩ (.int .i64 e)).setCell ⟨m,j*3+2,none⟩ (.bool l)) (es:= #[⟨.cell ⟨m,j*3,none⟩,true,false⟩,⟨.cell ⟨m,j*3+1,none⟩,true,false⟩,⟨.cell ⟨m,j*3+2,none⟩,true,false⟩]) q f (I v.1) (λw h=>h.1.2) X X x5 (λa p=>?_) (λa p=>?_) (λa p=>?_) (λcq D=>?_) (λa S U K hz V=>?_)
  ·refine⟨?_,Xv,⟨X,X,X⟩,λy B=>by rw[heap_setCell,af B,heap_setCell,af B,heap_setCell,af B]⟩;have:=cD (cD (cD p (j*3) (.slice go k g)) (j*3+1) (.int .i64 e)) (j*3+2) (.bool l);rw[yi j 3,CC hj]at this;rw[yi j 3];exact this
  ·have c0:=cell_of (o:=j*3) p (eI E);have f0:=bF p (j*3);have s:=cD p (j*3) (.slice go k g);have M:=cell_of (o:=j*3+1) (v:=nI b (j*3+1)) s Xw;have f1:=bF s (j*3+1);have u:=cD s (j*3+1) (.int .i64 e);have N:=cell_of (o:=j*3+2) (v:=nI b (j*3+2)) u Xs;have f2:=bF u (j*3+2);clear f;go_simp
  ·have c0:=cell_of (o:=j*3) p (eI E);have f0:=bF p (j*3);have s:=cD p (j*3) (.slice go k g);have M:=cell_of (o:=j*3+1) (v:=nI b (j*3+1)) s Xw;have f1:=bF s (j*3+1);have u:=cD s (j*3+1) (.int .i64 e);have N:=cell_of (o:=j*3+2) (v:=nI b (j*3+2)) u Xs;have f2:=bF u (j*3+2);clear f;simp[go_sem, *];rw[X8 (hv:=rfl),X8 (hv:=rfl),c0,N];simp only[f0,f2];rfl
  ·simp only[aF,az,aD,bP]at D;rcases D with rfl|rfl|rfl<;>exact⟨_,X⟩
  ·have cr:iq d m (λi=>if i=j then some (.agg #[.slice go k g,.int .i64 e,.bool l])else b i) S:=by
    obtain⟨⟨⟨st,sm,R⟩,p⟩,r⟩:=U.1;refine⟨⟨⟨st,sm,(K _ λQ=>?_).trans R⟩,λA C=>(K A λQ=>?_).trans (p A C)⟩,V⟩
    ·exact v.2.2.2.1 Q.symm
    ·exact v.2.2.1 (Q▸C)
   clear U K hz V f q;have cw:∀ {w a},iq d m (λi=>if i=j then some (.agg #[.slice go k g,.int .i64 e,.bool l])else b i) w->dW d.p.rd (gz (d.p.Kx prog)) (λy=>O y∨y=i) w a->iq d m (λi=>if i=j then some (.agg #[.slice go k g,.int .i64 e,.bool l])else b i) a:=eY cp.1;walk_nrm;refine aH (n:=27) (m:=c) ?_;u_c XJ cw cr;u_c Yh cw cr;u_c YC cw cr;refine XO (λP t=>?_);exact hS _ _ _ _ _ _ _ _ _ _ _ _ _ _ _ _ _ _ _ _ _ _ _ _ _ _ _ _ _ _ _ _ _ _ _ _ _ _ _ _ _ _ _ _ _ _ _ _ _ _ _ _ _ _ _ _ _ P cp (cw cr t)
end
end
section
open Go.Conc Go.RowKit Go.ConcR.Gen
open Go.ConcR (KK WgAt stA smA)
open Go.ConcN.Gen
def te(a:Func):Array Oper:=match gH a 8 with |.seq (.region _ b _) _=>b|_ =>#[]
def Wq(d:mN)(a:Nat)(b:Frame):Prop:=∃c e f g h i j k l m n o p q r s t u v w x y z A B C D E F G I J K M N O P Q R S T U V W X Y Z ab ad ao ar av ax a0 a1 a2 a3:Value,b=((base 25).at ⟨#[d.ws,.int .i64 d.hs,mW d.p.T d.p.b6 d.p.b7 d.p.b8,c,e,.pointer (some ⟨d.p.bM,0,none⟩),.slice none 0 0,.pointer (some ⟨d.p.bO,0,none⟩),.pointer (some ⟨d.p.bB,0,none⟩),.pointer (some ⟨d.p.Wg,0,none⟩),.slice (some ⟨a,0,none⟩) d.p.N d.p.N,f,g,h,i,j,k,l,m,n,o,p,q,r,s,t,u,v,w,x,y,z,A,B,C,D,E,F,G,I,J,K,M,N,O,P,Q,R,S,T,U,V,W,X,Y,Z,ab,ad,ao,ar,av,ax,a0,a1,a2,a3],[]⟩ [.inRegion (te f25) [0],.code ((gH f25) 9)])
structure mN.Ah(d:mN)(tM:TypeId):Prop where
 ok:d.Ok tM
 rO:¬d.p.rd d.p.cO
 rB:¬d.p.rd d.p.cB
 rW:¬d.p.rd d.p.Wg
 wO:d.p.cO≠d.p.Wg
 wB:d.p.cB≠d.p.Wg
section
variable {d:mN}{O:Nat->Prop}{w e:World}{b:Nat->Option Value}{i j a:Nat}{l:Frame}{k:List Frame}{g:TypeId}
theorem LD(j:d.Ah g)(k:kz d O a)(f:∀c,c≠d.p.Wg->e.heap[c]?=w.heap[c]?)(l:Go.ConcN.WgLive iY.tWg d.p.Wg e)(h:iq d a b w):iq d a b e:=
 ⟨⟨l,λc i=>(f c λm=>j.rW (m▸i)).trans (h.1.2 c i)⟩,(f a k.2.2.2.1).trans h.2⟩
theorem SM(f:d.Ah g)(h:kz d O a)(c:Int)(e:iq d a b w):iq d a b (w.setCell (stA d.p.Wg) (.int .u64 c)):=by
 obtain⟨k,i,j⟩:=e.1.1;exact LD f h (λl k=>by rw[stA,heap_setCell,af k]) ⟨c,i,j.setSt c⟩ e
theorem SL(f:d.Ah g)(h:kz d O a)(c:Int)(e:iq d a b w):iq d a b (w.setCell (smA d.p.Wg) (.int .u32 c)):=by
 obtain⟨i,k,j⟩:=e.1.1;exact LD f h (λl k=>by rw[smA,heap_setCell,af k]) ⟨i,c,j.setSm c⟩ e
theorem EH{b:TypeId}(d:w.heap[c]?=some (.chan r p q s t v))(a:w.heap[m]?=some (.cells u b)):c≠m:=by
 rintro rfl;rw[d]at a;injection a with a
 cases a
theorem Cm(f:d.Ah g){c h cap' i j s' r':Nat}{k buf':Array Value}{l cl' m tm':Bool}(n:w.heap[c]?=some (.chan h k l i j m))(o:¬d.p.rd c)(p:c≠d.p.Wg)(e:iq d a b w):iq d a b (w.setChan c cap' buf' cl' s' r' tm'):=
 o9 f.ok (x:=c) (λ_ _ h=>Go.Conc.heap_setChan_ne _ _ _ _ _ _ _ (Ne.symm h)) ⟨o,EH n e.2,p⟩ e
theorem PD(i:d.Ah g)(hB:kz d O a)(c:iq d a b w)(k:Value)(l:Value)(m:Value)(n:Value)(o:Value)(p:Value)(q:Value)(r:Value)(s:Value)(t:Value)(u:Value)(v:Value)(x:Value)(y:Value)(z:Value)(A:Value)(B:Value)(C:Value)(D:Value)(E:Value)(F:Value)(J:Value)(K:Value)(M:Value)(N:Value)(P:Value)(Q:Value)(R:Value)(S:Value)(T:Value)(U:Value)(V:Value)(W:Value)(Y:Value)(Z:Value)(ab:Value)(ad:Value)(ao:Value)(ar:Value)(av:Value)(ax:Value)(a0:Value)(a1:Value)(a2:Value)(a3:Value)(a4:Value)(bl:Value)(a5:Value)(a6:Value)(a7:Value)(a8:Value)(a9:Value)(ba:Value)(bb:Value)(bc:Value)(bd:Value)(bg:Value):H0 (d.p.Kx prog) (BP (d.p.Kx prog) b) 60 O (G ((base 25).at ⟨#[d.ws,.int .i64 d.hs,mW d.p.T d.p.b6 d.p.b7 d.p.b8,k,l,.pointer (some ⟨d.p.bM,0,none⟩),.slice none 0 0,.pointer (some ⟨d.p.bO,0,none⟩),.pointer (some ⟨d.p.bB,0,none⟩),.pointer (some ⟨d.p.Wg,0,none⟩),.slice (some ⟨a,0,none⟩) d.p.N d.p.N,m,n,o,p,q,r,s,t,u,v,x,y,z,A,B,C,D,E,F,J,K,M,N,P,Q,R,S,T,U,V,W,Y,Z,ab,ad,ao,ar,av,ax,a0,a1,a2,a3,a4,bl,a5,a6,a7,a8,a9,ba,bb,bc,bd,bg],[]⟩ [.inRegion (te f25) [],.code ((gH f25) 9)]) (d.c::d.cs)) w:=by
 have f:∀ {w e},iq d a b w->dW d.p.rd (gz (d.p.Kx prog)) O w e->iq d a b e:=eY hB.1;have hS:∀(k l m n o p q r s t u v x y z A B C D E F J K M N P Q R S T U V W Y Z ab ad ao ar av ax a0 a1 a2 a3 a4 a5 a6 a7 a8 a9 ba bb bc bd bg:Value) (w:World),iq d a b w->H0 (d.p.Kx prog) (qJ (d.p.Kx prog) b) 10 O (G ((base 25).at ⟨#[d.ws,.int .i64 d.hs,mW d.p.T d.p.b6 d.p.b7 d.p.b8,k,l,.pointer (some ⟨d.p.bM,0,none⟩),.slice none 0 0,.pointer (some ⟨d.p.bO,0,none⟩),.pointer (some ⟨d.p.bB,0,none⟩),.pointer (some ⟨d.p.Wg,0,none⟩),.slice (some ⟨a,0,none⟩) d.p.N d.p.N,m,n,o,p,q,r,s,t,u,v,x,y,z,A,B,C,D,E,F,J,K,M,N,P,Q,R,S,T,U,V,W,Y,Z,ab,ad,ao,ar,av,ax,a0,a1,a2,a3,a4,.chan (some d.p.cB),a5,a6,a7,a8,a9,ba,bb,bc,bd,bg],[]⟩ [.code (jR f25),.inLoop (jR f25),.inBlock 5,.code ((gH f25) 11)]) (d.c::d.cs)) w:=λk l m n o p q r s t u v x y z A B C D E F J K M N P Q R S T U V W Y Z ab ad ao ar av ax a0 a1 a2 a3 a4 a5 a6 a7 a8 a9 ba bb bc bd bg w c=>Ck i.ok hB c ⟨k,l,m,n,o,p,q,r,s,t,u,v,x,y,z,A,B,C,D,E,F,J,K,M,N,P,Q,R,S,T,U,V,W,Y,Z,ab,ad,ao,ar,av,ax,a0,a1,a2,a3,a4,a5,a6,a7,a8,a9,ba,bb,bc,bd,bg,X⟩
 unfold H0 at *;generalize hN:qJ (d.p.Kx prog) b=k at hS;simp only[te,jR,gH,jj,f25]at hS ⊢;refine aH (n:=20) (m:=40) ?_;repeat(first|u_c XJ f c|u_c XL f c|u_reg f c|u_cnd true f c|u_cnd false f c|u_c XN f c|u_op f c|u_skip f c)
 refine XO (λbk h=>?_);replace c:=f c h;clear h;have j:=i.ok.ok.Ff c.1.2;refine fb (.chan (some d.p.cB)) X X x5 (I j.rB) j.cB (λe h1=>Xf) (λe h1=>Xh) ?_;walk_nrm;refine HG.stop (λq k=>?_);replace c:=f c k;clear k j;refine⟨X,λl m n o p k=>⟨_,stepG_close X X x5 X (by simp[Act.eval]) k wq,70,?_⟩⟩;replace c:=Cm (cap':=l) (buf':=m) (cl':=true) (s':=n) (r':=o) (tm':=p) i k i.rB i.wB c;generalize q.setChan d.p.cB l m true n o p=r at c ⊢;clear k;unfold H0;rw[hN];walk_nrm;refine aH (n:=20) (m:=50) ?_;repeat(first|u_c XJ f c|u_c XL f c|u_reg f c|u_cnd true f c|u_cnd false f c|u_c XN f c|u_op f c|u_skip f c)
 refine XO (λbk h=>?_);replace c:=f c h;clear h;have j:=i.ok.ok.Ff c.1.2;refine fb (.chan (some d.p.cB)) X X x5 (I j.rB) j.cB (λe h1=>Xf) (λe h1=>Xh) ?_;walk_nrm;refine gK 9 (n:=40) ?_;refine aH (n:=30) (m:=10) ?_;repeat(first|u_c XJ f c|u_c XL f c|u_reg f c|u_cnd true f c|u_cnd false f c|u_c XN f c|u_op f c|u_skip f c)
 u_c Yc f c
 u_c stepG_loop f c
 refine XO (λbk h=>?_);exact hS _ _ _ _ _ _ _ _ _ _ _ _ _ _ _ _ _ _ _ _ _ _ _ _ _ _ _ _ _ _ _ _ _ _ _ _ _ _ _ _ _ _ _ _ _ _ _ _ _ _ _ _ _ _ _ _ bk (f c h)
end
def yk(d:mN)(c:Nat->Option Value)(e:Nat->Prop)(f:Goroutine)(g:World):Prop:=∃a b,kz d e a∧iq d a c g∧Wq d a b∧Uo d.p.Wg b (d.c::d.cs) f
section
variable {d:mN}{O:Nat->Prop}{w k:World}{b:Nat->Option Value}{i j a:Nat}{e:Frame}{n:List Frame}{l:TypeId}{g:Goroutine}
theorem Sy(h:d.Ah l)(j:d.p.ye=yk d)(i:d.p.ye b O g w):g.status=.running∧∃m,H0 (d.p.Kx prog) (AtW1 (d.p.Kx prog) b) m O g w:=by
 have hA0:=i;rw[j]at i;obtain⟨a,e,f,c,n,k⟩:=i;refine⟨?_,300,?_⟩
 ·obtain⟨T,rfl,_⟩:=k;rfl
 ·obtain⟨o,p,q,r,s,t,u,v,x,y,z,A,B,C,D,E,F,G,I,J,K,M,N,P,Q,R,S,U,V,W,Y,Z,ab,ad,ao,ar,av,ax,a0,a1,a2,a3,a4,a5,a6,a7,a8,a9,ba,bb,bc,bd,bg,bk,bl,bm,bn,rfl⟩:=n;refine CF (F:=iq d a b) (m:=60) (eY f.1) (λw i c=>SM h f i c) (λw i c=>SL h f i c) (λw c=>c.1.1) (λg w c m=>?_) (λw c=>?_) c k
  ·rw[j];exact⟨a,_,f,c,⟨o,p,q,r,s,t,u,v,x,y,z,A,B,C,D,E,F,G,I,J,K,M,N,P,Q,R,S,U,V,W,Y,Z,ab,ad,ao,ar,av,ax,a0,a1,a2,a3,a4,a5,a6,a7,a8,a9,ba,bb,bc,bd,bg,bk,bl,bm,bn,X⟩,m⟩
  ·have i:((te f25)[0]?).bind (·.dst)=some 53:=by kernel_rfl
   rw[i];exact PD h f c _ _ _ _ _ _ _ _ _ _ _ _ _ _ _ _ _ _ _ _ _ _ _ _ _ _ _ _ _ _ _ _ _ _ _ _ _ _ _ _ _ _ _ _ _ _ _ _ _ _ _ _ _ _ _ _ _
theorem PG(h:d.p.ye=yk d)(f:kz d O a)(c:iq d a b w)(i:Wq d a e):H0 (d.p.Kx prog) (AtKd (d.p.Kx prog) b) 300 O (G (Frame.enter prog 53 #[.pointer (some ⟨d.p.Wg,0,none⟩)] .normal) (e::d.c::d.cs)) w:=by
 obtain⟨j,k,l,m,n,o,p,q,r,s,t,u,v,x,y,z,A,B,C,D,E,F,I,J,K,M,N,P,Q,R,S,T,U,V,W,Y,Z,ab,ad,ao,ar,av,ax,a0,a1,a2,a3,a4,a5,a6,a7,a8,a9,ba,bb,bc,bd,rfl⟩:=i;refine CG (F:=iq d a b) (eY f.1) c (λg w c i=>?_);rw[h];exact⟨a,_,f,c,⟨j,k,l,m,n,o,p,q,r,s,t,u,v,x,y,z,A,B,C,D,E,F,I,J,K,M,N,P,Q,R,S,T,U,V,W,Y,Z,ab,ad,ao,ar,av,ax,a0,a1,a2,a3,a4,a5,a6,a7,a8,a9,ba,bb,bc,bd,X⟩,i⟩
theorem GJ(g:d.Ah l)(ha:d.p.ye=yk d)(hB:kz d O a)(c:iq d a b w)(hH:Ug d a d.p.N e):H0 (d.p.Kx prog) (KY (d.p.Kx prog) b) 60 O (G e (d.c::d.cs)) w:=by
 have f:∀ {w k},iq d a b w->dW d.p.rd (gz (d.p.Kx prog)) O w k->iq d a b k:=eY hB.1;obtain⟨i,j,m,n,o,p,q,r,s,t,u,v,x,y,z,A,B,C,D,F,J,K,M,N,P,Q,R,S,T,U,V,W,Y,Z,ab,ad,ao,ar,av,ax,a0,a1,a2,a3,a4,a5,a6,a7,a8,a9,ba,bb,bc,bd,bg,bk,rfl⟩:=hH;have hN:=g.ok.N;have q1:decide ((d.p.N:Int)<(d.p.N:Int))=false:=aq E;have hS:∀(i j bl m n o p q r s t u v x y z A B C D F J K M N P Q R S T U V W Y Z ab ad ao ar av ax a0 a1 a2 a3 a4 a5 a6 a7 a8 a9 ba bb bc bd bg bk:Value) (w:World),iq d a b w->H0 (d.p.Kx prog) (AtKd (d.p.Kx prog) b) 300 O (G (Frame.enter prog 53 #[.pointer (some ⟨d.p.Wg,0,none⟩)] .normal) (((base 25).at ⟨#[d.ws,.int .i64 d.hs,mW d.p.T d.p.b6 d.p.b7 d.p.b8,i,j,.pointer (some ⟨d.p.bM,0,none⟩),.slice none 0 0,.pointer (some ⟨d.p.bO,0,none⟩),.pointer (some ⟨d.p.bB,0,none⟩),.pointer (some ⟨d.p.Wg,0,none⟩),.slice (some ⟨a,0,none⟩) d.p.N d.p.N,bl,m,n,o,p,q,r,s,t,u,v,x,y,z,A,B,C,D,F,J,K,M,N,P,Q,R,S,T,U,V,W,Y,Z,ab,ad,ao,ar,av,ax,a0,a1,a2,a3,a4,a5,a6,a7,a8,a9,ba,bb,bc,bd,bg,bk],[]⟩ [.inRegion (te f25) [0],.code ((gH f25) 9)])::d.c::d.cs)) w:=λi j bl m n o p q r s t u v x y z A B C D F J K M N P Q R S T U V W Y Z ab ad ao ar av ax a0 a1 a2 a3 a4 a5 a6 a7 a8 a9 ba bb bc bd bg bk w c=>PG ha hB c ⟨i,j,bl,m,n,o,p,q,r,s,t,u,v,x,y,z,A,B,C,D,F,J,K,M,N,P,Q,R,S,T,U,V,W,Y,Z,ab,ad,ao,ar,av,ax,a0,a1,a2,a3,a4,a5,a6,a7,a8,a9,ba,bb,bc,bd,bg,bk,X⟩
 unfold H0 at *;generalize hN:AtKd (d.p.Kx prog) b=i at hS;simp only[jQ,te,gH,jj,f25]at hS ⊢;simp only[mN.ws]at hS ⊢;refine aH (n:=40) (m:=20) ?_;repeat(first|u_c XJ f c|u_c XL f c|u_reg f c|u_cnd true f c|u_cnd false f c|u_c XN f c|u_op f c|u_skip f c)
 u_exit f c
 repeat(first|u_c XJ f c|u_c XL f c|u_reg f c|u_cnd true f c|u_cnd false f c|u_c XN f c|u_op f c|u_skip f c)
 refine XO (λbm h=>?_);replace c:=f c h;clear h;have hd:=g.ok.ok.Ff c.1.2;refine fb (.chan (some d.p.cO)) X X x5 (I hd.rO) hd.cO (λk i=>Xf) (λk i=>Xh) ?_;walk_nrm;refine HG.stop (λo i=>?_);replace c:=f c i;clear i hd;refine⟨X,wq,λj m n i=>⟨_,stepG_close X X x5 X (by simp[Act.eval]) i wq,X,330,?_⟩⟩;replace c:=Cm (cap':=0) (buf':= #[]) (cl':=true) (s':=j) (r':=m) (tm':=n) g i g.rO g.wO c;generalize o.setChan d.p.cO 0 #[] true j m n=g at c ⊢;clear i;unfold H0;rw[hN];walk_nrm;refine aH (n:=29) (m:=301) ?_;repeat(first|u_c XJ f c|u_c XL f c|u_reg f c|u_cnd true f c|u_cnd false f c|u_c XN f c|u_op f c|u_skip f c)
 refine XO (λbm h=>?_);replace c:=f c h;clear h;refine gT (n:=300) (f:=53) (vs:= #[.pointer (some ⟨d.p.Wg,0,none⟩)]) X X x5 X func53 wq wq Xf ?_;exact hS _ _ _ _ _ _ _ _ _ _ _ _ _ _ _ _ _ _ _ _ _ _ _ _ _ _ _ _ _ _ _ _ _ _ _ _ _ _ _ _ _ _ _ _ _ _ _ _ _ _ _ _ _ _ _ _ _ _ c
end
def Uw(d:mN)(j:Nat)(a:Frame):Prop:=∃b c e f g h i k l m n o p q r s t u v w x y z A B C D E F G I J K M N O P Q R S T U V W X Y Z ab ad ao ar av ax a0 a1 a2:Value,a=((base 25).at ⟨#[d.ws,.int .i64 d.hs,mW d.p.T d.p.b6 d.p.b7 d.p.b8,b,c,.pointer (some ⟨d.p.bM,0,none⟩),.slice none 0 0,.pointer (some ⟨d.p.bO,0,none⟩),.pointer (some ⟨d.p.bB,0,none⟩),.pointer (some ⟨d.p.Wg,0,none⟩),e,f,g,h,i,k,l,m,.int .i64 d.p.H,.int .i64 j,n,o,p,q,r,s,t,u,v,w,x,y,z,A,B,C,D,E,F,G,I,J,K,M,N,O,P,Q,R,S,T,U,V,W,X,Y,Z,ab,ad,ao,ar,av,ax,a0,a1,a2],[]⟩ [.code (y9 f25),.inLoop (y9 f25),.inBlock 0,.code ((gH f25) 5)])
def yw(d:mN)(a:World):Prop:=gz (d.p.Kx prog) a∧qF (d.p.Kx prog) a
section
variable {P:Program}{g:Bool}{l:Nat->Prop}{j:World->Prop}{e:(Nat->Prop)->Goroutine->World->Prop}{O:Nat->Prop}{n:Nat}{w:World}{b:Frame}{a:Act}{d:Array Oper}{i:Nat}{rest:List Nat}{k:List Item}{x:List Frame}{o:Oper}{F:World->Prop}
theorem PU(p:∀ {w c:World},F w->dW l j O w c->F c)(q:F w)(m:Obj)(h:Nat->Value)(r:d[i]?=some o)(s:Region.wanted o (yielded d a.tmps)=true)(t:b.kind≠.early)(u:∀c:World,(execOp a.eval o).run P c=.ok (.value (h c.heap.size)) { c with heap:=c.heap.push m })(v:∀c:World,(execOp a.eval o).events P c #[]= #[])(y:∀c,F c->HG P g l j e n (λf=>O f∨f=c.heap.size) (G (b.at (a.put o.dst (h c.heap.size)) (.inRegion d rest::k)) x) { c with heap:=c.heap.push m }):HG P g l j e (n+1) O (G (b.at a (.inRegion d (i::rest)::k)) x) w:=by
 refine HG.step X λc z=>?_
 rw[YV r s t (u c)]
 have r:nY O c { c with heap:=c.heap.push m }=λf=>O f∨f=c.heap.size:=by
  funext f
  have h:({ c with heap:=c.heap.push m }:World).heap.size=c.heap.size+1:=cZ ..;refine propext ⟨λh=>?_,λh=>?_⟩
  ·rcases h with h|⟨s,t⟩
   ·exact I h
   ·exact J E
  ·rcases h with h|h
   ·exact I h
   ·exact J ⟨E,E⟩
 refine⟨⟨X,X,X,by show c.heap.size<=(c.heap.push m).size;rw[cZ];omega,λf s _=>?_,λt h=>?_⟩,by rw[r];exact y c (p q z)⟩
 ·show(c.heap.push m)[f]?=_;rw[cv,af E]
 ·have:=Yr h;rw[v c]at this;simp at this
end
theorem Mo(c:Nat):madeCells #[.slice none 0 0,.int .i64 0,.bool false] (c*3)=lU c sU:=by
 refine Array.ext_getElem? λa=>?_
 by_cases d:a<3*c
 ·rw[eI d];have b:a % 3=0∨a % 3=1∨a % 3=2:=E
  have d:(madeCells #[.slice none 0 0,.int .i64 0,.bool false] (c*3))[a]?=some ((#[.slice none 0 0,.int .i64 0,.bool false]:Array Value)[a % 3]!):=by
   unfold madeCells;rw[df,Array.getElem?_range,ai E];rfl
  rw[d];unfold nI sU;rcases b with b|b|b<;>rw[b]<;>rfl
 ·rw[bC (by rw[size_madeCells];omega),bC (by rw[pT];omega)]
theorem G4:(prog.info? 39).map (λa=>(a.zero,a.size,a.bytes))=some (some (.agg #[.slice none 0 0,.int .i64 0,.bool false]),3,40):=wq
theorem LN(b:World)(a:Nat)(c:a<1000000):(Instr.makeSlice 28 (.int .i64 a) (.int .i64 a)).run prog b=.ok (.slice (some ⟨b.heap.size,0,none⟩) a a) { b with heap:=b.heap.push (.cells (lU a sU) 39)}:=by
 obtain⟨e,f,g,c,h⟩:=info_parts G4;have d:=run_makeSlice (P:=prog) b 28 39 e _ underlying28 f g .i64 .i64 (a:Int) (a:Int) E E (by rw[c,aN];omega) (by rw[h];omega) E;rw[c,aN]at d;exact d.trans (by rw[<-Mo];rfl)
theorem CE(b:World)(a:Nat)(c:a<1000000):(Instr.makeSlice 28 (.int .i64 a) (.int .i64 a)).events prog b #[]= #[]:=by
 obtain⟨d,e,f,g,c⟩:=info_parts G4;exact events_make (P:=prog) b 28 39 d _ underlying28 e f .i64 .i64 (a:Int) (a:Int) E E (by rw[c];omega) E (by rw[c,aN];omega) #[]
section
variable {d:mN}{O:Nat->Prop}{w a:World}{i j b:Nat}{e:Frame}{g:TypeId}
theorem Q5(e:d.Ah g)(a:Int)(b:yw d w):yw d (w.setCell (stA d.p.Wg) (.int .u64 a)):=by
 obtain⟨⟨c,f,h⟩,i⟩:=b;exact⟨⟨a,f,h.setSt a⟩,λb c=>by rw[stA,heap_setCell,af (λj=>e.rW ((show b=d.p.Wg from j)▸c))];exact i b c⟩
theorem SG(c:d.Ah g)(k:d.p.ye=yk d)(f:kz d O b)(h:iq d b sU w)(i:Ug d b 0 e):H0 (d.p.Kx prog) (Ae (d.p.Kx prog) 0 sU) 200 O (G e (d.c::d.cs)) w:=by
 by_cases j:0<d.p.N
 ·exact(Aw c.ok f j h i).mono λO l w a=>I ⟨j,a⟩
 ·have j:(0:Nat)=d.p.N:=by omega
  exact gK (n:=60) 140 ((GJ c k f h (by rw[<-j];exact i)).mono λO l w a=>J ⟨j,a⟩)
theorem PE(h:d.Ah g)(ha:d.p.ye=yk d)(c:yw d w)(hH:Uw d d.p.H e):H0 (d.p.Kx prog) (nZ (d.p.Kx prog) 0) 300 dU (G e (d.c::d.cs)) w:=by
 have f:∀ {w a},yw d w->dW d.p.rd (gz (d.p.Kx prog)) dU w a->yw d a:=λh bo=>xW bo h
 obtain⟨l,o,bp,bA,p,q,r,s,t,u,v,x,z,A,B,C,D,F,I,K,M,N,P,Q,R,S,T,U,V,W,Y,Z,ab,ad,ao,ar,av,ax,a0,a1,a2,a3,a4,a5,a6,a7,a8,a9,ba,bb,bc,bd,bg,bk,bl,bm,rfl⟩:=hH;have hN:=h.ok.N;have q1:decide ((d.p.H:Int)<(d.p.H:Int))=false:=aq E;have hS:∀(l o p q r s t u bo bp v x z A B C D F I K M N P Q R S T U V W Y Z ab ad ao ar av ax a0 a1 a2 a3 a4 a5 a6 a7 a8 a9 ba bb bc bd bg bk bl bm:Value) (O:Nat->Prop) (b:Nat) (w:World),kz d O b->iq d b sU w->H0 (d.p.Kx prog) (Ae (d.p.Kx prog) 0 sU) 200 O (G ((base 25).at ⟨#[d.ws,.int .i64 d.hs,mW d.p.T d.p.b6 d.p.b7 d.p.b8,l,o,.pointer (some ⟨d.p.bM,0,none⟩),.slice none 0 0,.pointer (some ⟨d.p.bO,0,none⟩),.pointer (some ⟨d.p.bB,0,none⟩),.pointer (some ⟨d.p.Wg,0,none⟩),.slice (some ⟨b,0,none⟩) d.p.N d.p.N,.int .i64 0,p,q,r,s,t,u,bo,bp,v,x,z,A,B,C,D,F,I,K,M,N,P,Q,R,S,T,U,V,W,Y,Z,ab,ad,ao,ar,av,ax,a0,a1,a2,a3,a4,a5,a6,a7,a8,a9,ba,bb,bc,bd,bg,bk,bl,bm],[]⟩ [.code (jQ f25),.inLoop (jQ f25),.inBlock 2,.code ((gH f25) 7)]) (d.c::d.cs)) w:=λl o p q r s t u bo bp v x z A B C D F I K M N P Q R S T U V W Y Z ab ad ao ar av ax a0 a1 a2 a3 a4 a5 a6 a7 a8 a9 ba bb bc bd bg bk bl bm O b w hB c=>SG h ha hB c ⟨l,o,p,q,r,s,t,u,bo,bp,v,x,z,A,B,C,D,F,I,K,M,N,P,Q,R,S,T,U,V,W,Y,Z,ab,ad,ao,ar,av,ax,a0,a1,a2,a3,a4,a5,a6,a7,a8,a9,ba,bb,bc,bd,bg,bk,bl,bm,X⟩
 unfold nZ H0 at *;generalize l:Ae (d.p.Kx prog) 0 sU=o at hS ⊢;simp only[y9,jQ,gH,jj,f25]at hS ⊢;simp only[mN.ws]at hS ⊢;refine aH (n:=40) (m:=260) ?_;repeat(first|u_c XJ f c|u_c XL f c|u_reg f c|u_cnd true f c|u_cnd false f c|u_c XN f c|u_op f c|u_skip f c)
 u_exit f c
 repeat(first|u_c XJ f c|u_c XL f c|u_reg f c|u_cnd true f c|u_cnd false f c|u_c XN f c|u_op f c|u_skip f c)
 refine XO (λbw bn=>?_);replace c:=f c bn;clear bn;refine PU (n:=259) f c (.cells (lU d.p.N sU) 39) (λl=> .slice (some ⟨l,0,none⟩) d.p.N d.p.N) X X x5 (λa=>?_) (λa=>?_) (λa m=>?_)
 ·have hm:=LN a d.p.N hN;go_simp
 ·have hm:=CE a d.p.N hN;simp[go_sem, *]
 have⟨k,hx⟩:=eaa (a.heap.size);have n:=h.ok.ok.Ff m.2
 have bx:d.p.Wg<a.heap.size:=by
  obtain⟨r,s,p⟩:=m.1;exact aC p
 have bz:kz d (λy=>dU y∨y=k) k:=⟨J X,λl o=>o.elim (λq=>q.elim) (λt=>E),λq=>by have:=n.lt k q;omega,E,by have:=n.lt _ n.rO;omega⟩
 have bs:∀l,l<a.heap.size->({ a with heap:=a.heap.push (.cells (lU d.p.N sU) 39)}:World).heap[l]?=a.heap[l]?:=λl o=>by
  show(a.heap.push _)[l]?=_;rw[cv,af E]
 have i:iq d k sU { a with heap:=a.heap.push (.cells (lU d.p.N sU) 39)}:=by
  obtain⟨r,s,p⟩:=m.1;refine⟨⟨⟨r,s,(bs _ bx).trans p⟩,λl o=>(bs l (n.lt l o)).trans (m.2 l o)⟩,?_⟩;subst hx;show(a.heap.push _)[a.heap.size]?=_;simp
 rw[<-hx];generalize ({ a with heap:=a.heap.push (.cells (lU d.p.N sU) 39)}:World)=l at i ⊢;clear c m n bx bs hx f;have j:∀ {w a},iq d k sU w->dW d.p.rd (gz (d.p.Kx prog)) (λy=>dU y∨y=k) w a->iq d k sU a:=eY bz.1;walk_nrm;refine aH (n:=59) (m:=200) ?_;repeat(first|u_c XJ j i|u_c XL j i|u_reg j i|u_cnd true j i|u_cnd false j i|u_c XN j i|u_op j i|u_skip j i)
 u_c Yc j i
 u_c stepG_loop j i
 refine XO (λbw bn=>?_);exact hS _ _ _ _ _ _ _ _ _ _ _ _ _ _ _ _ _ _ _ _ _ _ _ _ _ _ _ _ _ _ _ _ _ _ _ _ _ _ _ _ _ _ _ _ _ _ _ _ _ _ _ _ _ _ _ _ _ k bw bz (j i bn)
end
theorem TQ{g:Program}{h:Frame}{a:Act}{i:Array Oper}{rest:List Nat}{b:Oper}{j:List Item}{d:Deferred}{k:Fn}{e:World}(l:i[c]?=some b)(m:Region.wanted b (yielded i a.tmps)=true)(n:h.kind≠.early)(o:(execOp a.eval b).run g e=.ok (.spawn d) e)(r:d.target=.fn k p)(s:listed g h.fn a b e= #[]):stepG g q (G (h.at a (.inRegion i (c::rest)::j)) f) e=.spawn (G (h.at (a.put b.dst undef) (.inRegion i rest::j)) f) (born g d) e #[]:=by
 rw[stepG_spawn l m n o r,s]
section
variable {d:mN}{O:Nat->Prop}{w b:World}{i j g:Nat}{a:Frame}{e:TypeId}
theorem SK(h:d.Ah e)(ha:d.p.ye=yk d)(hH:d.p.H<1000000):∀(g j:Nat) (a:Frame) (w:World),j+g=d.p.H->yw d w->Uw d j a->H0 (d.p.Kx prog) (nZ (d.p.Kx prog) g) 340 dU (G a (d.c::d.cs)) w:=by
 intro g;induction g with
 |zero=>
  intro j a w hj c k;have bm:j=d.p.H:=E;subst bm;exact gK (n:=300) 40 (PE h ha c k)
 |succ g ih=>
  intro j a w hj c bn;have f:∀ {w b},yw d w->dW d.p.rd (gz (d.p.Kx prog)) dU w b->yw d b:=λh g=>xW g h
  obtain⟨l,m,n,o,p,q,r,s,t,u,v,x,z,A,B,C,D,F,I,J,K,M,N,O,P,Q,R,S,T,U,V,W,Y,Z,ab,ad,ao,ar,av,ax,a0,a1,a2,a3,a4,a5,a6,a7,a8,a9,ba,bb,bc,bd,bg,bk,rfl⟩:=bn;have q1:decide ((j:Int)<(d.p.H:Int))=true:=aU E;have z1:IntKind.i64.wrap ((j:Int)+1)=((j+1:Nat):Int):=by simp only[IntKind.wrap,go_sem];simp;omega
  have k:∀(l m n o p q r s t u v x z A B C D F I J K M N O P Q R S T U V W Y Z ab ad ao ar av ax a0 a1 a2 a3 a4 a5 a6 a7 a8 a9 ba bb bc bd bg bk:Value) (w:World),yw d w->H0 (d.p.Kx prog) (nZ (d.p.Kx prog) g) 340 dU (G ((base 25).at ⟨#[d.ws,.int .i64 d.hs,mW d.p.T d.p.b6 d.p.b7 d.p.b8,l,m,.pointer (some ⟨d.p.bM,0,none⟩),.slice none 0 0,.pointer (some ⟨d.p.bO,0,none⟩),.pointer (some ⟨d.p.bB,0,none⟩),.pointer (some ⟨d.p.Wg,0,none⟩),n,o,p,q,r,s,t,u,.int .i64 d.p.H,.int .i64 ((j+1:Nat):Int),v,x,z,A,B,C,D,F,I,J,K,M,N,O,P,Q,R,S,T,U,V,W,Y,Z,ab,ad,ao,ar,av,ax,a0,a1,a2,a3,a4,a5,a6,a7,a8,a9,ba,bb,bc,bd,bg,bk],[]⟩ [.code (y9 f25),.inLoop (y9 f25),.inBlock 0,.code ((gH f25) 5)]) (d.c::d.cs)) w:=λl m n o p q r s t u v x z A B C D F I J K M N O P Q R S T U V W Y Z ab ad ao ar av ax a0 a1 a2 a3 a4 a5 a6 a7 a8 a9 ba bb bc bd bg bk w c=>ih (j+1) _ w E c ⟨l,m,n,o,p,q,r,s,t,u,v,x,z,A,B,C,D,F,I,J,K,M,N,O,P,Q,R,S,T,U,V,W,Y,Z,ab,ad,ao,ar,av,ax,a0,a1,a2,a3,a4,a5,a6,a7,a8,a9,ba,bb,bc,bd,bg,bk,X⟩
  clear ih;unfold nZ;generalize nZ (d.p.Kx prog) g=l at k ⊢;unfold H0 at *;refine aH (n:=39) (m:=301) ?_;simp only[y9,gH,jj,f25]at k ⊢;repeat(first|u_c XJ f c|u_c XL f c|u_reg f c|u_cnd true f c|u_cnd false f c|u_c XN f c|u_op f c|u_skip f c)
  u_c Yc f c
  repeat(first|u_c XJ f c|u_c XL f c|u_reg f c|u_cnd true f c|u_cnd false f c|u_c XN f c|u_op f c|u_skip f c)
  refine XO (λbl i=>?_);replace c:=f c i;clear i;refine gT (n:=300) (f:=49) (vs:= #[.pointer (some ⟨d.p.Wg,0,none⟩),.int .i64 1]) X X x5 X func49 wq wq Xf ?_;refine VX (F:=yw d) (m:=40) f (λw g c=>Q5 h g c) (λw c=>c.1) c (λw c=>?_);unfold H0;walk_nrm;refine aH (n:=30) (m:=10) ?_;repeat(first|u_c XJ f c|u_c XL f c|u_reg f c|u_cnd true f c|u_cnd false f c|u_c XN f c|u_op f c|u_skip f c)
  refine XO (λbl i=>?_);replace c:=f c i;clear i;have m:∀(g:Fn) (l y:Array Value) (w:World),(Instr.makeFunc g l y).run prog w=.ok (.func g l y) w:=λ_ _ _ _=>rfl
  have bo:∀(g:Fn) (l y:Array Value) (w:World) (m:Array Event),(Instr.makeFunc g l y).events prog w m=m:=λ_ _ _ _ _=>rfl
  refine fH (n:=9) (.func (.func 50) #[] #[.pointer (some ⟨d.p.Wg,0,none⟩),.pointer (some ⟨d.p.bO,0,none⟩),.pointer (some ⟨d.p.bB,0,none⟩),.pointer (some ⟨d.p.bM,0,none⟩)]) X X x5 (λb _=>Xf) (λb _ bm he=>by simp[go_sem,bo]at he) ?_;walk_nrm;refine HG.stop (λl g=>?_);replace c:=f c g;clear g;have hd:=h.ok.ok.Ff c.2;refine⟨X,_,_,TQ (d:=wR d.p.Wg d.p.bO d.p.bB d.p.bM) X X x5 (by simp[go_sem,wR,Deferred.ofValue]) X (by simp[listed,go_sem,Deferred.ofValue,seen_none]),?_,?_⟩
  ·obtain⟨g,l⟩:=Fc (Lv:=gz (d.p.Kx prog)) hd;exact⟨g,l⟩
  ·refine⟨340+40,?_⟩;unfold H0;walk_nrm;refine aH (n:=40) (m:=340) ?_;repeat(first|u_c XJ f c|u_c XL f c|u_reg f c|u_cnd true f c|u_cnd false f c|u_c XN f c|u_op f c|u_skip f c)
   u_c Yh f c
   repeat(first|u_c XJ f c|u_c XL f c|u_reg f c|u_cnd true f c|u_cnd false f c|u_c XN f c|u_op f c|u_skip f c)
   u_c YC f c
   refine XO (λbl i=>?_);exact k _ _ _ _ _ _ _ _ _ _ _ _ _ _ _ _ _ _ _ _ _ _ _ _ _ _ _ _ _ _ _ _ _ _ _ _ _ _ _ _ _ _ _ _ _ _ _ _ _ _ _ _ _ _ _ _ bl (f c i)
end
end
section
open Go.Conc Go.RowKit Go.ConcR.Gen
section
variable {d:mN}{O:Nat->Prop}{w k:World}{b:Nat->Option Value}{i j e:Nat}{a:Frame}{g:TypeId}
theorem Sx(f:d.Ah g)(m:d.p.ye=yk d)(c:i<=d.p.N)(h:kz d O e)(j:iq d e b w)(k:Ug d e i a):H0 (d.p.Kx prog) (Ae (d.p.Kx prog) i b) 200 O (G a (d.c::d.cs)) w:=by
 by_cases l:i<d.p.N
 ·exact(Aw f.ok h l j k).mono λO n w c=>I ⟨l,c⟩
 ·have l:i=d.p.N:=by omega
  exact gK (n:=60) 140 ((GJ f m h j (by rw[<-l];exact k)).mono λO n w c=>J ⟨l,c⟩)
theorem N6(c:d.Ah g)(b:(d.p.Kx prog).BK i O a f):Iz d i O a f:=by
 have b:d.p.BK i O a f:=b;rw[c.ok.BK]at b;exact b
theorem NV(c:d.Ah g)(b:(d.p.Kx prog).Ei O a f):Ix d O a f:=by
 have b:d.p.Ei O a f:=b;rw[c.ok.Ei]at b;exact b
theorem GY(c:d.Ah g)(a:(d.p.Kx prog).vE b O w):Ew d b O w:=by
 have a:d.p.vE b O w:=a;rw[c.ok.vE]at a;exact a
theorem Qf(c:d.Ah g)(u:d.p.ye=yk d):mi (d.p.Kx prog) where
 WA:=λi O a n w f=>SJ c.ok (N6 c f) w
 TN:=λi b O a n w f q k l mb=>⟨_,PC c.ok (N6 c f) (GY c k) l mb (λe w a o h p=>Sx c u q o h p) q⟩
 T0:=λi b O a n w j r f q s m k l mb=>by
  obtain⟨t,m⟩:=m;obtain⟨go,x,y,rfl⟩:=c.ok.ok.VY j r t m;exact⟨_,PF c.ok (N6 c f) (GY c k) l mb s λO e w a o h p=>Aw c.ok o q h p⟩
 VO:=λb O v w q=>Sy c u q
 Wz:=λO a n w f=>SI c.ok (NV c f) w
 got:=λb O a n w j r f s m k l mb=>by
  obtain⟨t,m⟩:=m;obtain⟨go,x,y,rfl⟩:=c.ok.ok.VY j r t m;exact⟨_,SH c.ok (NV c f) (GY c k) l mb s λO e w a o h p=>Ck c.ok o h p⟩
 over:=λb O a n w f k l mb=>⟨_,Pz c.ok (NV c f) (GY c k) l mb⟩
 fin:=λb O v w h=>by
  have h:d.p.Fin b O v w:=h;rw[c.ok.Fin]at h;obtain⟨e,_,_,rfl⟩:=h;rfl
