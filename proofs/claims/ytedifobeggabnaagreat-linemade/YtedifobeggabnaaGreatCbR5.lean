/- Texts of ours, one behind the other: R5 R6 R7 R8 R9 R10 R11 R12 R13 R18 R14 B4 B5 B6 R15 M7 R16 R17 B7 B8 M8 M9 G1. -/
import Derived.Test.YtedifobeggabnaaGreatCbR4
import Derived.Test.YtedifobeggabnaaGreatCbM6
import Derived.Deep.RegionHeld3
namespace Go.Proofs.YtedifobeggabnaaGreat
set_option maxHeartbeats 4000000
set_option maxRecDepth 100000
open Tryz
variable {a:FD}{c n:Value}{g:Nat->Nat}{b j m:World}{d i:Nat}{l:Nat->Value}{e f:List Int}
abbrev XV:=@Go.ownsRow_setCell_other
abbrev YP:=@Go.wp_loop_rounds
section
open Go.RowKit
theorem Hy(gen:Nat)(c:Value)(d f:Int)(b:World)(h:a.has d=false∨a.has f=false):Calls prog 34 #[rf a.q a.p a.m gen c,.int .i64 d,.int .i64 f] b λg m=>g=.returned (.int .i64 (-1))∧Below b.heap.size b m:=by
 by_cases j:a.has d=true
 ·have v:a.has f=false:=by rcases h with h|h; ·rw [j] at h; cases h
                           ·exact h
  clear h;unfold rf;go_enter func34,ntmps34;go_wp2_with fail;refine(dp a gen c d _).mono ?_;rintro g i ⟨rfl,e⟩;have k:Hid (gN b.heap.size a gen c i∧Below b.heap.size b i):=⟨(eL a gen c b).below e oi,((XK _ _).alloc (aa _) _).trans (e.mono oi)⟩;obtain⟨n,o,p,q,r⟩:=k.out.1;clear e;go_wp2_with fail;refine(dp a gen c f _).mono ?_;rintro g s ⟨rfl,l⟩;have t:Hid (Below b.heap.size b s):=k.out.2.trans (l.mono k.out.2.size);clear l n o p q r;go_wp2;go_ret;exact⟨X,t.out⟩
 ·have f:a.has d=false:=by simpa using j
  clear h j;unfold rf;go_enter func34,ntmps34;go_wp2_with fail;refine(dp a gen c d _).mono ?_;rintro g i ⟨rfl,e⟩;have u:Hid (Below b.heap.size b i):=((XK _ _).alloc (aa _) _).trans (e.mono oi);clear e;go_wp2;go_ret;exact⟨X,u.out⟩
theorem NQ(l:a.m=1)(t:1<=a.p)(v:a.p<=64)(gen:Nat)(e:Value)(c d:Nat)(b:World)(w:c<64)(x:d<64)(y:a.has c=true)(z:a.has d=true):Calls prog 34 #[rf a.q a.p a.m gen e,.int .i64 c,.int .i64 d] b λi t=>i=.returned (.int .i64 (c*d % a.p:Nat))∧Below b.heap.size b t:=by
 have t:((a.m:Int)==1)=true:=by rw[l];rfl
 have t:c*d<=64*64:=cT E E;have t:(c:Int)*(d:Int)<=4096:=Xq;have t:0<=(c:Int)*(d:Int):=Xq;clear l;unfold rf;go_enter func34,ntmps34;go_wp2_with fail;refine(dp a gen e c _).mono ?_;rintro i j ⟨rfl,f⟩;have g:Hid (gN b.heap.size a gen e j∧Below b.heap.size b j):=⟨(eL a gen e b).below f oi,((XK _ _).alloc (aa _) _).trans (f.mono oi)⟩;have u:b.heap.size<j.heap.size:=by have:=f.size;simp at this;omega
 obtain⟨m,n,o,p,q⟩:=g.out.1;clear f;go_wp2_with fail;refine(dp a gen e d _).mono ?_;rintro i r ⟨rfl,k⟩;have s:Hid (gN b.heap.size a gen e r∧Below b.heap.size b r):=⟨g.out.1.below k u,g.out.2.trans (k.mono g.out.2.size)⟩;clear k m n o p q;obtain⟨m,n,o,p,q⟩:=s.out.1;go_wp2;go_ret;exact⟨aY (by rw[<-bW, <-uU]),s.out.2⟩
structure eH(D:FD)(v:Value)(md:Nat->Nat)(w:World):Prop where
 UQ:D.m=1∨∃gm lm cm,v=.slice (some ⟨gm,0,none⟩) lm cm∧D.m<lm∧gm<w.heap.size∧qD gm D.m md w
 lt:∀j,md j<D.p
theorem eH.below(e:eH a c g b)(f:Below b.heap.size b j):eH a c g j:=by
 refine⟨?_,e.lt⟩;rcases e.UQ with d|⟨i,k,l,d,m,h,n⟩
 ·exact I d
 ·exact J ⟨i,k,l,d,m,aj h f.size,n.below f h⟩
theorem DG(n:1<=a.m)(l:a.m<=6)(m:2<=a.p)(h:a.p<=64)(o:a.q<=64)(gen:Nat)(d e:Nat)(i:d<a.q)(j:e<a.q)(k:eH a c g b):Calls prog 34 #[rf a.q a.p a.m gen c,.int .i64 d,.int .i64 e] b λn o=>n=.returned (.int .i64 (gL a.p a.m g d e:Nat))∧Below b.heap.size b o:=by
 unfold gL;by_cases f:a.m=1
 ·rw[ai f];exact NQ f E h gen c d e b E E (jh i) (jh j)
 ·rw[af f];rcases k.UQ with p|⟨q,r,s,rfl,t,u,v⟩
  ·exact absurd p f
  ·exact J9 E l m h gen q r s g d e b E E (jh i) (jh j) t u k.lt v
theorem DF(k:a∈ak)(gen:Nat)(d e:Int)(n:eH a c a.md b):Calls prog 34 #[rf a.q a.p a.m gen c,.int .i64 d,.int .i64 e] b λg o=>g=.returned (.int .i64 (a.jI d e))∧Below b.heap.size b o:=by
 have f:=dE k;by_cases h:a.has d=true
 ·by_cases i:a.has e=true
  ·obtain⟨j,rfl,l⟩:=fT h;obtain⟨y,rfl,m⟩:=fT i;have g:a.jI j y=(gL a.p a.m a.md j y:Nat):=by rw[QQ k j y l m,FD.jI,ai ⟨h,i⟩];rfl
   rw[g];exact DG f.m1 f.m6 f.p2 f.Nw f.uP gen j y l m n
  ·have g:a.jI d e= -1:=by rw[FD.jI,af (by simp[i])]
   rw[g];exact Hy gen c d e b (J (by simpa using i))
 ·have g:a.jI d e= -1:=by rw[FD.jI,af (by simp[h])]
  rw[g];exact Hy gen c d e b (I (by simpa using h))
theorem LY:(prog.info? 4).map (λa=>(a.zero,a.size,a.bytes))=some (some (.bool false),1,1):=wL
theorem Jf{i:Array Oper}{rest:List Oper}{c:Oper}{f:Act}{j:Exit->Act->World->Prop}(n:c.guard=none)(g h:Operand)(o:c.op=Op.makeSlice 109 g h)(d:Int)(a:Nat)(p:f.eval g=.int .i64 d)(q:f.eval h=.int .i64 d)(k:d=(a:Int))(e:a<=1000000)(r:∀e,bD b.heap.size a 4 (λ_=> .bool false) e->b.grownBy e none->wpList prog i j rest (f.put c.dst (.slice (some ⟨b.heap.size,0,none⟩) a a)) e):wpList prog i j (c::rest) f b:=by
 obtain⟨f,i,j,s,t⟩:=X5 LY;refine wpList_make_full b n g h 109 o b.heap.size 4 f (.bool false) 1 underlying109 i j s .i64 .i64 d d a p q k k (by rw[t];omega) Xu (aa _) ?_;intro e d f;refine r e ?_ f
 have e:(madeCells (Value.bool false).cells (a*1)).toList=List.replicate a (.bool false):=by
  rw[BJ];exact YO _ _
 rw[e]at d;rcases d.2 with⟨e,_⟩|⟨f,g,l,m,_,u,_,_,h,v⟩
 ·simp at e
 ·simp only[Value.slice.injEq,bt,Addr.mk.injEq,jy,j7]at m;obtain⟨rfl,rfl⟩:=m;refine⟨l,u,E,λc e=>?_⟩;have d:(l.toList.take (a*1))[c]?=(List.replicate a (Value.bool false))[c]?:=by rw[v]
  rw[dL,ai E,jv,ai e]at d;rw[<-cU];exact d
def qO(a:Nat->Nat)(b c:Nat):Bool:=(List.range b).any λd=>again a d 1==c
theorem xF:qO g d i=true↔∃a,a<d∧again g a 1=i:=by
 unfold qO;rw[uV];constructor
 ·rintro⟨a,b,c⟩;exact⟨a,bj.1 b,br.1 c⟩
 ·rintro⟨a,b,c⟩;exact⟨a,bj.2 b,br.2 c⟩
theorem FU(a:Nat->Nat)(b c:Nat):qO a (b+1) c=(qO a b c || again a b 1==c):=by
 unfold qO;rw[j5,List.any_append];simp
theorem CB(Z:1<=a.m)(ab:a.m<=6)(hp:2<=a.p)(ad:a.p<=64)(w:2<=a.q)(hq:a.q<=64)(gen:Nat)(o:Nat)(hg:o<a.q)(B:eH a c g b)(J:∀i,i<a.q->gL a.p a.m g i o<a.q):Calls prog 32 #[rf a.q a.p a.m gen c,.int .i64 o] b λk z=>k=.returned (.bool (oN (λi=>gL a.p a.m g i o) (a.q-1)))∧Below b.heap.size b z:=by
 obtain⟨f,w⟩:∃f:Nat->Nat,f=λi=>gL a.p a.m g i o:=⟨_,X⟩
 rw[<-w];have K:Hid ((∀i,f i=gL a.p a.m g i o)∧∀i,i<a.q->f i<a.q):=⟨λi=>by rw[w],λi ha=>by rw[w];exact J i ha⟩;have HM:Hid (eH a c g b):=B;clear J B w;unfold rf;go_enter func32,ntmps32;have M:=eL a gen c b;go_wp2_with (at_make;refine Jf X _ _ X _ a.q X X X E ?_;intro n N O);have w:Below (b.heap.size+1) _ n:=cH O oi (λe A=>by simp at A);have⟨l,B⟩:=eaa (b.heap.size+1)
 have C:Hid (bD l a.q 4 (λ_=> .bool false) n∧gN b.heap.size a gen c n∧Below b.heap.size b n):=
  ⟨by rw[B];simpa using N,M.below w E,((XK _ _).alloc (aa _) _).trans (w.mono E)⟩
 have J:b.heap.size<l:=E;rw[<-B];clear N O w M B;go_loopw [6,7] (λi r wr=>∃(e d:Nat) (p:Nat->Value),e<=a.q-1∧d<a.q∧i=.int .i64 d∧r=.int .i64 e∧Hid (d=again f e 1)∧bD l a.q 4 p wr∧(∀j,j<a.q->p j=.bool (qO f e j))∧Full f e∧gN b.heap.size a gen c wr∧Below b.heap.size b wr) (λ_ r _=>a.q-(intOf r).toNat)
 case atStart=>exact⟨0,1,_,E,E,X,X,X,C.out.1,λj _=>rfl,λe A=>E,C.out.2.1,C.out.2.2⟩
 case round=>
  obtain⟨e,d,p,A,x,rfl,rfl,s,D,P,Q,ao,R⟩:=hrel;obtain⟨S,T,U,V,W⟩:=ao;have m:Hid (bD l a.q 4 p wr∧(∀j,j<a.q->p j=.bool (qO f e j))∧Full f e∧gN b.heap.size a gen c wr∧Below b.heap.size b wr):=⟨D,P,Q,⟨S,T,U,V,W⟩,R⟩;have ar:l<wr.heap.size:=D.lt;clear D P Q R;have F:wr.cell? ⟨l,d,none⟩=some (.bool (qO f e d)):=by rw[m.out.1.cell d x,m.out.2.1 d x]
  have av:=m.out.1.free d;by_cases Y:e<a.q-1
  ·by_cases t:d=0
   ·have u:Hid (oN f (a.q-1)=false):=by
     show _=_;rw[<-gJ,jS];exact λh=>(h e Y).1 (by rw[<-s.out,t])
    subst t;go_wp2;go_ret;exact⟨ic (by rw[u.out]),m.out.2.2.2.2⟩
   ·have i:((d:Int)==0)=false:=by rw[aA];exact_mod_cast t
    by_cases q:qO f e d=true
    ·have u:Hid (oN f (a.q-1)=false):=by
      show _=_;obtain⟨r,i,k⟩:=xF.1 q;rw[<-gJ,jS];exact λh=>(h e Y).2 r i (by rw[k];exact s.out)
     rw[q]at F;clear q;go_wp2;go_ret;exact⟨ic (by rw[u.out]),m.out.2.2.2.2⟩
    ·have i:qO f e d=false:=by simpa using q
     have HF:Hid (Full f (e+1)):=zf m.out.2.2.1 s.out t (λj G k=>q (xF.2 ⟨j,G,k⟩));rw[i]at F;clear q i t
     have HC:Hid (∀n:World,Below b.heap.size b n->Calls prog 34 #[.agg #[.int .i64 a.q,.int .i64 a.p,.int .i64 a.m,.int .i64 gen,c],.int .i64 d,.int .i64 o] n λk z=>k=.returned (.int .i64 (f d:Nat))∧Below n.heap.size n z):=by
      intro n i;rw[K.out.1 d];exact DG Z ab hp ad hq gen d o x hg (HM.out.below i)
     go_wp2_with fail
     refine(HC.out _ (m.out.2.2.2.2.setCell (by show b.heap.size<=l;omega) _)).mono ?_;rintro k y ⟨rfl,v⟩;have i:wr.heap.size<=y.heap.size:=by have:=v.size;simpa using this
     have I:Hid (bD l a.q 4 (upd p d (.bool true)) y∧gN b.heap.size a gen c y∧Below b.heap.size b y):=
      ⟨(m.out.1.store d _).below v (by simpa using ar),(m.out.2.2.2.1.other (XR wr ⟨l,d,none⟩ _ _ (by show b.heap.size≠l;omega))).below v x7,(m.out.2.2.2.2.setCell (by show b.heap.size<=l;omega) _).trans (v.mono x7)⟩
     clear v S T U V W F av;go_wp2;go_roundw
     case rel=>
      refine⟨e+1,f d,_,E,K.out.2 d x,X,x9,by rw[s.out];rfl,I.out.1,λj G=>?_,HF.out,I.out.2.1,I.out.2.2⟩;rw[FU, <-s.out];by_cases k:j=d
      ·subst k;rw[mH];simp
      ·rw[upd_ne _ _ _ k,m.out.2.1 j G,show(d==j)=false from x7,Bool.or_false]
     case measure=>simp[intOf];omega
  ·have u:Hid (oN f (a.q-1)=true):=by
    show _=_;have k:e=a.q-1:=E;rw[jS, <-k];exact m.out.2.2.1
   go_wp2;go_ret;exact⟨ic (by rw[u.out]),m.out.2.2.2.2⟩
def FD.C9(a:FD):List Int:=lO a.p a.low a.m++[1]
def F5(b:FD)(gen:Nat)(c:Value):Nat->Value:=λa=>if a=0 then .int .i64 b.q else if a=1 then .int .i64 b.p else if a=2 then .int .i64 b.m else if a=3 then .int .i64 gen else c
theorem vA(e:bD d 5 32 (F5 a i c) b):gN d a i c b:=
 ⟨e.cell 0 E,e.cell 1 E,e.cell 2 E,e.cell 3 E,e.cell 4 E⟩
theorem sx{T c:Nat}{e:TypeId}{a:Array Value}(f:b.heap[T]?=some (.cells a e (0,0)))(g:a.size=c)(h:∀d,d<c->a[d]?=some (l d)):bD T c e l b:=⟨a,f,g,h⟩
theorem DM(a:FD)(gen:Nat)(b:Value)(c:World):bD c.heap.size 5 32 (F5 a gen b) (c.alloc (.cells #[.int .i64 a.q,.int .i64 a.p,.int .i64 a.m,.int .i64 gen,b] 32)):=by
 refine sx (dR _) X (λa b=>?_)
 match a,b with
 |0,_=>rfl
 |1,_=>rfl
 |2,_=>rfl
 |3,_=>rfl
 |4,_=>rfl
theorem Nv(b:World)(a:List Int)(c:a.length<=1000000):aV b.heap.size (.slice (some ⟨b.heap.size,0,none⟩) a.length a.length) a (b.alloc (.cells (a.map (Value.int .i64)).toArray 3)):=by
 have:=World.ownsRow_lit (base:=b.heap.size) (e:=3) (size:=1) b (a.map (Value.int .i64)).toArray a.length (aa _) Xu oi;simpa [aV]using this
def Z5:Nat->Value:=λa=>if a<4 then .int .i64 0 else .slice none 0 0
theorem zR(a:World):bD a.heap.size 5 32 Z5 (a.alloc (.cells #[.int .i64 0,.int .i64 0,.int .i64 0,.int .i64 0,.slice none 0 0] 32)):=by
 refine sx (dR _) X (λa b=>?_)
 match a,b with
 |0,_=>rfl
 |1,_=>rfl
 |2,_=>rfl
 |3,_=>rfl
 |4,_=>rfl
theorem zn(b:a.m=1)(e:2<=a.p)(c:Value)(d:World):eH a c a.md d:=⟨I b,λj=>bZ _ E⟩
theorem Fa(e:a∈ak)(d:a.m=1)(c:Nat)(g:1<=c)(f:c<=a.gen):oN (λb=>gL a.p a.m a.md b c) (a.q-1)=decide (c=a.gen):=by
 have f:=dE e;obtain⟨e,i,j,k,h⟩:=f.tD d;have i:(λb=>gL a.p a.m a.md b c)=λb=>b*c % a.q:=by funext b;rw[gL,ai d,e]
 rw[i];by_cases e:c=a.gen
 ·rw[aU e,jS,e];have i:a.st=λb=>b*a.gen % a.q:=by funext b;rw[FD.st,ai d]
  have:=f.full;rw[i]at this;exact this
 ·rw[aq e, <-gJ,jS];exact h c g E
theorem Be(o:a∈ak)(s:a.m=1)(b:World):Calls prog 10 #[.int .i64 a.q] b λi t=>∃c,i=.returned (.tuple #[rf a.q a.p a.m a.gen c,.int .i64 0])∧aV b.heap.size c a.C9 t∧Below b.heap.size b t:=by
 have e:=dE o;have M:=e.q2;have N:=e.uP;have Y:=e.p2;have O:Hid (pp a.q=(a.p,a.m)):=br.1 (aM.1 tN a o);have Y:((a.p:Int)==0)=false:=Xp;have Y:((a.m:Int)==1)=true:=by rw[s];rfl
 have f:Hid (a∈ak∧a.m=1):=⟨o,s⟩;clear s e o;go_enter func10,ntmps10;go_wp2_with fail;refine(qg a.q _ M N).mono ?_;rintro i t ⟨rfl,rfl⟩;rw[O.out];go_wp2;obtain⟨c,j⟩:∃c:Value,c=.slice (some ⟨b.heap.size+1+1,0,none⟩) 2 2:=⟨_,X⟩;rw[<-j];have v:=zR b;have w:=DM a 0 c (b.alloc (.cells #[.int .i64 0,.int .i64 0,.int .i64 0,.int .i64 0,.slice none 0 0] 32));have x:=Nv ((b.alloc (.cells #[.int .i64 0,.int .i64 0,.int .i64 0,.int .i64 0,.slice none 0 0] 32)).alloc (.cells #[.int .i64 a.q,.int .i64 a.p,.int .i64 a.m,.int .i64 (0:Nat),c] 32)) [0,1] oi
 have y:Hid (∀wr,wr=(((b.alloc (.cells #[.int .i64 0,.int .i64 0,.int .i64 0,.int .i64 0,.slice none 0 0] 32)).alloc (.cells #[.int .i64 a.q,.int .i64 a.p,.int .i64 a.m,.int .i64 0,c] 32)).alloc (.cells #[.int .i64 0,.int .i64 1] 3))->
   bD b.heap.size 5 32 Z5 wr∧bD (b.heap.size+1) 5 32 (F5 a 0 c) wr∧aV b.heap.size c [0,1] wr∧Below b.heap.size b wr):=by
  rintro wr rfl;refine⟨(v.alloc _).alloc _,?_,?_,(((XK _ _).alloc (aa _) _).alloc oi _).alloc x7 _⟩
  ·have:=w.alloc (.cells #[.int .i64 0,.int .i64 1] 3);simpa using this
  ·have:=x.mono (base':=b.heap.size) x7;simp at this;rw[<-j]at this;exact this
 have z:Hid (c=.slice (some ⟨b.heap.size+1+1,0,none⟩) 2 2):=j;clear v w x j;go_loopw [7] (λu wr=>∃d:Nat,1<=d∧d<=a.gen∧u=.int .i64 d∧bD b.heap.size 5 32 Z5 wr∧bD (b.heap.size+1) 5 32 (F5 a 0 c) wr∧aV b.heap.size c [0,1] wr∧Below b.heap.size b wr) (λu _=>a.q-(intOf u).toNat)
 case atStart=>exact⟨1,E,((dE f.out.1).tD f.out.2).2.1,X,y.out _ X⟩
 case round=>
  clear y;obtain⟨d,P,Q,rfl,A,p,B,C⟩:=hrel;obtain⟨D,F,G,I,J⟩:=vA p;have o:=((dE f.out.1).tD f.out.2).2.2.1;have l:Hid (bD b.heap.size 5 32 Z5 wr∧bD (b.heap.size+1) 5 32 (F5 a 0 c) wr∧aV b.heap.size c [0,1] wr∧Below b.heap.size b wr):=⟨A,p,B,C⟩;have o:=p.lt;clear A p B C
  have K:Hid (Calls prog 32 #[.agg #[.int .i64 a.q,.int .i64 a.p,.int .i64 a.m,.int .i64 0,c],.int .i64 d] wr λi k=>i=.returned (.bool (decide (d=a.gen)))∧Below wr.heap.size wr k):=by
   rw[<-Fa f.out.1 f.out.2 d P Q];have e:=dE f.out.1;exact CB e.m1 e.m6 e.p2 e.Nw e.q2 e.uP 0 d E (zn f.out.2 e.p2 c wr) (λq _=>by rw[gL,ai f.out.2,(e.tD f.out.2).1];exact bZ _ E)
  go_wp2_with fail
  refine K.out.mono ?_;rintro i k ⟨rfl,m⟩
  have g:Hid (bD b.heap.size 5 32 Z5 k∧bD (b.heap.size+1) 5 32 (F5 a 0 c) k∧aV b.heap.size c [0,1] k∧Below b.heap.size b k):=
   ⟨l.out.1.below m E,l.out.2.1.below m E,l.out.2.2.1.below m (λc e=>(l.out.2.2.1.lt c e).2),l.out.2.2.2.trans (m.mono E)⟩
  clear m D F G I J K;obtain⟨D,F,G,I,J⟩:=vA g.out.2.1;by_cases r:d=a.gen
  ·have n:decide (d=a.gen)=true:=aU r;rw[n];have c:=g.out.2.1.free;have c:=g.out.1.free;have R:=g.out.1.cell 0 E;have S:=g.out.1.cell 1 E;have T:=g.out.1.cell 2 E;have U:=g.out.1.cell 3 E;have V:=g.out.1.cell 4 E;have W:Hid (d=a.gen):=r;clear r n;have j:=z.out;clear z;subst j;go_wp2;refine X2 (v:=.tuple #[.agg #[.int .i64 a.q,.int .i64 a.p,.int .i64 a.m,.int .i64 d,.slice (some ⟨b.heap.size+1+1,0,none⟩) 2 2],.int .i64 0]) (by simp[results,results10,go_sem,R,S,T,U,V]) X ?_;refine⟨.slice (some ⟨b.heap.size+1+1,0,none⟩) 2 2,by rw[W.out];rfl,?_,?_⟩
   ·have i:a.C9=[0,1]:=by
     have:=(dE f.out.1).tD f.out.2;unfold FD.C9 lO dg;rw[f.out.2,this.2.2.2.1];simp
    rw[i]
    have c:∀q:Addr,q.block<b.heap.size+2->(Value.slice (some ⟨b.heap.size+1+1,0,none⟩) 2 2).ownBlock≠some q.block:=by
     intro q b h;simp[Value.ownBlock]at h;omega
    exact XV (XV (XV (XV (XV (XV g.out.2.2.1 (c _ oi) _) (c _ oi) _) (c _ oi) _) (c _ oi) _) (c _ oi) _) (c _ oi) _
   ·exact(((((g.out.2.2.2.setCell oi _).setCell oi _).setCell oi _).setCell oi _).setCell oi _).setCell oi _
  ·have n:decide (d=a.gen)=false:=aq r;rw[n];clear n;go_wp2;go_roundw
   case rel=>exact⟨d+1,E,E,x9,g.out⟩
   case measure=>simp[intOf];omega
def Lj(a:FD):Bool:=a.m==1 || nC (a.low+1) λb=>oN (λc=>gL a.p a.m (rV a.p b) c a.p) (a.q-1)==(b==a.low) && nC a.q λc=>decide (gL a.p a.m (rV a.p b) c a.p<a.q)
theorem EK:ak.all Lj=true:=x6
theorem S8(e:a∈ak)(f:a.m≠1)(d:Nat)(b:d<=a.low):oN (λc=>gL a.p a.m (rV a.p d) c a.p) (a.q-1)=(d==a.low)∧∀c,c<a.q->gL a.p a.m (rV a.p d) c a.p<a.q:=by
 have b:=aM.1 EK a e;unfold Lj at b;rw[iB,br]at b;have b:=dJ (b.resolve_left f) d E;rw[aI,br]at b;exact⟨b.1,λc d=>nk (dJ b.2 c d)⟩
theorem C8{D:FD}{l a c e:Nat}(i:2<=D.p)(d:aV e (.slice (some ⟨a,0,none⟩) (D.m+1) c) (lO D.p l D.m++[1]) b):eH D (.slice (some ⟨a,0,none⟩) (D.m+1) c) (rV D.p l) b:=by
 have e:(lO D.p l D.m++[(1:Int)]).length=D.m+1:=by rw[aQ,g8];rfl
 refine⟨J ⟨a,D.m+1,c,X,E,(d.lt a X).2,λj f=>?_⟩,λj=>bZ _ E⟩;obtain⟨c,i,g,_,_,h,_⟩:=d.at (by intro a;rw[a]at e;simp at e);simp only[Value.slice.injEq,bt,Addr.mk.injEq,jy]at g;obtain⟨rfl,_,_⟩:=g;rw[h j E,aG,bL (by rw[g8];exact f), <-aG,nG _ _ _ _ f];rfl
theorem So(b:FD)(gen:Nat)(d c:Value):∀a,a<5->upd (F5 b gen d) 4 c a=F5 b gen c a:=by
 intro a b
 match a,b with
 |0,_=>rfl
 |1,_=>rfl
 |2,_=>rfl
 |3,_=>rfl
 |4,_=>rfl
theorem Bc(w:a∈ak)(x:a.m≠1)(b:World):Calls prog 10 #[.int .i64 a.q] b λl m=>∃c,l=.returned (.tuple #[rf a.q a.p a.m a.gen c,.int .i64 0])∧aV b.heap.size c a.C9 m∧eH a c a.md m∧Below b.heap.size b m:=by
 have f:=dE w;have Q:=f.q2;have R:=f.uP;have y:=f.p2;have S:=f.Nw;have ao:=f.m6;have a4:=f.m1
 have ar:a.p<a.q:=by
  rw[f.qp];have:a.p ^ 1<a.p ^ a.m:=Nat.pow_lt_pow_right y E;simpa using this
 have HP:Hid (pp a.q=(a.p,a.m)):=br.1 (aM.1 tN a w);have a4:((a.p:Int)==0)=false:=Xp;have a4:((a.m:Int)==1)=false:=Xp;have T:Hid (a∈ak∧a.m≠1):=⟨w,x⟩;have a4:=(f.Fq x).2.1;have av:Hid (a.gen=a.p):=(f.Fq x).1;clear x f w;go_enter func10,ntmps10;go_wp2_with fail;refine(qg a.q _ Q R).mono ?_;rintro l m ⟨rfl,rfl⟩;rw[HP.out];go_wp2;have U:=zR b;have V:=DM a a.p (.slice none 0 0) (b.alloc (.cells #[.int .i64 0,.int .i64 0,.int .i64 0,.int .i64 0,.slice none 0 0] 32))
 have W:Hid (∀wr,wr=((b.alloc (.cells #[.int .i64 0,.int .i64 0,.int .i64 0,.int .i64 0,.slice none 0 0] 32)).alloc (.cells #[.int .i64 a.q,.int .i64 a.p,.int .i64 a.m,.int .i64 a.p,.slice none 0 0] 32))->
   bD b.heap.size 5 32 Z5 wr∧bD (b.heap.size+1) 5 32 (F5 a a.p (.slice none 0 0)) wr∧Below b.heap.size b wr):=by
  rintro wr rfl;refine⟨U.alloc _,?_,((XK _ _).alloc (aa _) _).alloc oi _⟩;simpa using V
 clear U V;go_loopw [8] (λD wr=>∃(d:Nat) (r:Value),d<=a.low∧D=.int .i64 d∧bD b.heap.size 5 32 Z5 wr∧bD (b.heap.size+1) 5 32 (F5 a a.p r) wr∧Below b.heap.size b wr) (λD _=>a.q-(intOf D).toNat)
 case atStart=>exact⟨0,_,E,X,W.out _ X⟩
 case round=>
  clear W;obtain⟨d,r,hl,rfl,Y,F,G⟩:=hrel;have z:Hid (bD b.heap.size 5 32 Z5 wr∧bD (b.heap.size+1) 5 32 (F5 a a.p r) wr∧Below b.heap.size b wr):=⟨Y,F,G⟩;have Z:=F.lt;have I:=G.size;clear Y F G;go_wp2_with fail;refine(kE d a.p a.m _ E E S E).mono ?_;rintro l j ⟨v1,rfl,ab,s⟩;have A:Hid (bD b.heap.size 5 32 Z5 j∧bD (b.heap.size+1) 5 32 (F5 a a.p r) j∧Below b.heap.size b j):=⟨z.out.1.below s E,z.out.2.1.below s Z,z.out.2.2.trans (s.mono I)⟩;have J:Hid (aV wr.heap.size v1 (lO a.p d a.m) j):=ab;have ax:wr.heap.size<=j.heap.size:=s.size;clear s ab;go_wp2_with (at_builtin;refine kC X _ _ X wr.heap.size _ (lO a.p d a.m) X (J.out.alloc _) ⟨_,0,none⟩ 1 1 X oi (by rw[g8];omega) x7 ?_;intro v2 g K ad;obtain⟨n,o,f2,rfl,hg,a5,a6,a7,a0,a1⟩:=K.row (a.m+1) (by rw[aQ,g8];rfl) E;have t:Below wr.heap.size j g:=(((XK wr.heap.size j).alloc ax _).grown ad x7 (λM N=>(J.out.lt M N).1));have B:=A.out.2.1.below t Z;obtain⟨c0,c1,c2,c3,c4⟩:=vA B;have a2:=B.free);obtain⟨c,i⟩:∃c:Value,c=.slice (some ⟨n,0,none⟩) (a.m+1) o:=⟨_,X⟩;have O:Hid (c=.slice (some ⟨n,0,none⟩) (a.m+1) o):=i
  have P:Hid (∀k,k=g.setCell ⟨b.heap.size+1,4,none⟩ c->bD b.heap.size 5 32 Z5 k∧bD (b.heap.size+1) 5 32 (F5 a a.p c) k∧aV wr.heap.size c (lO a.p d a.m++[1]) k∧Below b.heap.size b k∧eH a c (rV a.p d) k):=by
   rintro k rfl;have p:aV wr.heap.size c (lO a.p d a.m++[1]) (g.setCell ⟨b.heap.size+1,4,none⟩ c):=XV (i▸K) (by rw[i];intro h;simp[Value.ownBlock]at h;omega) _;refine⟨(A.out.1.below t E).setOther _ (by show b.heap.size≠b.heap.size+1;omega) _,(B.store 4 c).congr (So a a.p r c),p,(A.out.2.2.trans (t.mono I)).setCell (by show b.heap.size<=b.heap.size+1;omega) _,?_⟩;rw[i]at p ⊢;exact C8 y p
  have a3:(g.setCell ⟨b.heap.size+1,4,none⟩ c).heap.size=g.heap.size:=oi;have f:b.heap.size+1<g.heap.size:=by have:=t.size;omega
  rw[<-i];clear c0 c1 c2 c3 c4 a2 B t a0 a1 K ad J A z
  have HC:Hid (Calls prog 32 #[.agg #[.int .i64 a.q,.int .i64 a.p,.int .i64 a.m,.int .i64 a.p,c],.int .i64 a.p] (g.setCell ⟨b.heap.size+1,4,none⟩ c) λl m=>l=.returned (.bool (d==a.low))∧Below (g.setCell ⟨b.heap.size+1,4,none⟩ c).heap.size (g.setCell ⟨b.heap.size+1,4,none⟩ c) m):=by
   have f:=S8 T.out.1 T.out.2 d hl;rw[<-f.1];exact CB E ao y S Q R a.p a.p ar (P.out _ X).2.2.2.2 f.2
  refine HC.out.mono ?_;rintro l u ⟨rfl,q⟩
  have e:Hid (bD b.heap.size 5 32 Z5 u∧bD (b.heap.size+1) 5 32 (F5 a a.p c) u∧aV wr.heap.size c (lO a.p d a.m++[1]) u∧Below b.heap.size b u∧eH a c (rV a.p d) u):=by
   obtain⟨j,k,f,g,l⟩:=P.out _ X;exact⟨j.below q E,k.below q E,f.below q (λM N=>(f.lt M N).2),g.trans (q.mono g.size),l.below q⟩
  clear q HC P a3;by_cases C:d=a.low
  ·have v:(d==a.low)=true:=br.2 C;rw[v];obtain⟨c0,c1,c2,c3,c4⟩:=vA e.out.2.1;have f:=e.out.1.free;have r0:=e.out.1.cell 0 E;have r1:=e.out.1.cell 1 E;have r2:=e.out.1.cell 2 E;have r3:=e.out.1.cell 3 E;have r4:=e.out.1.cell 4 E;have HE:Hid (d=a.low):=C;clear C v i;have i:=O.out;clear O;subst i;go_wp2;refine X2 (v:=.tuple #[.agg #[.int .i64 a.q,.int .i64 a.p,.int .i64 a.m,.int .i64 a.p,.slice (some ⟨n,0,none⟩) (a.m+1) o],.int .i64 0]) (by simp[results,results10,go_sem,r0,r1,r2,r3,r4]) X ?_
   have f:∀g:Addr,g.block=b.heap.size->(Value.slice (some ⟨n,0,none⟩) (a.m+1) o).ownBlock≠some g.block:=by
    intro g j h;simp[Value.ownBlock]at h;omega
   have p:=XV (XV (XV (XV (XV e.out.2.2.1 (f ⟨b.heap.size,0,none⟩ X) (.int .i64 a.q)) (f ⟨b.heap.size,1,none⟩ X) (.int .i64 a.p)) (f ⟨b.heap.size,2,none⟩ X) (.int .i64 a.m)) (f ⟨b.heap.size,3,none⟩ X) (.int .i64 a.p)) (f ⟨b.heap.size,4,none⟩ X) (.slice (some ⟨n,0,none⟩) (a.m+1) o);have b:lO a.p d a.m++[(1:Int)]=a.C9:=by rw[HE.out];rfl
   refine⟨.slice (some ⟨n,0,none⟩) (a.m+1) o,by rw[av.out];rfl,?_,?_,?_⟩
   ·rw[<-b];exact aV.mono p I
   ·have:=C8 (D:=a) (l:=d) y p;rw[HE.out]at this;exact this
   ·exact((((e.out.2.2.2.1.setCell oi _).setCell oi _).setCell oi _).setCell oi _).setCell oi _
  ·have v:(d==a.low)=false:=aA.2 C;rw[v];clear v i O;go_wp2;go_roundw
   case rel=>exact⟨d+1,c,E,x9,e.out.1,e.out.2.1,e.out.2.2.2.1⟩
   case measure=>simp[intOf];omega
theorem xC(e:a∈ak)(b:World):Calls prog 10 #[.int .i64 a.q] b λg d=>∃c,g=.returned (.tuple #[rf a.q a.p a.m a.gen c,.int .i64 0])∧aV b.heap.size c a.C9 d∧eH a c a.md d∧Below b.heap.size b d:=by
 by_cases f:a.m=1
 ·refine(Be e f b).mono ?_;rintro g d ⟨c,h,i,j⟩;exact⟨c,h,i,zn f (dE e).p2 c d,j⟩
 ·exact Bc e f b
theorem L0(e:a∈ak)(b c:Nat)(g:b<a.q)(i:c<a.q)(h:b≠0)(j:a.mul b c=1):c=a.pw b (a.q-2):=by
 have d:=dE e;have f:=t11 e g h;rw[lW e g h,mC d g (xB e _ _)]at f;have f:a.mul b (a.pw b (a.q-2))=1:=by exact_mod_cast f
 have g:=d.mul_assoc (a.pw b (a.q-2)) b c;rw[j,d.mul_comm _ b,f,d.mul_comm 1 c,d.mul_one c i,d.mul_one _ (xB e _ _)]at g;exact g
theorem xD(f:a∈ak)(gen:Nat)(q:Int)(u:eH a c a.md b):Calls prog 61 #[rf a.q a.p a.m gen c,.int .i64 q] b λk z=>k=.returned (.int .i64 (a.kv q (-1)))∧Below b.heap.size b z:=by
 have l:=dE f;have s:=l.uP;have s:=l.q2;have J:Hid (eH a c a.md b∧a∈ak∧bV a):=⟨u,f,l⟩;by_cases A:a.has q=true
 ·obtain⟨e,rfl,m⟩:=fT A;by_cases n:e=0
  ·have r:Hid (a.kv e (-1)= -1):=inv_zero m n;have O:((e:Int)==0)=true:=br.2 E;clear u f l n;unfold rf;go_enter func61,ntmps61;go_wp2_with fail;refine(dp a gen c e _).mono ?_;rintro k o ⟨rfl,g⟩;have B:Hid (Below b.heap.size b o):=((XK _ _).alloc (aa _) _).trans (g.mono oi);clear g;go_wp2;go_ret;exact⟨aY (by rw[r.out]),B.out⟩
  ·have⟨i,s⟩:=eaa (a.pw e (a.q-2));have r:Hid (a.kv e (-1)=(i:Nat)):=by show _=_;rw[lW f m n,s]
   have K:i<a.q:=by rw[s];exact xB f _ _
   have P:1<=i:=by have:=(R8 f e (a.q-2)).1;omega
   have Q:Hid (∀d,d<a.q->(a.jI e d=1↔d=i)):=by
    intro d K;rw[mC l m K];constructor
    ·intro h;rw[s];exact L0 f e d m K n (by exact_mod_cast h)
    ·intro h;have K:=t11 f m n;rw[lW f m n,mC l m (xB f _ _)]at K;rw[h,s];exact K
   have O:((e:Int)==0)=false:=Xp;clear u f l n s;unfold rf;go_enter func61,ntmps61;go_wp2_with fail;refine(dp a gen c e _).mono ?_;rintro k o ⟨rfl,g⟩;have M:Hid (gN b.heap.size a gen c o∧Below b.heap.size b o):=⟨(eL a gen c b).below g oi,((XK _ _).alloc (aa _) _).trans (g.mono oi)⟩;have R:b.heap.size<o.heap.size:=by have:=g.size;simp at this;omega
   clear g;go_wp2;go_loopw [5] (λj wr=>∃d:Nat,1<=d∧d<=i∧j=.int .i64 d∧gN b.heap.size a gen c wr∧Below b.heap.size b wr∧b.heap.size<wr.heap.size) (λj _=>a.q-(intOf j).toNat)
   case atStart=>exact⟨1,E,P,X,M.out.1,M.out.2,R⟩
   case round=>
    obtain⟨d,g,Z,rfl,S,N,T⟩:=hrel;obtain⟨C,D,F,G,I⟩:=S;have v:Hid (gN b.heap.size a gen c wr∧Below b.heap.size b wr):=⟨⟨C,D,F,G,I⟩,N⟩;clear N
    have w:Hid (Calls prog 34 #[.agg #[.int .i64 a.q,.int .i64 a.p,.int .i64 a.m,.int .i64 gen,c],.int .i64 e,.int .i64 d] wr λk z=>k=.returned (.int .i64 (a.jI e d))∧Below wr.heap.size wr z):=
     DF J.out.2.1 gen e d (J.out.1.below v.out.2)
    have x:=Q.out d E;by_cases y:d=i
    ·have U:(a.jI e d==1)=true:=br.2 (x.2 y);have V:Hid (d=i):=y;clear y x;go_wp2_with fail;refine w.out.mono ?_;rintro k t ⟨rfl,p⟩;have W:Hid (Below b.heap.size b t):=v.out.2.trans (p.mono E);clear p C D F G I w;go_wp2;go_ret;exact⟨aY (by rw[r.out,V.out]),W.out⟩
    ·have U:(a.jI e d==1)=false:=aA.2 (λh=>y (x.1 h));clear x;go_wp2_with fail;refine w.out.mono ?_;rintro k t ⟨rfl,p⟩;have Y:Hid (gN b.heap.size a gen c t∧Below b.heap.size b t∧b.heap.size<t.heap.size):=⟨v.out.1.below p T,v.out.2.trans (p.mono E),by have:=p.size;omega⟩;clear p C D F G I w;go_wp2;go_roundw
     case rel=>exact⟨d+1,E,E,x9,Y.out⟩
     case measure=>simp[intOf];omega
 ·have d:a.has q=false:=by simpa using A
  have r:Hid (a.kv q (-1)= -1):=by show _=_;rw[FD.kv,ai d]
  clear A u f l;unfold rf;go_enter func61,ntmps61;go_wp2_with fail;refine(dp a gen c q _).mono ?_;rintro k o ⟨rfl,g⟩;have B:Hid (Below b.heap.size b o):=((XK _ _).alloc (aa _) _).trans (g.mono oi);clear g;go_wp2;go_ret;exact⟨aY (by rw[r.out]),B.out⟩
theorem nR(f:a∈ak)(gen:Nat)(g:eH a c a.md b)(d e:Nat)(h:d<a.q)(i:e<a.q)(wr:World)(j:Below b.heap.size b wr):Calls prog 34 #[.agg #[.int .i64 a.q,.int .i64 a.p,.int .i64 a.m,.int .i64 gen,c],.int .i64 d,.int .i64 e] wr λk l=>k=.returned (.int .i64 (a.mul d e:Nat))∧Below wr.heap.size wr l:=by
 rw[<-mC (dE f) h i];exact DF f gen d e (g.below j)
def kA(c:Value)(a:List Int)(f:World):Prop:=
 (a=[]∧∃g b,c=.slice g 0 b)∨(a≠[]∧a.length<=1000000∧∃d e b,c=.slice (some ⟨d,e,none⟩) a.length b∧∀j,j<a.length->f.cell? ⟨d,e+j,none⟩=some (.int .i64 (a.getD j 0)))
theorem aV.slice(h:aV d c e b)(k:e.length<=1000000):kA c e b:=by
 by_cases a:e=[]
 ·refine I ⟨a,?_⟩;rcases h.2 with⟨l,_⟩|⟨i,g,m,f,_⟩
  ·exact⟨none,0,l⟩
  ·rw[a]at f;exact⟨_,g,f⟩
 ·obtain⟨i,g,f,_,_,l,_⟩:=h.at a;exact J ⟨a,k,i,0,g,f,λj h=>by rw[aW];exact l j h⟩
theorem yD(a b:List Int)(c:a.length=b.length)(d:∀j,j<a.length->a.getD j 0=b.getD j 0):a=b:=by
 apply List.ext_getElem c;intro b a c;have:=d b a
 rwa [aG,aG,aE a,aE c]at this
theorem NZ(x:kA c e b)(o:kA n f b):Calls prog 13 #[c,n] b λk C=>k=.returned (.bool (decide (e=f)))∧∃g,C=b.drewN g:=by
 by_cases i:e.length=f.length
 ·rcases x with⟨rfl,l,m,rfl⟩|⟨F,N,z,A,s,rfl,G⟩
  ·have O:f=[]:=fY.1 i.symm;subst O;rcases o with⟨_,t,u,rfl⟩|⟨B,_⟩
   ·clear i;go_enter func13,ntmps13;go_wp2;refine YP 1 ?_;rw[rounds_succ];go_wp2;go_ret;exact⟨X,0,X⟩
   ·exact absurd X B
  ·rcases o with⟨rfl,t,u,rfl⟩|⟨B,P,Q,R,V,rfl,I⟩
   ·exact absurd (fY.1 i) F
   ·have⟨g,C⟩:=eaa (e.length);rw[<-i, <-C];have J:Hid ((∀j,j<g->b.cell? ⟨z,A+j,none⟩=some (.int .i64 (e.getD j 0)))∧(∀j,j<g->b.cell? ⟨Q,R+j,none⟩=some (.int .i64 (f.getD j 0)))):=⟨λj v=>G j E,λj v=>I j E⟩;have K:Hid (g=e.length∧e.length=f.length):=⟨C,i⟩;have O:g<=1000000:=E;clear G I F N B P i C;go_enter func13,ntmps13;go_wp2;go_loopw [5] (λD wr=>∃a:Nat,a<=g∧D=.int .i64 a∧Hid (∀j,j<a->e.getD j 0=f.getD j 0)∧∃d,wr=b.drewN d) (λD _=>g-(intOf D).toNat)
    case atStart=>exact⟨0,E,X,λj v=>E,0,X⟩
    case round=>
     obtain⟨a,W,rfl,M,d,rfl⟩:=hrel;by_cases B:a<g
     ·have D:=J.out.1 a B;have F:=J.out.2 a B;have⟨p,B⟩:=eaa (e.getD a 0);have⟨y,C⟩:=eaa (f.getD a 0);rw[<-B]at D;rw[<-C]at F;have w:Hid (p=e.getD a 0∧y=f.getD a 0):=⟨B,C⟩;clear B C;by_cases q:p=y
      ·have o:(p !=y)=false:=by rw[q];simp
       have S:Hid (∀j,j<a+1->e.getD j 0=f.getD j 0):=λj v=>if k:j=a then by rw[k, <-w.out.1, <-w.out.2,q]else M.out j E
       clear q;go_wp2
       go_quiet (fail)
       go_wp2;go_roundw
       case rel=>exact⟨a+1,E,x9,S.out,_,X⟩
       case measure=>simp[intOf];omega
      ·have o:(p !=y)=true:=by rw[dy];exact q
       have r:Hid (decide (e=f)=false):=by
        show _=_;rw[eV];intro k;exact q (by rw[w.out.1,w.out.2,k])
       clear q;go_wp2
       go_quiet (fail)
       go_wp2;go_ret;exact⟨ic (by rw[r.out]),_,by rw[Ye]⟩
     ·have r:Hid (decide (e=f)=true):=by
       show _=_;rw[bu];exact yD e f K.out.2 (λj v=>M.out j (by have:=K.out.1;omega))
      go_wp2;go_ret;exact⟨ic (by rw[r.out]),_,X⟩
 ·have r:Hid (decide (e=f)=false):=by
   show _=_;rw[eV];intro k;exact i (by rw[k])
  obtain⟨l,m,T⟩:∃l m,c=.slice l e.length m:=by
   rcases x with⟨rfl,l,m,rfl⟩|⟨_,_,z,A,s,rfl,_⟩
   ·exact⟨l,m,X⟩
   ·exact⟨_,s,X⟩
  obtain⟨t,u,U⟩:∃t u,n=.slice t f.length u:=by
   rcases o with⟨rfl,l,m,rfl⟩|⟨_,_,z,A,s,rfl,_⟩
   ·exact⟨l,m,X⟩
   ·exact⟨_,s,X⟩
  subst T U;have a:(((e.length:Nat):Int) !=((f.length:Nat):Int))=true:=by rw[dy];exact_mod_cast i
  generalize e.length=g at *;generalize f.length=Y at *;clear x o i;go_enter func13,ntmps13;go_wp2;go_ret;exact⟨ic (by rw[r.out]),0,X⟩
theorem C7{a:Int}:a∈e↔∃j,j<e.length∧e.getD j 0=a:=by
 constructor
 ·intro c;obtain⟨j,a,b⟩:=List.getElem_of_mem c;exact⟨j,a,by rw[aG,aE a];exact b⟩
 ·rintro⟨j,a,b⟩;rw[aG,aE a]at b;rw[<-b];exact uW a
theorem LX(g:Int)(h:kA c e b):Calls prog 43 #[.int .i64 g,c] b λi l=>i=.returned (.bool (decide (g∈e)))∧∃f,l=b.drewN f:=by
 rcases h with⟨rfl,A,B,rfl⟩|⟨t,u,v,w,C,rfl,q⟩
 ·go_enter func43,ntmps43;go_wp2;refine YP 1 ?_;rw[rounds_succ];go_wp2;go_ret;exact⟨X,0,X⟩
 ·have⟨f,l⟩:=eaa (e.length);rw[<-l];have m:Hid ((∀j,j<f->b.cell? ⟨v,w+j,none⟩=some (.int .i64 (e.getD j 0)))∧f=e.length):=⟨λj n=>q j E,l⟩;have v:f<=1000000:=E;clear q t u l;go_enter func43,ntmps43;go_wp2;go_loopw [5] (λo wr=>∃a:Nat,a<=f∧o=.int .i64 a∧Hid (∀j,j<a->e.getD j 0≠g)∧∃d,wr=b.drewN d) (λo _=>f-(intOf o).toNat)
  case atStart=>exact⟨0,E,X,λj n=>E,0,X⟩
  case round=>
   obtain⟨a,D,rfl,r,d,rfl⟩:=hrel;by_cases l:a<f
   ·have o:=m.out.1 a l;have⟨y,f⟩:=eaa (e.getD a 0);rw[<-f]at o;have s:Hid (y=e.getD a 0):=f;clear f;by_cases k:y=g
    ·have x:(y==g)=true:=br.2 k
     have p:Hid (decide (g∈e)=true):=by
      show _=_;rw[bu];exact C7.2 ⟨a,by have:=m.out.2;omega,by rw[<-s.out,k]⟩
     clear k;go_wp2;go_ret;exact⟨ic (by rw[p.out]),_,by first|rfl|rw[Ye]⟩
    ·have x:(y==g)=false:=aA.2 k;have z:Hid (∀j,j<a+1->e.getD j 0≠g):=λj n=>if i:j=a then by rw[i, <-s.out];exact k else r.out j E
     clear k;go_wp2;go_roundw
     case rel=>exact⟨a+1,E,x9,z.out,_,X⟩
     case measure=>simp[intOf];omega
   ·have p:Hid (decide (g∈e)=false):=by
     show _=_;rw[eV];intro i;obtain⟨j,n,i⟩:=C7.1 i;exact r.out j (by have:=m.out.2;omega) i
    go_wp2;go_ret;exact⟨ic (by rw[p.out]),_,X⟩
theorem iO(a:Below d b j)(c:Below j.heap.size j m)(e:d<=b.heap.size:=by exact aa _):Below d b m:=a.trans (c.mono (aK e a.size))
def FD.val(a:FD)(b:Nat->Nat)(c d:Nat):Nat->Nat
 |0=>0
 |k+1=>dz a.p a.q (a.mul (a.val b c d k) d) (b (c-1-k))
theorem BA(b:a∈ak)(c:Nat->Nat)(d e:Nat)(f:∀j,c j<a.q):∀k,a.val c d e k<a.q
 |0=>by have:=(dE b).q2;show 0<a.q;omega
 |k+1=>(dE b).xP _ _ ((dE b).bX _ _) (f _)
theorem al(a:Below d b j)(c:Below j.heap.size j m)(e:d<=b.heap.size:=by exact aa _):Below d b m:=a.trans (c.mono (aK e a.size))
theorem Dw(d:a∈ak)(gen:Nat)(e:Value)(b c:Nat)(f:b<a.q)(g:c<a.q)(wr:World):Calls prog 41 #[.agg #[.int .i64 a.q,.int .i64 a.p,.int .i64 a.m,.int .i64 gen,e],.int .i64 b,.int .i64 c] wr λh i=>h=.returned (.int .i64 (dz a.p a.q b c:Nat))∧Below wr.heap.size wr i:=by
 rw[<-vL (dE d) f g];exact Dv d gen e b c wr
theorem zp:a.C9.length=a.m+1:=by unfold FD.C9;rw[aQ,g8];rfl
theorem mR{c T:Nat}(e:a∈ak)(f:gO c T a l b)(g:d<a.q)(h:i<a.q):Calls prog 67 #[.pointer (some ⟨c,0,none⟩),.int .i64 d,.int .i64 i] b λj k=>j=.returned (.int .i64 (a.mul d i:Nat))∧∃m,k=b.drewN m:=by
 rw[<-mC (dE e) g h];exact Qv e f d i
theorem pL{c T:Nat}(e:a∈ak)(f:gO c T a l b)(g:d<a.q)(h:i<a.q):Calls prog 66 #[.pointer (some ⟨c,0,none⟩),.int .i64 d,.int .i64 i] b λj k=>j=.returned (.int .i64 (dz a.p a.q d i:Nat))∧∃m,k=b.drewN m:=by
 rw[<-vL (dE e) g h];exact GB e f d i
theorem SV(b:a∈ak)(c:d<a.q)(e:d≠0):a.mul d (a.pw d (a.q-2))=1:=by
 have f:=t11 b c e;rw[lW b c e,mC (dE b) c (xB b d _)]at f
 exact_mod_cast f
