/- Texts of ours, one behind the other: ZO5. -/
import Derived.Test.YtedifobeggabnaaGreatCbZN7
namespace Go.Proofs.YtedifobeggabnaaGreat
set_option maxHeartbeats 4000000
set_option maxRecDepth 100000
open Tryz
open Go.Conc Go.RowKit Go.ConcR.Gen
open Go.ConcN.Gen
open Go.Sort
variable {a f:World}{c j:Nat->Prop}{b g:Nat}{e:Option Addr}{i:Nat->Int}
def Ui(c:World)(_:Nat->Prop)(d:Goroutine)(e:World):Prop:=(∃a f,a.tmps[14]?=some (.bool true)∧a.defers=[]∧d=G { (base 4).at a f with mode:=.returning } [])∧∀b,b<c.heap.size->e.heap[b]?=c.heap[b]?
theorem Ha{e:Goroutine}(h:Ui a j e f)(g:a.heap.size<=f.heap.size)(b:f.tape=a.tape∧f.os=a.os∧f.output=a.output)(d:Nat):Et prog c (λi k=>i=.bool true∧Below a.heap.size a k) c e (f.at d):=by
 obtain⟨⟨l,q,m,n,rfl⟩,o⟩:=h;refine⟨X,.bool true,#[],?_,λi e=>by simp at e,X,⟨b.2.1,b.1,b.2.2,g,o⟩⟩
 have p:∀b:World,(results f4 l.tmps).runT prog b #[]=(.ok (.bool true) b,#[]):=λb=>by
  simp only[f4,results];simp[go_sem,m,Array.getD_eq_getD_getElem?]
 simp only[G,stepG,unwind,Frame.at,n,base,func4,p];simp[GStep.after,doReturn,seen]
theorem Mk{i:(Nat->Prop)->Goroutine->World->Prop}{h:Nat->Option Obj}{j:Frame}{k:List Frame}{e:Act}{m:List Item}(f:Kp b h (λ_=>none) c a)(g:e.tmps[12]?=some (.bool true))(n:e.defers=[])(o:∀l,Kp b h (λ_=>none) c l->Wk prog i c (G (j.finish (.bool true)) k) l):Wk prog i c (G { (base 3).at e m with mode:=.returning } (j::k)) a:=by
 have p:∀ {c:Nat->Prop} {h i:Nat->Option Obj} {a d:World},Kp b h i c a->dW dU (BV i) c a d->Kp b h i c d:=λf j=>f.rely j
 have i:∀d:World,(results f3 e.tmps).runT prog d #[]=(.ok (.bool true) d,#[]):=λd=>by
  simp only[f3,results];simp[go_sem,g,Array.getD_eq_getD_getElem?]
 refine fL (n:=100) f ?_;refine wV (n:=99) (fn:=f3) (.bool true) X n func3 (λd=>?_) (λd=>?_) ?_
 ·simp only[f3,results];simp[go_sem,g,Array.getD_eq_getD_getElem?]
 ·simp only[f3,results];simp[go_sem,g,Array.getD_eq_getD_getElem?]
 ·refine HG.stop (λd e=>?_);exact o d (p f e)
theorem S6(A:Arg e b g i a)(hr:Ey e a)(a4:b<=256)(t T V W S cN:Int)(hq:oI t)(hn:oI T)(hk:oI V)(Y:oI W)(bc:oI S)(a5:oI cN):jd prog (λM h=>M=.bool true∧Below a.heap.size a h) dU (λc=>c<a.heap.size) (λ_ _=>True) (G (Frame.enter prog 4 #[.slice e b g,.int .i64 t,.int .i64 T,.int .i64 V,.int .i64 W,.int .i64 S,.int .i64 cN] .normal) []) a:=by
 obtain⟨v,Z,ab,a6,hD,bd,bg,ad,bk,bl,hM,a7⟩:=Me A hr a4 t T V W S cN hq hn hk Y bc;obtain⟨V,W,T⟩:=qd (m:=cN) (k:=8) E;have bc:∀T:World,Calls prog 15 #[.int .i64 cN,.int .i64 8] T λf h=>f=.returned (.int .i64 (V:Nat))∧h=T:=λT=>by rw[<-W];exact iT cN 8 T a5.1 a5.2 E E
 clear W;have W:=(dE hD).uP;have T:=(dE hD).q2
 refine iP (S1:=λ_ h _=>h.tape=a.tape∧h.os=a.os∧h.output=a.output) (Stop:=λw T h=>∃(B n:Nat) (q:Nat->Nat) (N:Nat->Value) (O:Nat->Nat->Int) (P:List (Nat×Nat×Int)) (C D:Value) (U:Act) (k:World) (r:Nat->Option Obj) (F:Frame),Wl e b g a v Z ab a6 S cN B N O P C D U k∧(∀c m,k.heap[c]?=some m->r c=some m)∧Kp k.heap.size r (λ_=>none) w h∧eh n v.q q h∧mn v.q q∧k.heap.size<=n∧(∀m,h.heap[n]?=some m->r n=some m)∧Wj F∧T=(G (Frame.enter prog 3 #[.int .i64 (v.q:Nat),.slice (some ⟨n,0,none⟩) Z v.q,.int .i64 (ab:Nat),C,D,.int .i64 (1+V:Nat)] .normal) [F]))
  (a7 _ λB N O P C D U k l=>?_) (λw h s t' _ u=>⟨u.tape,u.os,u.out⟩) (λw T h a8=>?_)
 ·obtain⟨hh,S,T⟩:=AO (λ_=>True) k
  have eO:iL (λc=>c<a.heap.size) a.heap.size k=λc=>c<k.heap.size∧True:=by
   funext c
   have:=l.size
   exact propext ⟨λp=>⟨p.elim (λt=>E) (λt=>t.2),trivial⟩,λp=>by
    by_cases t:c<a.heap.size
    ·exact I t
    ·exact J ⟨E,p.1⟩⟩
  rw[eO];have x:∀c m,k.heap[c]?=some m->hh c=some m:=λc m f=>(S c trivial).trans f
  have bm:=l.size;refine P0 (z:=i) (H:=1+V) E W ad a4 T l.slot (λt S=>?_) (λK f=>?_) bc (eP E E) λF w r h n q a5 bn _ ao ar hg av hC=>Wk.stop λd=>⟨B,n,q,N,O,P,C,D,U,k,r,F,l,λc m f=>bn c m (x c m f),a5.at d,ao.other X,ar,hg,av,hC,X⟩
  ·have ax:∀c,c<a.heap.size->t.heap[c]?=a.heap[c]?:=λc o=>by
    have f:k.heap[c]?=some k.heap[c]:=au E;rw[S c _ (x c _ f), <-f,l.old c o]
   have bo:a.heap.size<=t.heap.size:=by
    rcases aR t.heap.size a.heap.size with p|p
    ·have:=ax t.heap.size p;rw[bC (aa _),au p]at this;cases this
    ·exact p
   refine⟨pM A (λK f y t=>by
    simp only[World.cell?];rw[ax y.block (by rw[t];exact A.lt K f)]) (A.lt.mono bo),λK f=>?_⟩
   obtain⟨q,s,y,p⟩:=hr K f;exact⟨q,s,y,(ax _ (A.lt K f)).trans p⟩
  ·have p:=A.lt K f;exact⟨_,x _ _ (au E)⟩
 intro gs sl s qq h0 hL hP bp bs a0;obtain⟨B,n,q,N,O,P,C,D,U,k,r,F,l,x,Q,a9,ar,hg,ba,hC,rfl⟩:=a8 h.drawn;replace Q:Kp k.heap.size r (λ_=>none) w h:=Q;have ao:eh n v.q q h:=a9.other X;have av:∀m,h.heap[n]?=some m->r n=some m:=ba;clear a8 a7 a9 ba;have bm:=l.size;have m:k.heap.size<=h.heap.size:=Q.size;have a1:∀z m s,B<=z->k.heap[z]?=some (.cells m s)->h.heap[z]?=some (.cells m s):=λz m s _ f=>Q.mem z _ (x z _ f)
 have a2:∀ {M:Value} {m p t:Nat} {ty:TypeId} {A:List Value} {c:Nat},k.ownsRow m ty t M p A->M.ownBlock=some c->c<k.heap.size:=λ{M m p t ty A c} ho f=>by
  obtain⟨_,⟨rfl,_⟩|⟨z,bA,bw,rfl,_,hh,_⟩⟩:=ho
  ·cases f
  ·cases f
   exact aC hh
 have m:Af B k.heap.size n v Z ab a6 q N O P C D h:=⟨ao,hg,⟨kj l.m.own a1,λj p=>kj (l.m.row j p) a1,l.m.KT⟩,kj l.nz a1,λc o=>by
  rcases o with f|f|⟨p,n,f⟩
  ·exact a2 l.m.own f
  ·exact a2 l.nz f
  ·exact a2 (l.m.row p n) f,l.bd⟩
 refine Je (h:=r) (O:=w) (cs:=[F]) hD bd bg ad bk bl hM (by have:=l.len;omega) E E ar m Q.here (λc p n Y=>?_) (λq R t v z bx hd bb a3=>?_) gs sl s qq h0 hL hP bp bs trivial
 ·obtain⟨_,bw,ty,f,_,bz,_⟩:=qX m ad Y;rcases bz with⟨rfl,_⟩|⟨o,_⟩|⟨o,_⟩|⟨o,_⟩
  ·exact⟨_,av _ f⟩
  all_goals exact⟨_,x c _ (au o)⟩
 refine iP (S1:=λ_ m _=>(m.tape=R.tape∧m.os=R.os∧m.output=R.output)∧R.heap.size<=m.heap.size) (Stop:=Ui a)
  (Mk bb bx hd λC p=>hC _ _ _ _ _ p λD q r t v z=>Wk.stop λd=>⟨⟨q,r,v,z,X⟩,λc o=>?_⟩) (λw h s t' _ u=>⟨⟨u.tape,u.os,u.out⟩,u.size⟩) (λn A m B=>?_)
 ·have f:k.heap[c]?=some k.heap[c]:=au E;rw[<-l.old c o,f];exact t.mem c _ (x c _ f)
 ·intro r s t u k l p q v f;have r:Ui a n A m:=B m.drawn;have m:h.heap.size<=R.heap.size:=bb.size;exact GR (O1:=n) (λc o=>(q c o).2) k l p λd=>Ha r (by have:=f.2;omega) ⟨f.1.1.trans (a3.1.trans a0.1),f.1.2.1.trans (a3.2.1.trans a0.2.1),f.1.2.2.trans (a3.2.2.trans a0.2.2)⟩ d
theorem P5(o:256<b)(p:b<=17592186044416)(i j k l m cN:Int):Wk prog (Ui a) (λf=>f<a.heap.size) (G (Frame.enter prog 4 #[.slice e b g,.int .i64 i,.int .i64 j,.int .i64 k,.int .i64 l,.int .i64 m,.int .i64 cN] .normal) []) a:=by
 obtain⟨i,n,c⟩:=AO (λ_=>True) a;have j:(λf=>f<a.heap.size)=λf=>f<a.heap.size∧True:=by funext f;simp
 rw[j];clear j;have h:∀ {j:Nat->Prop} {i k:Nat->Option Obj} {l m:World},Kp a.heap.size i k j l->dW dU (BV k) j l m->Kp a.heap.size i k j m:=λc o=>c.rely o
 rw[Yo _ func4 X]
 walk_nrmf f4
 have i:decide ((256:Int)<(b:Int))=true:=aU E;have i:(256:Int)<(b:Int):=E;refine fL (n:=100) c ?_;refine aH (n:=40) (m:=60) ?_;repeat(first|u_c XJ h c|u_c XL h c|u_reg h c|u_cnd true h c|u_cnd false h c|u_c XN h c|u_op h c|u_skip h c)
 u_c X3 h c
 refine XO (λj i=>?_);replace c:=h c i;clear i;refine HG.stop (λj i=>?_);replace c:=h c i;refine Wk.stop λd=>⟨⟨_,_,X,X,X⟩,λf i=>?_⟩
 have h:a.heap[f]?=some a.heap[f]:=au i;rw[h];exact c.mem f _ ((n f trivial).trans h)
theorem AS(c:Ep e b g i a)(m:Ey e a)(p:b<=17592186044416)(f h j k l cN:Int)(o:oI f)(q:oI h)(r:oI j)(s:oI k)(t:oI l)(u:oI cN):rJ prog (λv n=>v=.bool true∧Below a.heap.size a n) (solo (G (Frame.enter prog 4 #[.slice e b g,.int .i64 f,.int .i64 h,.int .i64 j,.int .i64 k,.int .i64 l,.int .i64 cN] .normal) []) a) #[]:=by
 refine Am ?_;by_cases v:b<=256
 ·exact S6 (c.arg E) m v f h j k l cN o q r s t u
 ·refine iP (S1:=λ_ c _=>(c.tape=a.tape∧c.os=a.os∧c.output=a.output)∧a.heap.size<=c.heap.size) (Stop:=Ui a) (P5 E p f h j k l cN) (λs n t u _ m=>⟨⟨m.tape,m.os,m.out⟩,m.size⟩) (λo q c r=>?_);intro m n p s h j k l t f;have m:Ui a o q c:=r c.drawn;exact GR (O1:=o) (λc n=>(l c n).2) h j k λd=>Ha m f.2 f.1 d
