/- Texts of ours, one behind the other: ZC12 ZC13 ZC14 ZC15 ZC16 ZC17 ZC18 ZC19 ZC20 ZC21 ZC22. -/
import Derived.Test.YtedifobeggabnaaGreatCbZC2
namespace Go.Proofs.YtedifobeggabnaaGreat
variable {i B D F:Nat->Prop}{b p q s y:Nat}{m M:Int}{f u:Bool}{o:Nat->Option Value}{c:MD}{j:Array Value}{e z A:Value}
abbrev Yv:=@Go.ConcN.Vc_le
abbrev Yy:=@Go.Conc.offersAt_parked_recv
abbrev YE:=@Go.Conc.Goes.cases
abbrev YQ:=@Go.Conc.partners_nil
abbrev YU:=@Go.ConcN.bk_cell
theorem XE{a:Prop}(b:a:=by split<;>omega):a:=b
theorem XG{a:Prop}(b:a:=by simp[eX]):a:=b
theorem XI{a:Prop}(b:a:=by simp[deafBehind,semEvents]):a:=b
section
open Go.Conc
open Go.ConcR (KK WgAt stA smA rd wr mk Payload DC0)
open Go.ConcN (WgLive CTag WD RelBy sumTo upd upd_same upd_ne)
section
variable {K:m8}{d:Loc->Prop}{x:pI K.P}{r:Array Goroutine}{w a:World}{t:Trace}{l:Array Event}{k:Nat}{g n:Goroutine}{v:Option (Nat×Nat)}
theorem BS.mono{d:Event}(e:∀c,i c->B c)(f:∀c,D c->F c)(a:BS i D b d):BS B F b d:=by
 have⟨g,h,j⟩:=d;cases g with
 |cell k=>exact⟨a.1,a.2.1,a.2.2.imp (f _) λy=>⟨e _ y.1,y.2⟩⟩
 |obj l=>exact⟨a.1,a.2.1,a.2.2.1,a.2.2.2.imp (f _) (e _)⟩
 |mark m=>exact a
 |_=>exact a
theorem kH(e:mg K)(f:mi K)(h:K.rd K.C1)(i:K.rd K.C2)(j:iI K x d r w t)(m:k<x.j)(o:r[K.nb+k]?=some g)(p:(x.hs k).fu=b+1)(q:stepG K.P false g w=.go n a l)(s:yU K.rd (x.hs k).O w a l)(u:je K { x.hs k with fu:=b,O:=nY (x.hs k).O w a } n a)(c:14<=(x.hs k).st):nf K d x t (runT K.P (crowd r w v) (K.nb+k)):=
 my (d':={ x.hs k with fu:=b,O:=nY (x.hs k).O w a }) e f h i j m o q s (λ_ y=>y) u X c c ⟨dt,dt,dt,id,λ_=>rfl⟩ (I ⟨X,Prod.Lex.right _ (by rw[p];exact Nat.lt_succ_self b)⟩)
theorem GZ{h:Option (Sp K.P)}(G:mg K)(j:K.rd K.C1)(p:Vp K b h i g w)(Z:gz K w)(mb:qF K w)(A:∀c,i c->c<w.heap.size)(s:∀c,K.rd c->c<w.heap.size∧¬i c)(t:K.Wg<w.heap.size∧¬i K.Wg):∃n a l,stepG K.P false g w=.go n a l∧yU K.rd i w a l∧((∃j,UO K.P j h∧Vp K b j (nY i w a) n a)∨∃o u,HH K (Gt K b o) u (nY i w a) n a):=by
 obtain⟨q,r,k,M,ab,f,B,N,O,y,e1,e2,rfl,v,x,P,Q,R,S,m,a8,z,U⟩:=p;have V:∀c,N c->c<w.heap.size:=λc e=>A c ((m c).2 (I e))
 by_cases e:ym q r k
 ·have h:=P.told v x e;have⟨C,o,D,F⟩:=h;subst C;have⟨h,l,W,s1,j,s3,Y⟩:=N8 (main:=false) (bs:=B) x Q D f
  have p:h.heap.size=w.heap.size:=by
   have:=j.own;rcases aR w.heap.size h.heap.size with p|p
   ·grind
   ·exact Nat.le_antisymm p j.size
  have A:yU K.rd i w h l:=⟨j.tape,j.os,j.out,j.size,λc p C=>j.other c p λf=>C ((m c).2 (J f)),λD E=>(Y D E).mono (G.reads b) λc e=>I ((m c).2 (J e))⟩;have Y:=S M k h o (λc e=>(z c e).2) s1 x.blk s3 F;have ad:=A.other _ t.1 t.2
  have t:gz K h:=by
   have⟨st,sm,F⟩:=Z;exact⟨st,sm,ad.trans F⟩
  have Z:qF K h:=λc e=>(A.other c (s c e).1 (s c e).2).trans (mb c e)
  have⟨u,s⟩:=U (nY i w h) h (bI M o) (λc e=>⟨I ((m c).2 (I e)),j.other c (V c e) λf=>(z c f).1 e⟩) t Z Y.1 (λc e=>I ((m c).2 (J (Y.2 c e))));grind
 ·have Z:¬Told K.P O q r k:=λf=>e (Told.back q r k f)
  have⟨s,t,u,h,l,f1,W,M,Y,k3,k4,j,k6⟩:=N7 (main:=false) (bs:=f::B) v (λq r k T d F=>xR (λo k T d=>R o k T d) q r k T d F) x P Z Q
  have A:yU K.rd i w h l:=⟨j.tape,j.os,j.out,j.size,λc p C=>j.other c p λf=>C ((m c).2 (J f)),λD E=>(k6 D E).mono (G.reads b) λc e=>by
   rcases(j.own c).1 e with e|e
   ·exact I ((m c).2 (J e))
   ·exact J e⟩
  have k:=Y.EC v M;refine⟨_,h,l,W,A,I ⟨some ⟨(s,t,u),k⟩,⟨⟨(s,t,u),k⟩,y,X,e1,?_⟩,s,t,u,f1,ab,f,B,N,O,⟨(s,t,u),k⟩,X,X,X,v,M,Y,k4,R,S,λc=>?_,a8,λc e=>?_,U.rely λc e=>j.other c (V c e) λf=>(z c f).1 e⟩⟩
  ·rw[e2];exact⟨e,k3.2⟩
  ·unfold nY;rw[m c,j.own c];grind
  ·rcases(j.own c).1 e with e|e
   ·exact z c e
   grind
theorem Fb(f:mg K)(e:b<K.N)(a:BR K b i g w)(j:gz K w)(mb:qF K w)(l:∀c,i c->c<w.heap.size):∃d,Vp K b d i g w:=by
 obtain⟨m,n,rfl,o⟩:=a;have⟨d,h,a⟩:=f.U1 b w e j mb;have p:=a.Em;have j:=a.blk;have e:=a.WZ;have q:qB (gG (K.Qm b) w.heap.size d.heap.size) K.F d:=j;have⟨j,k⟩:=sI (Post:=h) e f.fn (V:=d) (by rw[a.size];exact a.args) q (by rw[a.size];exact aa _) a.cf a.calls;have f:=j.EC e k
 have q:jr id (Frame.enter K.P K.mf (K.ma b) .normal)=Frame.enter K.P K.mf (K.ma b) .normal:=by
  have:=Ct (P:=K.P) (f:=id) K.mf (K.ma b);rw[<-this]
  congr 1
  exact(bf λr s=>kK (a.args r s)).trans (jc _)
 refine⟨some ⟨_,f⟩,_,[],d,id,w.heap.size,m,n,i,h,⟨_,f⟩,X,X,by rw[q];rfl,e,k,j,p,a.post,a.told,λc=>⟨I,λy=>y.resolve_right (zv a.size c)⟩,l,λc r=>absurd r (zv a.size c),o⟩
end
end
section
open Go.Conc
open Go.ConcR (KK WgAt stA smA rd wr mk Payload DC0)
open Go.ConcN (WgLive CTag WD RelBy sumTo upd upd_same upd_ne sumTo_congr cnt)
theorem Il{e a c:Nat}{f f':Nat->Nat}(k:a<e)(g:f a=0)(h:f' a=c)(i:∀b,b≠a->f' b=f b):sumTo e f'=sumTo e f+c:=by
 induction e with
 |zero=>omega
 |succ d l=>
  by_cases j:a=d
  ·subst j;show sumTo a f'+f' a=sumTo a f+f a+c;rw[h,g,Yd (g:=f) λb a=>i b E];omega
  ·show sumTo d f'+f' d=sumTo d f+f d+c;grind
theorem Ou{d f':Nat->Nat}(e:∀a,a<b->d a<=f' a):sumTo b d<=sumTo b f':=by
 induction b with
 |zero=>exact aa _
 |succ c f=>
  have:=f λa g=>e a E
  have:=e c E;show sumTo c d+d c<=sumTo c f'+f' c;omega
section
variable {K:m8}{a:Loc->Prop}{x:pI K.P}{l:Array Goroutine}{w v:World}{t:Trace}{r:Array Event}{k:Nat}{g d:Goroutine}{n:Option (Nat×Nat)}{d':HD K.P}
theorem heap_set(w:World)(a:Addr)(c:Value)(d:b≠a.block):(w.setCell a c).heap[b]?=w.heap[b]?:=by
 rw[heap_setCell,af d]
theorem Ox{c a z:Int}(b:jz K w c a):jz K (w.setCell ⟨K.T,0,none⟩ (.int .i64 z)) z a:=by
 unfold jz at b ⊢;rw[heap_setCell,ai X,b];rfl
theorem Oy{a c z:Int}(b:jz K w a c):jz K (w.setCell ⟨K.T,1,none⟩ (.int .i64 z)) a z:=by
 unfold jz at b ⊢;rw[heap_setCell,ai X,b];rfl
theorem qT(Q:mg K)(hM:mi K)(ar:K.rd K.C1)(av:K.rd K.C2)(h:iI K x a l w t)(N:k<x.j)(V:l[K.nb+k]?=some g)(ax:stepG K.P false g w=.go d (w.setCell ⟨K.T,b,none⟩ (.int .i64 m)) #[rd ⟨K.T,b,none⟩,wr ⟨K.T,b,none⟩])(a0:je K d' d (w.setCell ⟨K.T,b,none⟩ (.int .i64 m)))(hO:d'.O=(x.hs k).O)(a1:d'.dd=(x.hs k).dd)(hi:d'.i=(x.hs k).i)(bd:46<=d'.st)(a2:d'.st<(x.hs k).st)(v z:Nat->Bool)(a3:jz K (w.setCell ⟨K.T,b,none⟩ (.int .i64 m)) (sumTo K.N λf=>if v f then K.er f else 0:Nat) (sumTo K.N λf=>if z f then 1 else 0:Nat))(a4:∀f,f<K.N->(v f=true↔f<x.next∧∀c,c<x.j->48<=(upd x.hs k d' c).st->(x.hs c).i≠f))(a5:∀f,f<K.N->(z f=true↔K.ls f=true∧f<x.next∧∀c,c<x.j->47<=(upd x.hs k d' c).st->(x.hs c).i≠f)):nf K a x t (runT K.P (crowd l w n) (K.nb+k)):=by
 have bg:=h.iy.one;have⟨l1,l2,l3,l4⟩:=h.cu.C4;have⟨n1,n2⟩:=h.cu.FG
 have a6:K.Wg≠K.T:=by
  intro e;have O:=h.cu.wg;have h2:=h.cu.xQ;have O:w.heap[K.Wg]?=some (.cells #[.int .u64 x.st,.int .u32 x.sm] K.ty):=O;rw[e,h2]at O;simp at O
 have bk:∀j,(x.hs k).O j->gv K x (K.nb+k) j:=λj u=>J ⟨k,N,X,u⟩
 have eO:(w.setCell ⟨K.T,b,none⟩ (.int .i64 m)).heap[K.cO]?=w.heap[K.cO]?:=heap_set w _ _ λe=>n1 (J e)
 have eB:(w.setCell ⟨K.T,b,none⟩ (.int .i64 m)).heap[K.cB]?=w.heap[K.cB]?:=heap_set w _ _ λe=>n2 (J e)
 have eW:(w.setCell ⟨K.T,b,none⟩ (.int .i64 m)).heap[K.Wg]?=w.heap[K.Wg]?:=heap_set w _ _ a6;have W:∀j,x.Dn j->(w.setCell ⟨K.T,b,none⟩ (.int .i64 m)).heap[j]?=w.heap[j]?:=λj u=>heap_set w _ _ λe=>(h.mem.pS j u).1 (J (I e))
 have Y:=eW.trans h.cu.wg;have Z:(w.setCell ⟨K.T,b,none⟩ (.int .i64 m)).heap.size=w.heap.size:=size_setCell ..
 have ab:∀A,A∈MemOp.ofEvents (K.nb+k) g.frame.fn g.frame.place #[rd ⟨K.T,b,none⟩,wr ⟨K.T,b,none⟩]->∃j,A.act=.access ⟨.cell ⟨K.T,b,none⟩,j,true⟩:=by
  intro A B;obtain⟨e,C,rfl⟩:=XP B;simp only[aF,az,aD,bP]at C;rcases C with rfl|rfl
  ·exact⟨_,X⟩
  ·exact⟨_,X⟩
 have⟨s,D,_,a7⟩:=tw (w':=w.setCell ⟨K.T,b,none⟩ (.int .i64 m)) (es:= #[rd ⟨K.T,b,none⟩,wr ⟨K.T,b,none⟩]) (g':=d) (d':=d') Q hM ar av h N V (by rw[Z];exact aa _) ⟨X,X,X⟩ (λj _ _ hs=>heap_set w _ _ λe=>hs (J e)) ⟨_,_,Y⟩ (λj u=>I (hO▸u)) a0
  (λA B y F=>by
   have⟨j,e⟩:=ab A B;rw[e]at F;simp only[MemAct.touch?,bt]at F;subst F;exact I ⟨⟨K.T,X,J X⟩,oi,oi⟩)
  (λA B=>by
   have⟨j,e⟩:=ab A B;rw[e,Z];exact j9.of_low l2)
  (by rw[a1];rfl) (λe C=>by
   simp only[aF,az,aD,bP]at C;rcases C with rfl|rfl<;>simp[rd,wr]) (λR=>absurd R E) (λ_ R=>absurd R E) (λh3=>by
   exfalso;exact YJ h.cu.mode N (by simp[dj,show 14<=(x.hs k).st by omega]) (Gg h3))
 have p:∀c,(46<=(upd x.hs k d' c).st↔46<=(x.hs c).st)∧((upd x.hs k d' c).st=20->(x.hs c).st=20)∧(upd x.hs k d' c).i=(x.hs c).i:=by
  intro c;by_cases e:c=k
  ·subst e;rw[XT];omega
  ·rw[upd_ne x.hs d' e];omega
 have a8:Go.ConcN.Mode x.j (dj K (x.put k d' s v z x.st x.sm)) (mG s) x.st x.sm:=by
  refine Go.ConcN.Mode.retag ?_ (rm D);refine Yj (λc o=>?_) h.cu.mode;rw[Gl];by_cases e:c=k
  ·subst e;rw[XT];simp[oZ,dj,show 14<=(x.hs c).st by omega,show 14<=d'.st by omega]
  ·rw[upd_ne x.hs d' e];rfl
 have a9:iC K (x.put k d' s v z x.st x.sm) (w.setCell ⟨K.T,b,none⟩ (.int .i64 m)):=by
  have⟨ba,t3⟩:=AW D;have bb:14<=(x.put k d' s v z x.st x.sm).md.s->14<=x.md.s:=λi=>by have i:14<=s.s:=i;omega
  refine⟨Y,a8,?_,?_,a3,h.cu.nN,λad c o e=>h.cu.uO (by have:=Hg D;have ad:s.s<=14:=ad;omega) c o ((p c).2.1 e),λy F=>?_,λf S hv=>?_,λc o i=>?_,λc P o bc i c' e=>?_,λf G=>?_,?_,λf G=>?_,λf G=>?_,λi=>h.cu.emp (Qh D i),λi c o=>?_⟩
  ·have:=h.cu.yZ;rw[eO];show _=some (Obj.chan 0 #[] (decide (s.s<14)) _ _ _);rw[fK.2 ba];exact this
  ·have:=h.cu.EI;rw[eB];show _=some (Obj.chan K.N _ (decide (s.s<3)) _ _ _);rw[fK.2 t3];exact this
  ·have⟨f,S,q,r,T,M⟩:=h.cu.buf y F;exact⟨f,S,q,r,Q.gm _ _ _ _ (λj u=>W j (M j u)) T,M⟩
  ·have⟨T,M⟩:=h.cu.tk f S hv;exact⟨Q.gm _ _ _ _ (λj u=>W j (M j u)) T,M⟩
  ·show(upd x.hs k d' c).i<_;rw[(p c).2.2];exact h.cu.hold c o ((p c).1.1 i)
  ·have e:(upd x.hs k d' c).i=(upd x.hs k d' P).i:=e;rw[(p c).2.2,(p P).2.2]at e;exact h.cu.two c P o bc ((p c).1.1 i) ((p P).1.1 c') e
  ·rcases h.cu.cover f G with i|i|⟨c,o,q,r⟩
   ·exact I i
   ·exact J (I i)
   ·exact J (J ⟨c,o,(p c).1.2 q,(p c).2.2.trans r⟩)
  ·refine Eq.trans ?_ h.cu.room;show x.buf.size+sumTo x.j _+x.nt=_
   congr 2
   refine Yd λc o=>?_
   show(if 46<=(upd x.hs k d' c).st then 1 else 0)=if 46<=(x.hs c).st then 1 else 0
   grind
  ·rw[show(x.put k d' s v z x.st x.sm).ca=v from rfl,a4 f G];refine⟨λ⟨q,r⟩=>⟨q,λc o i e=>r c o i ((p c).2.2▸e)⟩,λ⟨q,r⟩=>⟨q,λc o i e=>r c o i ((p c).2.2.trans e)⟩⟩
  ·rw[show(x.put k d' s v z x.st x.sm).cl=z from rfl,a5 f G];refine⟨λ⟨U,q,r⟩=>⟨U,q,λc o i e=>r c o i ((p c).2.2▸e)⟩,λ⟨U,q,r⟩=>⟨U,q,λc o i e=>r c o i ((p c).2.2.trans e)⟩⟩
  ·show 20<=(upd x.hs k d' c).st;have:=h.cu.busy (bb i) c o;by_cases e:c=k
   ·grind
   ·rw[upd_ne x.hs d' e];exact this
 have ao:=X9 (P:=K.P) (sl:=n) (i:=K.nb+k) V (by rw[show((K.nb+k==0)=false) by simp;omega];exact ax);refine⟨_,_,n,_,by rw[ao],by rw[ao];exact a7 _ _ _ _ a9,?_⟩;exact tF N D a2 (by simp[oZ,cnt,show 14<=(x.hs k).st by omega,show 14<=d'.st by omega])
end
structure du(K:m8):Prop where
 hand:mg K
 main:mi K
 c1:K.rd K.C1
 c2:K.rd K.C2
 Wr:K.C1≠K.C2
 Ri:sumTo K.N K.er<1000000
 qL:K.N<1000000
 cN:K.H<1000000
 ob:K.cO≠K.cB
section
variable {K:m8}{l:Loc->Prop}{x:pI K.P}{r:Array Goroutine}{w a:World}{t:Trace}{n:Array Event}{k:Nat}{g d:Goroutine}{sl:Option (Nat×Nat)}
theorem I8(m:du K)(f:iI K x l r w t)(o:k<x.j)(D:r[K.nb+k]?=some g)(p:je K (x.hs k) g w)(U:46<=(x.hs k).st):nf K l x t (runT K.P (crowd r w sl) (K.nb+k))∨((x.hs k).st=46∧(x.hs k).dd=0∧vD K (x.hs k).i (x.hs k).v (x.hs k).O g w):=by
 have z:=m.hand;have F:=m.main;have V:=aj (f.cu.hold k o U) f.cu.nN;have Y:∀u,(x.hs k).O u->gv K x (K.nb+k) u:=λu A=>J ⟨k,o,X,A⟩
 have Z:∀u,(x.hs k).O u->u<w.heap.size:=λu A=>f.mem.own _ u (Y u A)
 have a0:∀u,K.rd u->u<w.heap.size∧¬(x.hs k).O u:=λu A=>⟨(f.mem.Bb u A).2,λho=>f.mem.nj.ownRd _ u (Y u ho) A⟩
 have a1:K.Wg<w.heap.size∧¬(x.hs k).O K.Wg:=⟨f.cu.C4.1,λho=>(f.mem.ld _ _ (Y _ ho)).1 (I X)⟩;rcases p with⟨e,y,p⟩|⟨e,y,p⟩|⟨e,y,p⟩|⟨e,y,j,p⟩|⟨e,y,p⟩|⟨e,_⟩|⟨e,_⟩|⟨e,_⟩|⟨e,_⟩|⟨e,_⟩
 ·refine I ?_;rcases p.cases with R|⟨ab,d,a,n,S,_,s,B,C⟩
  ·have⟨la,a3⟩:=Fb z V R f.cu.lv f.mem.Ek Z;obtain⟨d,a,n,s,B,p|⟨v,N,p⟩⟩:=GZ z m.c1 a3 f.cu.lv f.mem.Ek Z a0 a1
   ·have⟨ad,_,ao⟩:=p;exact my (d':={ x.hs k with st:=49,la:=ad,O:=nY (x.hs k).O w a }) z F m.c1 m.c2 f o D s B (λ_ A=>A) (J (I ⟨X,y,ao⟩)) X E oi ⟨x7,x7,x7,λh=>by simp at h,λ_=>rfl⟩ (J x7)
   ·exact my (d':={ x.hs k with st:=48,fu:=N,v:=v,O:=nY (x.hs k).O w a }) z F m.c1 m.c2 f o D s B (λ_ A=>A) (J (J (I ⟨X,y,p⟩))) X E oi ⟨x7,x7,x7,λh=>by simp at h,λ_=>rfl⟩ (J x7)
  ·exact kH z F m.c1 m.c2 f o D S s B (I ⟨e,y,C⟩) E
 ·refine I ?_;obtain⟨d,a,n,s,B,p|⟨v,N,p⟩⟩:=GZ z m.c1 p f.cu.lv f.mem.Ek Z a0 a1
  ·have⟨ad,a4,ao⟩:=p;exact my (d':={ x.hs k with la:=ad,O:=nY (x.hs k).O w a }) z F m.c1 m.c2 f o D s B (λ_ A=>A) (J (I ⟨e,y,ao⟩)) X E (by show 14<=(x.hs k).st;omega) ⟨dt,dt,dt,id,λ_=>rfl⟩ (I ⟨X,Prod.Lex.left _ _ a4⟩)
  ·exact my (d':={ x.hs k with st:=48,fu:=N,v:=v,O:=nY (x.hs k).O w a }) z F m.c1 m.c2 f o D s B (λ_ A=>A) (J (J (I ⟨X,y,p⟩))) X E oi ⟨x7,x7,x7,λh=>by simp at h,λ_=>rfl⟩ (J x7)
 ·refine I ?_;rcases p.cases with R|⟨ab,d,a,n,S,_,s,B,C⟩
  ·have ar:x.ca (x.hs k).i=false:=by
    cases av:x.ca (x.hs k).i with
    |false=>rfl
    |true=>exact absurd X (((f.cu.ca _ V).1 av).2 k o E)
   have a5:sumTo K.N (λb=>if x.ca b then K.er b else 0)<1000000:=Nat.lt_of_le_of_lt (Ou λc _=>XE) m.Ri;have⟨d,s,a6,a7⟩:=R.2 _ _ f.cu.xQ E E
   have W:jz K (w.setCell ⟨K.T,0,none⟩ (.int .i64 ((sumTo K.N λb=>if x.ca b then K.er b else 0:Nat)+(K.er (x.hs k).i:Nat):Int))) (sumTo K.N λb=>if(if b=(x.hs k).i then true else x.ca b)then K.er b else 0:Nat) (sumTo K.N λb=>if x.cl b then 1 else 0:Nat):=by
    have e1:=Il (f:=λb=>if x.ca b then K.er b else 0) (f':=λb=>if(if b=(x.hs k).i then true else x.ca b)then K.er b else 0) (c:=K.er (x.hs k).i) V (by simp[ar]) oi (λc j=>by simp[j]);have:=Ox (z:=((sumTo K.N λb=>if x.ca b then K.er b else 0:Nat)+(K.er (x.hs k).i:Nat):Int)) f.cu.xQ;rw[e1];simpa using this
   have a2:∀(T:HD K.P),T.st<48->∀b,b<K.N->((if b=(x.hs k).i then true else x.ca b)=true↔b<x.next∧∀c,c<x.j->48<=(upd x.hs k T c).st->(x.hs c).i≠b):=by
    intro T hd b P;by_cases Q:b=(x.hs k).i
    ·subst Q;simp only[ek,true_iff];refine⟨f.cu.hold k o U,λc j h=>?_⟩;by_cases i:c=k
     ·subst i;rw[XT]at h;omega
     ·rw[upd_ne x.hs T i]at h;exact λG=>i (f.cu.two c k j o E U G)
    ·rw[af Q,f.cu.ca b P];refine⟨λ⟨q,b2⟩=>⟨q,λc j h=>?_⟩,λ⟨q,b2⟩=>⟨q,λc j h=>?_⟩⟩
     ·by_cases i:c=k
      ·subst i;exact λG=>Q G.symm
      ·rw[upd_ne x.hs T i]at h;exact b2 c j h
     ·by_cases i:c=k
      ·subst i;exact λG=>Q G.symm
      ·exact b2 c j (by rw[upd_ne x.hs T i];exact h)
   cases ax:K.ls (x.hs k).i with
   |true=>
    have⟨N,C⟩:=a6 ax;refine qT (d':={ x.hs k with st:=47,fu:=N }) z F m.c1 m.c2 f o D s (J (J (J (I ⟨X,y,ax,C⟩)))) X X X oi x7 _ x.cl W (a2 _ oi) λb P=>?_
    rw[f.cu.cl b P];refine⟨λ⟨M,q,b2⟩=>⟨M,q,λc j h=>?_⟩,λ⟨M,q,b2⟩=>⟨M,q,λc j h=>?_⟩⟩
    ·by_cases i:c=k
     ·subst i;exact b2 c j E
     ·rw[upd_ne x.hs _ i]at h;exact b2 c j h
    ·by_cases i:c=k
     ·subst i;exact b2 c j (by rw[XT];exact aa 47)
     ·exact b2 c j (by rw[upd_ne x.hs _ i];exact h)
   |false=>
    have⟨N,C⟩:=a7 ax;refine qT (d':={ x.hs k with st:=46,fu:=N }) z F m.c1 m.c2 f o D s (J (J (J (J (I ⟨X,y,C⟩))))) X X X oi x7 _ x.cl W (a2 _ oi) λb P=>?_
    rw[f.cu.cl b P];refine⟨λ⟨M,q,b2⟩=>⟨M,q,λc j h=>?_⟩,λ⟨M,q,b2⟩=>⟨M,q,λc j h=>?_⟩⟩
    ·by_cases i:c=k
     ·subst i;exact b2 c j E
     ·rw[upd_ne x.hs _ i]at h;exact b2 c j h
    ·by_cases i:c=k
     ·subst i;grind
     ·exact b2 c j (by rw[upd_ne x.hs _ i];exact h)
  ·exact kH z F m.c1 m.c2 f o D S s B (J (J (I ⟨e,y,C⟩))) E
 ·refine I ?_;rcases p.cases with R|⟨ab,d,a,n,S,_,s,B,C⟩
  ·have ar:x.cl (x.hs k).i=false:=by
    cases av:x.cl (x.hs k).i with
    |false=>rfl
    |true=>exact absurd X (((f.cu.cl _ V).1 av).2.2 k o E)
   have a5:sumTo K.N (λb=>if x.cl b then 1 else 0)<1000000:=by
    refine Nat.lt_of_le_of_lt (Ou (f':=λ_=>1) λc _=>XE) ?_;have:sumTo K.N (λ_=>1)<=1*K.N:=Go.ConcN.sumTo_le λ_ _=>aa _
    have:=m.qL;omega
   have⟨d,s,N,C⟩:=R.2 _ _ f.cu.xQ E E
   have W:jz K (w.setCell ⟨K.T,1,none⟩ (.int .i64 ((sumTo K.N λb=>if x.cl b then 1 else 0:Nat)+1:Int))) (sumTo K.N λb=>if x.ca b then K.er b else 0:Nat) (sumTo K.N λb=>if(if b=(x.hs k).i then true else x.cl b)then 1 else 0:Nat):=by
    have e1:=Il (f:=λb=>if x.cl b then 1 else 0) (f':=λb=>if(if b=(x.hs k).i then true else x.cl b)then 1 else 0) (c:=1) V (by simp[ar]) oi (λc j=>by simp[j]);have:=Oy (z:=((sumTo K.N λb=>if x.cl b then 1 else 0:Nat)+1:Int)) f.cu.xQ;rw[e1];simpa using this
   refine qT (d':={ x.hs k with st:=46,fu:=N }) z F m.c1 m.c2 f o D s (J (J (J (J (I ⟨X,y,C⟩))))) X X X oi x7 x.ca _ W (λb P=>?_) λb P=>?_
   ·rw[f.cu.ca b P];refine⟨λ⟨q,b2⟩=>⟨q,λc j h=>?_⟩,λ⟨q,b2⟩=>⟨q,λc j h=>?_⟩⟩
    ·by_cases i:c=k
     ·subst i;rw[XT]at h;simp at h
     ·rw[upd_ne x.hs _ i]at h;exact b2 c j h
    ·by_cases i:c=k
     ·subst i;omega
     ·exact b2 c j (by rw[upd_ne x.hs _ i];exact h)
   ·by_cases Q:b=(x.hs k).i
    ·subst Q;simp only[ek,true_iff];refine⟨j,f.cu.hold k o U,λc a8 h=>?_⟩;by_cases i:c=k
     ·subst i;rw[XT]at h;simp at h
     ·rw[upd_ne x.hs _ i]at h;exact λG=>i (f.cu.two c k a8 o E U G)
    ·rw[af Q,f.cu.cl b P];refine⟨λ⟨M,q,b2⟩=>⟨M,q,λc j h=>?_⟩,λ⟨M,q,b2⟩=>⟨M,q,λc j h=>?_⟩⟩
     ·by_cases i:c=k
      ·subst i;exact λG=>Q G.symm
      ·rw[upd_ne x.hs _ i]at h;exact b2 c j h
     ·by_cases i:c=k
      ·subst i;exact λG=>Q G.symm
      ·exact b2 c j (by rw[upd_ne x.hs _ i];exact h)
  ·exact kH z F m.c1 m.c2 f o D S s B (J (J (J (I ⟨e,y,j,C⟩)))) E
 ·rcases p.cases with R|⟨ab,d,a,n,S,_,s,B,C⟩
  ·exact J ⟨e,y,R⟩
  ·exact I (kH z F m.c1 m.c2 f o D S s B (J (J (J (J (I ⟨e,y,C⟩))))) E)
 all_goals (exfalso;omega)
end
end
section
open Go.Conc
open Go.ConcR (KK WgAt stA smA rd wr mk Payload DC0)
open Go.ConcN (WgLive CTag WD RelBy sumTo upd upd_same upd_ne sumTo_congr sumTo_upd cnt Vc)
section
variable {K:m8}{l:Loc->Prop}{x r:pI K.P}{n:Array Goroutine}{w N:World}{t:Trace}{d:Array Event}{k:Nat}{g C a:Goroutine}{v:Option (Nat×Nat)}
theorem vh(c:g.status=.running∨g.status=.finished):offersAt g b f=[]:=offersAt_of_not_blocked (by rcases c with a|a<;>rw[a]<;>simp) b f
theorem Nn{j next:Nat}(e:mi K)(b:ku K j next o c a w)(f:c.s≠14)(h:Nat)(i:Bool):offersAt a h i=[]:=by
 by_cases d:c.s=7
 ·obtain⟨_,_,_,g,rfl,k⟩:=b.VP d;have:=(k w (dW.refl w)).2.1;unfold offersAt;simp[this]
 ·exact vh (I (b.run e d f))
theorem De{d:HD K.P}(c:je K d g w)(h:d.st≠20∨b≠K.cO∨f=true):offersAt g b f=[]:=by
 by_cases e:d.st=20
 ·obtain⟨_,_,i,j,rfl,_⟩:=c.parked e;cases f with
  |true=>exact offersAt_parked_recv' ..
  |false=>
   rw[Yy,af];rcases h with a|a|a
   ·omega
   ·omega
   ·cases a
 ·exact vh (c.stat e)
theorem Uu(c:iI K x l n w t)(d:n[b]?=some g):(b=0∧ku K x.j x.next x.tk x.md g w)∨(0<b∧b<K.nb∧QuitsD K.P (x.q b) (Deaf t b) g)∨∃k,k<x.j∧b=K.nb+k∧je K (x.hs k) g w:=by
 have i:=c.iy.one;rcases cL b with rfl|e
 ·have⟨a,j,m⟩:=c.iy.main;grind
 ·by_cases f:b<K.nb
  ·exact J (I ⟨e,f,c.iy.old b g e f d⟩)
  ·have h:=(aL.1 d).1;rw[c.iy.size]at h;have⟨o,p,q⟩:=c.iy.hand (b-K.nb) E;grind
theorem oB(c:mi K)(d:iI K x l n w t)(e:b≠K.cO∨f=true){a j:Nat}(h:(n.setIfInBounds a ph)[j]?=some g)(i:j≠0∨x.md.s≠14∨a=0):offersAt g b f=[]:=by
 rcases getElem?_stand n a j g h with⟨_,rfl⟩|⟨r,m⟩
 ·exact offersAt_ph b f
 ·rcases Uu d m with⟨rfl,o⟩|⟨_,_,p⟩|⟨k,s,_,q⟩
  ·rcases i with a|a|a
   ·exact absurd X a
   ·exact Nn c o a b f
   omega
  ·exact vh p.status
  ·exact De q (J e)
theorem fg{a:Type}(n:Array a){b j:Nat}(c:a)(d:b≠j):(n.setIfInBounds b c)[j]?=n[j]?:=ay d
theorem tW(a:Program)(b:Bool)(g:Goroutine)(c:g.dying=none)(w:World):stepG a b g w=stepG a b (G g.frame g.callers) w:=by
 have⟨e,f,h,d,i⟩:=g;simp only at c;subst c;rfl
theorem Db(b:iI K x l n w t)(c:k<x.j)(d:14<=(x.hs k).st):3<x.md.s:=by
 rcases aR 3 x.md.s with a|a
 ·exact a
 ·exact absurd (Gg a) (YJ b.cu.mode c (by simp[dj,d]))
theorem jU(w:World)(a:y≠b):(w.setChan b p j f q s u).heap[y]?=w.heap[y]?:=by
 unfold World.setChan;grind
theorem fa(w:World)(a:b<w.heap.size):(w.setChan b p j f q s u).heap[b]?=some (.chan p j f q s u):=by
 unfold World.setChan;grind
theorem jW(w:World):(w.setChan b p j f q s u).heap.size=w.heap.size:=by
 unfold World.setChan;simp
theorem I5(C:du K)(h:iI K x l n w t)(T:k<x.j)(D:n[K.nb+k]?=some g)(u:(x.hs k).st=21)(U:(x.hs k).dd=0)(hs:ub K (x.hs k).O g w)(ax:14<x.md.s):nf K l x t (runT K.P (crowd n w v) (K.nb+k)):=by
 have a0:=h.iy.one;have⟨s1,V,F⟩:=hs;have M:=C.hand.step g.frame g.callers w F;rw[<-tW K.P false g V w]at M;have W:((K.nb+k==0)=false):=x7;have N:=h.cu.yZ;rw[aq E]at N;have Y:partners (n.setIfInBounds (K.nb+k) ph) K.cO true=[]:=YQ λj z A=>oB C.main h (J X) A (J (I E))
 have P:=crowd_waits (P:=K.P) (sl:=v) (i:=K.nb+k) D (by rw[W];exact M) (λcc Q=>by
  simp only[aF,az,aD,bP]at Q;subst Q;exact ways_recv_none N Y)
 have Z:=(aL.1 D).1
 let r:pI K.P:={ x with hs:=upd x.hs k { x.hs k with st:=20,O:=dU }}
 have i:∀b,(46<=(r.hs b).st↔46<=(x.hs b).st)∧(47<=(r.hs b).st↔47<=(x.hs b).st)∧(48<=(r.hs b).st↔48<=(x.hs b).st)∧(r.hs b).i=(x.hs b).i∧(∀m,(r.hs b).O m->(x.hs b).O m)∧(r.hs b).dd=(x.hs b).dd∧((r.hs b).st<=6->(x.hs b).st<=6):=by
  intro b;show(46<=(upd x.hs k _ b).st↔_)∧(47<=(upd x.hs k _ b).st↔_)∧(48<=(upd x.hs k _ b).st↔_)∧(upd x.hs k _ b).i=_∧(∀m,(upd x.hs k _ b).O m->_)∧(upd x.hs k _ b).dd=_∧((upd x.hs k _ b).st<=6->_);by_cases c:b=k
  ·subst c;rw[XT];exact⟨by simp[u],by simp[u],by simp[u],X,λ_ p=>p.elim,X,oi⟩
  ·rw[upd_ne x.hs _ c];grind
 have ab:Go.ConcN.Mode x.j (dj K r) (mG x.md) x.st x.sm:=by
  refine Yj (λb f=>?_) h.cu.mode;show(if 14<=(upd x.hs k _ b).st then 7 else(upd x.hs k _ b).st)=(if 14<=(x.hs b).st then 7 else(x.hs b).st);by_cases c:b=k
  ·subst c;rw[XT];simp[u]
  ·rw[upd_ne x.hs _ c]
 have ad:iC K r w:=by
  have e:=h.cu;refine⟨e.wg,ab,e.yZ,e.EI,e.xQ,e.nN,λo=>absurd o (by show ¬x.md.s<=14;omega),e.buf,e.tk,λb f o=>?_,λb B f ao o c' c=>?_,λq s=>?_,?_,λq s=>?_,λq s=>?_,e.emp,λo b f=>?_⟩
  ·rw[(i b).2.2.2.1];exact e.hold b f ((i b).1.1 o)
  ·rw[(i b).2.2.2.1,(i B).2.2.2.1]at c;exact e.two b B f ao ((i b).1.1 o) ((i B).1.1 c') c
  ·rcases e.cover q s with o|o|⟨b,f,b1,b2⟩
   ·exact I o
   ·grind
   grind
  ·refine Eq.trans ?_ e.room
   congr 2
   refine Yd λb f=>?_
   unfold tx;by_cases o:46<=(x.hs b).st
   ·grind
   grind
  ·rw[e.ca q s];grind
  ·rw[e.cl q s];grind
  ·have:=e.busy E b f;show 20<=(upd x.hs k _ b).st;by_cases c:b=k
   ·subst c;rw[XT];simp
   ·rw[upd_ne x.hs _ c];exact this
 have ar:iI K r l (n.setIfInBounds (K.nb+k) (parked (G g.frame g.callers) #[rcase K.cO K.zO] (.recv true))) w (t++MemOp.ofEvents (K.nb+k) g.frame.fn g.frame.place #[]):=by
  refine pR (x':=r) h X X X ⟨X,X,X⟩ (λ_ _ _=>rfl) oi (λq h0 s=>fg n _ E) (λb f=>?_) (λb f=>⟨(i b).2.2.2.2.1,(i b).2.2.2.2.2.1,(i b).2.2.2.2.2.2⟩) ?_ (λ_ p=>p) X id (λm p=>⟨(h.mem.pS m p).1,(h.mem.pS m p).2,λR y=>?_⟩) (λop av=>by simp[MemOp.ofEvents]at av) ad
  ·show ∃z,_∧je K (upd x.hs k _ b) z w;by_cases c:b=k
   ·subst c;refine⟨_,aJ Z,?_⟩;rw[XT];exact J (J (J (J (J (J (I ⟨X,U,λ_ p=>p,_,_,X,F⟩))))))
   ·have⟨z,A,hs⟩:=h.iy.hand b f;exact⟨z,by rw[fg n _ E];exact A,by rw[upd_ne x.hs _ c];exact hs⟩
  ·have⟨a,ha,a1⟩:=h.iy.main;grind
  ·have:gv K x R m:=by
    rcases y with y|⟨b,f,c,y⟩
    ·exact I y
    ·exact J ⟨b,f,c,(i b).2.2.2.2.1 m y⟩
   exact(h.mem.ld R m this).2 p
 refine⟨_,w,v,r,by rw[P],by rw[P];exact ar,?_⟩;have S:=Yf x.hs { x.hs k with st:=20,O:=dU } (λd=>d.st) T;have S:sumTo x.j (λb=>(r.hs b).st)+(x.hs k).st=sumTo x.j (λb=>(x.hs b).st)+20:=S
 have ev:Vc x.j (dj K r)=Vc x.j (dj K x):=Yd λb f=>by
  show cnt (oZ (upd x.hs k _ b))=cnt (oZ (x.hs b));by_cases c:b=k
  ·subst c;rw[XT];simp[cnt,oZ,u]
  ·rw[upd_ne x.hs _ c]
 refine Prod.Lex.left _ _ ?_;show 100*(K.N-x.next)+10*(K.N-x.nt)+sumTo K.nb x.q+sumTo x.j (λb=>(r.hs b).st)+eX K.H (Vc x.j (dj K r)) x.md<100*(K.N-x.next)+10*(K.N-x.nt)+sumTo K.nb x.q+sumTo x.j (λb=>(x.hs b).st)+eX K.H (Vc x.j (dj K x)) x.md;rw[ev];omega
end
section
variable {K:m8}{x:pI K.P}{w a:World}{k n:Nat}{m':MD}{d':HD K.P}
theorem Io{m:MD}(a:13<=m.s)(b:m.s<=15):mG m=.kd:=by
 unfold mG;grind
theorem xe(e:iC K x w)(f:14<=(x.hs k).st)(g:14<=d'.st){b:Nat->WD}(h:∀a,b a=oZ (upd x.hs k d' a)){c:CTag}(i:c=mG x.md):Go.ConcN.Mode x.j b c x.st x.sm:=by
 rw[i];refine Yj (λa b=>?_) e.mode;rw[h];by_cases d:a=k
 ·subst d;rw[XT];simp[oZ,dj,f,g]
 ·rw[upd_ne x.hs d' d];rfl
theorem Dr(s:du K)(g:iC K x w)(B:∀h,x.Dn h->¬nW K h)(C:k<x.j)(D:x.next<K.N)(X:(x.hs k).st=20∨(x.hs k).st=21)(hs:d'.st=50)(t:d'.i=x.next)(Y:x.md.s=14∨x.md.s=15)(Z:m'.s=15)(r:∀h,h≠K.cO->a.heap[h]?=w.heap[h]?)(ab:a.heap[K.cO]?=some (.chan 0 #[] false (x.sO+1) (x.rO+1) x.uS)):iC K { x with hs:=upd x.hs k d',md:=m',next:=x.next+1,sO:=x.sO+1,rO:=x.rO+1 } a:=by
 have F:=s.hand;have⟨u,n2⟩:=g.FG;have G:=r _ λc=>u (I c.symm)
 have M:=r _ λc=>u (J c.symm)
 have N:=r _ λc=>s.ob c.symm
 have i:∀b,b≠k->upd x.hs k d' b=x.hs b:=λb c=>upd_ne x.hs d' c
 have v:upd x.hs k d' k=d':=XT ..;have gm:∀e l,(∀h,K.Mv l h->x.Dn h)->K.GM e l w->K.GM e l a:=λe l z O=>F.gm _ _ _ _ (λh P=>r h λc=>B h (z h P) (J (J (I c)))) O
 have Q:¬46<=(x.hs k).st:=E;refine⟨G.trans g.wg,xe (k:=k) (d':=d') g E E (λ_=>rfl) (by rw[Io (m:=m') E E,Io E E]),?_,?_,?_,D,λf=>absurd f (by show ¬m'.s<=14;omega),λy R=>?_,λe l S=>?_,λb m f=>?_,λb j m A f o c=>?_,λe p=>?_,?_,λe p=>?_,λe p=>?_,λf=>absurd f (by show ¬m'.s=1;omega),λf b m=>?_⟩
 ·grind
 ·rw[N];show _=some (Obj.chan K.N x.buf (decide (m'.s<3)) _ _ _);rw[g.EI,aq E,aq E]
 ·unfold jz;rw[M];exact g.xQ
 ·have⟨e,l,T,U,V,W⟩:=g.buf y R;grind
 ·have⟨V,W⟩:=g.tk e l S;grind
 ·show(upd x.hs k d' b).i<x.next+1;have f:46<=(upd x.hs k d' b).st:=f;by_cases c:b=k
  ·grind
  ·rw[i b c]at f ⊢;have:=g.hold b m f;omega
 ·have f:46<=(upd x.hs k d' b).st:=f;have o:46<=(upd x.hs k d' j).st:=o;have c:(upd x.hs k d' b).i=(upd x.hs k d' j).i:=c;by_cases q:b=k<;>by_cases n:j=k
  ·rw[q,n]
  ·rw[q,v,t,i j n]at c;rw[i j n]at o;have:=g.hold j A o;omega
  ·rw[n,v,t,i b q]at c;rw[i b q]at f;have:=g.hold b m f;omega
  ·rw[i b q,i j n]at c;rw[i b q]at f;rw[i j n]at o;exact g.two b j m A f o c
 ·have p:e<x.next+1:=p;by_cases c:e=x.next
  ·grind
  ·rcases g.cover e E with f|f|⟨b,m,T,U⟩
   ·exact I f
   ·grind
   grind
 ·have c:=Yf x.hs d' (λd=>if 46<=d.st then 1 else 0) C;rw[af Q,ai (show 46<=d'.st by omega)]at c;have hr:=g.room;have n:sumTo x.j (tx K x)=sumTo x.j (λb=>if 46<=(x.hs b).st then 1 else 0):=rfl;show x.buf.size+sumTo x.j (λb=>if 46<=(upd x.hs k d' b).st then 1 else 0)+x.nt=x.next+1;omega
 ·show x.ca e=true↔e<x.next+1∧∀b,b<x.j->48<=(upd x.hs k d' b).st->(upd x.hs k d' b).i≠e;rw[g.ca e p];constructor
  ·grind
  grind
 ·show x.cl e=true↔K.ls e=true∧e<x.next+1∧∀b,b<x.j->47<=(upd x.hs k d' b).st->(upd x.hs k d' b).i≠e;rw[g.cl e p];constructor
  ·grind
  grind
 ·have z:20<=(x.hs b).st:=g.busy E b m;by_cases c:b=k
  ·grind
  grind
theorem Ds(D:du K)(l:iC K x w)(O:∀f,x.Dn f->¬nW K f)(F:k<x.j)(ao:(x.hs k).st=46)(hs:d'.st=21)(P:K.GM (x.hs k).i e w)(Q:∀f,K.Mv e f->¬nW K f)(R:mG m'=mG x.md)(ar:m'.s=14->x.md.s=14)(S:m'.s<14↔x.md.s<14)(av:3<=m'.s∧3<=x.md.s){z sB' rB':Nat}(q:(j=x.buf.push (K.tv (x.hs k).i e)∧z=x.nt∧o=x.tk)∨(j=x.buf∧z=x.nt+1∧o=λy=>if y=(x.hs k).i then some e else x.tk y))(A:∀f,f≠K.cB->a.heap[f]?=w.heap[f]?)(ax:a.heap[K.cB]?=some (.chan K.N j false sB' rB' x.rE)):iC K { x with hs:=upd x.hs k d',md:=m',buf:=j,nt:=z,tk:=o,sB:=sB',rB:=rB',Dn:=λf=>x.Dn f∨K.Mv e f } a:=by
 have T:=D.hand;have⟨n1,G⟩:=l.FG;have U:=A _ λc=>G (I c.symm)
 have V:=A _ λc=>G (J c.symm)
 have W:=A _ D.ob;have r:∀b,b≠k->upd x.hs k d' b=x.hs b:=λb c=>upd_ne x.hs d' c
 have M:upd x.hs k d' k=d':=XT ..
 have Y:∀g i,(∀f,K.Mv i f->x.Dn f∨K.Mv e f)->K.GM g i w->K.GM g i a:=λg i B Z=>T.gm _ _ _ _ (λf ab=>A f λc=>by
  rcases B f ab with h|h
  ·exact O f h (J (J (J c)))
  ·exact Q f h (J (J (J c)))) Z
 have a0:=Y _ e (λf B=>J B) P;have a1:=l.hold k F E;refine⟨U.trans l.wg,xe (k:=k) (d':=d') l E E (λ_=>rfl) R,?_,?_,?_,l.nN,λh b p c=>?_,λy n=>?_,λg i C=>?_,λb p h=>?_,λb s p ad h t c=>?_,λg u=>?_,?_,λg u=>?_,λg u=>?_,λh=>absurd h (by show ¬m'.s=1;omega),λh b p=>?_⟩
 ·rw[W];rw[fK.2 S];exact l.yZ
 ·grind
 ·unfold jz;rw[V];exact l.xQ
 ·have c:(upd x.hs k d' b).st=20:=c;by_cases m:b=k
  ·grind
  ·rw[r b m]at c;exact l.uO (by have h:m'.s<=14:=h;omega) b p c
 ·have n:y∈j:=n
  have N:y∈x.buf->∃g i,y=K.tv g i∧g<x.next∧K.GM g i a∧∀f,K.Mv i f->x.Dn f∨K.Mv e f:=λn=>by
   have⟨g,i,b1,b2,b3,b4⟩:=l.buf y n;grind
  rcases q with⟨c,_,_⟩|⟨c,_,_⟩
  ·rw[c]at n;rcases Array.mem_push.1 n with n|n
   ·exact N n
   grind
  grind
 ·have C:o g=some i:=C
  have N:x.tk g=some i->K.GM g i a∧∀f,K.Mv i f->x.Dn f∨K.Mv e f:=λC=>by
   have⟨b3,b4⟩:=l.tk g i C;grind
  rcases q with⟨_,_,c⟩|⟨_,_,c⟩
  ·grind
  grind
 ·have h:46<=(upd x.hs k d' b).st:=h;by_cases m:b=k
  ·grind
  ·show(upd x.hs k d' b).i<x.next;rw[r b m]at h ⊢;exact l.hold b p h
 ·have h:46<=(upd x.hs k d' b).st:=h;have t:46<=(upd x.hs k d' s).st:=t;have c:(upd x.hs k d' b).i=(upd x.hs k d' s).i:=c;have m:b≠k:=λm=>by subst m;rw[M]at h;omega
  have v:s≠k:=λv=>by subst v;rw[M]at t;omega
  rw[r b m,r s v]at c;rw[r b m]at h;rw[r s v]at t;exact l.two b s p ad h t c
 ·show(∃e,o g=some e)∨(∃e,K.tv g e∈j)∨∃b,b<x.j∧46<=(upd x.hs k d' b).st∧(upd x.hs k d' b).i=g;rcases l.cover g u with⟨i,h⟩|⟨i,h⟩|⟨b,p,b1,b2⟩
  ·refine I ?_;rcases q with⟨_,_,c⟩|⟨_,_,c⟩
   ·grind
   ·rw[c];simp only;split
    ·exact⟨_,X⟩
    grind
  ·refine J (I ⟨i,?_⟩);rcases q with⟨c,_,_⟩|⟨c,_,_⟩
   ·grind
   grind
  ·by_cases m:b=k
   ·subst m;rcases q with⟨c,_,_⟩|⟨_,_,c⟩
    ·grind
    simp_all
   grind
 ·have c:=Yf x.hs d' (λd=>if 46<=d.st then 1 else 0) F;rw[ai (show 46<=(x.hs k).st by omega),af (show ¬46<=d'.st by omega)]at c;have hr:=l.room;have v:sumTo x.j (tx K x)=sumTo x.j (λb=>if 46<=(x.hs b).st then 1 else 0):=rfl;show j.size+sumTo x.j (λb=>if 46<=(upd x.hs k d' b).st then 1 else 0)+z=x.next;rcases q with⟨e3,e4,_⟩|⟨e3,e4,_⟩
  ·grind
  grind
 ·show x.ca g=true↔g<x.next∧∀b,b<x.j->48<=(upd x.hs k d' b).st->(upd x.hs k d' b).i≠g;rw[l.ca g u];constructor
  ·grind
  grind
 ·show x.cl g=true↔K.ls g=true∧g<x.next∧∀b,b<x.j->47<=(upd x.hs k d' b).st->(upd x.hs k d' b).i≠g;rw[l.cl g u];constructor
  ·grind
  grind
 ·have h:14<=m'.s:=h;have B:=l.busy E b p;by_cases c:b=k
  ·grind
  grind
theorem ss(q:du K)(b:iC K x w)(z:∀e,x.Dn e->¬nW K e)(r:0<x.buf.size)(A:mG m'=mG x.md)(B:m'.s=1->x.md.s=1)(V:m'.s=14->x.md.s=14)(C:m'.s<14↔x.md.s<14)(W:m'.s<3↔x.md.s<3)(m:∀e,e≠K.cB->a.heap[e]?=w.heap[e]?)(Y:a.heap[K.cB]?=some (.chan K.N (x.buf.extract 1 x.buf.size) (decide (x.md.s<3)) x.sB (x.rB+1) x.rE)):∃g i,x.buf.getD 0 undef=K.tv g i∧g<K.N∧iC K { x with md:=m',buf:=x.buf.extract 1 x.buf.size,nt:=x.nt+1,tk:=λy=>if y=g then some i else x.tk y,rB:=x.rB+1 } a:=by
 have s:=q.hand;have⟨Z,t⟩:=b.FG;have D:=m _ λd=>t (I d.symm)
 have E:=m _ λd=>t (J d.symm)
 have F:=m _ q.ob;have u:∀g c,(∀e,K.Mv c e->x.Dn e)->K.GM g c w->K.GM g c a:=λg c G M=>s.gm _ _ _ _ (λe N=>m e λd=>z e (G e N) (J (J (J d)))) M
 have O:x.buf.getD 0 undef∈x.buf:=by
  simp_all
 have P:∀y,y∈x.buf.extract 1 x.buf.size->y∈x.buf:=λy k=>by
  have⟨j,n,d⟩:=gY.1 k;rw[Array.getElem_extract]at d;rw[<-d];exact KI _
 have Q:∀y,y∈x.buf->y=x.buf.getD 0 undef∨y∈x.buf.extract 1 x.buf.size:=λy k=>by
  have⟨j,n,d⟩:=gY.1 k;cases j with
  |zero=>exact I (by rw[aw,au r];exact d.symm)
  |succ j=>
   refine J (gY.2 ⟨j,x7,?_⟩);rw[Array.getElem_extract, <-d]
   congr 1
   omega
 have⟨g,i,v,R,c3,c4⟩:=b.buf _ O;refine⟨g,i,v,aj R b.nN,D.trans b.wg,by rw[show mG m'=mG x.md from A];exact b.mode,?_,?_,?_,b.nN,λf j n=>b.uO (by have f:m'.s<=14:=f;omega) j n,λy k=>?_,λh c o=>?_,b.hold,b.two,λh S=>?_,?_,b.ca,b.cl,λf=>absurd r (by have:=b.emp (B f);rw[this];simp),λf=>b.busy (by have f:14<=m'.s:=f;omega)⟩
 ·rw[F];rw[fK.2 C];exact b.yZ
 ·grind
 ·unfold jz;rw[E];exact b.xQ
 ·have⟨h,c,T,U,p,l⟩:=b.buf y (P y k);exact⟨h,c,T,U,u h c l p,l⟩
 ·simp only at o;split at o
  ·grind
  ·have⟨p,l⟩:=b.tk h c o;exact⟨u h c l p,l⟩
 ·show(∃c,(if h=g then some i else x.tk h)=some c)∨_;rcases b.cover h S with⟨c,f⟩|⟨c,f⟩|f
  ·refine I ?_;split
   ·exact⟨_,X⟩
   ·exact⟨c,f⟩
  ·rcases Q _ f with d|d
   ·have:=(s.Vz _ _ _ _ (d.trans v)).1;exact I ⟨i,by rw[ai this]⟩
   ·grind
  ·grind
 ·have hr:=b.room;show(x.buf.extract 1 x.buf.size).size+sumTo x.j (tx K x)+(x.nt+1)=x.next;rw[Array.size_extract];omega
end
section
variable {K:m8}{l:Loc->Prop}{x d:pI K.P}{r:Array Goroutine}{w n:World}{t:Trace}{C:Array Event}{k:Nat}{g N a:Goroutine}{v:Option (Nat×Nat)}
theorem Ir{d':HD K.P}(d:14<=(x.hs k).st)(e:14<=d'.st){b:Nat->WD}(f:∀a,b a=oZ (upd x.hs k d' a)):Vc x.j b=Vc x.j (dj K x):=Yd λa g=>by
 rw[f];by_cases c:a=k
 ·subst c;rw[XT];simp[cnt,oZ,dj,d,e]
 ·rw[upd_ne x.hs d' c];rfl
theorem CI(p:du K)(h:iI K x l r w t)(M:k<x.j)(s:r[K.nb+k]?=some g)(y:(x.hs k).st=21)(N:(x.hs k).dd=0)(hs:ub K (x.hs k).O g w)(u:x.md.s<14):nf K l x t (runT K.P (crowd r w v) (K.nb+k)):=by
 have y:=h.iy.one;have⟨z,A,y⟩:=hs;have z:=p.hand.step g.frame g.callers w y;rw[<-tW K.P false g A w]at z;have P:((K.nb+k==0)=false):=x7;have A:=h.cu.yZ;rw[aU u]at A;have Q:partners (r.setIfInBounds (K.nb+k) ph) K.cO true=[]:=YQ λj q B=>oB p.main h (J X) B (J (I E))
 have C:=crowd_recv_closed (P:=K.P) (sl:=v) (i:=K.nb+k) s (by rw[P];exact z) A Q;have R:=(aL.1 s).1;have⟨c,S⟩:=p.hand.over g.frame g.callers w y h.cu.lv h.mem.Ek;have D:upd x.hs k { x.hs k with st:=15,fu:=c,O:=dU } k={ x.hs k with st:=15,fu:=c,O:=dU }:=XT ..;have s:∀b,b≠k->upd x.hs k { x.hs k with st:=15,fu:=c,O:=dU } b=x.hs b:=λb e=>upd_ne x.hs _ e
 have T:iC K { x with hs:=upd x.hs k { x.hs k with st:=15,fu:=c,O:=dU }} w:=by
  refine h.cu.Cf (x':={ x with hs:=upd x.hs k { x.hs k with st:=15,fu:=c,O:=dU }}) p.hand X ⟨X,X,X,X,X,X,X⟩ ⟨X,X,X,X,X,X⟩ (λb n=>?_) ⟨dt,dt⟩ h.cu.wg (xe h.cu (k:=k) (d':={ x.hs k with st:=15,fu:=c,O:=dU }) E oi (λ_=>rfl) X) X X X (λ_ _=>rfl) (λs=>absurd u E);grind
 have F:∀b f,(upd x.hs k { x.hs k with st:=15,fu:=c,O:=dU } b).O f->(x.hs b).O f:=λb f i=>by
  by_cases e:b=k
  ·subst e;rw[D]at i;exact i.elim
  grind
 refine⟨_,w,v,{ x with hs:=upd x.hs k { x.hs k with st:=15,fu:=c,O:=dU }},by rw[C],?_,?_⟩
 ·rw[C];refine pR (x':={ x with hs:=upd x.hs k { x.hs k with st:=15,fu:=c,O:=dU }}) h X X X ⟨X,X,X⟩ (λ_ _ _=>rfl) oi (λp s u=>fg r _ E) (λb n=>?_) (λb n=>⟨F b,?_,?_⟩) ?_ (λ_ i=>i) X id (λf i=>⟨(h.mem.pS f i).1,(h.mem.pS f i).2,λG o=>?_⟩) (λy m=>?_) T
  ·show ∃q,_∧je K (upd x.hs k _ b) q w;by_cases e:b=k
   ·subst e;refine⟨_,aJ R,?_⟩;rw[D];exact J (J (J (J (J (J (J (I ⟨X,N,S⟩)))))))
   ·have⟨q,B,hs⟩:=h.iy.hand b n;grind
  ·show(upd x.hs k _ b).dd=_;grind
  ·grind
  ·have⟨a,p,q⟩:=h.iy.main;grind
  ·have:gv K x G f:=by
    rcases o with o|⟨b,n,e,o⟩
    ·exact I o
    ·exact J ⟨b,n,e,F b f o⟩
   exact(h.mem.ld G f this).2 i
  ·rcases cn.1 m with m|m
   ·simp[MemOp.ofEvents]at m
   ·simp only[aF,az,aD,bP]at m;subst m;exact⟨X,λf=>oi,h.cu.C4.2.2.1⟩
 ·have f:=Yf x.hs { x.hs k with st:=15,fu:=c,O:=dU } (λd=>d.st) M;have f:sumTo x.j (λb=>(upd x.hs k { x.hs k with st:=15,fu:=c,O:=dU } b).st)+(x.hs k).st=sumTo x.j (λb=>(x.hs b).st)+15:=f;have b:Vc x.j (dj K { x with hs:=upd x.hs k { x.hs k with st:=15,fu:=c,O:=dU }})=Vc x.j (dj K x):=Ir (k:=k) (d':={ x.hs k with st:=15,fu:=c,O:=dU }) E oi λ_=>rfl
  refine Prod.Lex.left _ _ ?_;grind
theorem Df{a:Frame}{c:List Frame}:offersAt (parked (G a c) #[scase b e z,rcase p A] .select) b true=[0]∧offersAt (parked (G a c) #[scase b e z,rcase p A] .select) p false=[1]:=by
 refine⟨?_,?_⟩<;>simp[offersAt,parked,scase,rcase]
theorem rR(z:du K)(h:iI K x l r w t)(Q:k<x.j){m:Array Goroutine}{G:Trace}{d':HD K.P}(A:d.j=x.j)(R:d.q=x.q)(p:d.hs=upd x.hs k d')(ax:14<=(x.hs k).st)(a0:14<=d'.st)(S:d'.dd=(x.hs k).dd)(B:∀b,¬d'.O b)(M:n.heap.size=w.heap.size)(T:n.tape=w.tape∧n.os=w.os∧n.output=w.output)(C:∀b,b≠K.cO->b≠K.cB->n.heap[b]?=w.heap[b]?)(U:m.size=r.size)(N:∀j,j≠0->j≠K.nb+k->m[j]?=r[j]?)(V:∃q,m[K.nb+k]?=some q∧je K d' q n)(W:∃a,m[0]?=some a∧ku K x.j d.next d.tk d.md a n)(D:d.md.O=x.md.O)(Y:d.md.d0=x.md.d0)(Z:d.md.s<=3->x.md.s<=3)(ab:∀b,d.Dn b->x.Dn b∨(x.hs k).O b)(ad:∀s,s∈G->s.act.touch?=none∧(∀ao,s.act≠.mark ao)∧s.act.low w.heap.size)(ar:iC K d n):iI K d l m n (t++G):=by
 have a1:=h.iy.one;have u:upd x.hs k d' k=d':=XT ..;have v:∀c,c≠k->upd x.hs k d' c=x.hs c:=λc e=>upd_ne x.hs _ e
 have av:=C _ (λe=>h.cu.FG.1 (I e.symm)) (λe=>h.cu.FG.2 (I e.symm));refine pR h A R M T C U (λj h0 hi=>N j E E) (λc i=>?_) (λc i=>?_) W (λb f=>by rw[<-D];exact f) Y Z (λb f=>?_) ad ar
 ·rw[p];by_cases e:c=k
  ·subst e;rw[u];exact V
  ·have⟨q,hz,hs⟩:=h.iy.hand c i;refine⟨q,by rw[N _ E E];exact hz,?_⟩;rw[v c e];refine hs.rely z.hand z.c1 z.c2 ⟨λb f=>?_,λ⟨a,b,O⟩=>⟨a,b,av.trans O⟩,by rw[M];exact aa _⟩
   have P:¬nW K b:=by
    rcases f with f|f
    ·exact(h.mem.Bb b f).1
    ·exact(h.mem.ld (K.nb+c) b (J ⟨c,i,X,f⟩)).1
   exact C b (λe=>P (J (J (I e)))) (λe=>P (J (J (J e))))
 ·rw[p];by_cases e:c=k
  ·subst e;rw[u];exact⟨λb f=>absurd f (B b),S,λO=>E⟩
  ·rw[v c e];exact⟨λ_ f=>f,X,id⟩
 ·rcases ab b f with f|f
  ·refine⟨(h.mem.pS b f).1,(h.mem.pS b f).2,λF g=>?_⟩
   have:gv K x F b:=by
    rcases g with⟨e,g⟩|⟨c,i,e,g⟩
    ·exact I ⟨e,by rw[<-D];exact g⟩
    ·rw[p]at g;rw[A]at i;by_cases o:c=k
     ·subst o;rw[u]at g;exact absurd g (B b)
     ·rw[v c o]at g;exact J ⟨c,i,e,g⟩
   exact(h.mem.ld F b this).2 f
  ·have y:gv K x (K.nb+k) b:=J ⟨k,Q,X,f⟩;refine⟨(h.mem.ld _ b y).1,h.mem.own _ b y,λF g=>?_⟩;rcases g with⟨e,g⟩|⟨c,i,e,g⟩
   ·have:=h.mem.nj.two 0 _ b (I ⟨X,by rw[<-D];exact g⟩) y;omega
   ·rw[p]at g;rw[A]at i;by_cases o:c=k
    ·subst o;rw[u]at g;exact absurd g (B b)
    ·rw[v c o]at g;have:=h.mem.nj.two (K.nb+c) _ b (J ⟨c,i,X,g⟩) y;omega
end
section
variable {K:m8}{l:Loc->Prop}{x N:pI K.P}{n:Array Goroutine}{w d:World}{t:Trace}{v:Array Event}{k:Nat}{g C a:Goroutine}{r:Option (Nat×Nat)}
theorem Jb{j next:Nat}{a:Goroutine}{w:World}(b:c.s=15)(d:c.d0=0)(e:j=K.H)(f:H0 K (Ae K next o) c.fu c.O a w):ku K j next o c a w:=J (J (J (J (J (I ⟨b,d,e,f⟩)))))
theorem Ab(c:iI K x l n w t)(g:∀b,b≠K.cO->b≠K.cB->d.heap[b]?=w.heap[b]?)(i:d.heap.size=w.heap.size):gz K d∧qF K d∧dW K.rd (gz K) x.md.O w d:=by
 have h:=g _ (λe=>c.cu.FG.1 (I e.symm)) (λe=>c.cu.FG.2 (I e.symm));have f:∀b,¬nW K b->d.heap[b]?=w.heap[b]?:=λb f=>g b (λe=>f (J (J (I e)))) (λe=>f (J (J (J e))))
 have⟨a,b,g⟩:=c.cu.lv;exact⟨⟨a,b,h.trans g⟩,λb e=>(f b (c.mem.Bb b e).1).trans (c.mem.Ek b e),⟨λb e=>f b (e.elim (λy=>(c.mem.Bb b y).1) λy=>(c.mem.ld 0 b (I ⟨X,y⟩)).1),λ_=>⟨a,b,h.trans g⟩,by rw[i];exact aa _⟩⟩
theorem I3(h:du K)(e:iI K x l n w t)(u:k<x.j)(B:n[K.nb+k]?=some g)(W:(x.hs k).st=21)(Y:(x.hs k).dd=0)(hs:ub K (x.hs k).O g w)(v:x.md.s=14):nf K l x t (runT K.P (crowd n w r) (K.nb+k)):=by
 have a0:=e.iy.one;have⟨s1,Z,C⟩:=hs;have D:=h.hand.step g.frame g.callers w C;rw[<-tW K.P false g Z w]at D;have e0:((K.nb+k==0)=false):=x7;have F:=e.cu.yZ;rw[aq E]at F;have⟨a,M,ab⟩:=e.iy.main;obtain⟨q1,q2,y,N,P,rfl,q4,q5⟩:=ab.Lc v
 have hp:partners (n.setIfInBounds (K.nb+k) ph) K.cO true=[(0,0)]:=by
  rw[partners_one (j:=0) (g:=parked (G N P) #[scase K.cO (K.sv x.next) K.zT,rcase K.cB K.zB] .select) (by rw[fg n _ E];exact M) (λj a1 hj hz=>oB h.main e (J X) hz (I hj)),Df.1];rfl
 have Q:=vX (P:=K.P) (sl:=r) (i:=K.nb+k) (j:=0) (k:=0) B (by rw[e0];exact D) F E M (cs:= #[scase K.cO (K.sv x.next) K.zT,rcase K.cB K.zB]) X hp;have ad:=(aL.1 B).1;have R:=e.cu.C4.2.2.1;have z:∀b,b≠K.cO->(w.setChan K.cO 0 #[] false (x.sO+1) (x.rO+1) x.uS).heap[b]?=w.heap[b]?:=λb c=>jU w c
 have S:(w.setChan K.cO 0 #[] false (x.sO+1) (x.rO+1) x.uS).heap.size=w.heap.size:=jW w;have⟨T,U,ao⟩:=Ab e (λb c _=>z b c) S;have⟨m,hn⟩:=h.hand.word g.frame g.callers x.next _ C y T U;have⟨q,ar⟩:=h.main.TN x.next x.tk x.md.O N P _ q4 y (q5 _ ao) T U;have av:=Dr (m':={ x.md with s:=15,fu:=q }) (d':={ x.hs k with st:=50,i:=x.next,fu:=m,O:=dU }) h e.cu (λb c=>(e.mem.pS b c).1) u y (J W) X X (I v) X z (fa w R);refine⟨_,_,r,{ x with hs:=upd x.hs k { x.hs k with st:=50,i:=x.next,fu:=m,O:=dU },md:={ x.md with s:=15,fu:=q },next:=x.next+1,sO:=x.sO+1,rO:=x.rO+1 },by rw[Q],?_,?_⟩
 ·rw[Q]
  refine rR (d':={ x.hs k with st:=50,i:=x.next,fu:=m,O:=dU }) h e u X X X E oi X (λ_ c=>c) S ⟨X,X,X⟩ (λb c _=>z b c) oi (λi h0 hi=>by rw[fg _ _ (λA=>hi A.symm),fg _ _ (λA=>h0 A.symm)]) ⟨_,aJ (by simpa using ad),I ⟨X,Y,hn⟩⟩
   ⟨_,by rw[fg _ _ E];exact aJ E,Jb X q1 q2 ar⟩ X X (λax=>absurd ax oi) (λb c=>I c) (λop o=>?_) av
  rcases cn.1 o with o|o
  ·simp[MemOp.ofEvents]at o
  ·simp only[aF,az,aD,bP]at o;rcases o with rfl|rfl|rfl|rfl<;>exact⟨X,λa2=>oi,R⟩
 ·have V:=Yf x.hs { x.hs k with st:=50,i:=x.next,fu:=m,O:=dU } (λd=>d.st) u;have V:sumTo x.j (λf=>(upd x.hs k { x.hs k with st:=50,i:=x.next,fu:=m,O:=dU } f).st)+(x.hs k).st=sumTo x.j (λf=>(x.hs f).st)+50:=V;refine Prod.Lex.left _ _ ?_;show 100*(K.N-(x.next+1))+10*(K.N-x.nt)+sumTo K.nb x.q+sumTo x.j (λf=>(upd x.hs k { x.hs k with st:=50,i:=x.next,fu:=m,O:=dU } f).st)+eX K.H _ { x.md with s:=15,fu:=q }<100*(K.N-x.next)+10*(K.N-x.nt)+sumTo K.nb x.q+sumTo x.j (λf=>(x.hs f).st)+eX K.H (Vc x.j (dj K x)) x.md;have r1:∀p,eX K.H p { x.md with s:=15,fu:=q }=9*K.H+152:=λp=>XG
  have r2:∀p,eX K.H p x.md=9*K.H+151:=λp=>by simp[eX,v]
  grind
theorem Fe(p:du K)(e:iI K x l n w t)(m:k<x.j)(M:n[K.nb+k]?=some g)(N:(x.hs k).st=46)(ab:(x.hs k).dd=0)(hs:vD K (x.hs k).i (x.hs k).v (x.hs k).O g w):nf K l x t (runT K.P (crowd n w r) (K.nb+k)):=by
 have a8:=e.iy.one;obtain⟨fr,cs,rfl,P,Q,s3,s4⟩:=hs;have ad:=s3 w;have e0:((K.nb+k==0)=false):=x7;have h3:=Db e m E;have R:=e.cu.EI;rw[aq E]at R;have ao:=(aL.1 M).1;have C:=e.cu.C4.2.2.2;have ar:∀b,K.Mv (x.hs k).v b->¬nW K b:=λb c=>(e.mem.ld _ b (J ⟨k,m,X,Q b c⟩)).1
 have⟨a,S,av⟩:=e.iy.main;by_cases T:x.md.s=14
 ·obtain⟨q1,q2,q3,ax,a0,rfl,q4,q5⟩:=av.Lc T
  have U:partners (n.setIfInBounds (K.nb+k) ph) K.cB false=[(0,1)]:=by
   rw[partners_one (j:=0) (g:=parked (G ax a0) #[scase K.cO (K.sv x.next) K.zT,rcase K.cB K.zB] .select) (by rw[fg n _ E];exact S) (λj a1 hj V=>oB p.main e (I λo=>p.ob o.symm) V (I hj)),Df.2];rfl
  have v:=crowd_send_meets_sel (P:=K.P) (sl:=r) (i:=K.nb+k) (j:=0) (k:=1) M (by rw[e0];exact ad) R E S (cs:= #[scase K.cO (K.sv x.next) K.zT,rcase K.cB K.zB]) X U;have q:∀b,b≠K.cB->(w.setChan K.cB K.N x.buf false (x.sB+1) (x.rB+1) x.rE).heap[b]?=w.heap[b]?:=λb c=>jU w c
  have z:(w.setChan K.cB K.N x.buf false (x.sB+1) (x.rB+1) x.rE).heap.size=w.heap.size:=jW w;have⟨D,F,W⟩:=Ab e (λb _ c=>q b c) z;have⟨h,Y⟩:=s4 _ D F;have a2:=aj (e.cu.hold k m E) e.cu.nN;have⟨A,a3⟩:=p.main.T0 x.next x.tk x.md.O ax a0 _ (x.hs k).i (x.hs k).v q4 q3 a2 ⟨_,P⟩ (q5 _ W) D F;have Z:=Ds (m':={ x.md with s:=15,fu:=A }) (d':={ x.hs k with st:=21,fu:=h,O:=dU }) (sB':=x.sB+1) (rB':=x.rB+1) p e.cu (λb c=>(e.mem.pS b c).1) m N X P ar (by rw[Io (m:={ x.md with s:=15,fu:=A }) oi oi,Io E E]) oi x7 ⟨oi,E⟩ (J ⟨X,X,X⟩) q (fa w C);refine⟨_,_,r,{ x with hs:=upd x.hs k { x.hs k with st:=21,fu:=h,O:=dU },md:={ x.md with s:=15,fu:=A },buf:=x.buf,nt:=x.nt+1,tk:=λy=>if y=(x.hs k).i then some (x.hs k).v else x.tk y,sB:=x.sB+1,rB:=x.rB+1,Dn:=λb=>x.Dn b∨K.Mv (x.hs k).v b },by rw[v],?_,?_⟩
  ·rw[v]
   refine rR (d':={ x.hs k with st:=21,fu:=h,O:=dU }) p e m X X X E oi X (λ_ c=>c) z ⟨X,X,X⟩ (λb _ c=>q b c) oi (λa4 h0 hi=>by rw[fg _ _ (λo=>hi o.symm),fg _ _ (λo=>h0 o.symm)]) ⟨_,aJ (by simpa using ao),J (J (J (J (J (I ⟨X,ab,Y⟩)))))⟩
    ⟨_,by rw[fg _ _ E];exact aJ E,Jb X q1 q2 (a3.mono λ_ _ _ y=>I ⟨q3,y⟩)⟩ X X (λa5=>absurd a5 oi) (λb c=>c.imp id (Q b)) (λop i=>?_) Z
   rcases cn.1 i with i|i
   ·simp[MemOp.ofEvents]at i
   ·simp only[aF,az,aD,bP]at i;rcases i with rfl|rfl|rfl|rfl<;>exact⟨X,λa6=>oi,C⟩
  ·have u:=Yf x.hs { x.hs k with st:=21,fu:=h,O:=dU } (λd=>d.st) m;have u:sumTo x.j (λf=>(upd x.hs k { x.hs k with st:=21,fu:=h,O:=dU } f).st)+(x.hs k).st=sumTo x.j (λf=>(x.hs f).st)+21:=u;refine Prod.Lex.left _ _ ?_;show 100*(K.N-x.next)+10*(K.N-(x.nt+1))+sumTo K.nb x.q+sumTo x.j (λf=>(upd x.hs k { x.hs k with st:=21,fu:=h,O:=dU } f).st)+eX K.H _ { x.md with s:=15,fu:=A }<100*(K.N-x.next)+10*(K.N-x.nt)+sumTo K.nb x.q+sumTo x.j (λf=>(x.hs f).st)+eX K.H (Vc x.j (dj K x)) x.md;have r1:∀B,eX K.H B { x.md with s:=15,fu:=A }=9*K.H+152:=λB=>XG
   have r2:∀B,eX K.H B x.md=9*K.H+151:=λB=>by simp[eX,T]
   grind
 ·have U:partners (n.setIfInBounds (K.nb+k) ph) K.cB false=[]:=YQ λj a1 V=>oB p.main e (I λo=>p.ob o.symm) V (J (I T))
  have a7:x.buf.size<K.N:=by
   have o:=e.cu.room;have:=Go.ConcN.le_sumTo (f:=tx K x) m;have u:tx K x k=1:=by simp[tx,N]
   have:=e.cu.nN;omega
  have v:=crowd_send_room (P:=K.P) (sl:=r) (i:=K.nb+k) M (by rw[e0];exact ad) R a7 U;have q:∀b,b≠K.cB->(w.setChan K.cB K.N (x.buf.push (K.tv (x.hs k).i (x.hs k).v)) false (x.sB+1) x.rB x.rE).heap[b]?=w.heap[b]?:=λb c=>jU w c
  have z:(w.setChan K.cB K.N (x.buf.push (K.tv (x.hs k).i (x.hs k).v)) false (x.sB+1) x.rB x.rE).heap.size=w.heap.size:=jW w;have⟨D,F,W⟩:=Ab e (λb _ c=>q b c) z;have⟨h,Y⟩:=s4 _ D F;have Z:=Ds (m':=x.md) (d':={ x.hs k with st:=21,fu:=h,O:=dU }) (sB':=x.sB+1) (rB':=x.rB) p e.cu (λb c=>(e.mem.pS b c).1) m N X P ar X id dt ⟨E,E⟩ (I ⟨X,X,X⟩) q (fa w C);refine⟨_,_,r,{ x with hs:=upd x.hs k { x.hs k with st:=21,fu:=h,O:=dU },md:=x.md,buf:=x.buf.push (K.tv (x.hs k).i (x.hs k).v),nt:=x.nt,tk:=x.tk,sB:=x.sB+1,rB:=x.rB,Dn:=λb=>x.Dn b∨K.Mv (x.hs k).v b },by rw[v],?_,?_⟩
  ·rw[v]
   refine rR (d':={ x.hs k with st:=21,fu:=h,O:=dU }) p e m X X X E oi X (λ_ c=>c) z ⟨X,X,X⟩ (λb _ c=>q b c) oi (λa4 h0 hi=>by rw[fg _ _ (λo=>hi o.symm)]) ⟨_,aJ ao,J (J (J (J (J (I ⟨X,ab,Y⟩)))))⟩
    ⟨a,by rw[fg _ _ E];exact S,av.rely W⟩ X X id (λb c=>c.imp id (Q b)) (λop i=>?_) Z
   rcases cn.1 i with i|i
   ·simp[MemOp.ofEvents]at i
   ·simp only[aF,az,aD,bP]at i;rcases i with rfl|rfl<;>exact⟨X,λa6=>oi,C⟩
  ·have u:=Yf x.hs { x.hs k with st:=21,fu:=h,O:=dU } (λd=>d.st) m;have u:sumTo x.j (λf=>(upd x.hs k { x.hs k with st:=21,fu:=h,O:=dU } f).st)+(x.hs k).st=sumTo x.j (λf=>(x.hs f).st)+21:=u;have ev:Vc x.j (λf=>oZ (upd x.hs k { x.hs k with st:=21,fu:=h,O:=dU } f))=Vc x.j (dj K x):=Ir (k:=k) (d':={ x.hs k with st:=21,fu:=h,O:=dU }) E oi λ_=>rfl
   refine Prod.Lex.left _ _ ?_;show 100*(K.N-x.next)+10*(K.N-x.nt)+sumTo K.nb x.q+sumTo x.j (λf=>(upd x.hs k { x.hs k with st:=21,fu:=h,O:=dU } f).st)+eX K.H (Vc x.j (λf=>oZ (upd x.hs k { x.hs k with st:=21,fu:=h,O:=dU } f))) x.md<100*(K.N-x.next)+10*(K.N-x.nt)+sumTo K.nb x.q+sumTo x.j (λf=>(x.hs f).st)+eX K.H (Vc x.j (dj K x)) x.md;grind
end
end
section
open Go.Conc
open Go.ConcR (KK WgAt stA smA rd wr mk Payload DC0 Bk)
open Go.ConcN (WgLive CTag WD RelBy sumTo upd upd_same upd_ne sumTo_congr sumTo_upd cnt Vc)
section
variable {K:m8}{r:Loc->Prop}{x:pI K.P}{v:Array Goroutine}{w a:World}{t:Trace}{n:Array Event}{k:Nat}{g d:Goroutine}{C:Option (Nat×Nat)}{d':HD K.P}{st' sm':Int}
theorem Ub{b d:Nat->Bool}:dj K (x.put k d' c b d m M)=upd (dj K x) k (oZ d'):=by
 funext l
 rw[Gl];by_cases a:l=k
 ·subst a;rw[XT,XT]
 ·rw[upd_ne x.hs _ a,upd_ne _ _ a];rfl
theorem AI(j:du K)(h:iI K x r v w t)(u:k<x.j)(D:v[K.nb+k]?=some g)(M:stepG K.P false g w=.go d a n)(l:∀b,b≠K.Wg->a.heap[b]?=w.heap[b]?)(E:a.heap.size=w.heap.size)(N:a.tape=w.tape∧a.os=w.os∧a.output=w.output)(F:WgAt K.ty K.Wg a st' sm')(p:(x.hs k).st<46∧d'.st<46∧d'.st≠20)(O:∀b,¬d'.O b)(P:je K d' d a)(G:∀e∈n,∀y,(MemAct.ofEvent e).touch?=some y->ry (KS K) y.loc∧y.kind≠.plain∧y.kind≠.said)(Q:deafBehind (x.hs k).dd n=d'.dd)(R:∀e∈n,e.loc≠.mark (.release (stA K.Wg)))(S:(x.hs k).st<=6->d'.st<=6∧∀p,kY K t k p->kY K (t++MemOp.ofEvents (K.nb+k) g.frame.fn g.frame.place n) k p)(T:6<(x.hs k).st->d'.st<=6->∃p,kY K (t++MemOp.ofEvents (K.nb+k) g.frame.fn g.frame.place n) k p)(U:x.md.s<=3->(x.hs k).st<=6)(V:∀f,(f=x.md∨(x.md.s=7∧f={ x.md with s:=8,fu:=0 }))->(mayWake K.P g=true->d.status=.running->f.s≠7)->Go.ConcN.Mode x.j (upd (dj K x) k (oZ d')) (mG f) st' sm')(W:(d'.st=(x.hs k).st∧SQ K.P (d'.la,d'.fu) ((x.hs k).la,(x.hs k).fu))∨(d'.st<(x.hs k).st∧cnt (oZ d')<=cnt (oZ (x.hs k))))(Y:20<=(x.hs k).st->20<=d'.st):nf K r x t (runT K.P (crowd v w C) (K.nb+k)):=by
 have p:=h.iy.one;have⟨Z,l2,p,l4⟩:=h.cu.C4;have⟨n1,n2⟩:=h.cu.FG
 have ab:K.T≠K.Wg:=by
  intro e;have p:w.heap[K.Wg]?=some (.cells #[.int .u64 x.st,.int .u32 x.sm] K.ty):=h.cu.wg;have p:w.heap[K.T]?=some _:=h.cu.xQ;grind
 have⟨f,i,ad,ao⟩:=tw (es:=n) (g:=g) (g':=d) (d':=d') j.hand j.main j.c1 j.c2 h u D (by rw[E];exact aa _) N (λb _ _ p=>l b λe=>p (I e)) ⟨_,_,F⟩ (λb m=>absurd m (O b)) P
  (λop z y A=>by
   obtain⟨e,B,rfl⟩:=XP z;exact I (G e B y A))
  (λop z y A b m=>by
   obtain⟨e,B,rfl⟩:=XP z;have⟨⟨o,J,e2⟩,_⟩:=G e B y A;rw[m]at J;cases J;rw[E];rcases e2 with rfl|rfl
   ·exact Z
   ·exact l2) Q R S T U
 have ar:iC K (x.put k d' f x.ca x.cl st' sm') a:=by
  refine h.cu.Cf (x':=x.put k d' f x.ca x.cl st' sm') j.hand X ⟨X,X,X,X,X,X,X⟩ ⟨X,X,X,X,X,X⟩ (λc q=>?_) (AW i) F (by rw[Ub];exact V f i ad) (l _ λe=>n1 (I e)) (l _ λe=>n2 (I e)) (l _ ab) (λb m=>l b λe=>(h.mem.pS b m).1 (I e)) (λ_ c _ o=>by
   show 20<=(upd x.hs k d' c).st;by_cases e:c=k
   ·subst e;rw[XT];exact Y o
   ·rw[upd_ne x.hs d' e];exact o) (λo=>h.cu.emp (Qh i o)) (Hg i)
  show(46<=(upd x.hs k d' c).st↔_)∧(47<=(upd x.hs k d' c).st↔_)∧(48<=(upd x.hs k d' c).st↔_)∧((upd x.hs k d' c).st=20->_)∧(_->(upd x.hs k d' c).i=_);by_cases e:c=k
  ·subst e;rw[XT];omega
  ·rw[upd_ne x.hs d' e];omega
 have b:=X9 (P:=K.P) (sl:=C) (i:=K.nb+k) D (by rw[show((K.nb+k==0)=false) by simp;omega];exact M);refine⟨_,a,C,_,by rw[b],by rw[b];exact ao _ _ _ _ ar,?_⟩;rcases W with⟨e,q⟩|⟨q,b⟩
 ·exact C6 u h.iy.jH i e q
 ·exact tF u i q b
theorem NP (q : du K) (k : Ul K b g w) : (∃ j d a n, b = j + 1 ∧ stepG K.P false g w = .go d a n ∧ (∀ h : Nat, a.heap[h]? = w.heap[h]?) ∧ a.heap.size = w.heap.size ∧ (a.tape = w.tape ∧ a.os = w.os ∧ a.output = w.output) ∧
     (∀c∈n,(∀y,(MemAct.ofEvent c).touch?=some y->ry (KS K) y.loc∧y.kind ≠ .plain∧y.kind ≠ .said)∧c.loc ≠ .mark .disable∧c.loc ≠ .mark .enable∧c.loc ≠ .mark (.release (stA K.Wg)))∧Ul K j d a)∨
   ∃d e,stepG K.P false g w = .go d w #[mk (.releaseMerge (stA K.Wg))]∧Un K 6 e 0 d w:=by
 letI:Payload:=⟨K.et⟩
 have⟨r,s⟩:=k
 rcases YE r with j|⟨m,t,u⟩
 · have⟨_,_,d,f,e,k⟩:=j w (XX w)
   exact J ⟨d,e,f,I (.k1 k)⟩
 · rcases YE s with j|⟨e,C,r⟩
   · have⟨_,_,d,f,e,k⟩:=j w (XX w)
     exact J ⟨d,e,f,J (.k1 k)⟩
   · have⟨d,a,n,f,⟨i,o⟩,v⟩:=u w (XX w)
     have⟨j,k,s,l,⟨x,_⟩,z⟩:=r w (XX w)
     rw[f]at l
     simp only[GStep.go.injEq]at l
     obtain⟨rfl,rfl,rfl⟩:=l
     have A:m=e:=by omega
     subst A
     refine I ⟨m,d,a,n,t,f,λh=>?_,i.size,⟨i.tape,i.os,i.output⟩,λc p=>⟨λy B=>?_,(o c p).2⟩,v,z⟩
     · by_cases c:h=K.C1
       · subst c;exact x.block _ q.Wr
       · exact i.block h c
     · have := (o c p).1 0 ""
       rcases this.2 y B with⟨⟨e,f,h⟩,i,j⟩|c|⟨c,_⟩
       · exact⟨⟨e.block,by rw[f];rfl,I h⟩,i,j⟩
       · exact c.elim
       · exact c.elim
end
end
section
open Go.Conc
open Go.ConcR (KK WgAt stA smA rd wr mk Payload DC0 Bk ofEvent_loc_mark)
open Go.ConcN (WgLive CTag WD RelBy sumTo upd upd_same upd_ne sumTo_congr sumTo_upd cnt Vc le_sumTo Vc_upd others_uncounted)
theorem TZ(b:mG c=.blk):c.s=7:=by
 unfold mG at b;by_cases a:20<=c.s
 ·grind
 rw[af a]at b;by_cases a:c.s=19
 ·grind
 rw[af a]at b;by_cases a:17<=c.s
 ·grind
 rw[af a]at b;by_cases a:c.s=16
 ·grind
 rw[af a]at b;by_cases a:13<=c.s
 ·grind
 rw[af a]at b;by_cases a:c.s=12
 ·grind
 rw[af a]at b;by_cases a:c.s=11
 ·grind
 rw[af a]at b;by_cases a:c.s=10
 ·grind
 rw[af a]at b;by_cases a:8<=c.s
 ·grind
 grind
section
variable {K:m8}{t:Trace}{k r d:Nat}{a:Array Event}
theorem kY.own(f:kY K t k r)(h:Deaf t (K.nb+k)=d)(fn:FuncId)(pos:String)(g:∀c∈a,Bk K.Wg c)(i:∀j c,a[j]?=some c->(MemAct.ofEvent c).touch?=none∨0<deafBehind d (a.extract 0 j)):kY K (t++MemOp.ofEvents (K.nb+k) fn pos a) k r:=by
 refine⟨f.ge,f.rel.book h fn pos g i,λl m n o p=>?_⟩;have⟨i,h,b⟩:=Yl p;have p:i.g=K.nb+k:=by simpa [Trace.g?,h]using o
 rcases X1 h with⟨o,i⟩|⟨_,q⟩
 ·exact f.wg l m n (by simpa [Trace.g?,i]using p) (by rw[YF i];exact b)
 ·obtain⟨c,s,rfl⟩:=XP q;rcases g c s with e|e|⟨u,v,rfl,e⟩
  ·simp only[ofEvent_loc_mark e]at b;cases b
  ·simp only[ofEvent_loc_mark e]at b;cases b
  ·simp only[ofEvent_cell0,MemAct.touch?,bt]at b;subst b;exact⟨⟨u.block,X,e⟩,X⟩
theorem kY.new(c:K.p0<=t.size)(d:Deaf t (K.nb+k)=0)(a:FuncId)(b:String):kY K (t++MemOp.ofEvents (K.nb+k) a b #[Go.ConcR.mk (.releaseMerge (stA K.Wg))]) k t.size:=by
 refine⟨c,RelBy.new d a b,λf g h i e=>?_⟩;have⟨b,a,_⟩:=Yl e;have:=lt_size_of_getElem? a;rw[ofEvents_eq]at this;grind
theorem GD(e:∀b∈a,Bk K.Wg b):(∀b∈a,∀y,(MemAct.ofEvent b).touch?=some y->ry (KS K) y.loc∧y.kind≠.plain∧y.kind≠.said)∧∀b∈a,b.loc≠.mark (.release (stA K.Wg)):=by
 refine⟨λb f y c=>?_,Go.ConcN.norel_of_Bk e⟩;rcases e b f with d|d|⟨g,h,rfl,d⟩
 ·simp only[ofEvent_loc_mark d]at c;cases c
 ·simp only[ofEvent_loc_mark d]at c;cases c
 ·simp only[ofEvent_cell0,MemAct.touch?,bt]at c;subst c;exact⟨⟨g.block,X,I d⟩,oi,oi⟩
end
section
variable {K:m8}{n:Loc->Prop}{x:pI K.P}{r:Array Goroutine}{w l:World}{t:Trace}{es:Array Event}{k:Nat}{g a:Goroutine}{G:Option (Nat×Nat)}{C:Nat}{v:Value}
theorem G0(hC:du K)(P:iI K x n r w t)(m:k<x.j)(hg:r[K.nb+k]?=some g){s D dd:Nat}(h:(x.hs k).st=s)(u:(x.hs k).fu=D)(hd:(x.hs k).dd=dd)(bg:s<=6)(hO:∀o,¬(x.hs k).O o)(a0:g.status=.running)(hw: @Go.ConcN.WSit ⟨K.et⟩ K.P K.ty K.Wg C 1 zb zb 0 1 v s D dd g w)(bk:∀s D d g w, @Go.ConcN.WSit ⟨K.et⟩ K.P K.ty K.Wg C 1 zb zb 0 1 v s D d g w->Un K s D d g w):nf K n x t (runT K.P (crowd r w G) (K.nb+k)):=by
 letI:Payload:=⟨K.et⟩
 have bl:Deaf t (K.nb+k)=dd:=by rw[P.iG.qK k m,hd]
 have R:(dj K x k).stage=s:=by simp[dj,h,show ¬14<=s by omega]
 have B:=P.cu.mode;have i:=P.cu.wg;have h:=hC.cN;have h:=P.iy.jH;have h:=Yv x.j (dj K x)
 have a7:∀ {a:Goroutine} {l:World} {es:Array Event} {h e u:Nat} {V W:Int},stepG K.P false g w=.go a l es->(∀o,o≠K.Wg->l.heap[o]?=w.heap[o]?)->l.heap.size=w.heap.size->(l.tape=w.tape∧l.os=w.os∧l.output=w.output)->WgAt K.ty K.Wg l V W->(∀b∈es,Bk K.Wg b)->
   (∀jx b,es[jx]?=some b->(MemAct.ofEvent b).touch?=none∨0<deafBehind dd (es.extract 0 jx))->Go.ConcN.WSit K.P K.ty K.Wg C 1 zb zb 0 1 v h e u a l->deafBehind dd es=u->h<=6->
   (∀F,(F=x.md∨(x.md.s=7∧F={ x.md with s:=8,fu:=0 }))->(mayWake K.P g=true->a.status=.running->F.s≠7)->Go.ConcN.Mode x.j (upd (dj K x) k ⟨h,e,u⟩) (mG F) V W)->((h<s∧cnt ⟨h,e,u⟩<=cnt (dj K x k))∨(h=s∧e+1=D))->
   nf K n x t (runT K.P (crowd r w G) (K.nb+k)):=by
  intro a l es h e u V W c bm bn bo bp a1 bs a2 bw h6 bx bz;have a8:oZ ({ x.hs k with st:=h,fu:=e,dd:=u }:HD K.P)=⟨h,e,u⟩:=by simp[oZ,show ¬14<=h by omega]
  have⟨b1,b2⟩:=GD (K:=K) a1;refine AI (d':={ x.hs k with st:=h,fu:=e,dd:=u }) hC P m hg c bm bn bo bp ⟨E,by show h<46;omega,by show h≠20;omega⟩ hO (J (J (J (J (J (J (J (J (J ⟨h6,hO,bk _ _ _ _ _ a2⟩))))))))) b1 (by rw[hd];exact bw) b2 (λ_=>⟨h6,λbQ hr=>hr.own bl _ _ a1 bs⟩) (λa9=>E) (λ_=>E) (λF S Y=>by rw[a8];exact bx F S Y) ?_ (λa9=>absurd a9 E);rcases bz with⟨S,Y⟩|⟨S,Y⟩
  ·exact J ⟨by show h<_;omega,by rw[a8];exact Y⟩
  ·exact I ⟨by show h=_;omega,Prod.Lex.right _ (by show e<_;omega)⟩
 have Q:∀ {a:Goroutine} {l:World} {es:Array Event} {h e u:Nat} {V W:Int},stepG K.P false g w=.go a l es->(∀o,o≠K.Wg->l.heap[o]?=w.heap[o]?)->l.heap.size=w.heap.size->(l.tape=w.tape∧l.os=w.os∧l.output=w.output)->WgAt K.ty K.Wg l V W->(∀b∈es,Bk K.Wg b)->
   (∀jx b,es[jx]?=some b->(MemAct.ofEvent b).touch?=none∨0<deafBehind dd (es.extract 0 jx))->Go.ConcN.WSit K.P K.ty K.Wg C 1 zb zb 0 1 v h e u a l->deafBehind dd es=u->h<=6->
   Go.ConcN.Mode x.j (upd (dj K x) k ⟨h,e,u⟩) (mG x.md) V W->((h<s∧cnt ⟨h,e,u⟩<=cnt (dj K x k))∨(h=s∧e+1=D))->
   nf K n x t (runT K.P (crowd r w G) (K.nb+k)):=
  λh u V W a8 a9 bk bl bm bn bo bp=>a7 h u V W a8 a9 bk bl bm bn (λF S _=>bo.retag (rm S)) bp
 have ar:∀ {a:Goroutine} {e:Nat},stepG K.P false g w=.go a w #[]->Go.ConcN.WSit K.P K.ty K.Wg C 1 zb zb 0 1 v s e dd a w->e+1=D->nf K n x t (runT K.P (crowd r w G) (K.nb+k)):=by
  intro a e c a2 h;exact Q c (λ_ _=>rfl) X ⟨X,X,X⟩ i oi oi a2 X bg (by have:=B.same (i:=k) e dd;rwa [R]at this) (J ⟨X,h⟩)
 have av:∀(f:Addr) (h:Value),f.block=K.Wg->∀o,o≠K.Wg->(w.setCell f h).heap[o]?=w.heap[o]?:=λf h p o u=>heap_set w f h (by rw[p];exact u)
 cases hw with
 |r0 P=>omega
 |k1 z=>
  rcases YE z with M|⟨e,rfl,A⟩
  ·have⟨_,a,c,Z,bA⟩:=M w (XX w);exact Q c (λ_ _=>rfl) X ⟨X,X,X⟩ i (by intro b he;simp at he;subst he;exact .inl X) (by intro jx b he;exact .inl (by have:=bh he;simp at this;subst this;rfl)) (.d1 bA) X E (B.counted m E (.inr X) _ _) (.inl ⟨E,by simp[cnt,R]⟩)
  ·obtain⟨a,l,es,c,⟨rfl,rfl⟩,N⟩:=A w (XX w);exact ar c (.k1 N) X
 |d1 z=>
  rcases YE z with M|⟨e,rfl,A⟩
  ·have⟨_,ba⟩:=M w (XX w);have bB:cnt (dj K x k)=1:=by simp[cnt,R]
   have o:1<=Vc x.j (dj K x):=by have:=le_sumTo (f:=λh=>cnt (dj K x h)) m;simp only[Vc];omega
   have a3:∀b∈#[rd (stA K.Wg),wr (stA K.Wg)],Bk K.Wg b:=by intro b he;simp at he;rcases he with rfl|rfl<;>exact YU _ _ X
   have a4:∀jx b,(#[rd (stA K.Wg),wr (stA K.Wg)]:Array Event)[jx]?=some b->(MemAct.ofEvent b).touch?=none∨0<deafBehind 1 ((#[rd (stA K.Wg),wr (stA K.Wg)]:Array Event).extract 0 jx):=by
    intro jx b he
    match jx,he with
    |0,_=>exact .inr (by simp[deafBehind])
    |1,_=>exact .inr (by simp[deafBehind,rd])
    |jx+2,he=>simp at he
   have bb:∀j,cnt (⟨1,j,1⟩:WD)=0:=λ_=>rfl
   have bc:∀j,Go.ConcN.OpenSt x.j (dj K x)->Go.ConcN.OpenSt x.j (upd (dj K x) k ⟨1,j,1⟩):=λj P f p=>by
    by_cases b:f=k
    ·subst b;rw[XT];simp
    ·rw[upd_ne _ _ b];exact P f p
   generalize a5:mG x.md=T at B;generalize ab:x.st=st at B i;generalize ad:x.sm=h at B i;cases B with
   |opn h1 O h3=>
    have hp:Go.ConcN.pend T<=1:=by cases T<;>simp[Go.ConcN.pend];split<;>omega
    obtain⟨q,hu⟩:∃q,Vc x.j (dj K x)+Go.ConcN.pend T=q+1:=⟨Vc x.j (dj K x)+Go.ConcN.pend T-1,E⟩;rw[hu]at i;have h:WgAt K.ty K.Wg w (((q:Nat)+1)*KK+((0:Nat):Int)) 0:=by simpa using i
    have⟨a,c,_,y⟩:=ba q 0 E E h;have⟨j,y⟩:=y E;have a6:Vc x.j (upd (dj K x) k ⟨1,j,1⟩)+Go.ConcN.pend T=q:=by have:=Vc_upd (dj K x) (⟨1,j,1⟩:WD) m;have:=bb j;omega
    refine Q c (av _ _ X) (size_setCell ..) ⟨X,X,X⟩ (i.setSt _) a3 a4 (.quit y) X E ?_ (.inl ⟨E,by simp[cnt]⟩);have b:((q:Nat):Int)*KK+((0:Nat):Int)=((Vc x.j (upd (dj K x) k ⟨1,j,1⟩)+Go.ConcN.pend T:Nat):Int)*KK:=by rw[a6];simp
    rw[b,a5];exact .opn h1 (bc j O) (λo u=>by have:=h3 o u;omega)
   |reg h1 O h3=>
    obtain⟨q,hu⟩:∃q,Vc x.j (dj K x)=q+1:=⟨Vc x.j (dj K x)-1,E⟩;rw[hu]at i;have h:WgAt K.ty K.Wg w (((q:Nat)+1)*KK+((1:Nat):Int)) 0:=by simpa using i
    have⟨a,c,hl,y⟩:=ba q 1 E E h;by_cases bE:q=0
    ·subst bE;have⟨Z,ax⟩:=hl ⟨X,X⟩;refine Q c (av _ _ X) (size_setCell ..) ⟨X,X,X⟩ (i.setSt _) a3 a4 (.d2 ax) X E ?_ (.inl ⟨E,by simp[cnt]⟩)
     have U:∀f,f<x.j->f≠k->(dj K x f).stage=1:=λf p b=>by
      have c0:=others_uncounted m hu bB f p b;have:=O f p;simp only[cnt]at c0;split at c0<;>omega
     have:=Go.ConcN.Mode.last (j:=x.j) (D:=upd (dj K x) k ⟨4,Z,1⟩) (tag:=T) k h1 m (by rw[XT];simp) (λf p b=>by rw[upd_ne _ _ b];exact U f p b);rw[XT]at this;rw[a5];simpa using this
    ·have⟨j,y⟩:=y E;have a6:Vc x.j (upd (dj K x) k ⟨1,j,1⟩)=q:=by have:=Vc_upd (dj K x) (⟨1,j,1⟩:WD) m;have:=bb j;omega
     refine Q c (av _ _ X) (size_setCell ..) ⟨X,X,X⟩ (i.setSt _) a3 a4 (.quit y) X E ?_ (.inl ⟨E,by simp[cnt]⟩);have b:((q:Nat):Int)*KK+((1:Nat):Int)=((Vc x.j (upd (dj K x) k ⟨1,j,1⟩):Nat):Int)*KK+1:=by rw[a6];simp
     rw[b,a5];exact .reg h1 (bc j O) E
   |last L _ O h3 h4=>
    by_cases b:k=L
    ·subst b;omega
    ·have:=h4 k m b;omega
   |sema O=>have:=O k m;omega
   |fin _ O=>have:=O k m;omega
  ·obtain⟨a,l,es,c,⟨rfl,rfl⟩,N⟩:=A w (XX w);exact ar c (.d1 N) X
 |d2 z=>
  rcases YE z with M|⟨e,rfl,A⟩
  ·have⟨_,hx⟩:=M w (XX w);have⟨ao,U,ab,ad⟩:=B.isLast m E;rw[ab,ad,R]at i;have⟨a,c,Z,ax⟩:=hx (by simpa using i);refine Q c (λ_ _=>rfl) X ⟨X,X,X⟩ i (by intro b he;simp at he;subst he;exact YU _ _ X) (by intro jx b he;match jx,he with|0,_=>exact .inr (by simp[deafBehind])|jx+1,he=>simp at he) (.d3 ax) X E ?_ (.inl ⟨E,by simp[cnt]⟩);have:=Go.ConcN.Mode.last (j:=x.j) (D:=upd (dj K x) k ⟨3,Z,1⟩) (tag:=mG x.md) k ao m (by rw[XT];simp) (λf p b=>by rw[upd_ne _ _ b];exact U f p b);rw[XT]at this;simpa using this
  ·obtain⟨a,l,es,c,⟨rfl,rfl⟩,N⟩:=A w (XX w);exact ar c (.d2 N) X
 |d3 z=>
  rcases YE z with M|⟨e,rfl,A⟩
  ·have⟨_,hx⟩:=M w (XX w);have⟨ao,U,ab,ad⟩:=B.isLast m E;rw[ab,ad,R]at i;have⟨a,c,Z,ax⟩:=hx (by simpa using i);refine Q c (av _ _ X) (size_setCell ..) ⟨X,X,X⟩ (i.setSt 0) (by intro b he;simp at he;subst he;exact YU _ _ X) (by intro jx b he;match jx,he with|0,_=>exact .inr (by simp[deafBehind])|jx+1,he=>simp at he) (.d4 ax) X E ?_ (.inl ⟨E,by simp[cnt]⟩);have:=Go.ConcN.Mode.last (j:=x.j) (D:=upd (dj K x) k ⟨2,Z,1⟩) (tag:=mG x.md) k ao m (by rw[XT];simp) (λf p b=>by rw[upd_ne _ _ b];exact U f p b);rw[XT]at this;simpa using this
  ·obtain⟨a,l,es,c,⟨rfl,rfl⟩,N⟩:=A w (XX w);exact ar c (.d3 N) X
 |d4 z=>
  rcases YE z with M|⟨e,rfl,A⟩
  ·have⟨_,bM,hx⟩:=M w (XX w);have⟨ao,U,ab,ad⟩:=B.isLast m E;rw[ab,ad,R]at i;have⟨a,c,j,y⟩:=hx (by simpa using i)
   have bN:a.status=.running:=by
    cases j with
    |zero=>exact absurd y.2 x5
    |succ j=>exact y.elim (λx=>absurd x.2 x5) (λx=>x.1)
   refine a7 c (av _ _ X) (size_setCell ..) ⟨X,X,X⟩ (i.setSm 1) (es:=semEvents (smA K.Wg)) ?_ ?_ (.quit y) XI E ?_ (.inl ⟨E,by simp[cnt]⟩)
   ·exact Go.ConcN.bk_sem
   ·intro jx b he
    match jx,he with
    |0,he=>simp[semEvents]at he;subst he;exact .inl X
    |1,_=>exact .inr XI
    |2,_=>exact .inr XI
    |3,he=>simp[semEvents]at he;subst he;exact .inl X
    |jx+4,he=>simp[semEvents]at he
   ·intro F S Y;have bO:=Y bM bN
    have e3:mG F=.w3:=by
     rcases rm S with b|⟨_,b⟩
     ·cases ht:mG x.md with
      |w3=>exact b.trans ht
      |blk=>
       exact absurd (TZ (b.trans ht)) bO
      |_=>rw[ht]at ao;exact ao.elim
     ·exact b
    rw[e3];simp only[ek]
    exact .sema λf p=>by
     by_cases b:f=k
     ·subst b;rw[XT]
     ·rw[upd_ne _ _ b];exact U f p b
  ·obtain⟨a,l,es,c,⟨rfl,rfl⟩,N⟩:=A w (XX w);exact ar c (.d4 N) X
 |quit z=>
  cases D with
  |zero=>rw[z.1]at a0;cases a0
  |succ j=>
   rcases z with⟨hf,_⟩|⟨_,a,es,bd,A,y⟩
   ·rw[hf]at a0;cases a0
   ·have a1:∀b∈es,Bk K.Wg b:=λb he=>Go.ConcR.bk_of_mute (bd b he)
    exact Q (A w) (λ_ _=>rfl) X ⟨X,X,X⟩ i a1 (λjx b he=> .inl (touch_mute (bd b (bh he)))) (.quit y) X E (by have:=B.same (i:=k) j (deafBehind dd es);rwa [R]at this) (.inr ⟨X,X⟩)
end
end
section
open Go.Conc
open Go.ConcR (KK WgAt stA smA rd wr mk Payload DC0 Bk)
open Go.ConcN (WgLive CTag WD RelBy sumTo upd upd_same upd_ne sumTo_congr sumTo_upd cnt Vc)
section
variable {K:m8}{a:Loc->Prop}{x:pI K.P}{d:Array Goroutine}{w v:World}{t:Trace}{n:Array Event}{k:Nat}{g l:Goroutine}{r:Option (Nat×Nat)}
theorem CJ(u:du K)(h:iI K x a d w t)(j:k<x.j)(B:d[K.nb+k]?=some g)(G:(x.hs k).st=15∨(x.hs k).st=14)(m:(x.hs k).dd=0)(c:Ul K b g w)(M:(x.hs k).st=14->(x.hs k).fu=b):nf K a x t (runT K.P (crowd d w r) (K.nb+k)):=by
 have f:=Db h j E;have N:(dj K x k).stage=7:=by simp[dj,show 14<=(x.hs k).st by omega]
 have C:=h.cu.mode;have D:cnt (oZ (x.hs k))=1:=by simp[cnt,oZ,show 14<=(x.hs k).st by omega]
 rcases NP u c with⟨o,l,v,n,f,z,F,P,Q,q,R⟩|⟨l,s,z,S⟩
 ·have p:oZ ({ x.hs k with st:=14,fu:=o,O:=dU }:HD K.P)=⟨7,o,0⟩:=by simp[oZ,m]
  refine AI (d':={ x.hs k with st:=14,fu:=o,O:=dU }) (st':=x.st) (sm':=x.sm) u h j B z (λT _=>F T) P Q ((F _).trans h.cu.wg) ⟨E,oi,oi⟩ (λ_ i=>i) (J (J (J (J (J (J (J (J (I ⟨X,m,λ_ i=>i,R⟩))))))))) (λf e=>(q f e).1) ?_ (λf e=>(q f e).2.2.2) (λc=>E) (λ_ c=>by simp at c) (λc=>E) (λU A _=>?_) ?_ (λc=>absurd c E)
  ·exact(YL (λf e=>⟨(q f e).2.1,(q f e).2.2.1⟩) _)
  ·rw[p];have:=C.same (i:=k) o 0;rw[N]at this;exact this.retag (rm A)
  ·rcases G with c|c
   ·exact J ⟨by show 14<_;omega,by rw[p,D];simp[cnt]⟩
   ·exact I ⟨c.symm,Prod.Lex.right _ (by show o<_;have:=M c;omega)⟩
 ·have p:oZ ({ x.hs k with st:=6,fu:=s,O:=dU }:HD K.P)=⟨6,s,0⟩:=by simp[oZ,m]
  have o:Deaf t (K.nb+k)=0:=by rw[h.iG.qK k j,m]
  refine AI (d':={ x.hs k with st:=6,fu:=s,O:=dU }) (st':=x.st) (sm':=x.sm) u h j B z (λ_ _=>rfl) X ⟨X,X,X⟩ h.cu.wg ⟨E,oi,oi⟩ (λ_ i=>i) (J (J (J (J (J (J (J (J (J ⟨oi,λ_ i=>i,by show Un K 6 s (x.hs k).dd l w;rw[m];exact S⟩))))))))) (λf e y V=>?_) ?_ (λf e=>?_) (λc=>E) (λ_ _=>⟨_,kY.new h.iG.norel.1 o _ _⟩) (λc=>E) (λU A _=>?_) (J ⟨by show 6<_;omega,by rw[p,D];simp[cnt]⟩) (λc=>absurd c E)
  ·simp only[aF,az,aD,bP]at e;subst e;cases V
  ·show deafBehind (x.hs k).dd _=(x.hs k).dd;rfl
  ·simp only[aF,az,aD,bP]at e;subst e;simp[mk]
  ·rw[p];exact(C.counted j E (.inl X) _ _).retag (rm A)
theorem LO(c:du K)(f:iI K x a d w t)(h:k<x.j)(i:d[K.nb+k]?=some g)(p:g.status=.running):nf K a x t (runT K.P (crowd d w r) (K.nb+k)):=by
 have⟨D,B,e⟩:=f.iy.hand k h;rw[i]at B;cases B;by_cases B:46<=(x.hs k).st
 ·rcases I8 (sl:=r) c f h i e B with D|⟨b,j,m⟩
  ·exact D
  ·exact Fe c f h i b j m
 ·rcases e with⟨b,_⟩|⟨b,_⟩|⟨b,_⟩|⟨b,_⟩|⟨b,_⟩|⟨b,j,e⟩|⟨b,_,_,F,G,rfl,_⟩|⟨b,j,e⟩|⟨b,j,q,e⟩|⟨b,q,e⟩
  ·omega
  ·omega
  ·omega
  ·omega
  ·omega
  ·rcases e.cases with m|⟨C,l,v,n,s,_,u,z,A⟩
   ·rcases cJ x.md.s 14 with o|o|o
    ·exact CI c f h i b j m o
    ·exact I3 c f h i b j m o
    ·exact I5 c f h i b j m o
   ·exact kH c.hand c.main c.c1 c.c2 f h i s u z (J (J (J (J (J (I ⟨b,j,A⟩)))))) E
  ·cases p
  ·rcases e.cases with⟨C,m⟩|⟨C,l,v,n,s,_,u,z,A⟩
   ·exact CJ c f h i (I b) j m (λo=>E)
   ·exact kH c.hand c.main c.c1 c.c2 f h i s u z (J (J (J (J (J (J (J (I ⟨b,j,A⟩)))))))) E
  ·exact CJ c f h i (J b) j e (λ_=>rfl)
  ·rcases e with e|e
   ·exact G0 c f h i X X X b q p e (λ_ _ _ _ _ y=>I y)
   ·exact G0 c f h i X X X b q p e (λ_ _ _ _ _ y=>J y)
end
section
variable {K:m8}{g:Loc->Prop}{x v:pI K.P}{l:Array Goroutine}{w d:World}{t:Trace}{k:Array Event}{a n:Goroutine}{r:Option (Nat×Nat)}{md':MD}{st' sm':Int}
theorem qU(e:iI K x g l w t)(h:d.heap[K.cO]?=w.heap[K.cO]?):∀b,b<x.j->∀c,je K (x.hs b) c d->je K (x.hs b) (woken K.P a n d c) d:=by
 intro b i c f
 have j:woken K.P a n d c=c:=by
  have c:=h.trans e.cu.yZ;by_cases h:x.md.s<14
  ·exact f.xV (s:=0) (r:=0) (tm:=false) (J (e.cu.uO (KR h) b i))
  ·rw[aq h]at c;exact f.xV (I c)
 grind
theorem dm(m:du K)(h:iI K x g l w t)(A:l[0]?=some a)(B:stepG K.P true a w=.go n d k)(f:yU K.rd x.md.O w d k)(ab:x.md.fu=b+1)(h7:x.md.s≠7)(C:ku K x.j x.next x.tk { x.md with fu:=b,O:=nY x.md.O w d } n d):nf K g x t (runT K.P (crowd l w r) 0):=by
 have⟨D,E,F,G⟩:=E4 (gi:=0) (fn:=a.frame.fn) (pos:=a.frame.place) f.ev;have s:∀c,x.md.O c->gv K x 0 c:=λc i=>I ⟨X,i⟩
 have o:∀c,nW K c->¬x.md.O c:=λc i j=>(h.mem.ld _ c (s c j)).1 i
 have⟨M,N,P,Q⟩:=h.cu.C4;have R:=f.other _ M (o _ (I X));have S:=f.other _ N (o _ (J (I X)));have u:=f.other _ P (o _ (J (J (I X))));have T:=f.other _ Q (o _ (J (J (J X))));have U:∀c,x.Dn c->d.heap[c]?=w.heap[c]?:=λc i=>f.other c (h.mem.pS c i).2 λj=>(h.mem.ld _ c (s c j)).2 i
 have v:=R.trans h.cu.wg;have V:=h.cu.Cf (x':={ x with md:={ x.md with fu:=b,O:=nY x.md.O w d }}) m.hand X ⟨X,X,X,X,X,X,X⟩ ⟨X,X,X,X,X,X⟩ (λ_ _=>⟨dt,dt,dt,id,λ_=>rfl⟩) ⟨dt,dt⟩ v h.cu.mode u T S U;have z:=X9 (P:=K.P) (sl:=r) (i:=0) A (by simpa using B);refine⟨_,d,r,{ x with md:={ x.md with fu:=b,O:=nY x.md.O w d }},by rw[z],?_,?_⟩
 ·rw[z]
  exact nL (x':={ x with md:={ x.md with fu:=b,O:=nY x.md.O w d }}) m.hand m.c1 m.c2 h X X X f.size ⟨f.tape,f.os,f.out⟩ (λc i j _=>f.other c i j) ⟨_,_,v⟩ (λ_ i=>i) C (qU h u) (λ_ _=>⟨X,X,id⟩)
   (λp q y W=>J (D p q y W)) (λp q=>j9.of_low (E p q)) (F _) (λe Y=>G e Y _) (λZ=>I Z) V
 ·refine Prod.Lex.right _ (Prod.Lex.right _ ?_);grind
theorem gD(j:du K)(h:iI K x g l w t)(G:l[0]?=some a)(J:stepG K.P true a w=.go n d k)(f:∀b,b≠K.Wg->d.heap[b]?=w.heap[b]?)(v:d.heap.size=w.heap.size)(M:d.tape=w.tape∧d.os=w.os∧d.output=w.output)(z:WgAt K.ty K.Wg d st' sm')(N:md'.O=x.md.O)(O:ku K x.j x.next x.tk md' n d)(P:(md'.s<14↔x.md.s<14)∧(md'.s<3↔x.md.s<3))(q:∀e∈k,∀y,(MemAct.ofEvent e).touch?=some y->ry (KS K) y.loc∧y.kind≠.plain)(Q:deafBehind x.md.d0 k=md'.d0)(R:∀e∈k,e.loc≠.mark (.release (stA K.Wg)))(S:md'.s<=3->x.md.s<=3∨∃m,(t++MemOp.ofEvents 0 a.frame.fn a.frame.place k).act? m=some (.mark (.acquire (stA K.Wg)))∧(t++MemOp.ofEvents 0 a.frame.fn a.frame.place k).g? m=some 0∧(t++MemOp.ofEvents 0 a.frame.fn a.frame.place k).heard m∧∀c,c<x.j->∃A,kY K t c A∧A<m)(T:Go.ConcN.Mode x.j (dj K x) (mG md') st' sm')(U:eX K.H (Vc x.j (dj K x)) md'<eX K.H (Vc x.j (dj K x)) x.md∨(eX K.H (Vc x.j (dj K x)) md'=eX K.H (Vc x.j (dj K x)) x.md∧md'.s=7∧x.md.s≠7))(V:md'.s≠14:=by simp)(s:md'.s≠1:=by simp):nf K g x t (runT K.P (crowd l w r) 0):=by
 have⟨W,Y,l3,l4⟩:=h.cu.C4;have⟨B,Z⟩:=h.cu.FG
 have ab:K.T≠K.Wg:=by
  intro e;have s:w.heap[K.Wg]?=some (.cells #[.int .u64 x.st,.int .u32 x.sm] K.ty):=h.cu.wg;have C:w.heap[K.T]?=some _:=h.cu.xQ;rw[e,s]at C;simp at C
 have ad:=h.cu.Cf (x':={ x with md:=md',st:=st',sm:=sm' }) j.hand X ⟨X,X,X,X,X,X,X⟩ ⟨X,X,X,X,X,X⟩ (λ_ _=>⟨dt,dt,dt,id,λ_=>rfl⟩) P z T (f _ λe=>B (I e)) (f _ λe=>Z (I e)) (f _ ab) (λb i=>f b λe=>(h.mem.pS b i).1 (I e)) (λ_ _ _ D=>D) (λe=>absurd e s) (λe=>absurd e V);have E:=X9 (P:=K.P) (sl:=r) (i:=0) G (by simpa using J);refine⟨_,d,r,{ x with md:=md',st:=st',sm:=sm' },by rw[E],?_,?_⟩
 ·rw[E]
  refine nL (x':={ x with md:=md',st:=st',sm:=sm' }) j.hand j.c1 j.c2 h X X X (by rw[v];exact aa _) M (λb _ _ hs=>f b λe=>hs (I e)) ⟨_,_,z⟩ (λb i=>I (N▸i)) O (qU h (f _ λe=>B (I e))) (λ_ _=>⟨X,X,id⟩)
   (λop u y o=>?_) (λop u y o b i=>?_) Q R S ad
  ·obtain⟨e,p,rfl⟩:=XP u;exact I ⟨(q e p y o).1.mono λ_=>Sb K,(q e p y o).2⟩
  ·obtain⟨e,p,rfl⟩:=XP u;have⟨⟨D,F,e2⟩,_⟩:=q e p y o;rw[i]at F;cases F;rw[v];rcases e2 with rfl|rfl
   ·exact W
   ·exact Y
 ·rcases U with hl|⟨hl,h7,ao⟩
  ·refine Prod.Lex.left _ _ ?_;show 100*(K.N-x.next)+10*(K.N-x.nt)+sumTo K.nb x.q+sumTo x.j (λc=>(x.hs c).st)+eX K.H (Vc x.j (dj K x)) md'<100*(K.N-x.next)+10*(K.N-x.nt)+sumTo K.nb x.q+sumTo x.j (λc=>(x.hs c).st)+eX K.H (Vc x.j (dj K x)) x.md;omega
  ·have e:(nM K { x with md:=md',st:=st',sm:=sm' })=((nM K x).1,(nM K { x with md:=md',st:=st',sm:=sm' }).2):=Prod.ext (by
    show 100*(K.N-x.next)+10*(K.N-x.nt)+sumTo K.nb x.q+sumTo x.j (λc=>(x.hs c).st)+eX K.H (Vc x.j (dj K x)) md'=100*(K.N-x.next)+10*(K.N-x.nt)+sumTo K.nb x.q+sumTo x.j (λc=>(x.hs c).st)+eX K.H (Vc x.j (dj K x)) x.md;omega) X
   unfold RZ;rw[e];refine Prod.Lex.right _ (Prod.Lex.right _ ?_);grind
