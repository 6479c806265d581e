/- Texts of ours, one behind the other: ZE19 ZE20 ZE21 ZE22 ZF0 ZF1 ZF2 ZF3 ZF4 ZF5 ZF6 ZF7 ZF8. -/
import Derived.Test.YtedifobeggabnaaGreatCbZE1
namespace Go.Proofs.YtedifobeggabnaaGreat
set_option maxHeartbeats 8000000
set_option maxRecDepth 100000
open Tryz
variable {r:Nat->Prop}{y:Nat->Bool}{t Q R:Value}{f M:Nat}{z:TypeId}{C:Bool}{A:(Nat->Prop)->Goroutine->World->Prop}{D:Nat->Option Value}{S:m8}
abbrev Yh:=@Go.Conc.stepG_inBlock
abbrev Yp:=@Go.Conc.events_convert_to_unsafe
abbrev Ys:=@Go.run_convert_to_unsafe
abbrev Yt:=@Go.Conc.stepG_load_atomic
abbrev YC:=@Go.Conc.stepG_inLoop
theorem Xs{a:Prop}(b:a:=by rw[ay (by omega),ay (by omega)];exact eI (by omega)):a:=b
theorem Xw{a:Prop}(b:a:=by rw[ay (by omega)];exact eI (by omega)):a:=b
theorem XA{a:Prop}(b:a:=by rw[show(cI f52).size=9 by kernel_rfl];rfl):a:=b
section
open Go.Conc Go.RowKit Go.ConcR.Gen
section
variable {j W U V o a T p u v s:Nat}{Y:Nat->Prop}{Lv:World->Prop}{O:Nat->Prop}{w w1:World}{Z:(Nat->Prop)->Goroutine->World->Prop}{i q k0:Int}{N xs:Value}{k:List Item}{P:List Frame}{F:World->Prop}{x B E I J K b c d e g l m n:Value}
def UB(F:World->Prop)(o a T p u v s:Nat)(i:Int)(N x B E:Value)(k:List Item)(P:List Frame)(_:Nat->Prop)(h:Goroutine)(w:World):Prop:=
 F w∧∃(f:Nat->Bool) (I J K b c d e g l m n:Value),f 0=true∧f 7=true∧h=G ((base 52).at ⟨gM f o a T p u v s i N x B E I J K b c d e g l m n,[]⟩ (.inRegion (cI f52) [8]::k)) P
theorem Wd(L:me Y r T F)(V:∀W,r W->O W)(hs:r s)(ab:∀w,F w->w.heap[s]?=some (.cells #[.int .i64 i,N] 98)):∀(t:List Nat) (f:Nat->Bool) (w:World),BY (cI f52) f t->f 3=true->f 4=true->f 5=true->f 6=true->f 8=false->(f 2=true->f 1=true)->(f 7=true->f 2=true)->F w->HG prog false Y Lv (UB F o a T p u v s i N x B E k P) (En f 9) O (G ((base 52).at ⟨gM f o a T p u v s i N x B E I J K b c d e g l m n,[]⟩ (.inRegion (cI f52) t::k)) P) w:=by
 intro t;induction t with
 |nil=>
  intro f w S _ _ _ _ y;rw[ON S]at y;cases y
 |cons j t R=>
  intro f w S C D M z y Z ad A;obtain⟨W,h,Q,d2,d5,d6,U,d8⟩:=Gm S;rw[sK h 9 W];rcases(by omega:j=0∨j=1∨j=2∨j=3∨j=4∨j=5∨j=6∨j=7∨j=8)with rfl|rfl|rfl|rfl|rfl|rfl|rfl|rfl|rfl
  ·refine Se (R _ w Q (by simpa using C) (by simpa using D) (by simpa using M) (by simpa using z) (by simpa using y) ?_ ?_ A)<;>simp<;>assumption
  ·refine Sf (R _ w Q (by simpa using C) (by simpa using D) (by simpa using M) (by simpa using z) (by simpa using y) ?_ ?_ A)<;>simp<;>assumption
  ·refine Sg (d2 X) (V s hs) (cell_of (o:=0) (ab w A) X) (R _ w Q (by simpa using C) (by simpa using D) (by simpa using M) (by simpa using z) (by simpa using y) ?_ ?_ A)<;>simp[d2 X]<;>assumption
  ·rw[C]at h;cases h
  ·rw[D]at h;cases h
  ·rw[M]at h;cases h
  ·rw[z]at h;cases h
  ·refine Vk (U X).1 z (R _ w Q (by simpa using C) (by simpa using D) (by simpa using M) (by simpa using z) (by simpa using y) ?_ ?_ A)<;>simp[(U X).1]<;>exact Z (U X).1
  ·have k0:=(d8 X).1;have k7:=(d8 X).2.1;have h:=ad k7;have y:=Z h
   have hl:t=[]:=by
    cases t with
    |nil=>rfl
    |cons q l2=>
     obtain⟨h,ao,_⟩:=Gm Q;rcases(by omega:q=0∨q=1∨q=2∨q=3∨q=4∨q=5∨q=6∨q=7∨q=8)with rfl|rfl|rfl|rfl|rfl|rfl|rfl|rfl|rfl<;>simp[*]at ao
   subst hl;refine HG.stop λw1 h=>⟨L.rely A (h.less V),f,I,J,K,b,c,d,e,g,l,m,n,k0,k7,X⟩
theorem RB(q:y 0=true)(t:y 7=true)(w:World):stepG prog false (G ((base 52).at ⟨gM y o a T p u v s i N x B E I J K b c d e g l m n,[]⟩ (.inRegion (cI f52) [8]::k)) P) w=.comm (G ((base 52).at ⟨gM y o a T p u v s i N x B E I J K b c d e g l m n,[]⟩ (.inRegion (cI f52) [8]::k)) P) #[scase a (.agg #[.int .i64 i,x,B,E]) undef] true .send w #[]:=by
 have j:(gM y o a T p u v s i N x B E I J K b c d e g l m n).getD 11 undef=.chan (some a):=by simp[gM,q]
 have r:(gM y o a T p u v s i N x B E I J K b c d e g l m n).getD 18 undef=.agg #[.int .i64 i,x,B,E]:=by simp[gM,t]
 generalize gM y o a T p u v s i N x B E I J K b c d e g l m n=t at j r ⊢;have A:t[11]?.getD undef=.chan (some a):=by rw[<-j,aw]
 have j:t[18]?.getD undef=.agg #[.int .i64 i,x,B,E]:=by rw[<-r,aw]
 simp only[cI,dS,dv,f52];have z:∀(j:Goroutine) (f r:Array Event),f= #[]->stepG prog false j w=GStep.comm j #[scase a (.agg #[.int .i64 i,x,B,E]) undef] true .send w f->stepG prog false j w=GStep.comm j #[scase a (.agg #[.int .i64 i,x,B,E]) undef] true .send w #[]:=λj f r h t=>by rw[t,h]
 refine z _ _ #[] ?_ (stepG_comm (cases:= #[scase a (.agg #[.int .i64 i,x,B,E]) undef]) (blocking:=true) (shape:=.send) (w':=w) X X x5 (by go_simp;rfl));unfold listed;have q:∀f:Array Event,f= #[]->seen prog 52 f= #[]:=λf h=>by rw[h,seen_none]
 refine q _ ?_;simp[go_sem, *]
theorem RD(f:kx j W U V o a T p u v Y w)(h:P=[(mz f50) j W U V o a T p u v,(fZ prog)]):HG prog false Y Lv (Gz j W U V o a T p u v) 40 dU (G (((base 52).at ⟨gM y o a T p u v s i N x B E I J K b c d e g l m n,[]⟩ (.inRegion (cI f52) [8]::[.inBlock 1,.inLoop (dv f52),.inBlock 0])).finish undef) P) w:=by
 subst h;have h:∃k q r t z A C D F M O Q,gM y o a T p u v s i N x B E I J K b c d e g l m n= #[.chan (some o),.chan (some a),mW T p u v,I,J,K,k,.chan (some o),q,r,t,z,A,C,D,F,M,O,Q]:=⟨_,_,_,_,_,_,_,_,_,_,_,_,X⟩;obtain⟨k,q,r,t,z,A,C,D,F,M,O,Q,h⟩:=h;rw[h];clear h;have h:((cI f52)[8]?).bind (·.dst)=none:=rfl;rw[XW,h]
 have R:∀(w:World) (h:Value),h=.chan (some o)->Gz j W U V o a T p u v dU (G ((base 52).at ⟨#[.chan (some o),.chan (some a),mW T p u v,I,J,K,k,h,q,r,t,z,A,C,D,F,M,O,Q],[]⟩ (lh f52)) [(mz f50) j W U V o a T p u v,(fZ prog)]) w:=λw h S=>by
  subst S;exact⟨X,X,⟨_,_,_,_,_,_,_,_,_,_,_,_,_,_,_,X⟩,X⟩
 generalize Gz j W U V o a T p u v=Z at R ⊢;simp only[lh,Eb,cI,dS,dv,f52]at R ⊢;walk_nrm;refine aH (n:=40) (m:=0) ?_;u_c XJ kx.rely f;u_c Yh kx.rely f;u_c YC kx.rely f;u_c XL kx.rely f;u_reg kx.rely f;refine XO (λf h=>?_);refine HG.stop (λf h=>?_);exact R f _ X
end
def Ut(b:Nat)(v:Value):Value:=match v with
 |.agg ⟨[a,c,d]⟩=> .agg #[.int .i64 b,a,c,d]
 |v=> .agg #[.int .i64 b,v]
def yh(b:Value)(c:Nat):Prop:=∃a d e f y,b=.agg #[.slice (some a) d e,f,y]∧c=a.block
theorem z8(a:Nat)(b:Value):(∃c d e,b=.agg #[c,d,e]∧Ut a b=.agg #[.int .i64 a,c,d,e])∨Ut a b=.agg #[.int .i64 a,b]:=by
 unfold Ut;split
 ·exact I ⟨_,_,_,X,X⟩
 ·exact J X
theorem Rp(b:Nat)(c:Value)(d:Nat)(e:Value)(a:Ut b c=Ut d e):b=d∧c=e:=by
 rcases z8 b c with⟨h,i,j,rfl,f⟩|f<;>rcases z8 d e with⟨k,l,m,rfl,g⟩|g<;>rw[f,g]at a<;>simp at a
 ·obtain⟨e,b,c,d⟩:=a;exact⟨E,by rw[b,c,d]⟩
 ·exact⟨E,a.2⟩
structure pJ where
 cO:Nat
 cB:Nat
 Wg:Nat
 T:Nat
 bO:Nat
 bB:Nat
 bM:Nat
 b6:Nat
 b7:Nat
 b8:Nat
 q:Int
 k:Int
 xs:Value
 wo:Nat->Option Addr
 wn:Nat->Nat
 wc:Nat->Nat
 N:Nat
 H:Nat
 nb:Nat
 p0:Nat
 er:Nat->Nat
 ls:Nat->Bool
 GM:Nat->Value->World->Prop
 rd:Nat->Prop
 w0:World
 Qm:Nat->Nat->Prop
 F:Fx
 et:TypeId
 zB:Value
 BK:Nat->(Nat->Prop)->Frame->List Frame->Prop
 Ei:(Nat->Prop)->Frame->List Frame->Prop
 vE:(Nat->Option Value)->(Nat->Prop)->World->Prop
 ye:(Nat->Option Value)->(Nat->Prop)->Goroutine->World->Prop
 Fin:(Nat->Option Value)->(Nat->Prop)->Goroutine->World->Prop
abbrev pJ.Kx(a:pJ)(P:Program):m8 where
 P:=P
 ty:=iY.tWg
 cO:=a.cO
 cB:=a.cB
 Wg:=a.Wg
 T:=a.T
 tT:=62
 zO:=pG
 zB:=a.zB
 zS:=undef
 zT:=pG
 N:=a.N
 H:=a.H
 nb:=a.nb
 sv:=λb=> .agg #[.int .i64 b,.slice (a.wo b) (a.wn b) (a.wc b)]
 er:=a.er
 ls:=a.ls
 tv:=Ut
 GM:=a.GM
 Mv:=yh
 rd:=a.rd
 w0:=a.w0
 mf:=29
 ma:=λb =>#[.int .i64 a.q,a.xs,.int .i64 a.k,.slice (a.wo b) (a.wn b) (a.wc b)]
 Qm:=a.Qm
 F:=a.F
 Pe:=K8 a.Wg a.bO a.bB a.bM a.cO a.cB a.T a.b6 a.b7 a.b8
 BK:=a.BK
 Ei:=a.Ei
 vE:=a.vE
 ye:=a.ye
 Fin:=a.Fin
 et:=a.et
 C1:=a.bO
 C2:=a.bB
 v1:=.chan (some a.cO)
 v2:=.chan (some a.cB)
 p0:=a.p0
structure pJ.Ok(p:pJ)(tM:TypeId):Prop where
 hd:kx p.Wg p.bO p.bB p.bM p.cO p.cB p.T p.b6 p.b7 p.b8 p.rd p.w0
 rn:Uz p.rd (qF (p.Kx prog)) p.b6 p.b7 p.b8 p.q p.k p.xs
 T:p.T<p.bO
 Vw:¬p.rd p.T
 er:∀i,p.er i<=1000
 W7:tM≠62
 W8:tM≠98
 W9:tM≠39
 gm:∀i v w w1,(∀b,yh v b->w1.heap[b]?=w.heap[b]?)->p.GM i v w->p.GM i v w1
 VY:∀i v w,p.GM i v w->∃go gn gc,v=.agg #[.slice go gn gc,.int .i64 (p.er i),.bool (p.ls i)]
 Vu:∀i v w b,p.GM i v w->yh v b->∃c,w.heap[b]?=some (.cells c tM)
section
variable {p:pJ}{a:TypeId}{w b:World}
theorem pJ.Ok.Ff(b:p.Ok a)(e:qF (p.Kx prog) w):kx p.Wg p.bO p.bB p.bM p.cO p.cB p.T p.b6 p.b7 p.b8 p.rd w:=by
 have d:∀c,p.rd c->w.heap[c]?=p.w0.heap[c]?:=e;refine⟨(ie (d _ b.hd.rO) 0).trans b.hd.cO,(ie (d _ b.hd.rB) 0).trans b.hd.cB,(ie (d _ b.hd.rM) 0).trans b.hd.cM,b.hd.rO,b.hd.rB,b.hd.rM,λc e=>?_⟩;have f:=b.hd.lt c e;have:w.heap[c]?=some p.w0.heap[c]:=(d c e).trans (au f);exact aC this
theorem Mn(w:World)(d:Nat)(a:gz (p.Kx prog) w):gz (p.Kx prog) (w.at d):=a
end
def Rs(a:Func):List Item:=[.inBlock 1,.inLoop (dv a),.inBlock 0]
def pJ.I9(a:pJ)(b:Func):Frame:=mz b a.Wg a.bO a.bB a.bM a.cO a.cB a.T a.b6 a.b7 a.b8
def pJ.Uv(a:pJ)(c b:Nat):World->Prop:=Wp a.Wg a.bO a.bB a.bM a.cO a.cB a.T a.b6 a.b7 a.b8 c a.rd b (.slice (a.wo b) (a.wn b) (a.wc b))
def pJ.snd(a:pJ)(c b:Nat)(d e f:Value):(Nat->Prop)->Goroutine->World->Prop:=UB (a.Uv c b) a.cO a.cB a.T a.b6 a.b7 a.b8 c b (.slice (a.wo b) (a.wn b) (a.wc b)) d e f (Rs f52) [(a.I9 f50),(fZ prog)]
section
variable {p:pJ}{e:TypeId}{w j c:World}{s i m:Nat}{go:Option Addr}{b a:Nat}{d B:Nat->Prop}{g:Goroutine}
def pJ.val(p:pJ)(i:Nat)(go:Option Addr)(b a:Nat):Value:=.agg #[.slice go b a,.int .i64 (p.er i),.bool (p.ls i)]
theorem N9(h:p.Ok e)(l:p.GM i (p.val i go b a) c)(m:∀f,yh (p.val i go b a) f->d f)(k:O9 d (yh (p.val i go b a)) (λf=>c.heap[f]?) (p.snd s i (.slice go b a) (.int .i64 (p.er i)) (.bool (p.ls i))) B g w):vD (p.Kx prog) i (p.val i go b a) B g w:=by
 obtain⟨t,⟨u,v,x,y,z,A,C,D,E,F,G,I,J,n,o,rfl⟩,K,q,r⟩:=k;refine⟨_,_,X,h.gm _ _ _ _ (λf k=>(r f k).2) l,λf k=>q f (m f k),λj=>RB n o j,λj t mb=>⟨40,?_⟩⟩;exact(RD (h.Ff mb) X).mono λf g w h=>h
theorem U2(b:p.Ok e){d:Array Value}(g:p.GM i t c)(h:yh t f)(j:w.heap[f]?=c.heap[f]?)(a:w.heap[p.T]?=some (.cells d 62)):f≠p.T:=by
 rintro rfl;obtain⟨l,d⟩:=b.Vu i t c _ g h;rw[j,d]at a;injection a with a
 injection a with m k
 exact b.W7 k
theorem wrap_add{a d:Int}(b:0<=a)(c:a<1000000)(e:0<=d)(f:d<=1000):IntKind.i64.wrap (a+d)=a+d:=by
 simp only[IntKind.wrap,go_sem];simp;omega
theorem Sw(k:p.Ok e)(l:p.GM i (p.val i go b a) c)(q:∀f,yh (p.val i go b a) f->d f)(n:O9 d (yh (p.val i go b a)) (λf=>c.heap[f]?) (o0 p.rd (gz (p.Kx prog)) (p.snd s i (.slice go b a) (.int .i64 (p.er i)) (.bool (p.ls i))) m p.T 1 1) B g w):KX (p.Kx prog) i (p.val i go b a) B g w:=by
 obtain⟨j,⟨h,u⟩,v,r,o⟩:=n;refine⟨h,λt y j x z=>?_⟩;have j:w.heap[p.T]?=some (.cells #[.int .i64 t,.int .i64 y] 62):=j;obtain⟨A,h,t⟩:=u y (cell_of (o:=1) j X) (bF j 1);rw[wrap_add x z x5 x5]at h t;refine⟨A,h,m,?_⟩;have u:=t.lift (O':=B) (Oc:=d) (Z:=yh (p.val i go b a)) (c:=λf=>c.heap[f]?) v r λf h=>?_
 ·exact u.mono λB g w n=>N9 k l q n
 ·have n:=U2 k l h (o f h).2 j;obtain⟨j,t⟩:=k.Vu _ _ _ _ l h
  have j:(w.setCell ⟨p.T,1,none⟩ (.int .i64 (y+1))).heap[f]?=c.heap[f]?:=by
   rw[heap_setCell,af n];exact(o f h).2
  exact⟨r f (q f h),(o f h).1,aC (j.trans t),j⟩
theorem Sv(n:p.Ok e)(q:p.GM i (p.val i go b a) c)(r:∀h,yh (p.val i go b a) h->d h)(j:O9 d (yh (p.val i go b a)) (λh=>c.heap[h]?) (o0 p.rd (gz (p.Kx prog)) (O6 p.rd (gz (p.Kx prog)) (p.snd s i (.slice go b a) (.int .i64 (p.er i)) (.bool (p.ls i))) m p.T (p.ls i)) f p.T 0 (p.er i)) B g w):Gt (p.Kx prog) i (p.val i go b a) B g w:=by
 obtain⟨z,⟨k,A⟩,C,u,t⟩:=j;refine⟨k,λo y l D F=>?_⟩;have l:w.heap[p.T]?=some (.cells #[.int .i64 o,.int .i64 y] 62):=l;obtain⟨G,v,x⟩:=A o (cell_of (o:=0) l X) (bF l 0);have:=n.er i;rw[wrap_add D F E E]at v x
 have A:∀h,yh (p.val i go b a) h->B h∧¬z h∧h<(w.setCell ⟨p.T,0,none⟩ (.int .i64 (o+p.er i))).heap.size∧(w.setCell ⟨p.T,0,none⟩ (.int .i64 (o+p.er i))).heap[h]?=c.heap[h]?:=λh k=>by
  have z:=U2 n q k (t h k).2 l;obtain⟨l,D⟩:=n.Vu _ _ _ _ q k
  have l:(w.setCell ⟨p.T,0,none⟩ (.int .i64 (o+p.er i))).heap[h]?=c.heap[h]?:=by
   rw[heap_setCell,af z];exact(t h k).2
  exact⟨u h (r h k),(t h k).1,aC (l.trans D),l⟩
 have k:=x.lift (O':=B) (Oc:=d) (Z:=yh (p.val i go b a)) (c:=λh=>c.heap[h]?) C u A;refine⟨G,v,λh=>⟨f,k.mono λB g w j=>Sw (s:=s) (m:=m+80) n q r ?_⟩,λh=>⟨f,k.mono λB g w j=>N9 (s:=s) n q r ?_⟩⟩
 ·have h:p.ls i=true:=h;have l:O6 p.rd (gz (p.Kx prog)) (p.snd s i (.slice go b a) (.int .i64 (p.er i)) (.bool (p.ls i))) m p.T (p.ls i)=o0 p.rd (gz (p.Kx prog)) (p.snd s i (.slice go b a) (.int .i64 (p.er i)) (.bool (p.ls i))) (m+80) p.T 1 1:=ai h;rw[l]at j;exact j
 ·have h:p.ls i=false:=h;have l:O6 p.rd (gz (p.Kx prog)) (p.snd s i (.slice go b a) (.int .i64 (p.er i)) (.bool (p.ls i))) m p.T (p.ls i)=p.snd s i (.slice go b a) (.int .i64 (p.er i)) (.bool (p.ls i)):=af (by rw[h];exact Bool.false_ne_true);rw[l]at j;exact j
end
section
variable {P:Program}{a:Bool}{d:Nat->Prop}{e:World->Prop}{b:(Nat->Prop)->Goroutine->World->Prop}{O:Nat->Prop}{n m:Nat}{g:Goroutine}{w:World}{c:Nat->Option Obj}
theorem HG.then(c:HG P a d e (λO g w=>HG P a d e b m O g w) n O g w):HG P a d e b (m+n) O g w:=by
 induction n generalizing O g w with
 |zero=>exact c w (dW.refl w)
 |succ n i=>
  rcases c with c|⟨j,c⟩
  ·exact gK (n+1) (c w (dW.refl w))
  ·refine J ⟨j,λf k=>?_⟩;have:=c f k;cases h:stepG P a g f with
   |go l o p=>
    rw[h]at this;exact⟨this.1,i this.2⟩
   |_=>rw[h]at this;exact this.elim
theorem HG.keeps(k:HG P a d e b n O g w)(l:∀f,d f->¬O f∧f<w.heap.size∧w.heap[f]?=c f):HG P a d e (λO g w=>b O g w∧∀f,d f->w.heap[f]?=c f) n O g w:=by
 induction n generalizing O g w with
 |zero=>exact λj h=>⟨k j h,λf i=>(h.qH f (I i)).trans (l f i).2.2⟩
 |succ n o=>
  rcases k with k|⟨p,k⟩
  ·exact .inl λj h=>⟨k j h,λf i=>(h.qH f (I i)).trans (l f i).2.2⟩
  ·refine .inr ⟨p,λj h=>?_⟩;have:=k j h;cases m:stepG P a g j with
   |go q r s=>
    rw[m]at this;refine⟨this.1,o this.2 λf i=>?_⟩;obtain⟨k,o,p⟩:=l f i;have l:f<j.heap.size:=aj o h.size;exact⟨λj=>j.elim k λj=>by have:=j.1;omega,aj l this.1.size,by rw[this.1.other f l k,h.qH f (I i),p]⟩
   |_=>rw[m]at this;exact this.elim
end
section
variable {p:pJ}{c:TypeId}{w e j:World}{s i m u:Nat}{d B:Nat->Prop}{g:Goroutine}{a:Frame}{b:List Frame}
def pJ.wv(p:pJ)(i:Nat):Value:=.slice (p.wo i) (p.wn i) (p.wc i)
theorem I6(b:p.Ok c)(e:s≠p.T)(F:u≠p.T)(I:u≠s)(K:¬p.rd u)(q:VN p.cO p.cB p.T p.b6 p.b7 p.b8 s i (p.wv i) (Rs f52) a)(z:r s)(A:r u)(j:w.heap[s]?=some (.cells #[.int .i64 i,p.wv i] 98))(M:BU u w):IB (p.Kx prog) i ((nS f27) (p.wv i) p.xs p.T p.b6 p.b7 p.b8 u p.q p.k) (a::[(p.I9 f50),(fZ prog)]) r w:=by
 intro C h N k O mb o D;obtain⟨go,l,m,rfl⟩:=b.VY i N h o;have n:p.Uv s i h:=⟨b.Ff mb,(k s z).2.trans j⟩;have E:BU u h:=(k u A).2.trans M;have L:me p.rd (λj=>dU j∨j=s) p.T (p.Uv s i):=It b.T b.hd.rO b.Vw e;obtain⟨M,N,e,W,Y,Z,ab,ad,ao,ar,av,ax,a0,O,P,Q,R,S,T,U,V⟩:=q.ex
 have e:∀w q,(∀f,(dU f∨f=s)->q f)->p.Uv s i w->HG prog false p.rd (gz (p.Kx prog)) (p.snd s i (.slice go l m) (.int .i64 (p.er i)) (.bool (p.ls i))) (En (λj=>M j || decide (j=6)) 9) q (G (a.finish (.agg #[.slice go l m,.int .i64 (p.er i),.bool (p.ls i)])) [(p.I9 f50),(fZ prog)]) w:=by
  intro w q t n;rw[V (.slice go l m) (.int .i64 (p.er i)) (.bool (p.ls i)),XW,show((cI f52)[6]?).bind (·.dst)=some 17 from rfl,Rz];exact Wd L t (J X) (λw b=>b.2) N _ w O (by simp[P]) (by simp[Q]) (by simp[R]) oi (by simp[U]) (by simpa using S) (by simp[T]) n
 have M:=Kd (wv:=p.wv i) (xs:=p.xs) (b6:=p.b6) (b7:=p.b7) (b8:=p.b8) (q:=p.q) (k:=p.k) (Lv:=gz (p.Kx prog)) (λw d b=>Mn w d b) L (λq=>q.elim id I) K F e ⟨n,E⟩;have F:=M.lift (O':=C) (Oc:=C) (Z:=yh (p.val i go l m)) (c:=λf=>h.heap[f]?) (λf e=>e.elim (λe=>e.elim False.elim λj=>j▸(k s z).1) λj=>j▸(k u A).1) (λf e=>e) λf e=>?_
 ·exact⟨81,F.mono λB g w j=>Sv (s:=s) b o D j⟩
 ·obtain⟨q,v⟩:=b.Vu _ _ _ _ o e;refine⟨D f e,λx=>?_,aC v,X⟩;rcases x with(x|rfl)|rfl
  ·exact x
  ·have:=n.2;rw[v]at this;injection this with this
   injection this with t y
   exact b.W8 y
  ·have:h.heap[f]?=some (.cells #[.slice none 0 0,.int .i64 0,.bool false] 39):=E;rw[v]at this;injection this with this
   injection this with t y
   exact b.W9 y
def VM(p:pJ)(i:Nat)(b:Nat->Prop)(g:Goroutine)(w:World):Prop:=
 ∃(s:Nat) (c d e f h j k l m n o:Value),p.T<s∧(b=λa=>dU a∨a=s)∧kx p.Wg p.bO p.bB p.bM p.cO p.cB p.T p.b6 p.b7 p.b8 p.rd w∧w.heap[s]?=some (.cells #[.int .i64 i,p.wv i] 98)∧
  g=G ((base 52).at ⟨#[.chan (some p.cO),.chan (some p.cB),mW p.T p.b6 p.b7 p.b8,c,d,e,.pointer (some ⟨s,0,none⟩),.chan (some p.cO),.tuple #[.agg #[.int .i64 i,p.wv i],.bool true],.bool true,.agg #[.int .i64 i,p.wv i],f,h,j,k,l,m,n,o],[]⟩ (.code (.region 3 (cI f52) true)::(Rs f52))) [(p.I9 f50),(fZ prog)]
theorem AK(f:p.Ok c)(F:(p.Kx prog).Pe a b)(mb:qF (p.Kx prog) w):∃K,HH (p.Kx prog) (BR (p.Kx prog) i) K dU (G (a.finish (recvd true ((p.Kx prog).sv i) true)) b) w:=by
 have N:b=[(p.I9 f50),(fZ prog)]:=F.2;subst N;have K:=f.Ff mb;have P:=I7 (m:=0) (i:=i) (wo:=p.wo i) (wn:=p.wn i) (wc:=p.wc i) (Lv:=gz (p.Kx prog)) (Stop:=VM p i) f.T K F λw s M B C k l m n o q r t v x y=>λe N=>⟨s,k,l,m,n,o,q,r,t,v,x,y,M,X,B.rely N,(N.qH s (J (J X))).trans C,X⟩
 have F:=P.keeps (c:=λj=>p.w0.heap[j]?) λj z=>⟨id,K.lt j z,mb j z⟩
 refine⟨75+60,(F.mono λK g w D=>?_).then⟩;obtain⟨⟨s,k,l,m,n,o,q,r,t,v,x,y,M,rfl,B,C,rfl⟩,A⟩:=D;have O:s≠p.T:=E
 have L:me p.rd (λF=>dU F∨F=s) p.T (λw=>p.Uv s i w∧qF (p.Kx prog) w):=by
  have L:=It (Wg:=p.Wg) (bO:=p.bO) (bB:=p.bB) (bM:=p.bM) (cO:=p.cO) (cB:=p.cB) (T:=p.T) (b6:=p.b6) (b7:=p.b7) (b8:=p.b8) (i:=i) (wv:=p.wv i) f.T f.hd.rO f.Vw O;exact⟨λw e A F h=>⟨L.keep w e A F h.1,λj z=>(A j (J z)).trans (h.2 j z)⟩,λw h=>L.lt w h.1,L.nT⟩
 have z:Uz p.rd (λw=>p.Uv s i w∧qF (p.Kx prog) w) p.b6 p.b7 p.b8 p.q p.k p.xs:=⟨f.rn.r6,f.rn.r7,f.rn.r8,λw h=>f.rn.c6 w h.2,λw h=>f.rn.c7 w h.2,λw h=>f.rn.c8 w h.2⟩
 have j:(#[.chan (some p.cO),.chan (some p.cB),mW p.T p.b6 p.b7 p.b8,k,l,m,.pointer (some ⟨s,0,none⟩),.chan (some p.cO),.tuple #[.agg #[.int .i64 i,p.wv i],.bool true],.bool true,.agg #[.int .i64 i,p.wv i],n,o,q,r,t,v,x,y]:Array Value)=gM (λi=>decide ((cI f52).size<=i)) p.cO p.cB p.T p.b6 p.b7 p.b8 s i (p.wv i) U U U k l m n o q r t v x y:=by
  rw[show(cI f52).size=9 by kernel_rfl];simp[gM]
 refine G1 (n:=74) wq Vg (λw d f=>Mn w d f) λF K=>?_
 rw[j];have j:=Wc (k:=(Rs f52)) (cs:=[(p.I9 f50),(fZ prog)]) (Lv:=gz (p.Kx prog)) (g0:=undef) (g1:=undef) (g2:=undef) (v3:=k) (v4:=l) (v5:=m) (v11:=n) (v12:=o) (v13:=q) (v14:=r) (v15:=t) (v16:=v) (v17:=x) (v18:=y) (cO:=p.cO) (cB:=p.cB) L z (J X) (λw h=>h.1.2) F _ w K XA XA XA (by rw[show(cI f52).size=9 by kernel_rfl];simp) (by rw[show(cI f52).size=9 by kernel_rfl];simp) ⟨⟨B,C⟩,A⟩
 have k:En (λi=>decide ((cI f52).size<=i)) 9=9:=by
  rw[show(cI f52).size=9 by kernel_rfl];rfl
 rw[k]at j;refine j.mono λk g w D=>?_
 obtain⟨a,Q,u,R,S,T,rfl,h,V,rfl⟩:=D;exact⟨_,_,X,I6 f O R (λj=>S (J j)) T Q (I (J X)) (J X) h.1.2 V⟩
theorem AJ(f:p.Ok c)(g:(p.Kx prog).Pe a b)(h:gz (p.Kx prog) w)(mb:qF (p.Kx prog) w):∃d,HH (p.Kx prog) (BQ (p.Kx prog)) d dU (G (a.finish (recvd true (p.Kx prog).zO false)) b) w:=by
 refine I4 (Lv:=gz (p.Kx prog)) (Stop:=BQ (p.Kx prog)) (f.Ff mb) h g λw d e=>?_
 have f:=Fp (f:=50) (fn:=f50) (a:=⟨#[.pointer (some ⟨p.Wg,0,none⟩),.pointer (some ⟨p.bO,0,none⟩),.pointer (some ⟨p.bB,0,none⟩),.pointer (some ⟨p.bM,0,none⟩),.chan (some p.cO),.chan (some p.cB),mW p.T p.b6 p.b7 p.b8,.tuple #[]],[]⟩) (todo:=[]) X func50 X;exact⟨23,za p.et X f e d.cO,za p.et X f e d.cB⟩
theorem PS(b:p.Ok c)(d:∀i w,i<p.N->gz (p.Kx prog) w->qF (p.Kx prog) w->∃e f,K6 (p.Kx prog) i w e f)(g:p.F.fn 29)(mb:∀i a,p.Qm i a->p.rd a):mg (p.Kx prog) where
 step:=λ_ _ w a=>LP a w
 word:=λ_ _ _ _ a _ _ mb=>AK b a mb
 over:=λ_ _ _ a e mb=>AJ b a e mb
 U1:=d
 fn:=g
 reads:=mb
 gm:=b.gm
 Vz:=λi a b d e=>Rp i a b d e
end
end
section
open Go.Conc Go.RowKit Go.ConcR.Gen
open Go.ConcN.Gen
end
section
open Go.Conc Go.RowKit Go.ConcR.Gen
open Go.ConcR (KK WgAt stA smA rd wr mk)
open Go.ConcN (WgLive)
open Go.ConcN.Gen
section
variable {K:m8}{O:Nat->Prop}{w:World}{F:World->Prop}{d:(Nat->Prop)->Goroutine->World->Prop}{b:Frame}{a:Act}{c:Array Oper}{i:Nat}{rest:List Nat}{k:List Item}{e:List Frame}
theorem VX{j:pJ}(g:∀ {w v},F w->dW j.rd (gz (j.Kx prog)) O w v->F v)(x:∀w (o:Int),F w->F (w.setCell (stA j.Wg) (.int .u64 o)))(y:∀w,F w->WgLive iY.tWg j.Wg w)(f:F w){m:Nat}(z:∀w,F w->H0 (j.Kx prog) (AtGo (j.Kx prog) d) m O (G (b.at (a.put ((c[i]?).bind (·.dst)) (.tuple #[])) (.inRegion c rest::k)) e) w):H0 (j.Kx prog) (yl (j.Kx prog) .disable (AtA1 (j.Kx prog) d)) 300 O (G (Frame.enter prog 49 #[.pointer (some ⟨j.Wg,0,none⟩),.int .i64 1] .normal) (b.at a (.inRegion c (i::rest)::k)::e)) w:=by
 have H:=OL;unfold H0;rw[Yo _ func49 X]
 walk_nrmf f49
 refine aH (n:=300) (m:=0) ?_;repeat(first|u_c XJ g f|u_c XL g f|u_reg g f|u_cond true g f|u_cond false g f|u_c XN g f|u_op g f|u_skip g f)
 refine XO (λA l=>?_);replace f:=g f l;clear l;refine HG.stop (λt q=>?_);replace f:=g f q;clear q;refine⟨X,_,stepG_mark0 .disable oi X X x5 X func69 wq wq wq wq,300,?_⟩;unfold H0;walk_nrm;refine aH (n:=300) (m:=0) ?_;repeat(first|u_c XJ g f|u_c XL g f|u_reg g f|u_cond true g f|u_cond false g f|u_c XN g f|u_op g f|u_skip g f)
 u_defer g f
 repeat(first|u_c XJ g f|u_c XL g f|u_reg g f|u_cond true g f|u_cond false g f|u_c XN g f|u_op g f|u_skip g f)
 u_in g f
 rw[stepG_entry_pure (.bool false) X X x5 X func71 wq wq wq wq];simp only[goes_go];refine⟨by u_nil,?_⟩;walk_nrm;repeat(first|u_c XJ g f|u_c XL g f|u_reg g f|u_cond true g f|u_cond false g f|u_c XN g f|u_op g f|u_skip g f)
 u_call func75 wq f75 g f
 repeat(first|u_c XJ g f|u_c XL g f|u_reg g f|u_cond true g f|u_cond false g f|u_c XN g f|u_op g f|u_skip g f)
 refine XO (λA l=>?_);replace f:=g f l;clear l;refine HG.stop (λt q=>?_);replace f:=g f q;clear q;refine⟨X,λo q p=>?_⟩;rcases cL o with rfl|N
 ·have q:IntKind.u64.wrap (((0:Nat):Int)*KK+4294967296)=(((0:Nat):Int)+1)*KK:=by decide
  refine⟨_,(stepG_add_atomic X X x5 X func97 wq wq wq .u64 wq X X p.cellSt (p.thaw 0)).trans (by rw[q];rfl),λ_=>⟨300,?_⟩,λh=>absurd X h⟩;have v:(((0:Nat):Int)+1)*KK=4294967296:=x5;rw[v];replace f:=x t 4294967296 f;clear p q v;unfold H0;walk_nrm;refine aH (n:=300) (m:=0) ?_;repeat(first|u_c XJ g f|u_c XL g f|u_reg g f|u_cond true g f|u_cond false g f|u_c XN g f|u_op g f|u_skip g f)
  u_c X3 g f
  u_leave1 func75 g f
  repeat(first|u_c XJ g f|u_c XL g f|u_reg g f|u_cond true g f|u_cond false g f|u_c XN g f|u_op g f|u_skip g f)
  u_in g f
  refine goes_oper_k X X x5 (λI B=>?_);have C:=Ys (P:=prog) H.underlying_tPU32 H.underlying_tUP H.room_tU32 (WgLive.cell1 (y _ f)).choose_spec;have s:=λq=>Yp (P:=prog) H.underlying_tPU32 H.underlying_tUP H.room_tU32 (WgLive.cell1 (y _ f)).choose_spec q
  simp only[iY]at C s;go_simp;refine B _ _ ⟨?_,?_⟩
  ·u_none
   intro v q;have J:=Yr q;simp[go_sem,s]at J
  clear B I C s;refine XO (λA l=>?_);replace f:=g f l;clear l;refine HG.stop (λD n=>?_);replace f:=g f n;clear n;refine⟨X,_,stepG_markAt .read oi X X x5 X func76 wq wq wq wq (ad:=⟨j.Wg,1,none⟩) (by simp[Act.eval]),300,?_⟩;unfold H0;walk_nrm;refine aH (n:=300) (m:=0) ?_;repeat(first|u_c XJ g f|u_c XL g f|u_reg g f|u_cond true g f|u_cond false g f|u_c XN g f|u_op g f|u_skip g f)
  u_c X3 g f
  refine XO (λD n=>?_);replace f:=g f n;clear n;refine HG.stop (λK r=>?_);replace f:=g f r;clear r;refine⟨X,_,stepG_unwind_entry (e:=λ_=>do mark .enable;pure Extern.Race.none_) (v:=.tuple #[]) (evs:= #[mk .enable]) X func70 wq wq wq wq (by simp[Extern.Race.none_]) (by simp[mk]) (by simp[mk]),?_⟩;refine⟨m+10,?_⟩;unfold H0;refine aH (n:=10) (m:=m) ?_
  u_leave0 func49 g f
  refine XO (λM u=>?_);exact z _ (g f u)
 ·obtain⟨j,s⟩:∃j:Int,j=(o:Int)+1:=⟨_,X⟩;obtain⟨l,q⟩:∃l:Int,l=j*KK:=⟨_,X⟩;have v:IntKind.u64.wrap ((o:Int)*KK+4294967296)=l:=by rw[IntKind.wrap_u64,q,s];simp only[KK];omega
  rw[<-s, <-q];have y:l / 4294967296=j:=by rw[q];simp only[KK];omega
  have y:bits .and .u64 l 2147483648=0:=by rw[q,s];have:=Go.ConcN.st_flag (o+1) 0 E E;simpa [KK]using this
  have y:bits .and .u64 l 2147483647=0:=by rw[q,s];have:=Go.ConcN.st_waiters (o+1) 0 E E;simpa [KK]using this
  have o:IntKind.i32.wrap j=j:=by rw[IntKind.wrap_i32];omega
  have o:1<j:=E;have o:j<2147483648:=E;have o:(j==1)=false:=x7;have o:decide (j=1)=false:=aq E;have o:decide (j<0)=false:=aq E;have o:decide (0<j)=true:=aU E;have o:(j==0)=false:=x7;have o:decide (j=0)=false:=aq E;refine⟨_,(stepG_add_atomic X X x5 X func97 wq wq wq .u64 wq X X p.cellSt (p.thaw 0)).trans (by rw[v];rfl),λh=>absurd h E,λ_=>⟨300,?_⟩⟩;replace f:=x t l f;clear p q s v;unfold H0;walk_nrm;refine aH (n:=300) (m:=0) ?_;repeat(first|u_c XJ g f|u_c XL g f|u_reg g f|u_cond true g f|u_cond false g f|u_c XN g f|u_op g f|u_skip g f)
  u_c X3 g f
  u_leave1 func75 g f
  repeat(first|u_c XJ g f|u_c XL g f|u_reg g f|u_cnd true g f|u_cnd false g f|u_c XN g f|u_op g f|u_skip g f)
  u_c X3 g f
  refine XO (λD n=>?_);replace f:=g f n;clear n;refine HG.stop (λK r=>?_);replace f:=g f r;clear r;refine⟨X,_,stepG_unwind_entry (e:=λ_=>do mark .enable;pure Extern.Race.none_) (v:=.tuple #[]) (evs:= #[mk .enable]) X func70 wq wq wq wq (by simp[Extern.Race.none_]) (by simp[mk]) (by simp[mk]),?_⟩;refine⟨m+10,?_⟩;unfold H0;refine aH (n:=10) (m:=m) ?_
  u_leave0 func49 g f
  refine XO (λM u=>?_);exact z _ (g f u)
end
def OR(a:Func):Code:=match a.body with|some (.seq _ (.block _ (.loop b)))=>b|_=> .skip
section
variable {K:m8}{O:Nat->Prop}{w:World}{F:World->Prop}{e:Nat->Option Value}{b:Frame}{a:Act}{c:Array Oper}{i:Nat}{rest:List Nat}{k:List Item}{d:List Frame}
def Uo(a:Nat)(b:Frame)(d:List Frame)(c:Goroutine):Prop:=
 ∃T:Array Value,c=G ((base 53).at ⟨T,[]⟩ [.code (OR f53),.inLoop (OR f53),.inBlock 0]) (b::d)∧T.size=84∧T[0]?=some (.pointer (some ⟨a,0,none⟩))
theorem CG{h:pJ}(g:∀ {w j},F w->dW h.rd (gz (h.Kx prog)) O w j->F j)(f:F w)(l:∀j w,F w->Uo h.Wg (b.at a (.inRegion c (i::rest)::k)) d j->h.ye e O j w):H0 (h.Kx prog) (AtKd (h.Kx prog) e) 300 O (G (Frame.enter prog 53 #[.pointer (some ⟨h.Wg,0,none⟩)] .normal) (b.at a (.inRegion c (i::rest)::k)::d)) w:=by
 unfold H0 Uo OR at *;simp only[f53]at l;rw[Yo _ func53 X]
 walk_nrmf f53
 refine aH (n:=300) (m:=0) ?_;repeat(first|u_c XJ g f|u_c XL g f|u_reg g f|u_cnd true g f|u_cnd false g f|u_c XN g f|u_op g f|u_skip g f)
 refine XO (λj h=>?_);replace f:=g f h;clear h;refine HG.stop (λj h=>?_);replace f:=g f h;clear h;refine⟨X,_,stepG_mark0 .disable oi X X x5 X func69 wq wq wq wq,300,?_⟩;unfold H0;walk_nrm;refine aH (n:=300) (m:=0) ?_;repeat(first|u_c XJ g f|u_c XL g f|u_reg g f|u_cnd true g f|u_cnd false g f|u_c XN g f|u_op g f|u_skip g f)
 u_c Yc g f
 u_c stepG_loop g f
 refine XO (λj h=>?_);replace f:=g f h;clear h;refine HG.stop (λj h=>?_);replace f:=g f h;exact l _ _ f ⟨_,X,oi,oi⟩
theorem CF{n:pJ}{u:Goroutine}(g:∀ {w K},F w->dW n.rd (gz (n.Kx prog)) O w K->F K)(S:∀w (l:Int),F w->F (w.setCell (stA n.Wg) (.int .u64 l)))(U:∀w (l:Int),F w->F (w.setCell (smA n.Wg) (.int .u32 l)))(t:∀w,F w->WgLive iY.tWg n.Wg w)(I:∀u w,F w->Uo n.Wg (b.at a (.inRegion c (i::rest)::k)) d u->n.ye e O u w){m:Nat}(M:∀w,F w->H0 (n.Kx prog) (BP (n.Kx prog) e) m O (G (b.at (a.put ((c[i]?).bind (·.dst)) (.tuple #[])) (.inRegion c rest::k)) d) w)(f:F w)(V:Uo n.Wg (b.at a (.inRegion c (i::rest)::k)) d u):H0 (n.Kx prog) (AtW1 (n.Kx prog) e) 300 O u w:=by
 have H:=OL;obtain⟨T,rfl,W,N⟩:=V;obtain⟨v0,v1,v2,v3,v4,v5,v6,v7,v8,v9,ar,av,ax,a0,a1,a2,a3,a4,a5,a6,a7,a8,a9,ba,bb,bc,bd,bg,bk,bl,bm,bn,bo,bp,bs,bw,bx,bz,bA,bB,bE,bM,bN,bO,bQ,bS,bY,b0,b1,b2,b3,b4,b6,b7,b8,ca,cb,cc,cf,cl,cm,cp,cq,cr,cw,cx,cy,cz,cA,cB,cM,cO,cP,cR,c0,c1,c5,c6,c7,c8,c9,dc,dd,dg,rfl⟩:=array84 T W;simp only[an,List.getElem?_cons_zero,bt]at N;subst N;unfold Uo OR at I;simp only[f53]at I;unfold H0 OR;simp only[f53];refine aH (n:=300) (m:=0) ?_;u_c Yc g f;repeat(first|u_c XJ g f|u_c XL g f|u_reg g f|u_cnd true g f|u_cnd false g f|u_c XN g f|u_op g f|u_skip g f)
 u_call func77 wq f77 g f
 repeat(first|u_c XJ g f|u_c XL g f|u_reg g f|u_cnd true g f|u_cnd false g f|u_c XN g f|u_op g f|u_skip g f)
 refine XO (λY v=>?_);replace f:=g f v;clear v;refine HG.stop (λZ u=>?_);replace f:=g f u;clear u;refine⟨X,λl u j=>?_⟩;rcases cL l with rfl|dq
 ·replace j:WgAt iY.tWg n.Wg Z 0 0:=by simpa using j
  refine⟨_,Yt (v:=0) X X x5 X func98 wq wq wq .u64 wq X j.cellSt,λ_=>⟨300,?_⟩,λh=>absurd X h⟩;clear j;unfold H0;walk_nrm;refine aH (n:=300) (m:=0) ?_;repeat(first|u_c XJ g f|u_c XL g f|u_reg g f|u_cnd true g f|u_cnd false g f|u_c XN g f|u_op g f|u_skip g f)
  u_c X3 g f
  u_leave1 func77 g f
  repeat(first|u_c XJ g f|u_c XL g f|u_reg g f|u_cnd true g f|u_cnd false g f|u_c XN g f|u_op g f|u_skip g f)
  refine XO (λY v=>?_);replace f:=g f v;clear v;refine HG.stop (λab x=>?_);replace f:=g f x;clear x;refine⟨X,_,stepG_mark0 .enable oi X X x5 X func70 wq wq wq wq,300,?_⟩;unfold H0;walk_nrm;refine aH (n:=300) (m:=0) ?_;repeat(first|u_c XJ g f|u_c XL g f|u_reg g f|u_cnd true g f|u_cnd false g f|u_c XN g f|u_op g f|u_skip g f)
  u_in g f
  refine goes_oper_k X X x5 (λy q=>?_);have r:=Ys (P:=prog) H.underlying_tWgP H.underlying_tUP H.room_tWg (WgLive.cell0 (t _ f)).choose_spec;have p:=λz=>Yp (P:=prog) H.underlying_tWgP H.underlying_tUP H.room_tWg (WgLive.cell0 (t _ f)).choose_spec z
  simp only[iY]at r p;go_simp;refine q _ _ ⟨?_,?_⟩
  ·u_none
   intro P A;have B:=Yr A;simp[go_sem,p]at B
  clear q y r p;refine XO (λQ C=>?_);replace f:=g f C;clear C;refine HG.stop (λad D=>?_);replace f:=g f D;clear D;refine⟨X,_,stepG_markAt .acquire oi X X x5 X func81 wq wq wq wq (by simp[Act.eval,stA]),?_⟩;refine⟨m+300,?_⟩;unfold H0;walk_nrm;refine aH (n:=300) (m:=m) ?_;repeat(first|u_c XJ g f|u_c XL g f|u_reg g f|u_cnd true g f|u_cnd false g f|u_c XN g f|u_op g f|u_skip g f)
  u_c X3 g f
  u_leave0 func53 g f
  refine XO (λao J=>?_);exact M _ (g f J)
 ·obtain⟨o,s⟩:∃o:Int,(l:Int)*KK=o:=⟨_,X⟩;have u:o / 4294967296=(l:Int):=by rw[<-s];simp only[KK];omega
  have u:bits .and .u64 o 2147483648=0:=by rw[<-s];have:=Go.ConcN.st_flag l 0 E E;simpa [KK]using this
  have u:bits .and .u64 o 2147483647=0:=by rw[<-s];have:=Go.ConcN.st_waiters l 0 E E;simpa [KK]using this
  have u:IntKind.i32.wrap (l:Int)=(l:Int):=by rw[IntKind.wrap_i32];omega
  have u:IntKind.u64.wrap (o+1)=o+1:=by rw[IntKind.wrap_u64, <-s];simp only[KK];omega
  have u:decide ((l:Int)<0)=false:=aq E;have u:decide (0<(l:Int))=true:=aU E;have u:((l:Int)==0)=false:=x7;have u:decide ((l:Int)=0)=false:=aq E;rw[s]at j;refine⟨_,Yt (v:=o) X X x5 X func98 wq wq wq .u64 wq X j.cellSt,λl=>absurd l E,λ_=>⟨300,?_⟩⟩;clear j;unfold H0;walk_nrm;refine aH (n:=300) (m:=0) ?_;repeat(first|u_c XJ g f|u_c XL g f|u_reg g f|u_cnd true g f|u_cnd false g f|u_c XN g f|u_op g f|u_skip g f)
  u_c X3 g f
  u_leave1 func77 g f
  repeat(first|u_c XJ g f|u_c XL g f|u_reg g f|u_cnd true g f|u_cnd false g f|u_c XN g f|u_op g f|u_skip g f)
  u_call func83 wq f83 g f
  repeat(first|u_c XJ g f|u_c XL g f|u_reg g f|u_cnd true g f|u_cnd false g f|u_c XN g f|u_op g f|u_skip g f)
  refine XO (λab x=>?_);replace f:=g f x;clear x;refine HG.stop (λQ C=>?_);replace f:=g f C;clear C;refine⟨X,λv' l j=>⟨λR=>?_,λR=>?_⟩⟩
  ·subst R;rw[s]at j ⊢;refine⟨_,(stepG_cas_hit (v:=o) (n:=o+1) X X x5 X func100 wq wq wq .u64 wq X X X j.cellSt (j.thaw 0)).trans x8,300,?_⟩;replace f:=S Q (o+1) f;clear j;unfold H0;walk_nrm;refine aH (n:=300) (m:=0) ?_;repeat(first|u_c XJ g f|u_c XL g f|u_reg g f|u_cnd true g f|u_cnd false g f|u_c XN g f|u_op g f|u_skip g f)
   u_c X3 g f
   u_leave1 func83 g f
   repeat(first|u_c XJ g f|u_c XL g f|u_reg g f|u_cnd true g f|u_cnd false g f|u_c XN g f|u_op g f|u_skip g f)
   u_in g f
   refine goes_oper_k X X x5 (λy q=>?_);have r:=Ys (P:=prog) H.underlying_tPU32 H.underlying_tUP H.room_tU32 (WgLive.cell1 (t _ f)).choose_spec;have p:=λz=>Yp (P:=prog) H.underlying_tPU32 H.underlying_tUP H.room_tU32 (WgLive.cell1 (t _ f)).choose_spec z
   simp only[iY]at r p;go_simp;refine q _ _ ⟨?_,?_⟩
   ·u_none
    intro P A;have B:=Yr A;simp[go_sem,p]at B
   clear q y r p;refine XO (λad D=>?_);replace f:=g f D;clear D;refine HG.stop (λu l=>?_);replace f:=g f l;clear l;refine⟨X,_,stepG_markAt .write oi X X x5 X func84 wq wq wq wq (ad:=⟨n.Wg,1,none⟩) (by simp[Act.eval]),300,?_⟩;unfold H0;walk_nrm;refine aH (n:=300) (m:=0) ?_;repeat(first|u_c XJ g f|u_c XL g f|u_reg g f|u_cnd true g f|u_cnd false g f|u_c XN g f|u_op g f|u_skip g f)
   refine XO (λn l=>?_);replace f:=g f l;clear l;refine HG.stop (λn l=>?_);replace f:=g f l;clear l;refine⟨X,X,λ⟨u,j⟩=>stepG_semacquire_wait X X X func85 wq wq wq wq (by simp[Act.eval,smA]) j.cellSm,λl=>?_⟩;refine⟨_,(stepG_semacquire (n:=1) X X x5 X func85 wq wq wq wq (by simp[Act.eval,smA]) l.cellSm x5 (l.thaw 1)).trans x8,300,?_⟩;replace f:=U n 0 f;clear l;unfold H0;walk_nrm;refine aH (n:=300) (m:=0) ?_;repeat(first|u_c XJ g f|u_c XL g f|u_reg g f|u_cnd true g f|u_cnd false g f|u_c XN g f|u_op g f|u_skip g f)
   u_call func77 wq f77 g f
   repeat(first|u_c XJ g f|u_c XL g f|u_reg g f|u_cnd true g f|u_cnd false g f|u_c XN g f|u_op g f|u_skip g f)
   refine XO (λn l=>?_);replace f:=g f l;clear l;refine HG.stop (λn l=>?_);replace f:=g f l;clear l;refine⟨X,λj=>⟨_,Yt (v:=0) X X x5 X func98 wq wq wq .u64 wq X j.cellSt,300,?_⟩⟩;clear j;unfold H0;walk_nrm;refine aH (n:=300) (m:=0) ?_;repeat(first|u_c XJ g f|u_c XL g f|u_reg g f|u_cnd true g f|u_cnd false g f|u_c XN g f|u_op g f|u_skip g f)
   u_c X3 g f
   u_leave1 func77 g f
   repeat(first|u_c XJ g f|u_c XL g f|u_reg g f|u_cnd true g f|u_cnd false g f|u_c XN g f|u_op g f|u_skip g f)
   refine XO (λn l=>?_);replace f:=g f l;clear l;refine HG.stop (λn l=>?_);replace f:=g f l;clear l;refine⟨X,_,stepG_mark0 .enable oi X X x5 X func70 wq wq wq wq,300,?_⟩;unfold H0;walk_nrm;refine aH (n:=300) (m:=0) ?_;repeat(first|u_c XJ g f|u_c XL g f|u_reg g f|u_cnd true g f|u_cnd false g f|u_c XN g f|u_op g f|u_skip g f)
   u_in g f
   refine goes_oper_k X X x5 (λy q=>?_);have r:=Ys (P:=prog) H.underlying_tWgP H.underlying_tUP H.room_tWg (WgLive.cell0 (t _ f)).choose_spec;have p:=λz=>Yp (P:=prog) H.underlying_tWgP H.underlying_tUP H.room_tWg (WgLive.cell0 (t _ f)).choose_spec z
   simp only[iY]at r p;go_simp;refine q _ _ ⟨?_,?_⟩
   ·u_none
    intro P A;have B:=Yr A;simp[go_sem,p]at B
   clear q y r p;refine XO (λn l=>?_);replace f:=g f l;clear l;refine HG.stop (λn l=>?_);replace f:=g f l;clear l;refine⟨X,_,stepG_markAt .acquire oi X X x5 X func81 wq wq wq wq (by simp[Act.eval,stA]),?_⟩;refine⟨m+300,?_⟩;unfold H0;walk_nrm;refine aH (n:=300) (m:=m) ?_;repeat(first|u_c XJ g f|u_c XL g f|u_reg g f|u_cnd true g f|u_cnd false g f|u_c XN g f|u_op g f|u_skip g f)
   u_c X3 g f
   u_leave0 func53 g f
   refine XO (λao J=>?_);exact M _ (g f J)
  ·refine⟨_,stepG_cas_miss (v:=(v':Int)*KK) (old:=o) (n:=o+1) X X x5 X func100 wq wq wq .u64 wq X X X j.cellSt (j.thaw 0) (by rw[<-s];simp only[KK];omega),300,?_⟩;clear j;unfold H0;walk_nrm;refine aH (n:=300) (m:=0) ?_;repeat(first|u_c XJ g f|u_c XL g f|u_reg g f|u_cnd true g f|u_cnd false g f|u_c XN g f|u_op g f|u_skip g f)
   u_c X3 g f
   u_leave1 func83 g f
   repeat(first|u_c XJ g f|u_c XL g f|u_reg g f|u_cnd true g f|u_cnd false g f|u_c XN g f|u_op g f|u_skip g f)
   u_c Yh g f
   u_c YC g f
   refine XO (λl j=>?_);replace f:=g f j;clear j;refine HG.stop (λl j=>?_);replace f:=g f j;clear j;exact I _ _ f ⟨_,X,oi,oi⟩
end
end
section
open Go.Conc Go.RowKit Go.ConcR.Gen
open Go.ConcN.Gen
def jj(a:Code):Code:=match a with |.seq _ a=>a|_=> .skip
def gH(a:Func):Nat->Code
 |0=>match a.body with|some b=>b|_=> .skip
 |n+1=>jj (gH a n)
def y9(a:Func):Code:=match gH a 4 with |.seq (.seq _ (.block _ (.loop b))) _=>b|_=> .skip
def jQ(a:Func):Code:=match gH a 6 with |.seq (.seq _ (.block _ (.loop b))) _=>b|_=> .skip
def jR(a:Func):Code:=match gH a 10 with |.seq (.seq _ (.block _ (.loop b))) _=>b|_=> .skip
def uk(a:Func):Code:=match jQ a with |.seq _ (.block _ (.seq _ b))=>b|_=> .skip
def tc(a:Func):Array Oper:=match uk a with |.seq (.region _ b _) _=>b|_ =>#[]
def tf(a:Func):Array Oper:=match jR a with |.seq (.region _ b _) _=>b|_ =>#[]
structure mN where
 p:pJ
 wb:Nat
 wc:Nat
 hs:Int
 c:Frame
 cs:List Frame
def mN.ws(d:mN):Value:=.slice (some ⟨d.wb,0,none⟩) d.p.N d.wc
def nI(b:Nat->Option Value)(a:Nat):Value:=match b (a / 3)with
 |some (.agg ⟨[c,d,e]⟩)=>if a % 3=0 then c else if a % 3=1 then d else e
 |_=>if a % 3=0 then .slice none 0 0 else if a % 3=1 then .int .i64 0 else .bool false
def lU(a:Nat)(b:Nat->Option Value):Array Value:=Array.ofFn (n:=3*a) λc=>nI b c
def kz(d:mN)(b:Nat->Prop)(a:Nat):Prop:=b a∧(∀c,b c->a<=c)∧¬d.p.rd a∧a≠d.p.Wg∧d.p.bO<a
theorem kz.eq{d:mN}(a:kz d r f)(b:kz d r M):f=M:=Nat.le_antisymm (a.2.1 M b.1) (b.2.1 f a.1)
def Ug(d:mN)(a b:Nat)(c:Frame):Prop:=∃e f g h i j k l m n o p q r s t u v w x y z A B C D E F G I J K M N O P Q R S T U V W X Y Z ab ad ao ar av ax a0 a1 a2 a3:Value,c=(base 25).at ⟨#[d.ws,.int .i64 d.hs,mW d.p.T d.p.b6 d.p.b7 d.p.b8,e,f,.pointer (some ⟨d.p.bM,0,none⟩),.slice none 0 0,.pointer (some ⟨d.p.bO,0,none⟩),.pointer (some ⟨d.p.bB,0,none⟩),.pointer (some ⟨d.p.Wg,0,none⟩),.slice (some ⟨a,0,none⟩) d.p.N d.p.N,.int .i64 b,g,h,i,j,k,l,m,n,o,p,q,r,s,t,u,v,w,x,y,z,A,B,C,D,E,F,G,I,J,K,M,N,O,P,Q,R,S,T,U,V,W,X,Y,Z,ab,ad,ao,ar,av,ax,a0,a1,a2,a3],[]⟩ [.code (jQ f25),.inLoop (jQ f25),.inBlock 2,.code ((gH f25) 7)]
def Iz(d:mN)(a:Nat)(c:Nat->Prop)(e:Frame)(f:List Frame):Prop:=∃b,kz d c b∧f=d.c::d.cs∧∃g h i j k l m n o p q r s t u v w x y z A B C D E F G I J K M N O P Q R S T U V W X Y Z ab ad ao ar av ax a0 a1 a2:Value,e=(base 25).at ⟨#[d.ws,.int .i64 d.hs,mW d.p.T d.p.b6 d.p.b7 d.p.b8,g,h,.pointer (some ⟨d.p.bM,0,none⟩),.slice none 0 0,.pointer (some ⟨d.p.bO,0,none⟩),.pointer (some ⟨d.p.bB,0,none⟩),.pointer (some ⟨d.p.Wg,0,none⟩),.slice (some ⟨b,0,none⟩) d.p.N d.p.N,.int .i64 a,i,j,k,l,m,n,o,p,q,r,s,t,u,v,w,x,y,z,A,.chan (some d.p.cO),B,C,D,E,F,(d.p.Kx prog).sv a,.chan (some d.p.cB),G,I,J,K,M,N,O,P,Q,R,S,T,U,V,W,X,Y,Z,ab,ad,ao,ar,av,ax,a0,a1,a2],[]⟩ [.inRegion (tc f25) [0,1,2,3],.code (jj (uk f25)),.inBlock 3,.inLoop (jQ f25),.inBlock 2,.code ((gH f25) 7)]
def Ix(d:mN)(b:Nat->Prop)(c:Frame)(e:List Frame):Prop:=∃a,kz d b a∧e=d.c::d.cs∧∃f g h i j k l m n o p q r s t u v w x y z A B C D E F G I J K M N O P Q R S T U V W X Y Z ab ad ao ar av ax a0 a1 a2 a3 a4:Value,c=(base 25).at ⟨#[d.ws,.int .i64 d.hs,mW d.p.T d.p.b6 d.p.b7 d.p.b8,f,g,.pointer (some ⟨d.p.bM,0,none⟩),.slice none 0 0,.pointer (some ⟨d.p.bO,0,none⟩),.pointer (some ⟨d.p.bB,0,none⟩),.pointer (some ⟨d.p.Wg,0,none⟩),.slice (some ⟨a,0,none⟩) d.p.N d.p.N,h,i,j,k,l,m,n,o,p,q,r,s,t,u,v,w,x,y,z,A,B,C,D,E,F,G,I,J,K,M,N,O,P,Q,R,S,T,U,V,W,X,Y,Z,ab,.chan (some d.p.cB),ad,ao,ar,av,ax,a0,a1,a2,a3,a4],[]⟩ [.inRegion (tf f25) [0,1],.code (jj (jR f25)),.inLoop (jR f25),.inBlock 5,.code ((gH f25) 11)]
def uE:Value:=.agg #[.int .i64 0,.slice none 0 0,.int .i64 0,.bool false]
def K3(d:mN)(b:Nat->Option Value)(c:Nat->Prop)(e:Goroutine)(f:World):Prop:=∃a,kz d c a∧f.heap[a]?=some (.cells (lU d.p.N b) 39)∧e=G (d.c.finish (.slice (some ⟨a,0,none⟩) d.p.N d.p.N)) d.cs
def Ew(d:mN)(b:Nat->Option Value)(c:Nat->Prop)(e:World):Prop:=∃a,kz d c a∧e.heap[a]?=some (.cells (lU d.p.N b) 39)
section
variable {d:mN}{O:Nat->Prop}{w a:World}{b:Nat->Option Value}{i:Nat}{c:Frame}
structure mN.Ok(d:mN)(tM:TypeId):Prop where
 ok:d.p.Ok tM
 rw:d.p.rd d.wb
 ws:∀w i,qF (d.p.Kx prog) w->i<d.p.N->w.cell? ⟨d.wb,i,none⟩=some (.slice (d.p.wo i) (d.p.wn i) (d.p.wc i))
 N:d.p.N<1000000
 cap:d.p.N<=d.wc
 BK:d.p.BK=Iz d
 Ei:d.p.Ei=Ix d
 vE:d.p.vE=Ew d
 Fin:d.p.Fin=K3 d
 zB:d.p.zB=uE
theorem xW{b:pJ}(c:dW b.rd (gz (b.Kx prog)) O w a)(d:gz (b.Kx prog) w∧qF (b.Kx prog) w):gz (b.Kx prog) a∧qF (b.Kx prog) a:=⟨c.lv d.1,λe f=>(c.qH e (I f)).trans (d.2 e f)⟩
def iq(d:mN)(a:Nat)(b:Nat->Option Value)(w:World):Prop:=(gz (d.p.Kx prog) w∧qF (d.p.Kx prog) w)∧w.heap[a]?=some (.cells (lU d.p.N b) 39)
theorem eY(g:O f):∀ {w a},iq d f b w->dW d.p.rd (gz (d.p.Kx prog)) O w a->iq d f b a:=λc e=>⟨xW e c.1,(e.qH _ (J g)).trans c.2⟩
theorem FV(i:Int)(b:Option Addr)(c d:Nat)(a:World):(Instr.build 98 #[(0,.int .i64 i),(1,.slice b c d)]).run prog a=.ok (.agg #[.int .i64 i,.slice b c d]) a:=run_build a _ _ _ wq
theorem Q0(i:Int)(b:Option Addr)(c d:Nat)(a:World):(Instr.build 98 #[(0,.int .i64 i),(1,.slice b c d)]).events prog a #[]= #[]:=by
 unfold Instr.build;simp[go_sem]
theorem Aw(h:d.Ok z)(hB:kz d O f)(hi:i<d.p.N)(e:iq d f b w)(hH:Ug d f i c):H0 (d.p.Kx prog) (yM (d.p.Kx prog) i b) 200 O (G c (d.c::d.cs)) w:=by
 have g:∀ {w a},iq d f b w->dW d.p.rd (gz (d.p.Kx prog)) O w a->iq d f b a:=eY hB.1;obtain⟨n,o,p,q,r,s,t,u,v,x,y,A,B,C,D,F,J,K,M,N,P,bn,Q,R,S,T,U,bo,bp,V,W,Y,Z,ab,ad,ao,ar,av,ax,a0,a1,a2,a3,a4,a5,a6,a7,a8,a9,ba,bb,bc,bd,bg,bk,bl,rfl⟩:=hH;have hN:=h.N;have q1:decide ((i:Int)<(d.p.N:Int))=true:=aU E
 have l:∀(n o p q r s t u v x y A B C D F J K M N P Q R S T U V W Y Z ab ad ao ar av ax a0 a1 a2 a3 a4 a5 a6 a7 a8 a9 ba bb bc bd bg bk bl:Value) (w:World),iq d f b w->yM (d.p.Kx prog) i b O (G ((base 25).at ⟨#[d.ws,.int .i64 d.hs,mW d.p.T d.p.b6 d.p.b7 d.p.b8,n,o,.pointer (some ⟨d.p.bM,0,none⟩),.slice none 0 0,.pointer (some ⟨d.p.bO,0,none⟩),.pointer (some ⟨d.p.bB,0,none⟩),.pointer (some ⟨d.p.Wg,0,none⟩),.slice (some ⟨f,0,none⟩) d.p.N d.p.N,.int .i64 i,p,q,r,s,t,u,v,x,y,A,B,C,D,F,J,K,M,N,P,.chan (some d.p.cO),Q,R,S,T,U,(d.p.Kx prog).sv i,.chan (some d.p.cB),V,W,Y,Z,ab,ad,ao,ar,av,ax,a0,a1,a2,a3,a4,a5,a6,a7,a8,a9,ba,bb,bc,bd,bg,bk,bl],[]⟩ [.inRegion (tc f25) [0,1,2,3],.code (jj (uk f25)),.inBlock 3,.inLoop (jQ f25),.inBlock 2,.code ((gH f25) 7)]) (d.c::d.cs)) w:=λn o p q r s t u v x y A B C D F J K M N P Q R S T U V W Y Z ab ad ao ar av ax a0 a1 a2 a3 a4 a5 a6 a7 a8 a9 ba bb bc bd bg bk bl w e=>⟨_,_,X,by
  show d.p.BK i O _ _;rw[h.BK];exact⟨f,hB,X,n,o,p,q,r,s,t,u,v,x,y,A,B,C,D,F,J,K,M,N,P,Q,R,S,T,U,V,W,Y,Z,ab,ad,ao,ar,av,ax,a0,a1,a2,a3,a4,a5,a6,a7,a8,a9,ba,bb,bc,bd,bg,bk,bl,X⟩,by
  show d.p.vE b O w;rw[h.vE];exact⟨f,hB,e.2⟩⟩
 unfold H0;generalize yM (d.p.Kx prog) i b=n at l ⊢;generalize (gH f25) 7=n at l ⊢;simp only[jQ,tc,uk,jj,gH,f25]at l ⊢;simp only[mN.ws]at l ⊢;refine aH (n:=40) (m:=160) ?_;repeat(first|u_c XJ g e|u_c XL g e|u_reg g e|u_cnd true g e|u_cnd false g e|u_c XN g e|u_op g e|u_skip g e)
 u_c Yc g e
 repeat(first|u_c XJ g e|u_c XL g e|u_reg g e|u_cnd true g e|u_cnd false g e|u_c XN g e|u_op g e|u_skip g e)
 refine XO (λbm j=>?_);replace e:=g e j;clear j;have m:=h.ok.Ff e.1.2;refine fb (.chan (some d.p.cO)) X X x5 (I m.rO) m.cO (λa k=>Xf) (λa k=>Xh) ?_;walk_nrm;refine gK 39 (n:=120) ?_;refine aH (n:=40) (m:=80) ?_;repeat(first|u_c XJ g e|u_c XL g e|u_reg g e|u_cnd true g e|u_cnd false g e|u_c XN g e|u_op g e|u_skip g e)
 refine XO (λbm j=>?_);replace e:=g e j;clear j;have n:=h.ws _ i e.1.2 hi;refine gK 39 (n:=41) ?_;refine fb (.slice (d.p.wo i) (d.p.wn i) (d.p.wc i)) X X x5 (I h.rw) n (λa k=>Xf) (λa k=>Xh) ?_;walk_nrm;refine fH (.agg #[.int .i64 i,.slice (d.p.wo i) (d.p.wn i) (d.p.wc i)]) X X x5 (λa k=>?_) (λa k n he=>?_) ?_
 ·have hb:=FV i (d.p.wo i) (d.p.wn i) (d.p.wc i) a;go_simp
 ·have hb:=Q0 i (d.p.wo i) (d.p.wn i) (d.p.wc i) a;simp[go_sem, *]at he
 walk_nrm;refine gK 19 (n:=20) ?_;refine aH (n:=10) (m:=10) ?_;repeat(first|u_c XJ g e|u_c XL g e|u_reg g e|u_cnd true g e|u_cnd false g e|u_c XN g e|u_op g e|u_skip g e)
 refine XO (λbm j=>?_);replace e:=g e j;clear j;have m:=h.ok.Ff e.1.2;refine fb (.chan (some d.p.cB)) X X x5 (I m.rB) m.cB (λa k=>Xf) (λa k=>Xh) ?_;walk_nrm;refine aH (n:=9) (m:=0) ?_;repeat(first|u_c XJ g e|u_c XL g e|u_reg g e|u_cnd true g e|u_cnd false g e|u_c XN g e|u_op g e|u_skip g e)
 refine XO (λbm j=>?_);replace e:=g e j;clear j;refine HG.stop (λj k=>?_);exact l _ _ _ _ _ _ _ _ _ _ _ _ _ _ _ _ _ _ _ _ _ _ _ _ _ _ _ _ _ _ _ _ _ _ _ _ _ _ _ _ _ _ _ _ _ _ _ _ _ _ _ _ _ j (g e k)
end
section
variable {d:mN}{O:Nat->Prop}{w a:World}{c:Nat->Option Value}{i:Nat}{e:Frame}{b:List Frame}{g:TypeId}
theorem wV{c:Program}{h:World->Prop}{n:Nat}{e f:Frame}{d:Act}{i:List Item}{fn:Func}(g:Value)(j:e.kind=.normal)(k:d.defers=[])(l:c.funcs[e.fn]?=some fn)(m:∀a:World,(results fn d.tmps).run c a=.ok g a)(o:∀a:World,(results fn d.tmps).events c a #[]= #[])(p:HG c C r h A n O (G (f.finish g) b) w):HG c C r h A (n+1) O (G { e.at d i with mode:=.returning } (f::b)) w:=by
 refine HG.step X λa h=>?_
 have q:stepG c C (G { e.at d i with mode:=.returning } (f::b)) a=.go (G (f.finish g) b) a #[]:=by
  simp[G,stepG,unwind,doReturn,Frame.at,j,k,l,m a,o a,GStep.after,seen_none]
 rw[q];exact⟨yU.idle r O a,by rw[kg];exact p.rely h⟩
theorem SI(h:d.Ok g)(c:Ix d O e b)(w:World):stepG prog true (G e b) w=.comm (G e b) #[rcase d.p.cB d.p.zB] true (.recv true) w #[]:=by
 obtain⟨i,_,rfl,j,k,l,m,n,o,p,q,r,s,t,u,v,x,y,z,A,B,C,D,E,F,I,J,K,M,N,P,Q,R,S,T,U,V,W,Y,Z,ab,ad,ao,ar,av,ax,a0,a1,a2,a3,a4,a5,a6,a7,a8,a9,ba,bb,bc,rfl⟩:=c;rw[h.zB];generalize jj (jR f25)=c;generalize c:(jR f25)=i;generalize (gH f25) 11=c;simp only[tf,jR,gH,jj,f25];have f:∀(c:Goroutine) (a i:Array Event),a= #[]->stepG prog true c w=GStep.comm c #[rcase d.p.cB uE] true (.recv true) w a->stepG prog true c w=GStep.comm c #[rcase d.p.cB uE] true (.recv true) w #[]:=λc a i h j=>by rw[j,h]
 refine f _ _ #[] ?_ (stepG_comm (cases:= #[rcase d.p.cB uE]) (blocking:=true) (shape:=.recv true) (w':=w) X X x5 (by go_simp;rfl));unfold listed;have c:∀a:Array Event,a= #[]->seen prog 25 a= #[]:=λa h=>by rw[h,seen_none]
 refine c _ ?_;simp[go_sem]
theorem Pz(h:d.Ok g)(n:Ix d O e b)(k:Ew d c O w)(o:gz (d.p.Kx prog) w)(mb:qF (d.p.Kx prog) w):H0 (d.p.Kx prog) (d.p.Fin c) 60 O (G (e.finish (recvd true d.p.zB false)) b) w:=by
 obtain⟨j,l,rfl,q,r,s,t,u,v,x,y,z,A,B,C,D,E,F,I,J,K,M,N,P,Q,R,S,T,U,V,W,Y,Z,ab,ad,ao,ar,av,ax,a0,a1,a2,a3,a4,a5,a6,a7,a8,a9,ba,bb,bc,bd,bg,bk,bl,bm,bn,bo,rfl⟩:=n;obtain⟨n,p,k⟩:=k;obtain rfl:=l.eq p;have i:∀ {w a},iq d j c w->dW d.p.rd (gz (d.p.Kx prog)) O w a->iq d j c a:=eY l.1;have f:iq d j c w:=⟨⟨o,mb⟩,k⟩;rw[h.Fin,h.zB,XW];have m:∀w,iq d j c w->K3 d c O (G (d.c.finish (.slice (some ⟨j,0,none⟩) d.p.N d.p.N)) d.cs) w:=λw f=>⟨j,l,f.2,X⟩
 unfold H0;generalize K3 d c=k at m ⊢;generalize d.c=k at m ⊢;simp only[recvd,tf,jR,gH,jj,f25];walk_nrm;refine aH (n:=59) (m:=1) ?_;repeat(first|u_c XJ i f|u_c XL i f|u_reg i f|u_cnd true i f|u_cnd false i f|u_c XN i f|u_op i f|u_skip i f)
 u_exit i f
 repeat(first|u_c XJ i f|u_c XL i f|u_reg i f|u_cnd true i f|u_cnd false i f|u_c XN i f|u_op i f|u_skip i f)
 u_c X3 i f
 refine XO (λl k=>?_);replace f:=i f k;clear k;refine wV (n:=0) (fn:=f25) (.slice (some ⟨j,0,none⟩) d.p.N d.p.N) X X func25 (λa=>by simp only[f25,results];go_simp) (λa=>by simp only[f25];simp[go_sem,results]) ?_;refine HG.stop (λj k=>?_);exact m j (i f k)
end
end
section
open Go.Conc Go.RowKit Go.ConcR.Gen
theorem LM{j a:Nat}:nI (λb=>if b=j then some (.agg #[t,Q,R])else D b) a=if a / 3=j then(if a % 3=0 then t else if a % 3=1 then Q else R)else nI D a:=by
 unfold nI;by_cases b:a / 3=j
 ·simp only[b,ek]
 ·simp only[b,if_false]
theorem eI(a:M<3*f):(lU f D)[M]?=some (nI D M):=by
 simp[lU,a]
theorem pT:(lU f D).size=3*f:=by simp[lU]
theorem CC{a j:Nat}(c:j<a):((((lU a D).setIfInBounds (3*j) t).setIfInBounds (3*j+1) Q).setIfInBounds (3*j+2) R)=lU a (λb=>if b=j then some (.agg #[t,Q,R])else D b):=by
 refine Array.ext_getElem? λb=>?_
 by_cases c:b<3*a
 ·rw[eI c,LM];simp only[jZ,Array.size_setIfInBounds,pT,eI c];by_cases a:3*j+2=b
  ·rw[ai a,ai E,ai E,af E,af E]
  ·rw[af a];by_cases a:3*j+1=b
   ·rw[ai a,ai E,ai E,af E,ai E]
   ·rw[af a];by_cases a:3*j=b
    ·rw[ai a,ai E,ai E,ai E]
    ·rw[af a,af E]
 ·rw[bC (by simp[pT];omega),bC (by simp[pT];omega)]
section
variable {P:Program}{g:Bool}{l:Nat->Prop}{j:World->Prop}{O:Nat->Prop}{w c:World}{e:(Nat->Prop)->Goroutine->World->Prop}{n:Nat}{F:World->Prop}{b:Frame}{a:Act}{d:Array Oper}{i:Nat}{rest:List Nat}{k:List Item}{m:List Frame}{o:Oper}
theorem zg(h:∀ {w c:World},F w->dW l j O w c->F c)(p:F w)(f:Obj)(q:d[i]?=some o)(r:Region.wanted o (yielded d a.tmps)=true)(s:b.kind≠.early)(t:∀c:World,(execOp a.eval o).run P c=.ok (.value (.pointer (some ⟨c.heap.size,0,none⟩))) { c with heap:=c.heap.push f })(u:∀c:World,(execOp a.eval o).events P c #[]= #[])(v:∀c,F c->HG P g l j e n (λy=>O y∨y=c.heap.size) (G (b.at (a.put o.dst (.pointer (some ⟨c.heap.size,0,none⟩))) (.inRegion d rest::k)) m) { c with heap:=c.heap.push f }):HG P g l j e (n+1) O (G (b.at a (.inRegion d (i::rest)::k)) m) w:=
 Fh (λ_=>f) q r s (λc _=>t c) (λc _=>u c) (λc x=>v c (h p x))
theorem nJ{x:Nat}{C C':Array Value}{f:World->World}{es:Array Event}(t:∀ {w c:World},F w->dW l j O w c->F c)(u:F w)(v:O x)(D:∀w,F w->w.heap[x]?=some (.cells C z))(E:d[i]?=some o)(J:Region.wanted o (yielded d a.tmps)=true)(K:b.kind≠.early)(q:∀c:World,c.heap[x]?=some (.cells C z)->(f c).heap[x]?=some (.cells C' z)∧(f c).heap.size=c.heap.size∧((f c).tape=c.tape∧(f c).os=c.os∧(f c).output=c.output)∧∀y,y≠x->(f c).heap[y]?=c.heap[y]?)(M:∀c:World,c.heap[x]?=some (.cells C z)->(execOp a.eval o).run P c=.ok .skip (f c))(N:∀c:World,c.heap[x]?=some (.cells C z)->(execOp a.eval o).events P c #[]=es)(Q:∀r,r∈es->∃A,r=⟨.cell ⟨x,A,none⟩,true,false⟩)(R:∀c s,F c->(∀y,y≠x->s.heap[y]?=c.heap[y]?)->s.heap.size=c.heap.size->s.heap[x]?=some (.cells C' z)->HG P g l j e n O (G (b.at (a.put o.dst undef) (.inRegion d rest::k)) m) s):HG P g l j e (n+1) O (G (b.at a (.inRegion d (i::rest)::k)) m) w:=by
 have p:∀c,dW l j O w c->c.heap[x]?=some (.cells C z):=λc h=>D c (t u h)
 refine wX f E J K (λc h=>M c (p c h)) (λc h=>⟨(q c (p c h)).2.1,(q c (p c h)).2.2.1,λy s=>(q c (p c h)).2.2.2 y λr=>s (r▸v)⟩) (λc h r B=>?_) (λc h=>R c _ (t u h) (q c (p c h)).2.2.2 (q c (p c h)).2.1 (q c (p c h)).1);rw[N c (p c h)]at B;obtain⟨A,rfl⟩:=Q r B;exact⟨X,aC (p c h),I v⟩
end
section
variable {d:mN}{O:Nat->Prop}{w c:World}{b:Nat->Option Value}{a x:Nat}{e:TypeId}
theorem o9(g:d.Ok e)(h:∀f,f<w.heap.size->f≠x->c.heap[f]?=w.heap[f]?)(i:¬d.p.rd x∧x≠a∧x≠d.p.Wg)(j:iq d a b w):iq d a b c:=by
 obtain⟨⟨⟨n,o,k⟩,l⟩,m⟩:=j;have p:=g.ok.Ff l;refine⟨⟨⟨n,o,?_⟩,λf j=>?_⟩,?_⟩
 ·exact(h _ (aC k) λg=>i.2.2 g.symm).trans k
 ·exact(h f (p.lt f j) λg=>i.1 (g▸j)).trans (l f j)
 ·exact(h a (aC m) λg=>i.2.1 g.symm).trans m
end
end
section
open Go.Conc Go.RowKit Go.ConcR.Gen
open Go.ConcN.Gen
section
variable {d:mN}{O:Nat->Prop}{w c:World}{a:Nat->Option Value}{i j:Nat}{b:Frame}{g:List Frame}{k:TypeId}{o:Option Addr}{n m:Nat}{e:Int}{l:Bool}
theorem N5:DW S 1 t C i=.tuple #[.int .i64 1,.bool C,t]:=by
 simp[DW,commResult,scase,rcase,goInt]
theorem N4:DW S 0 t C i=.tuple #[.int .i64 0,.bool C,S.zB]:=by
 simp[DW,commResult,scase,rcase,goInt]
theorem PC(h:d.Ok k)(hR:Iz d i O b g)(hG:Ew d a O w)(bg:gz (d.p.Kx prog) w)(mb:qF (d.p.Kx prog) w)(hN:∀l w b,kz d O l->iq d l a w->Ug d l (i+1) b->H0 (d.p.Kx prog) A f O (G b (d.c::d.cs)) w)(hi:i<d.p.N):H0 (d.p.Kx prog) A (f+60) O (G (b.finish (DW (d.p.Kx prog) 0 undef false i)) g) w:=by
 obtain⟨l,hB,rfl,m,n,o,p,q,r,s,t,u,v,x,y,z,B,C,D,E,F,I,J,K,M,N,P,Q,R,S,T,U,V,W,Y,Z,ab,ad,ao,ar,av,ax,a0,a1,a2,a3,a4,a5,a6,a7,a8,a9,ba,bb,bc,bd,rfl⟩:=hR;obtain⟨bl,bk,hG⟩:=hG;obtain rfl:=hB.eq bk;have j:∀ {w c},iq d l a w->dW d.p.rd (gz (d.p.Kx prog)) O w c->iq d l a c:=eY hB.1;have e:iq d l a w:=⟨⟨bg,mb⟩,hG⟩;have bg:=h.N;have z1:IntKind.i64.wrap ((i:Int)+1)=((i+1:Nat):Int):=by simp only[IntKind.wrap,go_sem];simp;omega
 rw[XW,N4];have hS:∀(m n o p q r s t u v x y z B C D E F I J K bg M N P Q R bk bl S T U V W Y Z ab ad ao ar av ax a0 a1 a2 a3 a4 a5 a6 a7 a8 a9 ba bb bc bd:Value) (w:World),iq d l a w->HG prog true d.p.rd (gz (d.p.Kx prog)) A f O (G ((base 25).at ⟨#[d.ws,.int .i64 d.hs,mW d.p.T d.p.b6 d.p.b7 d.p.b8,m,n,.pointer (some ⟨d.p.bM,0,none⟩),.slice none 0 0,.pointer (some ⟨d.p.bO,0,none⟩),.pointer (some ⟨d.p.bB,0,none⟩),.pointer (some ⟨d.p.Wg,0,none⟩),.slice (some ⟨l,0,none⟩) d.p.N d.p.N,.int .i64 ((i+1:Nat):Int),o,p,q,r,s,t,u,v,x,y,z,B,C,D,E,F,I,J,K,bg,M,N,P,Q,R,bk,bl,S,T,U,V,W,Y,Z,ab,ad,ao,ar,av,ax,a0,a1,a2,a3,a4,a5,a6,a7,a8,a9,ba,bb,bc,bd],[]⟩ [.code (jQ f25),.inLoop (jQ f25),.inBlock 2,.code ((gH f25) 7)]) (d.c::d.cs)) w:=λm n o p q r s t u v x y z B C D E F I J K bg M N P Q R bk bl S T U V W Y Z ab ad ao ar av ax a0 a1 a2 a3 a4 a5 a6 a7 a8 a9 ba bb bc bd w e=>hN l w _ hB e ⟨m,n,o,p,q,r,s,t,u,v,x,y,z,B,C,D,E,F,I,J,K,bg,M,N,P,Q,R,bk,bl,S,T,U,V,W,Y,Z,ab,ad,ao,ar,av,ax,a0,a1,a2,a3,a4,a5,a6,a7,a8,a9,ba,bb,bc,bd,X⟩
 clear hN;unfold H0;generalize (gH f25) 7=l at hS ⊢;generalize l:(jQ f25)=m at hS ⊢;simp only[tc,uk,jQ,gH,jj,f25];walk_nrm;refine aH (n:=60) (m:=f) ?_;repeat(first|u_c XJ j e|u_c XL j e|u_reg j e|u_cnd true j e|u_cnd false j e|u_c XN j e|u_op j e|u_skip j e)
 u_c Yc j e
 repeat(first|u_c XJ j e|u_c XL j e|u_reg j e|u_cnd true j e|u_cnd false j e|u_c XN j e|u_op j e|u_skip j e)
 u_c Yh j e
 u_c Yh j e
 u_c YC j e
 refine XO (λl m=>?_);exact hS _ _ _ _ _ _ _ _ _ _ _ _ _ _ _ _ _ _ _ _ _ _ _ _ _ _ _ _ _ _ _ _ _ _ _ _ _ _ _ _ _ _ _ _ _ _ _ _ _ _ _ _ _ _ _ _ l (j e m)
end
section
variable {d:mN}{O:Nat->Prop}{w a:World}{g:Nat->Option Value}{i j:Nat}{k:Frame}{m:List Frame}{n:TypeId}{go:Option Addr}{c b:Nat}{e:Int}{l:Bool}
def IA(a:Nat)(w:World):Prop:=w.heap[a]?=some (.cells #[.int .i64 0,.slice none 0 0,.int .i64 0,.bool false] 100)
def yx(a j:Nat)(go:Option Addr)(c b:Nat)(e:Int)(l:Bool)(w:World):Prop:=w.heap[a]?=some (.cells #[.int .i64 j,.slice go c b,.int .i64 e,.bool l] 100)
theorem PF(h:d.Ok n)(hR:Iz d i O k m)(hG:Ew d g O w)(cq:gz (d.p.Kx prog) w)(mb:qF (d.p.Kx prog) w)(hj:j<d.p.N)(hN:∀O q w k,kz d O q->iq d q (λp=>if p=j then some (.agg #[.slice go c b,.int .i64 e,.bool l])else g p) w->Ug d q i k->H0 (d.p.Kx prog) A f O (G k (d.c::d.cs)) w):H0 (d.p.Kx prog) A (f+200) O (G (k.finish (DW (d.p.Kx prog) 1 (.agg #[.int .i64 j,.slice go c b,.int .i64 e,.bool l]) true i)) m) w:=by
 obtain⟨q,z,rfl,v3,v4,ao,ar,av,ax,a0,a1,a2,a3,a4,a5,a6,a7,a8,a9,ba,bb,bc,bd,bg,bk,bl,bm,bn,bo,bp,bs,bw,bx,bz,bA,bB,bE,bM,bN,bO,bQ,bS,bY,b0,b1,b2,b3,b4,b6,b7,b8,ca,cb,cc,cf,cl,rfl⟩:=hR;obtain⟨cw,cr,hG⟩:=hG;obtain rfl:=z.eq cr;have t:∀ {w a},iq d q g w->dW d.p.rd (gz (d.p.Kx prog)) O w a->iq d q g a:=eY z.1;have o:iq d q g w:=⟨⟨cq,mb⟩,hG⟩;have cq:=h.N;rw[XW,N5];have hS:∀(v3 v4 ao ar av ax a0 a1 a2 a3 a4 a5 a6 a7 a8 a9 ba bb bc bd bg cq bk bl bm bn bo cr cw bp bs bw bx bz bA bB bE bM bN bO bQ bS bY b0 b1 b2 b3 b4 b6 b7 b8 ca cb cc cf cl:Value) (O:Nat->Prop) (w:World),kz d O q->iq d q (λp=>if p=j then some (.agg #[.slice go c b,.int .i64 e,.bool l])else g p) w->HG prog true d.p.rd (gz (d.p.Kx prog)) A f O (G ((base 25).at ⟨#[d.ws,.int .i64 d.hs,mW d.p.T d.p.b6 d.p.b7 d.p.b8,v3,v4,.pointer (some ⟨d.p.bM,0,none⟩),.slice none 0 0,.pointer (some ⟨d.p.bO,0,none⟩),.pointer (some ⟨d.p.bB,0,none⟩),.pointer (some ⟨d.p.Wg,0,none⟩),.slice (some ⟨q,0,none⟩) d.p.N d.p.N,.int .i64 i,ao,ar,av,ax,a0,a1,a2,a3,a4,a5,a6,a7,a8,a9,ba,bb,bc,bd,bg,cq,bk,bl,bm,bn,bo,cr,cw,bp,bs,bw,bx,bz,bA,bB,bE,bM,bN,bO,bQ,bS,bY,b0,b1,b2,b3,b4,b6,b7,b8,ca,cb,cc,cf,cl],[]⟩ [.code (jQ f25),.inLoop (jQ f25),.inBlock 2,.code ((gH f25) 7)]) (d.c::d.cs)) w:=λv3 v4 ao ar av ax a0 a1 a2 a3 a4 a5 a6 a7 a8 a9 ba bb bc bd bg cq bk bl bm bn bo cr cw bp bs bw bx bz bA bB bE bM bN bO bQ bS bY b0 b1 b2 b3 b4 b6 b7 b8 ca cb cc cf cl O w z o=>hN O q w _ z o ⟨v3,v4,ao,ar,av,ax,a0,a1,a2,a3,a4,a5,a6,a7,a8,a9,ba,bb,bc,bd,bg,cq,bk,bl,bm,bn,bo,cr,cw,bp,bs,bw,bx,bz,bA,bB,bE,bM,bN,bO,bQ,bS,bY,b0,b1,b2,b3,b4,b6,b7,b8,ca,cb,cc,cf,cl,X⟩
 clear hN;unfold H0;generalize (gH f25) 7=c7 at hS ⊢;generalize hL:(jQ f25)=L2 at hS ⊢;simp only[tc,uk,jQ,gH,jj,f25];walk_nrm;refine aH (n:=40) (m:=f+160) ?_;repeat(first|u_c XJ t o|u_c XL t o|u_reg t o|u_cnd true t o|u_cnd false t o|u_c XN t o|u_op t o|u_skip t o)
 u_c Yc t o
 repeat(first|u_c XJ t o|u_c XL t o|u_reg t o|u_cnd true t o|u_cnd false t o|u_c XN t o|u_op t o|u_skip t o)
 refine XO (λR v=>?_);replace o:=t o v;clear v;refine gK 59 (n:=f+101) ?_;refine zg t o (.cells #[.int .i64 0,.slice none 0 0,.int .i64 0,.bool false] 100) X X x5 (λa=>Xf) (λa=>Xr) (λa M=>?_);have⟨p,hx⟩:=eaa (a.heap.size);have cy:=h.ok.Ff M.1.2;have cz:¬d.p.rd p:=λS=>by have:=cy.lt p S;omega
 have cA:p≠q:=by have:=aC M.2;omega
 have cB:p≠d.p.Wg:=by
  obtain⟨st,sm,T⟩:=M.1.1;have:d.p.Wg<a.heap.size:=aC T;omega
 have cm:kz d (λy=>O y∨y=p) q:=⟨I z.1,λC F=>F.elim (z.2.1 C) λe=>by have:=aC M.2;omega,z.2.2⟩
 have cx:iq d q g { a with heap:=a.heap.push (.cells #[.int .i64 0,.slice none 0 0,.int .i64 0,.bool false] 100)}∧IA p { a with heap:=a.heap.push (.cells #[.int .i64 0,.slice none 0 0,.int .i64 0,.bool false] 100)}:=by
  refine⟨o9 (x:=p) h (λC F _=>?_) ⟨cz,cA,cB⟩ M,?_⟩
  ·show(a.heap.push _)[C]?=_;rw[cv,af E]
  ·subst hx;show(a.heap.push _)[a.heap.size]?=_;simp
 rw[<-hx];clear o cy;generalize t:({ a with heap:=a.heap.push (.cells #[.int .i64 0,.slice none 0 0,.int .i64 0,.bool false] 100)}:World)=U at cx ⊢;clear t M hx;have cM:∀ {w a},(iq d q g w∧IA p w)->dW d.p.rd (gz (d.p.Kx prog)) (λy=>O y∨y=p) w a->(iq d q g a∧IA p a):=λh V=>⟨eY cm.1 h.1 V,(V.qH p (J (J X))).trans h.2⟩
 walk_nrm;refine nJ (x:=p) (C':= #[.int .i64 j,.slice go c b,.int .i64 e,.bool l]) (f:=λw=>(((w.setCell ⟨p,0,none⟩ (.int .i64 j)).setCell ⟨p,1,none⟩ (.slice go c b)).setCell ⟨p,2,none⟩ (.int .i64 e)).setCell ⟨p,3,none⟩ (.bool l)) (es:= #[⟨.cell ⟨p,0,none⟩,true,false⟩,⟨.cell ⟨p,1,none⟩,true,false⟩,⟨.cell ⟨p,2,none⟩,true,false⟩,⟨.cell ⟨p,3,none⟩,true,false⟩]) cM cx (J X) (λw h=>h.2) X X x5 (λa r=>?_) (λa r=>?_) (λa r=>?_) (λcp K=>?_) (λa U W N hz Y=>?_)
 ·refine⟨cD (cD (cD (cD r 0 _) 1 _) 2 _) 3 _,by rw[size_setCell,size_setCell,size_setCell,size_setCell],⟨X,X,X⟩,λy D=>by rw[heap_setCell,af D,heap_setCell,af D,heap_setCell,af D,heap_setCell,af D]⟩
 ·have c0:=cell_of (o:=0) r X;have f0:=bF r 0;have u:=cD r 0 (.int .i64 j);have P:=cell_of (o:=1) u X;have f1:=bF u 1;have x:=cD u 1 (.slice go c b);have Q:=cell_of (o:=2) x X;have f2:=bF x 2;have Z:=cD x 2 (.int .i64 e);have c3:=cell_of (o:=3) Z X;have f3:=bF Z 3;go_simp
 ·have c0:=cell_of (o:=0) r X;have f0:=bF r 0;have u:=cD r 0 (.int .i64 j);have P:=cell_of (o:=1) u X;have f1:=bF u 1;have x:=cD u 1 (.slice go c b);have Q:=cell_of (o:=2) x X;have f2:=bF x 2;have Z:=cD x 2 (.int .i64 e);have c3:=cell_of (o:=3) Z X;have f3:=bF Z 3;simp[go_sem, *];rw[X8 (hv:=rfl),X8 (hv:=rfl),P,c3];simp only[f1,f3];rfl
 ·simp only[aF,az,aD,bP]at K;rcases K with rfl|rfl|rfl|rfl<;>exact⟨_,X⟩
 ·replace o:iq d q g U∧yx p j go c b e l U:=⟨o9 (x:=p) h (λC _ F=>N C F) ⟨cz,cA,cB⟩ W.1,Y⟩;clear W N hz Y cx cM;have s:∀ {w a},(iq d q g w∧yx p j go c b e l w)->dW d.p.rd (gz (d.p.Kx prog)) (λy=>O y∨y=p) w a->(iq d q g a∧yx p j go c b e l a):=λh V=>⟨eY cm.1 h.1 V,(V.qH p (J (J X))).trans h.2⟩
  walk_nrm;refine aH (n:=30) (m:=f+69) ?_;repeat(first|u_c XJ s o|u_c XL s o|u_reg s o|u_cnd true s o|u_cnd false s o|u_c XN s o|u_op s o|u_skip s o)
  refine XO (λR v=>?_);replace o:=s o v;clear v;refine gK 10 (n:=f+59) ?_;refine fb (.int .i64 j) X X x5 (J (J X)) (cell_of (o:=0) o.2 X) (λa r=>Xf) (λa r=>Xh) ?_;walk_nrm;refine aH (n:=9) (m:=f+49) ?_;u_op s o;refine XO (λR v=>?_);replace o:=s o v;clear v;refine fH (.agg #[.slice go c b,.int .i64 e,.bool l]) X X x5 (λa r=>?_) (λa r cp K=>?_) ?_
  ·have B:=(s o r).2;unfold yx at B;have P:=cell_of (o:=1) B X;have Q:=cell_of (o:=2) B X;have c3:=cell_of (o:=3) B X;go_simp
  ·have B:=(s o r).2;unfold yx at B;have T:=aC B;have P:=cell_of (o:=1) B X;have Q:=cell_of (o:=2) B X;have c3:=cell_of (o:=3) B X
   have h0:∀t:Array Event,t= #[⟨.cell ⟨p,1,none⟩,false,false⟩,⟨.cell ⟨p,2,none⟩,false,false⟩,⟨.cell ⟨p,3,none⟩,false,false⟩]->cp∈t->BS d.p.rd (λy=>O y∨y=p) a.heap.size cp:=λt h0 hm=>by
    rw[h0]at hm;simp only[aF,az,aD,bP]at hm;rcases hm with rfl|rfl|rfl<;>exact⟨X,T,I (J X)⟩
   refine h0 _ ?_ K;simp[go_sem, *]
  walk_nrm;refine aH (n:=20) (m:=f+28) ?_;repeat(first|u_c XJ s o|u_c XL s o|u_reg s o|u_cnd true s o|u_cnd false s o|u_c XN s o|u_op s o|u_skip s o)
  refine XO (λR v=>?_);replace o:=s o v;clear v;refine nJ (x:=q) (C:=lU d.p.N g) (C':=lU d.p.N λp=>if p=j then some (.agg #[.slice go c b,.int .i64 e,.bool l])else g p) (f:=λw=>((w.setCell ⟨q,j*3,none⟩ (.slice go c b)).setCell ⟨q,j*3+1,none⟩ (.int .i64 e)).setCell ⟨q,j*3+2,none⟩ (.bool l)) (es:= #[⟨.cell ⟨q,j*3,none⟩,true,false⟩,⟨.cell ⟨q,j*3+1,none⟩,true,false⟩,⟨.cell ⟨q,j*3+2,none⟩,true,false⟩]) s o (I z.1) (λw h=>h.1.2) X X x5 (λa r=>?_) (λa r=>?_) (λa r=>?_) (λcp K=>?_) (λa U W N hz Y=>?_)
  ·refine⟨?_,Xv,⟨X,X,X⟩,λy D=>by rw[heap_setCell,af D,heap_setCell,af D,heap_setCell,af D]⟩;have:=cD (cD (cD r (j*3) (.slice go c b)) (j*3+1) (.int .i64 e)) (j*3+2) (.bool l);rw[yi j 3,CC hj]at this;rw[yi j 3];exact this
  ·have c0:=cell_of (o:=j*3) r (eI E);have f0:=bF r (j*3);have u:=cD r (j*3) (.slice go c b);have P:=cell_of (o:=j*3+1) (v:=nI g (j*3+1)) u Xw;have f1:=bF u (j*3+1);have x:=cD u (j*3+1) (.int .i64 e);have Q:=cell_of (o:=j*3+2) (v:=nI g (j*3+2)) x Xs;have f2:=bF x (j*3+2);clear o;go_simp
  ·have c0:=cell_of (o:=j*3) r (eI E);have f0:=bF r (j*3);have u:=cD r (j*3) (.slice go c b);have P:=cell_of (o:=j*3+1) (v:=nI g (j*3+1)) u Xw;have f1:=bF u (j*3+1);have x:=cD u (j*3+1) (.int .i64 e);have Q:=cell_of (o:=j*3+2) (v:=nI g (j*3+2)) x Xs;have f2:=bF x (j*3+2);clear o;simp[go_sem, *];rw[X8 (hv:=rfl),X8 (hv:=rfl),c0,Q];simp only[f0,f2];rfl
  ·simp only[aF,az,aD,bP]at K;rcases K with rfl|rfl|rfl<;>exact⟨_,X⟩
  ·have ab:iq d q (λp=>if p=j then some (.agg #[.slice go c b,.int .i64 e,.bool l])else g p) U:=by
    obtain⟨⟨⟨st,sm,T⟩,r⟩,t⟩:=W.1;refine⟨⟨⟨st,sm,(N _ λS=>?_).trans T⟩,λC F=>(N C λS=>?_).trans (r C F)⟩,Y⟩
    ·exact z.2.2.2.1 S.symm
    ·exact z.2.2.1 (S▸F)
   clear W N hz Y o s;have ad:∀ {w a},iq d q (λp=>if p=j then some (.agg #[.slice go c b,.int .i64 e,.bool l])else g p) w->dW d.p.rd (gz (d.p.Kx prog)) (λy=>O y∨y=p) w a->iq d q (λp=>if p=j then some (.agg #[.slice go c b,.int .i64 e,.bool l])else g p) a:=eY cm.1;walk_nrm;refine aH (n:=27) (m:=f) ?_;u_c XJ ad ab;u_c Yh ad ab;u_c Yh ad ab;u_c YC ad ab;refine XO (λR v=>?_);exact hS _ _ _ _ _ _ _ _ _ _ _ _ _ _ _ _ _ _ _ _ _ _ _ _ _ _ _ _ _ _ _ _ _ _ _ _ _ _ _ _ _ _ _ _ _ _ _ _ _ _ _ _ _ _ _ _ _ R cm (ad ab v)
end
end
section
open Go.Conc Go.RowKit Go.ConcR.Gen
section
variable {d:mN}{O:Nat->Prop}{i:Nat}{b:Frame}{a:List Frame}{c:TypeId}
theorem SJ(h:d.Ok c)(g:Iz d i O b a)(e:World):stepG prog true (G b a) e=.comm (G b a) #[scase d.p.cO ((d.p.Kx prog).sv i) pG,rcase d.p.cB d.p.zB] true .select e #[]:=by
 obtain⟨k,_,rfl,l,m,n,o,p,q,r,s,t,u,v,w,x,y,z,A,B,C,D,E,F,I,J,K,M,N,P,Q,R,S,T,U,V,W,Y,Z,ab,ad,ao,ar,av,ax,a0,a1,a2,a3,a4,a5,a6,a7,a8,a9,ba,rfl⟩:=g;rw[h.zB];generalize jj (uk f25)=g;generalize g:(jQ f25)=k;generalize (gH f25) 7=g;simp only[tc,uk,jQ,gH,jj,f25];have j:∀(g:Goroutine) (f k:Array Event),f= #[]->stepG prog true g e=GStep.comm g #[scase d.p.cO ((d.p.Kx prog).sv i) pG,rcase d.p.cB uE] true .select e f->stepG prog true g e=GStep.comm g #[scase d.p.cO ((d.p.Kx prog).sv i) pG,rcase d.p.cB uE] true .select e #[]:=λg f k h l=>by rw[l,h]
 refine j _ _ #[] ?_ (stepG_comm (cases:= #[scase d.p.cO ((d.p.Kx prog).sv i) pG,rcase d.p.cB uE]) (blocking:=true) (shape:=.select) (w':=e) X X x5 (by go_simp;exact⟨X,X⟩));unfold listed;have e:∀f:Array Event,f= #[]->seen prog 25 f= #[]:=λf h=>by rw[h,seen_none]
 refine e _ ?_;simp[go_sem]
