/- Texts of ours, one behind the other: ZE1 ZE2 ZE3 ZE4 ZE5 ZE6 ZE7 ZE8 ZE9 ZE10 ZE11 ZE12 ZE13 ZE14 ZE15 ZE16 ZE17 ZE18. -/
import Derived.Test.YtedifobeggabnaaGreatChecked
import Derived.Test.YtedifobeggabnaaGreatCbZD8
namespace Go.Proofs.YtedifobeggabnaaGreat
set_option maxHeartbeats 4000000
set_option maxRecDepth 100000
open Tryz
variable {t V:World}{j a4:Nat}{p r v A B C M N W Y Q ab ad R S a3:Value}{ao:Frame}{ar:Array Value}{z:TypeId}{av:Array Event}{K a0 a2:Nat->Prop}{f:Nat->Bool}{ax:List Nat}
abbrev XJ:=@Go.Conc.stepG_region_end
abbrev XL:=@Go.Conc.stepG_seq
abbrev XN:=@Go.Conc.stepG_skip
abbrev XO:=@Go.Conc.Goes.stop
abbrev XW:=@Go.Frame.finish_at
abbrev X3:=@Go.Conc.stepG_ret'
abbrev X8:=@Go.events_store
abbrev Yc:=@Go.Conc.stepG_block
abbrev Yo:=@Go.Conc.enter_at
theorem wq{a:Prop}(b:a:=by kernel_rfl):a:=b
theorem Xf{a:Prop}(h:a:=by go_simp):a:=h
theorem Xh{a:Prop}(h:a:=by simp[go_sem, *]):a:=h
theorem Xr{a:Prop}(h:a:=by simp[go_sem]):a:=h
theorem Xv{a:Prop}(b:a:=by rw[size_setCell,size_setCell,size_setCell]):a:=b
theorem Xz{a:Prop}(b:a:=by rw[show(dO f28).size=6 by kernel_rfl];simp):a:=b
def iY:Go.Conc.Lib.WgLink:={ add:=49,done:=51,wait:=53,relMerge:=68,disable:=69,enable:=70,inBubble:=71,associate:=72,fatal:=73,uOr:=74,uAdd:=75,raceRead:=76,uLoad:=77,uStore:=78,disassociate:=79,semrelease:=80,acquire:=81,isAssociated:=82,uCas:=83,raceWrite:=84,semacquire:=85,orU64:=96,addU64:=97,loadU64:=98,storeU64:=99,casU64:=100,tWgP:=120,tUP:=122,tAssoc:=124,tWg:=94,tAU:=91,tU64:=89,tUint:=128,tU32:=92,tPU32:=129,tPAU:=143,tPU64:=145,tNoCopy:=88,tANoCopy:=57,tAlign64:=58 }
theorem OL:Go.Conc.Lib.WgLib prog iY:=
 ⟨func49,func51,func53,func68,func69,func70,func71,func72,func73,func74,func75,func76,func77,func78,func79,func80,func81,func82,func83,func84,func85,func96,func97,func98,func99,func100,underlying120,runUnderlying120,sizeOf120,isAgg120,zeroValue120,underlying122,runUnderlying122,sizeOf122,isAgg122,zeroValue122,underlying124,runUnderlying124,sizeOf124,isAgg124,zeroValue124,underlying94,runUnderlying94,sizeOf94,isAgg94,zeroValue94,underlying91,runUnderlying91,sizeOf91,isAgg91,zeroValue91,underlying89,runUnderlying89,sizeOf89,isAgg89,zeroValue89,underlying128,runUnderlying128,sizeOf128,isAgg128,zeroValue128,underlying92,runUnderlying92,sizeOf92,isAgg92,zeroValue92,underlying129,runUnderlying129,sizeOf129,isAgg129,zeroValue129,underlying143,runUnderlying143,sizeOf143,isAgg143,zeroValue143,underlying145,runUnderlying145,sizeOf145,isAgg145,zeroValue145,underlying0,runUnderlying0,sizeOf0,isAgg0,zeroValue0,underlying3,runUnderlying3,sizeOf3,isAgg3,zeroValue3,underlying4,runUnderlying4,sizeOf4,isAgg4,zeroValue4,underlying9,runUnderlying9,sizeOf9,isAgg9,zeroValue9,underlying20,runUnderlying20,sizeOf20,isAgg20,zeroValue20,underlying21,runUnderlying21,sizeOf21,isAgg21,zeroValue21,wq,wq⟩
section
open Go.Conc Go.RowKit Go.ConcR.Gen
structure kx(Wg bO bB bM cO cB T b6 b7 b8:Nat)(rd:Nat->Prop)(w:World):Prop where
 cO:w.cell? ⟨bO,0,none⟩=some (.chan (some cO))
 cB:w.cell? ⟨bB,0,none⟩=some (.chan (some cB))
 cM:w.cell? ⟨bM,0,none⟩=some (.func (.func 27) #[] #[.pointer (some ⟨T,0,none⟩),.pointer (some ⟨b6,0,none⟩),.pointer (some ⟨b7,0,none⟩),.pointer (some ⟨b8,0,none⟩)])
 rO:rd bO
 rB:rd bB
 rM:rd bM
 lt:∀b,rd b->b<w.heap.size
theorem ie(b:V.heap[j]?=t.heap[j]?)(a:Nat):V.cell? ⟨j,a,none⟩=t.cell? ⟨j,a,none⟩:=by simp[World.cell?,b]
section
variable {a d b c k l T e g i:Nat}{n:Nat->Prop}{Lv:World->Prop}{O:Nat->Prop}{w m:World}{o:(Nat->Prop)->Goroutine->World->Prop}
theorem kx.rely(f:kx a d b c k l T e g i n w)(h:dW n Lv O w m):kx a d b c k l T e g i n m:=
 ⟨(ie (h.qH _ (I f.rO)) 0).trans f.cO,(ie (h.qH _ (I f.rB)) 0).trans f.cB,(ie (h.qH _ (I f.rM)) 0).trans f.cM,f.rO,f.rB,f.rM,λj o=>aj (f.lt j o) h.size⟩
def dv(a:Func):Code:=match a.body with|some (.seq _ (.block _ (.loop b)))=>b|_=> .skip
def Eb(a:Func):Array Oper:=match dv a with |.seq (.region _ b _) _=>b|_ =>#[]
def dS(a:Func):Code:=match dv a with |.seq _ b=>b|_=> .skip
def lh(a:Func):List Item:=[.inRegion (Eb a) [0,1],.code (dS a),.inLoop (dv a),.inBlock 0]
def LQ(a:Func):Array Oper:=match a.body with|some (.seq _ (.region _ b _))=>b|_ =>#[]
def fZ(a:Program):Frame:={ (default:Frame)with fn:=a.funcs.size,defers:=[],mode:=.panicking [goexitEntry]}
def wR(a d b c:Nat):Deferred:={ target:=.fn (.func 50) #[.pointer (some ⟨a,0,none⟩),.pointer (some ⟨d,0,none⟩),.pointer (some ⟨b,0,none⟩),.pointer (some ⟨c,0,none⟩)],args:= #[]}
def mW(T e g i:Nat):Value:=.func (.func 27) #[] #[.pointer (some ⟨T,0,none⟩),.pointer (some ⟨e,0,none⟩),.pointer (some ⟨g,0,none⟩),.pointer (some ⟨i,0,none⟩)]
def mz(f:Func)(a d b c k l T e g i:Nat):Frame:=
 (baseD 50).at ⟨#[.pointer (some ⟨a,0,none⟩),.pointer (some ⟨d,0,none⟩),.pointer (some ⟨b,0,none⟩),.pointer (some ⟨c,0,none⟩),.chan (some k),.chan (some l),mW T e g i,undef],[dcall 51 #[.pointer (some ⟨a,0,none⟩)]]⟩ [.inRegion (LQ f) [3]]
def K8(a d b c k l T e g i:Nat)(f:Frame)(h:List Frame):Prop:=
 (∃j m n o p q r s t u v w x y z:Value,f=(base 52).at ⟨#[.chan (some k),.chan (some l),mW T e g i,j,m,n,o,.chan (some k),p,q,r,s,t,u,v,w,x,y,z],[]⟩ (lh f52))∧h=[(mz f50) a d b c k l T e g i,(fZ prog)]
def Gz(a d b c k l T e g i:Nat)(_:Nat->Prop)(f:Goroutine)(_:World):Prop:=f.status=.running∧f.dying=none∧K8 a d b c k l T e g i f.frame f.callers
theorem I2(w:World):stepG prog false (born prog (wR a d b c)) w=.go (G (Frame.enter prog 50 #[.pointer (some ⟨a,0,none⟩),.pointer (some ⟨d,0,none⟩),.pointer (some ⟨b,0,none⟩),.pointer (some ⟨c,0,none⟩)] .deferred) [(fZ prog)]) w #[]:=by
 simp[born,wR,stepG,unwind,callDeferred,invoke,callFunc,func50,f50,seen,GStep.after,G,fZ]
theorem Fc(f:kx a d b c k l T e g i n w):∃o,HG prog false n Lv (Gz a d b c k l T e g i) o dU (born prog (wR a d b c)) w:=by
 refine⟨301,HG.step X λm h=>?_⟩;rw[I2 m,enter_atD _ func50 X];refine⟨yU.idle n dU m,?_⟩;rw[kg];replace f:=kx.rely f h;clear h;generalize p:m=w;subst p
 walk_nrmf f50
 refine aH (n:=20) (m:=280) ?_;u_c XL kx.rely f;u_reg kx.rely f
 u_defer kx.rely f
 u_c XJ kx.rely f
 u_reg kx.rely f
 refine XO (λq j=>?_);replace f:=kx.rely f j;clear j;refine fb (.chan (some k)) X X x5 (I f.rO) f.cO (λm h=>Xf) (λm h=>Xh) ?_;walk_nrm;refine fb (.chan (some l)) X X x5 (I f.rB) f.cB (λm h=>Xf) (λm h=>Xh) ?_;walk_nrm;refine fb (mW T e g i) X X x5 (I f.rM) f.cM (λm h=>Xf) (λm h=>Xh) ?_;walk_nrm;refine aH (n:=20) ?_
 u_call func52 wq f52 kx.rely f
 u_c XL kx.rely f
 u_reg kx.rely f
 u_op kx.rely f
 u_c XJ kx.rely f
 u_c Yc kx.rely f
 u_c stepG_loop kx.rely f
 u_c XL kx.rely f
 u_reg kx.rely f
 refine XO (λq j=>?_);refine HG.stop (λf h=>?_);exact⟨X,X,⟨_,_,_,_,_,_,_,_,_,_,_,_,_,_,_,X⟩,X⟩
end
def pG:Value:=.agg #[.int .i64 0,.slice none 0 0]
section
variable {g l i k a e T b c d:Nat}{m:Nat->Prop}{Lv:World->Prop}{O:Nat->Prop}{w q:World}{Stop:(Nat->Prop)->Goroutine->World->Prop}{o:Frame}{n:List Frame}
theorem LP(h:K8 g l i k a e T b c d o n)(w:World):stepG prog false (G o n) w=.comm (G o n) #[rcase a pG] true (.recv true) w #[]:=by
 obtain⟨⟨j,m,p,q,r,s,t,u,v,x,y,z,A,B,C,rfl⟩,rfl⟩:=h;simp only[lh,Eb,dS,dv,f52];refine(stepG_comm (cases:= #[rcase a pG]) (blocking:=true) (shape:=.recv true) (w':=w) X X x5 (by go_simp;rfl)).trans ?_;have D:∀f:Array Event,f= #[]->GStep.comm (G ((base 52).at ⟨#[.chan (some a),.chan (some e),mW T b c d,j,m,p,q,.chan (some a),r,s,t,u,v,x,y,z,A,B,C],[]⟩ (lh f52)) [(mz f50) g l i k a e T b c d,(fZ prog)]) #[rcase a pG] true (.recv true) w f=GStep.comm (G ((base 52).at ⟨#[.chan (some a),.chan (some e),mW T b c d,j,m,p,q,.chan (some a),r,s,t,u,v,x,y,z,A,B,C],[]⟩ (lh f52)) [(mz f50) g l i k a e T b c d,(fZ prog)]) #[rcase a pG] true (.recv true) w #[]:=λf h=>by rw[h]
 refine D _ ?_;unfold listed;have j:∀f:Array Event,f= #[]->seen prog 52 f= #[]:=λf h=>by rw[h,seen_none]
 refine j _ ?_;simp[go_sem]
theorem I4(f:kx g l i k a e T b c d m w)(r:Lv w)(j:K8 g l i k a e T b c d o n)(s:∀w,kx g l i k a e T b c d m w->Lv w->Stop dU (G ((baseD 51).at ⟨#[.pointer (some ⟨g,0,none⟩),U,U,U],[]⟩ [.code (Go.ConcR.Gen.body_done iY)]) [{ (baseD 50).at ⟨#[.pointer (some ⟨g,0,none⟩),.pointer (some ⟨l,0,none⟩),.pointer (some ⟨i,0,none⟩),.pointer (some ⟨k,0,none⟩),.chan (some a),.chan (some e),mW T b c d,.tuple #[]],[]⟩ []with mode:=.returning },(fZ prog)]) w):∃p,HG prog false m Lv Stop p dU (G (o.finish (recvd true pG false)) n) w:=by
 obtain⟨⟨t,u,v,x,y,z,A,B,C,D,E,F,I,J,K,rfl⟩,rfl⟩:=j;have h:∀ {w q:World},(kx g l i k a e T b c d m w∧Lv w)->dW m Lv dU w q->(kx g l i k a e T b c d m q∧Lv q):=λj p=>⟨j.1.rely p,p.lv j.2⟩
 replace f:=And.intro f r;simp only[lh,Eb,dS,dv,f52];rw[XW];simp only[recvd];walk_nrm;refine⟨300,?_⟩;refine aH (n:=40) ?_;u_op h f;u_c XJ h f;u_c XL h f
 u_cond false h f
 u_exit h f
 u_c stepG_end h f
 simp only[mz,LQ,f50]
 u_leave0 func52 h f
 u_c XJ h f
 u_c stepG_end h f
 u_in h f
 rw[stepG_unwind_enter X func51 wq X];simp only[goes_go];refine⟨by u_nil,?_⟩;refine XO (λp j=>?_);replace f:=h f j;refine HG.stop (λp r=>?_);have j:=h f r;exact s p j.1 j.2
end
end
section
open Go.Conc Go.RowKit Go.ConcR.Gen
open Go.ConcR (Payload)
section
variable {a k g i m l T c d e:Nat}{n:Nat->Prop}{b:World->Prop}{O:Nat->Prop}{w o:World}
theorem za(b:TypeId)(c:ao.mode=.returning)(d:QuitsD prog a4 0 (G ao [(fZ prog)]))(e:Go.ConcN.WgLive iY.tWg a w)(f: @Go.ConcN.Has j 0 p w):Goes prog false (@Go.ConcN.RW ⟨b⟩ iY.tWg a j 1 0 0) (@Go.ConcN.DWs ⟨b⟩ a zb zb j 1 1) (@Go.ConcN.AtR0 ⟨b⟩ prog iY.tWg a j 1 0 1 p) 23 (G ((baseD iY.done).at ⟨#[.pointer (some ⟨a,0,none⟩),U,U,U],[]⟩ [.code (Go.ConcR.Gen.body_done iY)]) (ao::[(fZ prog)])) w:=by
 letI:Payload:=⟨b⟩
 exact Go.ConcN.Gen.doneN (k:=1) (n:=1) (Low:=0) OL c d w ⟨e,f⟩
theorem Fp{f:FuncId}{fn:Func}{a:Act}{todo:List Item}(b:a.defers=[])(c:prog.funcs[f]?=some fn)(d:fn.results= #[]):QuitsD prog 2 0 (G { (baseD f).at a todo with mode:=.returning } [(fZ prog)]):=by
 have e:results fn a.tmps=pure (.tuple #[]):=by simp[results,d]
 refine QuitsD.ctl (g':=G (fZ prog) []) X (λw=>?_) ?_
 ·simp[G,stepG,unwind,Frame.at,b,baseD,c,e,pure,doReturn,GStep.after,seen_none,fZ,goexitEntry]
 refine QuitsD.ctl (g':={ G (fZ prog) []with status:=.finished }) X (λw=>?_) ⟨X,X⟩;simp[G,stepG,unwind,fZ,goexitEntry,Frame.catches];rfl
end
end
section
open Go.Conc Go.RowKit Go.ConcR.Gen
def cI(a:Func):Array Oper:=match dS a with |.seq _ (.block _ (.seq _ (.region _ b _)))=>b|_ =>#[]
theorem cell_of{o:Nat}{v:Value}(a:t.heap[j]?=some (.cells ar z))(b:ar[o]?=some v):t.cell? ⟨j,o,none⟩=some v:=by simp[World.cell?,a,b]
theorem bF(a:t.heap[j]?=some (.cells ar z))(b:Nat):t.frozen? ⟨j,b,none⟩=false:=by simp[World.frozen?,a]
theorem cD(c:t.heap[j]?=some (.cells ar z))(a:Nat)(b:Value):(t.setCell ⟨j,a,none⟩ b).heap[j]?=some (.cells (ar.setIfInBounds a b) z):=by
 rw[heap_setCell,ai X,c];rfl
theorem LK{d:Program}{a:Addr}{b:Event}(e:t.cell? a=some r)(f:t.frozen? a=false)(g:p.oneCell'=true)(c:b∈(store a p).events d t av):b∈av∨b=⟨.cell a,true,false⟩:=by
 rw[X8 (hv:=g),e]at c;simp only[f]at c;rcases Array.mem_push.1 c with a|a
 ·exact I a
 ·exact J a
theorem kx.keep{d e f g h i T j k l:Nat}(a:kx d e f g h i T j k l K t)(c:∀b,K b->V.heap[b]?=t.heap[b]?)(m:t.heap.size<=V.heap.size):kx d e f g h i T j k l K V:=
 ⟨(ie (c _ a.rO) 0).trans a.cO,(ie (c _ a.rB) 0).trans a.cB,(ie (c _ a.rM) 0).trans a.cM,a.rO,a.rB,a.rM,λb d=>aj (a.lt b d) m⟩
section
variable {n c o q d l T e g k:Nat}{b:Nat->Prop}{Lv:World->Prop}{O:Nat->Prop}{w a:World}{Stop:(Nat->Prop)->Goroutine->World->Prop}{u:Frame}{s:List Frame}
theorem I7(hT:T<c){m:Nat}{i:Int}{wo:Option Addr}{wn wc:Nat}(j:kx n c o q d l T e g k b w)(h:K8 n c o q d l T e g k u s)(hn:∀w f,T<f->kx n c o q d l T e g k b w->w.heap[f]?=some (.cells #[.int .i64 i,.slice wo wn wc] 98)->∀F K M N O P Q R S U V:Value,HG prog false b Lv Stop m (λy=>dU y∨y=f) (G ((base 52).at ⟨#[.chan (some d),.chan (some l),mW T e g k,F,K,M,.pointer (some ⟨f,0,none⟩),.chan (some d),.tuple #[.agg #[.int .i64 i,.slice wo wn wc],.bool true],.bool true,.agg #[.int .i64 i,.slice wo wn wc],N,O,P,Q,R,S,U,V],[]⟩ [.code (.region 3 (cI f52) true),.inBlock 1,.inLoop (dv f52),.inBlock 0]) s) w):HG prog false b Lv Stop (m+60) dU (G (u.finish (recvd true (.agg #[.int .i64 i,.slice wo wn wc]) true)) s) w:=by
 obtain⟨⟨F,K,M,v6,v8,v9,ao,N,O,P,Q,R,S,U,V,rfl⟩,rfl⟩:=h;simp only[lh,Eb,dS,dv,f52];rw[XW];simp only[recvd];walk_nrm;refine aH (n:=40) ?_;u_op kx.rely j;u_c XJ kx.rely j;u_c XL kx.rely j
 u_cond true kx.rely j
 u_c XN kx.rely j
 u_c Yc kx.rely j
 u_c XL kx.rely j
 u_reg kx.rely j
 u_op kx.rely j
 refine XO (λZ C=>?_);replace j:=kx.rely j C;clear C;refine Fh (λ_=> .cells #[.int .i64 0,.slice none 0 0] 98) X X x5 (λa D=>Xf) (λa D=>Xr) (λa D=>?_);walk_nrm;replace j:=kx.rely j D
 have W:kx n c o q d l T e g k b { a with heap:=a.heap.push (.cells #[.int .i64 0,.slice none 0 0] 98)}:=j.keep (λr z=>by
  have:=j.lt r z;show(a.heap.push _)[r]?=_;rw[cv,af E]) (by show a.heap.size<=(a.heap.push _).size;simp)
 have B:({ a with heap:=a.heap.push (.cells #[.int .i64 0,.slice none 0 0] 98)}:World).heap[a.heap.size]?=some (.cells #[.int .i64 0,.slice none 0 0] 98):=oi;have Y:∀r,b r->r≠a.heap.size:=λr z=>by have:=j.lt r z;omega
 have ab:T<a.heap.size:=Nat.lt_trans hT (j.lt c j.rO);clear j D;generalize j:({ a with heap:=a.heap.push (.cells #[.int .i64 0,.slice none 0 0] 98)}:World)=D at W B ⊢;clear j;generalize a.heap.size=f at B Y ab ⊢;refine wX (λw=>(w.setCell ⟨f,0,none⟩ (.int .i64 i)).setCell ⟨f,1,none⟩ (.slice wo wn wc)) X X x5 (λx t=>?_) (λx t=>⟨by rw[size_setCell,size_setCell],⟨X,X,X⟩,λy hx=>?_⟩) (λx t=>?_) (λx t=>?_)
 ·have p:=(t.qH f (J (J X))).trans B;have c0:=cell_of (o:=0) p X;have f0:=bF p 0;have v:=cD p 0 (.int .i64 i);have c1:=cell_of (o:=1) v X;have f1:=bF v 1;clear t;go_simp
 ·rw[heap_setCell,af (λA=>hx (J A)),heap_setCell,af (λA=>hx (J A))]
 ·have p:=(t.qH f (J (J X))).trans B;have c0:=cell_of (o:=0) p X;have f0:=bF p 0;have v:=cD p 0 (.int .i64 i);have c1:=cell_of (o:=1) v X;have f1:=bF v 1;have hl:f<x.heap.size:=aC p;clear t;intro A he;simp[go_sem, *]at he;rcases LK c1 f1 rfl he with h|h
  ·have h:A=⟨.cell ⟨f,0,none⟩,true,Mode.plain==Mode.atomic⟩:=by simpa using h
   have h:A=⟨.cell ⟨f,0,none⟩,true,false⟩:=h;subst h;exact⟨X,hl,I (J X)⟩
  ·subst h;exact⟨X,hl,I (J X)⟩
 ·have p:=(t.qH f (J (J X))).trans B;have v:=cD p 0 (.int .i64 i);have j:=cD v 1 (.slice wo wn wc)
  have A:kx n c o q d l T e g k b ((x.setCell ⟨f,0,none⟩ (.int .i64 i)).setCell ⟨f,1,none⟩ (.slice wo wn wc)):=(kx.rely W t).keep (λr z=>by
   rw[heap_setCell,af (Y r z),heap_setCell,af (Y r z)]) (by rw[size_setCell,size_setCell];exact aa _)
  have j:((x.setCell ⟨f,0,none⟩ (.int .i64 i)).setCell ⟨f,1,none⟩ (.slice wo wn wc)).heap[f]?=some (.cells #[.int .i64 i,.slice wo wn wc] 98):=j;clear W t p v;generalize (x.setCell ⟨f,0,none⟩ (.int .i64 i)).setCell ⟨f,1,none⟩ (.slice wo wn wc)=p at A j ⊢;have rl:∀ {w a:World},(kx n c o q d l T e g k b w∧w.heap[f]?=some (.cells #[.int .i64 i,.slice wo wn wc] 98))->dW b Lv (λy=>dU y∨y=f) w a->(kx n c o q d l T e g k b a∧a.heap[f]?=some (.cells #[.int .i64 i,.slice wo wn wc] 98)):=λh p=>⟨h.1.rely p,(p.qH f (J (J X))).trans h.2⟩
  have ad:=And.intro A j;clear A j;walk_nrm;refine aH (n:=10) ?_;u_c XJ rl ad;refine XO (λZ C=>?_);have j:=rl ad C;exact gK 8 (hn Z f ab j.1 j.2 F K M N O P Q R S U V)
end
theorem Cu:∀args a,(callFunc 27 args).run prog a=.ok (.enter 27 args) a:=by
 intro args a;simp[callFunc,func27,f27,go_sem]
theorem Cx:∀args b a,(callFunc 27 args).events prog b a=a:=by
 intro args b a;simp[callFunc,func27,f27,go_sem]
def gM(a:Nat->Bool)(e f T g h i c:Nat)(b:Int)(d j k l m n o p q r s t u v w:Value):Array Value:=
 #[.chan (some e),.chan (some f),mW T g h i,m,n,o,.pointer (some ⟨c,0,none⟩),.chan (some e),.tuple #[.agg #[.int .i64 b,d],.bool true],.bool true,.agg #[.int .i64 b,d],if a 0 then .chan (some f)else p,if a 1 then .pointer (some ⟨c,0,none⟩)else q,if a 2 then .int .i64 b else r,if a 3 then mW T g h i else s,
  if a 4 then .pointer (some ⟨c,1,none⟩)else t,if a 5 then d else u,if a 6 then .agg #[j,k,l]else v,if a 7 then .agg #[.int .i64 b,j,k,l]else w]
theorem R3{c:Array Oper}{n:Nat}(e:c.size=n)(f:(c.all λa=>a.after.all λb=>decide (b.on<n))=true):∀(d:Nat) (a:Oper) (b:Edge),c[d]?=some a->b∈a.after->b.on<c.size:=by
 intro d a b c g;have d:=m5.1 f a (bh c);have a:=m5.1 d b g;rw[e];simpa using a
theorem Vg:∀(c:Nat) (a:Oper) (b:Edge),(cI f52)[c]?=some a->b∈a.after->b.on<(cI f52).size:=R3 (n:=9) wq wq
theorem Gm(d:BY (cI f52) f (j::ax)):j<9∧f j=false∧BY (cI f52) (λc=>f c || decide (c=j)) ax∧(j=2->f 1=true)∧(j=5->f 4=true)∧(j=6->f 3=true∧f 5=true)∧(j=7->f 2=true∧f 6=true)∧(j=8->f 0=true∧f 7=true∧f 6=true):=by
 obtain⟨c,⟨g,b,a⟩,e⟩:=d
 have d:j<9:=by
  have g:(cI f52).size=9:=wq;have:=(aL.1 b).1;omega
 simp only[cI,dS,dv,f52]at b;refine⟨d,c,e,?_,?_,?_,?_,?_⟩
 ·rintro rfl;cases cC b;exact a ⟨1,.data⟩ oi X
 ·rintro rfl;cases cC b;exact a ⟨4,.data⟩ oi X
 ·rintro rfl;cases cC b;exact⟨a ⟨3,.data⟩ oi X,a ⟨5,.data⟩ oi X⟩
 ·rintro rfl;cases cC b;exact⟨a ⟨2,.data⟩ oi X,a ⟨6,.data⟩ oi X⟩
 ·rintro rfl;cases cC b;exact⟨a ⟨0,.data⟩ oi X,a ⟨7,.data⟩ oi X,a ⟨6,.chain⟩ oi X⟩
theorem ON(j:BY (cI f52) f []):f 8=true:=by
 have c:∀(d:Nat) (e:Oper),(cI f52)[d]?=some e->(∀b,b∈e.after->Region.binds .any b=true->f b.on=true)->d<9->f d=true:=by
  intro d e k l m;cases n:f d with
  |true=>rfl
  |false=>
   obtain⟨e,g,b,a,o,h⟩:=j d (by rw[show(cI f52).size=9 by kernel_rfl];exact m) n;rw[k]at g;cases g;rw[l b a o]at h;cases h
 have p:f 0=true:=by
  refine c 0 _ X (λb a _=>?_) E;have a:b∈(#[]:Array Edge):=a;simp at a
 have q:f 1=true:=by
  refine c 1 _ X (λb a _=>?_) E;have a:b∈(#[]:Array Edge):=a;simp at a
 have r:f 3=true:=by
  refine c 3 _ X (λb a _=>?_) E;have a:b∈(#[]:Array Edge):=a;simp at a
 have s:f 4=true:=by
  refine c 4 _ X (λb a _=>?_) E;have a:b∈(#[]:Array Edge):=a;simp at a
 have t:f 2=true:=by
  refine c 2 _ X (λb a _=>?_) E;have a:b∈(#[⟨1,.data⟩]:Array Edge):=a;simp at a;subst a;exact q
 have u:f 5=true:=by
  refine c 5 _ X (λb a _=>?_) E;have a:b∈(#[⟨4,.data⟩]:Array Edge):=a;simp at a;subst a;exact s
 have i:f 6=true:=by
  refine c 6 _ X (λb a _=>?_) E;have a:b∈(#[⟨3,.data⟩,⟨5,.data⟩]:Array Edge):=a;simp at a;rcases a with rfl|rfl
  ·exact r
  ·exact u
 have v:f 7=true:=by
  refine c 7 _ X (λb a _=>?_) E;have a:b∈(#[⟨2,.data⟩,⟨6,.data⟩]:Array Edge):=a;simp at a;rcases a with rfl|rfl
  ·exact t
  ·exact i
 have w:f 8=true:=by
  refine c 8 _ X (λb a _=>?_) E;have a:b∈(#[⟨0,.data⟩,⟨7,.data⟩,⟨6,.chain⟩]:Array Edge):=a;simp at a;rcases a with rfl|rfl|rfl
  ·exact p
  ·exact v
  ·exact i
 exact w
section
variable {I F T x y E s:Nat}{i:Int}{u g0 g1 g2 P U Z a b c d e g m o:Value}{D:Nat->Bool}{rd:Nat->Prop}{Lv:World->Prop}{O:Nat->Prop}{w:World}{q:(Nat->Prop)->Goroutine->World->Prop}{k:List Item}{cs:List Frame}{l:List Nat}{n:Nat}
theorem Gi(a:World):(Instr.build 100 #[(0,.int .i64 i),(1,.agg #[g0,g1,g2])]).run prog a=.ok (.agg #[.int .i64 i,g0,g1,g2]) a:=run_build a _ _ _ wq
theorem Rl(a:World):(Instr.build 100 #[(0,.int .i64 i),(1,.agg #[g0,g1,g2])]).events prog a #[]= #[]:=by
 unfold Instr.build;simp[go_sem]
theorem Rt:(⟨gM D I F T x y E s i u g0 g1 g2 P U Z a b c d e g m o,[]⟩:Act).put (some 11) (.chan (some F))=⟨gM (λf=>D f || decide (f=0)) I F T x y E s i u g0 g1 g2 P U Z a b c d e g m o,[]⟩:=by
 simp[Act.put,gM]
theorem Ru:(⟨gM D I F T x y E s i u g0 g1 g2 P U Z a b c d e g m o,[]⟩:Act).put (some 12) (.pointer (some ⟨s,0,none⟩))=⟨gM (λf=>D f || decide (f=1)) I F T x y E s i u g0 g1 g2 P U Z a b c d e g m o,[]⟩:=by
 simp[Act.put,gM]
theorem Rv:(⟨gM D I F T x y E s i u g0 g1 g2 P U Z a b c d e g m o,[]⟩:Act).put (some 13) (.int .i64 i)=⟨gM (λf=>D f || decide (f=2)) I F T x y E s i u g0 g1 g2 P U Z a b c d e g m o,[]⟩:=by
 simp[Act.put,gM]
theorem Rw:(⟨gM D I F T x y E s i u g0 g1 g2 P U Z a b c d e g m o,[]⟩:Act).put (some 14) (mW T x y E)=⟨gM (λf=>D f || decide (f=3)) I F T x y E s i u g0 g1 g2 P U Z a b c d e g m o,[]⟩:=by
 simp[Act.put,gM]
theorem Rx:(⟨gM D I F T x y E s i u g0 g1 g2 P U Z a b c d e g m o,[]⟩:Act).put (some 15) (.pointer (some ⟨s,1,none⟩))=⟨gM (λf=>D f || decide (f=4)) I F T x y E s i u g0 g1 g2 P U Z a b c d e g m o,[]⟩:=by
 simp[Act.put,gM]
theorem Ry:(⟨gM D I F T x y E s i u g0 g1 g2 P U Z a b c d e g m o,[]⟩:Act).put (some 16) (u)=⟨gM (λf=>D f || decide (f=5)) I F T x y E s i u g0 g1 g2 P U Z a b c d e g m o,[]⟩:=by
 simp[Act.put,gM]
theorem Rz:(⟨gM D I F T x y E s i u g0 g1 g2 P U Z a b c d e g m o,[]⟩:Act).put (some 17) (.agg #[g0,g1,g2])=⟨gM (λf=>D f || decide (f=6)) I F T x y E s i u g0 g1 g2 P U Z a b c d e g m o,[]⟩:=by
 simp[Act.put,gM]
theorem RA:(⟨gM D I F T x y E s i u g0 g1 g2 P U Z a b c d e g m o,[]⟩:Act).put (some 18) (.agg #[.int .i64 i,g0,g1,g2])=⟨gM (λf=>D f || decide (f=7)) I F T x y E s i u g0 g1 g2 P U Z a b c d e g m o,[]⟩:=by
 simp[Act.put,gM]
theorem Se(f:HG prog false rd Lv q n O (G ((base 52).at ⟨gM (λj=>D j || decide (j=0)) I F T x y E s i u g0 g1 g2 P U Z a b c d e g m o,[]⟩ (.inRegion (cI f52) l::k)) cs) w):HG prog false rd Lv q (n+1) O (G ((base 52).at ⟨gM D I F T x y E s i u g0 g1 g2 P U Z a b c d e g m o,[]⟩ (.inRegion (cI f52) (0::l)::k)) cs) w:=by
 rw[<-Rt]at f;refine fH (.chan (some F)) X X x5 (λj r=>?_) (λj r t p=>?_) f
 ·simp only[cI,dS,dv,f52,gM];go_simp
 ·simp only[cI,dS,dv,f52,gM]at p;simp[go_sem, *]at p
theorem Sf(f:HG prog false rd Lv q n O (G ((base 52).at ⟨gM (λj=>D j || decide (j=1)) I F T x y E s i u g0 g1 g2 P U Z a b c d e g m o,[]⟩ (.inRegion (cI f52) l::k)) cs) w):HG prog false rd Lv q (n+1) O (G ((base 52).at ⟨gM D I F T x y E s i u g0 g1 g2 P U Z a b c d e g m o,[]⟩ (.inRegion (cI f52) (1::l)::k)) cs) w:=by
 rw[<-Ru]at f;refine fH (.pointer (some ⟨s,0,none⟩)) X X x5 (λj r=>?_) (λj r t p=>?_) f
 ·simp only[cI,dS,dv,f52,gM];go_simp
 ·simp only[cI,dS,dv,f52,gM]at p;simp[go_sem, *]at p
theorem Sg(t:D 1=true)(v:O s)(z:w.cell? ⟨s,0,none⟩=some (.int .i64 i))(p:HG prog false rd Lv q n O (G ((base 52).at ⟨gM (λr=>D r || decide (r=2)) I F T x y E s i u g0 g1 g2 P U Z a b c d e g m o,[]⟩ (.inRegion (cI f52) l::k)) cs) w):HG prog false rd Lv q (n+1) O (G ((base 52).at ⟨gM D I F T x y E s i u g0 g1 g2 P U Z a b c d e g m o,[]⟩ (.inRegion (cI f52) (2::l)::k)) cs) w:=by
 rw[<-Rv]at p;have f:(gM D I F T x y E s i u g0 g1 g2 P U Z a b c d e g m o).getD 12 undef=.pointer (some ⟨s,0,none⟩):=by simp[gM,t]
 refine fb (.int .i64 i) X X x5 (J v) z (λr t=>?_) (λr t=>?_) p
 ·simp only[cI,dS,dv,f52];generalize gM D I F T x y E s i u g0 g1 g2 P U Z a b c d e g m o=j at f;have A:j[12]?.getD undef=.pointer (some ⟨s,0,none⟩):=by rw[<-f,aw]
  go_simp
 ·simp only[cI,dS,dv,f52];generalize gM D I F T x y E s i u g0 g1 g2 P U Z a b c d e g m o=j at f;have A:j[12]?.getD undef=.pointer (some ⟨s,0,none⟩):=by rw[<-f,aw]
  simp[go_sem, *]
theorem Vh(f:HG prog false rd Lv q n O (G ((base 52).at ⟨gM (λj=>D j || decide (j=3)) I F T x y E s i u g0 g1 g2 P U Z a b c d e g m o,[]⟩ (.inRegion (cI f52) l::k)) cs) w):HG prog false rd Lv q (n+1) O (G ((base 52).at ⟨gM D I F T x y E s i u g0 g1 g2 P U Z a b c d e g m o,[]⟩ (.inRegion (cI f52) (3::l)::k)) cs) w:=by
 rw[<-Rw]at f;refine fH (mW T x y E) X X x5 (λj r=>?_) (λj r t p=>?_) f
 ·simp only[cI,dS,dv,f52,gM];go_simp
 ·simp only[cI,dS,dv,f52,gM]at p;simp[go_sem, *]at p
theorem Vi(f:HG prog false rd Lv q n O (G ((base 52).at ⟨gM (λj=>D j || decide (j=4)) I F T x y E s i u g0 g1 g2 P U Z a b c d e g m o,[]⟩ (.inRegion (cI f52) l::k)) cs) w):HG prog false rd Lv q (n+1) O (G ((base 52).at ⟨gM D I F T x y E s i u g0 g1 g2 P U Z a b c d e g m o,[]⟩ (.inRegion (cI f52) (4::l)::k)) cs) w:=by
 rw[<-Rx]at f;refine fH (.pointer (some ⟨s,1,none⟩)) X X x5 (λj r=>?_) (λj r t p=>?_) f
 ·simp only[cI,dS,dv,f52,gM];go_simp
 ·simp only[cI,dS,dv,f52,gM]at p;simp[go_sem, *]at p
theorem Vj(t:D 4=true)(v:O s)(z:w.cell? ⟨s,1,none⟩=some u)(p:HG prog false rd Lv q n O (G ((base 52).at ⟨gM (λr=>D r || decide (r=5)) I F T x y E s i u g0 g1 g2 P U Z a b c d e g m o,[]⟩ (.inRegion (cI f52) l::k)) cs) w):HG prog false rd Lv q (n+1) O (G ((base 52).at ⟨gM D I F T x y E s i u g0 g1 g2 P U Z a b c d e g m o,[]⟩ (.inRegion (cI f52) (5::l)::k)) cs) w:=by
 rw[<-Ry]at p;have f:(gM D I F T x y E s i u g0 g1 g2 P U Z a b c d e g m o).getD 15 undef=.pointer (some ⟨s,1,none⟩):=by simp[gM,t]
 refine fb (u) X X x5 (J v) z (λr t=>?_) (λr t=>?_) p
 ·simp only[cI,dS,dv,f52];generalize gM D I F T x y E s i u g0 g1 g2 P U Z a b c d e g m o=j at f;have A:j[15]?.getD undef=.pointer (some ⟨s,1,none⟩):=by rw[<-f,aw]
  go_simp
 ·simp only[cI,dS,dv,f52];generalize gM D I F T x y E s i u g0 g1 g2 P U Z a b c d e g m o=j at f;have A:j[15]?.getD undef=.pointer (some ⟨s,1,none⟩):=by rw[<-f,aw]
  simp[go_sem, *]
theorem Vk(j:D 2=true)(p:D 6=true)(r:HG prog false rd Lv q n O (G ((base 52).at ⟨gM (λt=>D t || decide (t=7)) I F T x y E s i u g0 g1 g2 P U Z a b c d e g m o,[]⟩ (.inRegion (cI f52) l::k)) cs) w):HG prog false rd Lv q (n+1) O (G ((base 52).at ⟨gM D I F T x y E s i u g0 g1 g2 P U Z a b c d e g m o,[]⟩ (.inRegion (cI f52) (7::l)::k)) cs) w:=by
 rw[<-RA]at r;refine fH (.agg #[.int .i64 i,g0,g1,g2]) X X x5 (λf t=>?_) (λf t A v=>?_) r
 ·simp only[cI,dS,dv,f52,gM,j,p];have z:=Gi (i:=i) (g0:=g0) (g1:=g1) (g2:=g2) f;go_simp
 ·simp only[cI,dS,dv,f52,gM,j,p]at v;have z:=Rl (i:=i) (g0:=g0) (g1:=g1) (g2:=g2) f;simp[go_sem, *]at v
end
def o0(g:Nat->Prop)(h:World->Prop)(i:(Nat->Prop)->Goroutine->World->Prop)(j T a:Nat)(d:Int)(k:Nat->Prop)(e:Goroutine)(b:World):Prop:=
 e.status=.running∧∀c:Int,b.cell? ⟨T,a,none⟩=some (.int .i64 c)->b.frozen? ⟨T,a,none⟩=false->∃f,stepG prog false e b=.go f (b.setCell ⟨T,a,none⟩ (.int .i64 (IntKind.i64.wrap (c+d)))) #[⟨.cell ⟨T,a,none⟩,false,true⟩,⟨.cell ⟨T,a,none⟩,true,true⟩]∧
  HG prog false g h i j k f (b.setCell ⟨T,a,none⟩ (.int .i64 (IntKind.i64.wrap (c+d))))
section
variable {n:Nat->Prop}{l:World->Prop}{O:Nat->Prop}{w:World}{b:(Nat->Prop)->Goroutine->World->Prop}{m T a:Nat}{d:Int}{F:World->Prop}{e:Frame}{c:Act}{g:Array Oper}{i:Nat}{rest:List Nat}{k:List Item}{o:List Frame}
theorem B2(h:∀ {w q},F w->dW n l O w q->F q)(s:∀w p,F w->F (w.setCell ⟨T,a,none⟩ p))(t:∀p w,F w->HG prog false n l b m O (G (e.at (c.put ((g[i]?).bind (·.dst)) p) (.inRegion g rest::k)) o) w)(f:F w):HG prog false n l (o0 n l b (m+20) T a d) 20 O (G (Frame.enter prog 55 #[.pointer (some ⟨T,a,none⟩),.int .i64 d] .normal) (e.at c (.inRegion g (i::rest)::k)::o)) w:=by
 rw[Yo _ func55 X]
 walk_nrmf f55
 refine aH (m:=0) (n:=20) ?_;u_c XL h f;u_reg h f;u_op h f;u_c XJ h f;u_c XL h f;u_reg h f;u_op h f;u_op h f;u_op h f;u_op h f;refine XO (λu j=>?_);replace f:=h f j;clear j;refine HG.stop (λv p=>?_);replace f:=h f p;clear p;refine⟨X,λp q r=>⟨_,stepG_add_atomic X X x5 X func86 wq wq wq .i64 wq X X q r,?_⟩⟩;replace f:=s _ (.int .i64 (IntKind.i64.wrap (p+d))) f;clear q r;generalize v.setCell ⟨T,a,none⟩ (.int .i64 (IntKind.i64.wrap (p+d)))=q at f ⊢;walk_nrm;refine aH (n:=20) ?_;u_op h f;u_c XJ h f;u_c X3 h f
 u_leave1 func55 h f
 refine XO (λu j=>?_);exact t _ _ (h f j)
end
theorem dW.less{c:World->Prop}(b:dW K c a2 t V)(d:∀a,a0 a->a2 a):dW K c a0 t V:=⟨λa e=>b.qH a (e.imp id (d a)),b.lv,b.size⟩
structure me(rd O:Nat->Prop)(T:Nat)(F:World->Prop):Prop where
 keep:∀w w1,(∀b,O b∨rd b->w1.heap[b]?=w.heap[b]?)->w.heap.size<=w1.heap.size->F w->F w1
 lt:∀w,F w->∀b,O b∨rd b∨b=T->b<w.heap.size
 nT:¬O T∧¬rd T
section
variable {P:Program}{g:Bool}{l:Nat->Prop}{m:World->Prop}{O:Nat->Prop}{w c:World}{e:(Nat->Prop)->Goroutine->World->Prop}{T n:Nat}{F:World->Prop}{b:Frame}{a:Act}{d:Array Oper}{i:Nat}{rest:List Nat}{k:List Item}{q:List Frame}{o:Oper}
theorem me.rely(d:me l O T F):∀ {w c},F w->dW l m O w c->F c:=λe a=>d.keep _ _ (λb f=>a.qH b f.symm) a.size e
theorem me.U7(a:me l O T F):∀w c,F w->F (w.setCell ⟨T,j,none⟩ c):=λw c d=>a.keep w _ (λe f=>by
 rw[heap_setCell,af];intro b;have b:e=T:=b;subst b;exact f.elim a.nT.1 a.nT.2) (by rw[size_setCell];exact aa _) d
theorem me.more(d:me l O T F)(e:Obj)(f:j≠T):me l (λy=>O y∨y=j) T (λw=>F w∧w.heap[j]?=some e) where
 keep:=λw c e g b=>⟨d.keep w c (λy a=>e y (a.imp I id)) g b.1,(e j (I (J X))).trans b.2⟩
 lt:=λw b y a=>by
  rcases a with(a|rfl)|a
  ·exact d.lt w b.1 y (I a)
  ·exact aC b.2
  ·exact d.lt w b.1 y (J a)
 nT:=⟨λa=>a.elim d.nT.1 λb=>f b.symm,d.nT.2⟩
theorem wU(L:me l O T F)(r:F w)(h:Obj)(p:d[i]?=some o)(s:Region.wanted o (yielded d a.tmps)=true)(t:b.kind≠.early)(u:∀c:World,(execOp a.eval o).run P c=.ok (.value (.pointer (some ⟨c.heap.size,0,none⟩))) { c with heap:=c.heap.push h })(v:∀c:World,(execOp a.eval o).events P c #[]= #[])(x:∀f j,F j->j.heap[f]?=some h->¬O f->¬l f->f≠T->HG P g l m e n (λy=>O y∨y=f) (G (b.at (a.put o.dst (.pointer (some ⟨f,0,none⟩))) (.inRegion d rest::k)) q) j):HG P g l m e (n+1) O (G (b.at a (.inRegion d (i::rest)::k)) q) w:=by
 refine Fh (λ_=>h) p s t (λc _=>u c) (λc _=>v c) (λc f=>?_);have p:=L.rely r f;have f:=L.lt c p;refine x c.heap.size _ (L.keep c _ (λy r=>?_) (by show c.heap.size<=(c.heap.push h).size;simp) p) oi (λj=>by have:=f _ (I j);omega) (λj=>by have:=f _ (J (I j));omega) (λj=>by have:=f T (J (J X));omega);have:=f y (r.imp id I);show(c.heap.push h)[y]?=_;rw[cv,af E]
theorem V9{w:World}(a:w.heap[j]?=some (.cells #[p,r,v] z)):(((w.setCell ⟨j,0,none⟩ A).setCell ⟨j,1,none⟩ B).setCell ⟨j,2,none⟩ C).heap[j]?=some (.cells #[A,B,C] z):=cD (cD (cD a 0 A) 1 B) 2 C
theorem zi{x:Nat}{j p r v0 v1 v2:Value}(v:∀ {w c:World},F w->dW l m O w c->F c)(A:F w)(B:O x)(C:∀w,F w->w.heap[x]?=some (.cells #[j,p,r] z))(D:d[i]?=some o)(E:Region.wanted o (yielded d a.tmps)=true)(J:b.kind≠.early)(K:∀c:World,c.heap[x]?=some (.cells #[j,p,r] z)->(execOp a.eval o).run P c=.ok .skip (((c.setCell ⟨x,0,none⟩ v0).setCell ⟨x,1,none⟩ v1).setCell ⟨x,2,none⟩ v2))(M:∀c:World,c.heap[x]?=some (.cells #[j,p,r] z)->(execOp a.eval o).events P c #[]= #[⟨.cell ⟨x,0,none⟩,true,false⟩,⟨.cell ⟨x,1,none⟩,true,false⟩,⟨.cell ⟨x,2,none⟩,true,false⟩])(N:∀s,(∃c,F c∧(∀y,y≠x->s.heap[y]?=c.heap[y]?)∧s.heap.size=c.heap.size)->s.heap[x]?=some (.cells #[v0,v1,v2] z)->HG P g l m e n O (G (b.at (a.put o.dst undef) (.inRegion d rest::k)) q) s):HG P g l m e (n+1) O (G (b.at a (.inRegion d (i::rest)::k)) q) w:=by
 have t:∀c,dW l m O w c->c.heap[x]?=some (.cells #[j,p,r] z):=λc f=>C c (v A f)
 refine wX (λc=>((c.setCell ⟨x,0,none⟩ v0).setCell ⟨x,1,none⟩ v1).setCell ⟨x,2,none⟩ v2) D E J (λc f=>K c (t c f)) (λc _=>⟨Xv,⟨X,X,X⟩,λy p=>?_⟩) (λc f j u=>?_) (λc f=>?_)
 ·have h:y≠x:=λj=>p (j▸B)
  rw[heap_setCell,af h,heap_setCell,af h,heap_setCell,af h]
 ·rw[M c (t c f)]at u;have Q:=aC (t c f);simp only[aF,az,aD,bP]at u;rcases u with rfl|rfl|rfl<;>exact⟨X,Q,I B⟩
 ·refine N _ ⟨c,v A f,λy h=>?_,Xv⟩ (V9 (t c f));rw[heap_setCell,af h,heap_setCell,af h,heap_setCell,af h]
theorem LV{x:Nat}(s:∀ {w c:World},F w->dW l m O w c->F c)(t:F w)(u:O x)(y:∀w,F w->w.heap[x]?=some (.cells #[p,r,v] z))(A:d[i]?=some o)(B:Region.wanted o (yielded d a.tmps)=true)(C:b.kind≠.early)(D:∀c:World,c.heap[x]?=some (.cells #[p,r,v] z)->(execOp a.eval o).run P c=.ok (.value (.agg #[p,r,v])) c)(E:∀c:World,c.heap[x]?=some (.cells #[p,r,v] z)->(execOp a.eval o).events P c #[]= #[⟨.cell ⟨x,0,none⟩,false,false⟩,⟨.cell ⟨x,1,none⟩,false,false⟩,⟨.cell ⟨x,2,none⟩,false,false⟩])(J:HG P g l m e n O (G (b.at (a.put o.dst (.agg #[p,r,v])) (.inRegion d rest::k)) q) w):HG P g l m e (n+1) O (G (b.at a (.inRegion d (i::rest)::k)) q) w:=by
 have h:∀c,dW l m O w c->c.heap[x]?=some (.cells #[p,r,v] z):=λc f=>y c (s t f)
 refine fH (.agg #[p,r,v]) A B C (λc f=>D c (h c f)) (λc f s j=>?_) J;rw[E c (h c f)]at j;have K:=aC (h c f);simp only[aF,az,aD,bP]at j;rcases j with rfl|rfl|rfl<;>exact⟨X,K,I u⟩
end
section
variable {P:Program}{d:Bool}{s:Nat->Prop}{q:World->Prop}{O:Nat->Prop}{w c:World}{e:(Nat->Prop)->Goroutine->World->Prop}{T n:Nat}{F:World->Prop}{b:Frame}{a:Act}{g:Array Oper}{i:Nat}{rest:List Nat}{k:List Item}{l:List Frame}{o:Oper}{m:List Item}
theorem gT {f : FuncId} {h : Func} {args : Array Operand} {t : Array TypeId} {vs : Array Value} (u : g[i]? = some o) (v : Region.wanted o (yielded g a.tmps) = true) (x : b.kind ≠ .early) (j : o.op = .call { callee := .value (.func f), args, argTypes := t }) (m : P.funcs[f]? = some h) (p : (h.name == "runtime.NumGoroutine") = false) (r : h.body.isNone = false) (y : args.map a.eval = vs)
   (z:HG P d s q e n O (G (Frame.enter P f vs .normal) (b.at a (.inRegion g (i::rest)::k)::l)) w):HG P d s q e (n+1) O (G (b.at a (.inRegion g (i::rest)::k)) l) w:=by
 subst y
 exact CM u v x (λc=>run_call_body j m p r) (λc=>events_call_body j m p r _) z
theorem zh{x:Nat}{t:TypeId}{fn:Func}(i:∀ {w c:World},F w->dW s q O w c->F c)(j:F w)(k:O x)(o:∀w,F w->w.heap[x]?=some (.cells #[p,r,v] t))(u:b.kind=.normal)(y:a.defers=[])(z:P.funcs[b.fn]?=some fn)(A:∀c:World,c.heap[x]?=some (.cells #[p,r,v] t)->(results fn a.tmps).run P c=.ok (.agg #[p,r,v]) c)(B:∀c:World,c.heap[x]?=some (.cells #[p,r,v] t)->(results fn a.tmps).events P c #[]= #[⟨.cell ⟨x,0,none⟩,false,false⟩,⟨.cell ⟨x,1,none⟩,false,false⟩,⟨.cell ⟨x,2,none⟩,false,false⟩])(C:HG P d s q e n O (G (ao.finish (.agg #[p,r,v])) l) w):HG P d s q e (n+1) O (G { b.at a m with mode:=.returning } (ao::l)) w:=by
 refine HG.step X λc h=>?_
 have g:c.heap[x]?=some (.cells #[p,r,v] t):=o c (i j h)
 have i:stepG P d (G { b.at a m with mode:=.returning } (ao::l)) c=.go (G (ao.finish (.agg #[p,r,v])) l) c (seen P b.fn ((results fn a.tmps).events P c #[])):=by
  simp[G,stepG,unwind,doReturn,Frame.at,u,y,z,A c g,GStep.after]
 rw[i];refine⟨⟨X,X,X,aa _,λ_ _ _=>rfl,λi f=>?_⟩,by rw[kg];exact C.rely h⟩;have f:=mE P b.fn _ i f;rw[B c g]at f;rw[kg];have D:=aC g;simp only[aF,az,aD,bP]at f;rcases f with rfl|rfl|rfl<;>exact⟨X,D,I k⟩
end
def ft(a:Func):Code:=match a.body with|some b=>b|_=> .skip
def iA(a:Func):Code:=match ft a with |.seq _ b=>b|_=> .skip
def dO(a:Func):Array Oper:=match iA a with |.seq (.region _ b _) _=>b|_ =>#[]
def oM(a:Func):Code:=match iA a with |.seq _ b=>b|_=> .skip
def uj(a:Func):Code:=match oM a with |.seq _ b=>b|_=> .skip
section
variable {o:Nat->Prop}{s:World->Prop}{O:Nat->Prop}{w:World}{c:(Nat->Prop)->Goroutine->World->Prop}{n m T x y:Nat}{F:World->Prop}{g:Frame}{d:Act}{q:Array Oper}{i:Nat}{rest:List Nat}{k:List Item}{u:List Frame}{go:Option Addr}{b a:Nat}{e:Int}{l:Bool}
def yg(F:World->Prop)(x y:Nat)(go:Option Addr)(b a:Nat)(e:Int)(l:Bool)(w:World):Prop:=
 (F w∧w.heap[x]?=some (.cells #[.slice go b a,.int .i64 e,.bool l] 39))∧w.heap[y]?=some (.cells #[.slice none 0 0,.int .i64 0,.bool false] 39)
theorem y8(L:me o O T F)(hx:x≠T)(hy:y≠T)(ax:x≠y)(a0:¬O y)(a1:¬o y)(a2:∀w O',(∀U,O U->O' U)->F w->HG prog false o s c m O' (G ((g.at d (.inRegion q (i::rest)::k)).finish (.agg #[.slice go b a,.int .i64 e,.bool l])) u) w)(n:yg F x y go b a e l w):HG prog false o s c (m+40) (λt=>(O t∨t=x)∨t=y) (G ((base 28).at ⟨#[p,r,v,.pointer (some ⟨x,0,none⟩),.pointer (some ⟨y,0,none⟩),A,B,C,M,N,W,Y,Q,ab,ad,R,S,a3],[]⟩ [.code (uj f28)]) (g.at d (.inRegion q (i::rest)::k)::u)) w:=by
 have L1:=L.more (.cells #[.slice go b a,.int .i64 e,.bool l] 39) hx;have L2:=L1.more (.cells #[.slice none 0 0,.int .i64 0,.bool false] 39) hy;have L3:=L1.more (.cells #[.slice go b a,.int .i64 e,.bool l] 39) hy;simp only[uj,oM,iA,ft,f28];have z:∀ {w j:World},yg F x y go b a e l w->dW o s (λt=>(O t∨t=x)∨t=y) w j->yg F x y go b a e l j:=λh ao=>L2.rely h ao
 refine aH (n:=10) (m:=m+30) ?_;u_c XL z n;u_reg z n;refine XO (λa4 V=>?_);replace n:=z n V;clear V;refine gK 20 (n:=m+10) ?_;refine LV (x:=x) z n (I (J X)) (λw h=>h.1.2) X X x5 (λj f=>?_) (λj f=>?_) ?_
 ·have K:=cell_of (o:=0) f X;have Z:=cell_of (o:=1) f X;have P:=cell_of (o:=2) f X;go_simp
 ·have K:=cell_of (o:=0) f X;have Z:=cell_of (o:=1) f X;have P:=cell_of (o:=2) f X;simp[go_sem, *]
 walk_nrm;refine zi (x:=y) (v0:=(.slice go b a)) (v1:=.int .i64 e) (v2:=.bool l) z n (J X) (λw h=>h.2) X X x5 (λj f=>?_) (λj f=>?_) (λw2 ar av=>?_)
 ·have K:=cell_of (o:=0) f X;have f0:=bF f 0;have D:=cD f 0 (.slice go b a);have Z:=cell_of (o:=1) D X;have f1:=bF D 1;have h3:=cD D 1 (.int .i64 e);have P:=cell_of (o:=2) h3 X;have f2:=bF h3 2;go_simp
 ·have K:=cell_of (o:=0) f X;have f0:=bF f 0;have D:=cD f 0 (.slice go b a);have Z:=cell_of (o:=1) D X;have f1:=bF D 1;have h3:=cD D 1 (.int .i64 e);have P:=cell_of (o:=2) h3 X;have f2:=bF h3 2;simp[go_sem, *];rw[X8 (hv:=rfl),X8 (hv:=rfl),K,P];simp only[f0,f2];rfl
 ·replace n:(F w2∧w2.heap[x]?=some (.cells #[.slice go b a,.int .i64 e,.bool l] 39))∧w2.heap[y]?=some (.cells #[.slice go b a,.int .i64 e,.bool l] 39):=by
   obtain⟨j,f1,D,hz⟩:=ar;refine⟨L1.keep j w2 (λU hb=>D U λe=>?_) E f1.1,av⟩;subst e;exact hb.elim (λh=>h.elim a0 λh=>ax h.symm) a1
  clear ar av;have z:∀ {w j:World},((F w∧w.heap[x]?=some (.cells #[.slice go b a,.int .i64 e,.bool l] 39))∧w.heap[y]?=some (.cells #[.slice go b a,.int .i64 e,.bool l] 39))->dW o s (λt=>(O t∨t=x)∨t=y) w j->((F j∧j.heap[x]?=some (.cells #[.slice go b a,.int .i64 e,.bool l] 39))∧j.heap[y]?=some (.cells #[.slice go b a,.int .i64 e,.bool l] 39)):=λh ao=>L3.rely h ao
  walk_nrm;refine aH (n:=7) (m:=m+1) ?_;u_c XJ z n;u_c X3 z n;refine XO (λa4 V=>?_);replace n:=z n V;clear V;refine zh (x:=y) (fn:=f28) (t:=39) z n (J X) (λw h=>h.2) X X func28 (λj f=>?_) (λj f=>?_) ?_
  ·have K:=cell_of (o:=0) f X;have Z:=cell_of (o:=1) f X;have P:=cell_of (o:=2) f X;simp only[f28,results];go_simp
  ·have K:=cell_of (o:=0) f X;have Z:=cell_of (o:=1) f X;have P:=cell_of (o:=2) f X;simp only[f28];simp[go_sem,results, *]
  ·exact a2 _ _ (λU hb=>I (I hb)) n.1.1
theorem EU(L:me o O T F)(D:x≠T)(E:y≠T)(V:x≠y)(Z:¬O y)(ao:¬o y)(ar:∀w j,(∀t,O t->j t)->F w->HG prog false o s c m j (G ((g.at d (.inRegion q (i::rest)::k)).finish (.agg #[.slice go b a,.int .i64 e,.bool true])) u) w)(f:yg F x y go b a e true w):HG prog false o s (o0 o s c (m+80) T 1 1) 80 (λj=>(O j∨j=x)∨j=y) (G ((base 28).at ⟨#[.pointer (some ⟨T,0,none⟩),S,p,.pointer (some ⟨x,0,none⟩),.pointer (some ⟨y,0,none⟩),r,v,A,B,C,M,N,W,Y,Q,ab,ad,R],[]⟩ [.code (oM f28)]) (g.at d (.inRegion q (i::rest)::k)::u)) w:=by
 have t:=L.more (.cells #[.slice go b a,.int .i64 e,.bool true] 39) D;have K:=t.more (.cells #[.slice none 0 0,.int .i64 0,.bool false] 39) E;have h:∀ {w t:World},yg F x y go b a e true w->dW o s (λj=>(O j∨j=x)∨j=y) w t->yg F x y go b a e true t:=λz av=>K.rely z av
 have P:∀(n:Value) (w:World),yg F x y go b a e true w->HG prog false o s c (m+40) (λj=>(O j∨j=x)∨j=y) (G ((base 28).at ⟨#[.pointer (some ⟨T,0,none⟩),S,p,.pointer (some ⟨x,0,none⟩),.pointer (some ⟨y,0,none⟩),r,v,A,B,C,M,.pointer (some ⟨x,2,none⟩),.bool true,.pointer (some ⟨T,0,none⟩),.pointer (some ⟨T,0,none⟩),.pointer (some ⟨T,1,none⟩),n,R],[]⟩ [.code (uj f28)]) (g.at d (.inRegion q (i::rest)::k)::u)) w:=λn w f=>y8 L D E V Z ao ar f
 generalize j:(uj f28)=D at P;simp only[oM,iA,ft,f28];simp only[uj,oM,iA,ft,f28]at j;rw[j];refine aH (n:=10) (m:=70) ?_;u_c XL h f;u_c XL h f;u_reg h f;u_op h f;refine XO (λU l=>?_);replace f:=h f l;clear l;refine gK 38 (n:=32) ?_;refine fb (.bool true) X X x5 (J (I (J X))) (cell_of (o:=2) f.1.2 X) (λt j=>Xf) (λt j=>Xh) ?_;walk_nrm;refine aH (n:=10) (m:=21) ?_;u_c XJ h f
 u_cond true h f
 u_reg h f
 u_op h f
 u_op h f
 u_op h f
 refine XO (λU l=>?_);replace f:=h f l;clear l;refine gT (f:=55) (vs:= #[.pointer (some ⟨T,1,none⟩),.int .i64 1]) X X x5 X func55 wq wq Xf ?_;refine B2 (m:=m+60) h (λw n z=>K.U7 w n z) (λn w f=>?_) f;walk_nrm;refine aH (n:=20) (m:=m+40) ?_;u_c XJ h f;refine XO (λU l=>?_);exact P _ _ (h f l)
end
def mK(a:Nat->Bool)(T b y:Nat)(c d:Value)(e:Int)(f g h i j k l m n o p q r:Value):Array Value:=
 #[.pointer (some ⟨T,0,none⟩),c,d,.pointer (some ⟨b,0,none⟩),.pointer (some ⟨y,0,none⟩),if a 0 then .pointer (some ⟨T,0,none⟩)else f,if a 1 then .pointer (some ⟨T,0,none⟩)else g,if a 2 then .pointer (some ⟨T,0,none⟩)else h,if a 3 then .pointer (some ⟨b,1,none⟩)else i,if a 4 then .int .i64 e else j,k,l,m,n,o,p,q,r]
theorem UG:∀(c:Nat) (a:Oper) (b:Edge),(dO f28)[c]?=some a->b∈a.after->b.on<(dO f28).size:=R3 (n:=6) wq wq
theorem Lu(d:BY (dO f28) f (j::ax)):j<6∧f j=false∧BY (dO f28) (λc=>f c || decide (c=j)) ax∧(j=1->f 0=true)∧(j=2->f 1=true)∧(j=4->f 3=true)∧(j=5->f 2=true∧f 4=true):=by
 obtain⟨c,⟨g,a,b⟩,e⟩:=d
 have d:j<6:=by
  have g:(dO f28).size=6:=wq;have:=(aL.1 a).1;omega
 simp only[dO,iA,ft,f28]at a;refine⟨d,c,e,?_,?_,?_,?_⟩
 ·rintro rfl;cases cC a;exact b ⟨0,.data⟩ oi X
 ·rintro rfl;cases cC a;exact b ⟨1,.data⟩ oi X
 ·rintro rfl;cases cC a;exact b ⟨3,.data⟩ oi X
 ·rintro rfl;cases cC a;exact⟨b ⟨2,.data⟩ oi X,b ⟨4,.data⟩ oi X⟩
theorem SF(i:BY (dO f28) f []):f 5=true:=by
 have c:∀(d:Nat) (e:Oper),(dO f28)[d]?=some e->(∀b,b∈e.after->Region.binds .any b=true->f b.on=true)->d<6->f d=true:=by
  intro d e j k l;cases m:f d with
  |true=>rfl
  |false=>
   obtain⟨e,g,b,a,n,h⟩:=i d (by rw[show(dO f28).size=6 by kernel_rfl];exact l) m;rw[j]at g;cases g;rw[k b a n]at h;cases h
 have o:f 0=true:=by
  refine c 0 _ X (λb a _=>?_) E;have a:b∈(#[]:Array Edge):=a;simp at a
 have p:f 1=true:=by
  refine c 1 _ X (λb a _=>?_) E;have a:b∈(#[⟨0,.data⟩]:Array Edge):=a;simp at a;subst a;exact o
 have q:f 3=true:=by
  refine c 3 _ X (λb a _=>?_) E;have a:b∈(#[]:Array Edge):=a;simp at a
 have r:f 2=true:=by
  refine c 2 _ X (λb a _=>?_) E;have a:b∈(#[⟨1,.data⟩]:Array Edge):=a;simp at a;subst a;exact p
 have s:f 4=true:=by
  refine c 4 _ X (λb a _=>?_) E;have a:b∈(#[⟨3,.data⟩]:Array Edge):=a;simp at a;subst a;exact q
 have t:f 5=true:=by
  refine c 5 _ X (λb a _=>?_) E;have a:b∈(#[⟨2,.data⟩,⟨4,.data⟩]:Array Edge):=a;simp at a;rcases a with rfl|rfl
  ·exact r
  ·exact s
 exact t
section
variable {T x y:Nat}{s u E F I P U a b c d g i m o:Value}{e:Int}{D:Nat->Bool}{Z:Nat->Prop}{Lv:World->Prop}{O:Nat->Prop}{w:World}{q:(Nat->Prop)->Goroutine->World->Prop}{k:List Item}{cs:List Frame}{l:List Nat}{n:Nat}
theorem Pr:(⟨mK D T x y s u e E F I P U a b c d g i m o,[]⟩:Act).put (some 5) (.pointer (some ⟨T,0,none⟩))=⟨mK (λx=>D x || decide (x=0)) T x y s u e E F I P U a b c d g i m o,[]⟩:=by
 simp[Act.put,mK]
theorem Ps:(⟨mK D T x y s u e E F I P U a b c d g i m o,[]⟩:Act).put (some 6) (.pointer (some ⟨T,0,none⟩))=⟨mK (λx=>D x || decide (x=1)) T x y s u e E F I P U a b c d g i m o,[]⟩:=by
 simp[Act.put,mK]
theorem Pt:(⟨mK D T x y s u e E F I P U a b c d g i m o,[]⟩:Act).put (some 7) (.pointer (some ⟨T,0,none⟩))=⟨mK (λx=>D x || decide (x=2)) T x y s u e E F I P U a b c d g i m o,[]⟩:=by
 simp[Act.put,mK]
theorem Pu:(⟨mK D T x y s u e E F I P U a b c d g i m o,[]⟩:Act).put (some 8) (.pointer (some ⟨x,1,none⟩))=⟨mK (λx=>D x || decide (x=3)) T x y s u e E F I P U a b c d g i m o,[]⟩:=by
 simp[Act.put,mK]
theorem Pv:(⟨mK D T x y s u e E F I P U a b c d g i m o,[]⟩:Act).put (some 9) (.int .i64 e)=⟨mK (λx=>D x || decide (x=4)) T x y s u e E F I P U a b c d g i m o,[]⟩:=by
 simp[Act.put,mK]
theorem UH(f:HG prog false Z Lv q n O (G ((base 28).at ⟨mK (λx=>D x || decide (x=0)) T x y s u e E F I P U a b c d g i m o,[]⟩ (.inRegion (dO f28) l::k)) cs) w):HG prog false Z Lv q (n+1) O (G ((base 28).at ⟨mK D T x y s u e E F I P U a b c d g i m o,[]⟩ (.inRegion (dO f28) (0::l)::k)) cs) w:=by
 rw[<-Pr]at f;refine fH (.pointer (some ⟨T,0,none⟩)) X X x5 (λj t=>?_) (λj t p r=>?_) f
 ·simp only[dO,iA,ft,f28];simp only[mK];go_simp
 ·have t:∀f:Array Event,f= #[]->p∈f->BS Z O j.heap.size p:=λf h v=>by rw[h]at v;simp at v
  refine t _ ?_ r;clear r t;simp only[dO,iA,ft,f28];simp only[mK];simp[go_sem, *]
theorem UI(z:D 0=true)(p:HG prog false Z Lv q n O (G ((base 28).at ⟨mK (λx=>D x || decide (x=1)) T x y s u e E F I P U a b c d g i m o,[]⟩ (.inRegion (dO f28) l::k)) cs) w):HG prog false Z Lv q (n+1) O (G ((base 28).at ⟨mK D T x y s u e E F I P U a b c d g i m o,[]⟩ (.inRegion (dO f28) (1::l)::k)) cs) w:=by
 rw[<-Ps]at p;have f:(mK D T x y s u e E F I P U a b c d g i m o).getD 5 undef=.pointer (some ⟨T,0,none⟩):=by simp[mK,z]
 refine fH (.pointer (some ⟨T,0,none⟩)) X X x5 (λr z=>?_) (λr z t v=>?_) p
 ·simp only[dO,iA,ft,f28];generalize mK D T x y s u e E F I P U a b c d g i m o=j at f;have B:j[5]?.getD undef=.pointer (some ⟨T,0,none⟩):=by rw[<-f,aw]
  go_simp
 ·have z:∀p:Array Event,p= #[]->t∈p->BS Z O r.heap.size t:=λp h A=>by rw[h]at A;simp at A
  refine z _ ?_ v;clear v z;simp only[dO,iA,ft,f28];generalize mK D T x y s u e E F I P U a b c d g i m o=j at f;have B:j[5]?.getD undef=.pointer (some ⟨T,0,none⟩):=by rw[<-f,aw]
  simp[go_sem, *]
theorem UJ(z:D 1=true)(p:HG prog false Z Lv q n O (G ((base 28).at ⟨mK (λx=>D x || decide (x=2)) T x y s u e E F I P U a b c d g i m o,[]⟩ (.inRegion (dO f28) l::k)) cs) w):HG prog false Z Lv q (n+1) O (G ((base 28).at ⟨mK D T x y s u e E F I P U a b c d g i m o,[]⟩ (.inRegion (dO f28) (2::l)::k)) cs) w:=by
 rw[<-Pt]at p;have f:(mK D T x y s u e E F I P U a b c d g i m o).getD 6 undef=.pointer (some ⟨T,0,none⟩):=by simp[mK,z]
 refine fH (.pointer (some ⟨T,0,none⟩)) X X x5 (λr z=>?_) (λr z t v=>?_) p
 ·simp only[dO,iA,ft,f28];generalize mK D T x y s u e E F I P U a b c d g i m o=j at f;have B:j[6]?.getD undef=.pointer (some ⟨T,0,none⟩):=by rw[<-f,aw]
  go_simp
 ·have z:∀p:Array Event,p= #[]->t∈p->BS Z O r.heap.size t:=λp h A=>by rw[h]at A;simp at A
  refine z _ ?_ v;clear v z;simp only[dO,iA,ft,f28];generalize mK D T x y s u e E F I P U a b c d g i m o=j at f;have B:j[6]?.getD undef=.pointer (some ⟨T,0,none⟩):=by rw[<-f,aw]
  simp[go_sem, *]
theorem UK(f:HG prog false Z Lv q n O (G ((base 28).at ⟨mK (λx=>D x || decide (x=3)) T x y s u e E F I P U a b c d g i m o,[]⟩ (.inRegion (dO f28) l::k)) cs) w):HG prog false Z Lv q (n+1) O (G ((base 28).at ⟨mK D T x y s u e E F I P U a b c d g i m o,[]⟩ (.inRegion (dO f28) (3::l)::k)) cs) w:=by
 rw[<-Pu]at f;refine fH (.pointer (some ⟨x,1,none⟩)) X X x5 (λj t=>?_) (λj t p r=>?_) f
 ·simp only[dO,iA,ft,f28];simp only[mK];go_simp
 ·have t:∀f:Array Event,f= #[]->p∈f->BS Z O j.heap.size p:=λf h v=>by rw[h]at v;simp at v
  refine t _ ?_ r;clear r t;simp only[dO,iA,ft,f28];simp only[mK];simp[go_sem, *]
theorem UL(r:D 3=true)(t:O x)(v:w.cell? ⟨x,1,none⟩=some (.int .i64 e))(p:HG prog false Z Lv q n O (G ((base 28).at ⟨mK (λx=>D x || decide (x=4)) T x y s u e E F I P U a b c d g i m o,[]⟩ (.inRegion (dO f28) l::k)) cs) w):HG prog false Z Lv q (n+1) O (G ((base 28).at ⟨mK D T x y s u e E F I P U a b c d g i m o,[]⟩ (.inRegion (dO f28) (4::l)::k)) cs) w:=by
 rw[<-Pv]at p;have f:(mK D T x y s u e E F I P U a b c d g i m o).getD 8 undef=.pointer (some ⟨x,1,none⟩):=by simp[mK,r]
 refine fb (.int .i64 e) X X x5 (J t) v (λr z=>?_) (λr z=>?_) p
 ·simp only[dO,iA,ft,f28];generalize mK D T x y s u e E F I P U a b c d g i m o=j at f;have A:j[8]?.getD undef=.pointer (some ⟨x,1,none⟩):=by rw[<-f,aw]
  go_simp
 ·simp only[dO,iA,ft,f28];generalize mK D T x y s u e E F I P U a b c d g i m o=j at f;have A:j[8]?.getD undef=.pointer (some ⟨x,1,none⟩):=by rw[<-f,aw]
  simp[go_sem, *]
end
section
variable {d:Nat->Prop}{g:World->Prop}{O:Nat->Prop}{w:World}{a:(Nat->Prop)->Goroutine->World->Prop}{n m T x y:Nat}{F:World->Prop}{c:Frame}{b:Act}{o:Array Oper}{i:Nat}{rest:List Nat}{k:List Item}{u:List Frame}{go:Option Addr}{s q:Nat}{e:Int}{l:Bool}
theorem ET(L:me d O T F)(t:x≠T)(z:y≠T)(E:x≠y)(K:¬O y)(P:¬d y)(U:∀w h,(∀l,O l->h l)->F w->HG prog false d g a m h (G ((c.at b (.inRegion o (i::rest)::k)).finish (.agg #[.slice go s q,.int .i64 e,.bool false])) u) w)(f:yg F x y go s q e false w):HG prog false d g a (m+80) (λh=>(O h∨h=x)∨h=y) (G ((base 28).at ⟨#[p,a3,r,.pointer (some ⟨x,0,none⟩),.pointer (some ⟨y,0,none⟩),v,A,B,C,M,N,W,Y,Q,ab,ad,R,S],[]⟩ [.code (oM f28)]) (c.at b (.inRegion o (i::rest)::k)::u)) w:=by
 have l:=L.more (.cells #[.slice go s q,.int .i64 e,.bool false] 39) t;have V:=l.more (.cells #[.slice none 0 0,.int .i64 0,.bool false] 39) z;have j:∀ {w l:World},yg F x y go s q e false w->dW d g (λh=>(O h∨h=x)∨h=y) w l->yg F x y go s q e false l:=λZ ao=>V.rely Z ao
 have D:∀(w:World),yg F x y go s q e false w->HG prog false d g a (m+40) (λh=>(O h∨h=x)∨h=y) (G ((base 28).at ⟨#[p,a3,r,.pointer (some ⟨x,0,none⟩),.pointer (some ⟨y,0,none⟩),v,A,B,C,M,N,.pointer (some ⟨x,2,none⟩),.bool false,Q,ab,ad,R,S],[]⟩ [.code (uj f28)]) (c.at b (.inRegion o (i::rest)::k)::u)) w:=λw f=>y8 L t z E K P U f
 generalize h:(uj f28)=t at D;simp only[oM,iA,ft,f28];simp only[uj,oM,iA,ft,f28]at h;rw[h];refine aH (n:=10) (m:=m+70) ?_;u_c XL j f;u_c XL j f;u_reg j f;u_op j f;refine XO (λar n=>?_);replace f:=j f n;clear n;refine gK 19 (n:=m+51) ?_;refine fb (.bool false) X X x5 (J (I (J X))) (cell_of (o:=2) f.1.2 X) (λl h=>Xf) (λl h=>Xh) ?_;walk_nrm;refine aH (n:=10) (m:=m+40) ?_;u_c XJ j f
 u_cond false j f
 u_c XN j f
 refine XO (λar n=>?_);exact D _ (j f n)
def O6(d:Nat->Prop)(g:World->Prop)(a:(Nat->Prop)->Goroutine->World->Prop)(m T:Nat)(l:Bool):(Nat->Prop)->Goroutine->World->Prop:=if l then o0 d g a (m+80) T 1 1 else a
theorem IM(L:me d O T F)(h:x≠T)(j:y≠T)(n:x≠y)(t:¬O y)(z:¬d y)(D:∀w f,(∀E,O E->f E)->F w->HG prog false d g a m f (G ((c.at b (.inRegion o (i::rest)::k)).finish (.agg #[.slice go s q,.int .i64 e,.bool l])) u) w)(I:yg F x y go s q e l w):HG prog false d g (O6 d g a m T l) (m+80) (λf=>(O f∨f=x)∨f=y) (G ((base 28).at ⟨#[.pointer (some ⟨T,0,none⟩),S,p,.pointer (some ⟨x,0,none⟩),.pointer (some ⟨y,0,none⟩),r,v,A,B,C,M,N,W,Y,Q,ab,ad,R],[]⟩ [.code (oM f28)]) (c.at b (.inRegion o (i::rest)::k)::u)) w:=by
 cases l with
 |true=>
  rw[ln];exact gK m (EU L h j n t z D I)
 |false=>exact ET L h j n t z D I
def En(a:Nat->Bool):Nat->Nat
 |0=>0
 |n+1=>(bif a n then 0 else 1)+En a n
theorem sK{j:Nat}(a:f j=false):∀n,j<n->En f n=En (λx=>f x || decide (x=j)) n+1
 |0,b=>E
 |n+1,b=>by
  have c:∀n,n<=j->En (λx=>f x || decide (x=j)) n=En f n:=by
   intro n;induction n with
   |zero=>intro _;rfl
   |succ n d=>
    intro b;simp only[En];rw[d E,aq (by omega:¬n=j),Bool.or_false]
  rcases aR j n with b|b
  ·simp only[En];rw[sK a n b,aq (by omega:¬n=j),Bool.or_false];omega
  ·have e:n=j:=by omega
   subst e;simp only[En];rw[c n (aa _),a];simp;omega
theorem ES(L:me d O T F)(K:x≠T)(M:y≠T)(Y:x≠y)(Z:¬O y)(ab:¬d y){a1 t2 t5 t6 t7 t8 t9 t10 t11 t12 t13 t14 t15 t16 t17:Value}(ad:∀w r,(∀N,O N->r N)->F w->HG prog false d g a m r (G ((c.at b (.inRegion o (i::rest)::k)).finish (.agg #[.slice go s q,.int .i64 e,.bool l])) u) w):∀(p:List Nat) (f:Nat->Bool) (w:World),BY (dO f28) f p->f 5=false->(f 1=true->f 0=true)->(f 2=true->f 1=true)->(f 4=true->f 3=true)->yg F x y go s q e l w->HG prog false d g (o0 d g (O6 d g a m T l) (m+110) T 0 e) (En f 6+30) (λr=>(O r∨r=x)∨r=y) (G ((base 28).at ⟨mK f T x y a1 t2 e t5 t6 t7 t8 t9 t10 t11 t12 t13 t14 t15 t16 t17,[]⟩ [.inRegion (dO f28) p,.code (oM f28)]) (c.at b (.inRegion o (i::rest)::k)::u)) w:=by
 have N:=L.more (.cells #[.slice go s q,.int .i64 e,.bool l] 39) K;have P:=N.more (.cells #[.slice none 0 0,.int .i64 0,.bool false] 39) M;have C:∀ {w N:World},yg F x y go s q e l w->dW d g (λr=>(O r∨r=x)∨r=y) w N->yg F x y go s q e l N:=λD ao=>P.rely D ao
 intro p;induction p with
 |nil=>
  intro f w E n;rw[SF E]at n;cases n
 |cons j p B=>
  intro f w E n v ar av h;obtain⟨r,N,z,Q,t,R,S⟩:=Lu E;rw[sK N 6 r,Nat.add_right_comm];rcases(by omega:j=0∨j=1∨j=2∨j=3∨j=4∨j=5)with rfl|rfl|rfl|rfl|rfl|rfl
  ·refine UH (B _ w z (by simpa using n) ?_ ?_ ?_ h)<;>simp<;>first|assumption|exact v (t rfl)
  ·refine UI (Q X) (B _ w z (by simpa using n) ?_ ?_ ?_ h)<;>simp[Q X]<;>first|assumption|exact v (t rfl)
  ·refine UJ (t X) (B _ w z (by simpa using n) ?_ ?_ ?_ h)<;>simp[t X]<;>first|assumption|exact v (t rfl)
  ·refine UK (B _ w z (by simpa using n) ?_ ?_ ?_ h)<;>simp<;>first|assumption|exact v (t rfl)
  ·refine UL (R X) (I (J X)) (cell_of (o:=1) h.1.2 X) (B _ w z (by simpa using n) ?_ ?_ ?_ h)<;>simp[R X]<;>first|assumption|exact v (t rfl)
  ·have U:=(S X).1;have V:=(S X).2;have W:=ar U;have k0:=v W;have k3:=av V
   have hq:p=[]:=by
    cases p with
    |nil=>rfl
    |cons A q2=>
     obtain⟨n,ax,_⟩:=Lu z;rcases(by omega:A=0∨A=1∨A=2∨A=3∨A=4∨A=5)with rfl|rfl|rfl|rfl|rfl|rfl<;>simp[*]at ax
   subst hq;simp only[mK,k0,W,U,k3,V,ek];generalize En (λx=>f x || decide (x=5)) 6=n;rw[show n+30+1=31+n by omega];refine gK n (n:=31) ?_;refine gK 10 (n:=21) ?_;generalize a0:(oM f28)=f;simp only[dO,iA,ft,f28];refine gT (f:=55) (vs:= #[.pointer (some ⟨T,0,none⟩),.int .i64 e]) X X x5 X func55 wq wq Xf ?_;refine B2 (m:=m+90) C (λw f D=>P.U7 w f D) (λf w h=>?_) h;walk_nrm;refine aH (n:=10) (m:=m+80) ?_;u_c XJ C h;refine XO (λf a2=>?_);subst a0;exact IM L K M Y Z ab ad (C h a2)
end
section
variable {b:Nat->Prop}{a:World->Prop}{O:Nat->Prop}{w:World}{c:(Nat->Prop)->Goroutine->World->Prop}{n m T x y:Nat}{F:World->Prop}{o:Frame}{g:Act}{u:Array Oper}{i:Nat}{rest:List Nat}{k:List Item}{D:List Frame}{go:Option Addr}{s q:Nat}{e:Int}{l:Bool}
theorem Lt(E:∀w d,a w->a (w.at d))(L:me b O T F)(j:x≠T)(n:y≠T)(I:x≠y)(J:¬O y)(K:¬b y)(P:∀w f,(∀t,O t->f t)->F w->HG prog false b a c m f (G ((o.at g (.inRegion u (i::rest)::k)).finish (.agg #[.slice go s q,.int .i64 e,.bool l])) D) w)(h:yg F x y go s q e l w):HG prog false b a (o0 b a (O6 b a c m T l) (m+110) T 0 e) 47 (λf=>(O f∨f=x)∨f=y) (G ((base 28).at ⟨#[.pointer (some ⟨T,0,none⟩),p,r,.pointer (some ⟨x,0,none⟩),.pointer (some ⟨y,0,none⟩),v,A,B,C,M,N,W,Y,Q,ab,ad,R,S],[]⟩ [.code (iA f28)]) (o.at g (.inRegion u (i::rest)::k)::D)) w:=by
 have t:=L.more (.cells #[.slice go s q,.int .i64 e,.bool l] 39) j;have U:=t.more (.cells #[.slice none 0 0,.int .i64 0,.bool false] 39) n;have t:∀ {w z:World},yg F x y go s q e l w->dW b a (λf=>(O f∨f=x)∨f=y) w z->yg F x y go s q e l z:=λV X=>U.rely V X
 have f:(iA f28)=.seq (.region 1 (dO f28) true) (oM f28):=rfl
 have z:(#[.pointer (some ⟨T,0,none⟩),p,r,.pointer (some ⟨x,0,none⟩),.pointer (some ⟨y,0,none⟩),v,A,B,C,M,N,W,Y,Q,ab,ad,R,S]:Array Value)=mK (λi=>decide ((dO f28).size<=i)) T x y p r e v A B C M N W Y Q ab ad R S:=by
  have U:(dO f28).size=6:=wq;rw[U];simp[mK]
 rw[f,z];refine aH (n:=10) (m:=37) ?_;u_c XL t h;refine XO (λf z=>?_);replace h:=t h z;refine G1 (n:=36) wq UG E (λt z=>?_);have:=ES (m:=m) L j n I J K P t _ f z (by rw[show(dO f28).size=6 by kernel_rfl];rfl) Xz Xz Xz h (a1:=p) (t2:=r) (t5:=v) (t6:=A) (t7:=B) (t8:=C) (t9:=M) (t10:=N) (t11:=W) (t12:=Y) (t13:=Q) (t14:=ab) (t15:=ad) (t16:=R) (t17:=S)
 have f:En (λi=>decide ((dO f28).size<=i)) 6=6:=by
  rw[show(dO f28).size=6 by kernel_rfl];rfl
 rw[f]at this;exact this
theorem EV(R:∀w d,a w->a (w.at d))(L:me b O T F)(f:F w)(z:∀w A,(∀B,O B->A B)->F w->HG prog false b a c m A (G ((o.at g (.inRegion u (i::rest)::k)).finish (.agg #[.slice go s q,.int .i64 e,.bool l])) D) w):HG prog false b a (o0 b a (O6 b a c m T l) (m+110) T 0 e) 80 O (G (Frame.enter prog 28 #[.pointer (some ⟨T,0,none⟩),.agg #[.slice go s q,.int .i64 e,.bool l]] .normal) (o.at g (.inRegion u (i::rest)::k)::D)) w:=by
 have p:∀ {w h:World},F w->dW b a O w h->F h:=λr t=>L.rely r t
 have C:∀(x y:Nat) (w:World),x≠T->y≠T->x≠y->¬O y->¬b y->yg F x y go s q e l w->HG prog false b a (o0 b a (O6 b a c m T l) (m+110) T 0 e) 47 (λj=>(O j∨j=x)∨j=y) (G ((base 28).at ⟨#[.pointer (some ⟨T,0,none⟩),.agg #[.slice go s q,.int .i64 e,.bool l],undef,.pointer (some ⟨x,0,none⟩),.pointer (some ⟨y,0,none⟩),U,U,U,U,U,U,U,U,U,U,U,U,U],[]⟩ [.code (iA f28)]) (o.at g (.inRegion u (i::rest)::k)::D)) w:=λx y w A B S V W f=>Lt R L A B S V W z f
 rw[Yo _ func28 X];generalize v:(iA f28)=A at C
 walk_nrmf f28
 simp only[iA,ft,f28]at v;rw[v];clear v z;refine aH (n:=10) (m:=70) ?_;u_c XL p f;u_reg p f;refine XO (λE n=>?_);replace f:=p f n;clear n;refine gK 10 (n:=60) ?_;refine wU L f (.cells #[.slice go s q,.int .i64 e,.bool l] 39) X X x5 (λh=>Xf) (λh=>Xr) (λx z p v A B K=>?_);have M:=L.more (.cells #[.slice go s q,.int .i64 e,.bool l] 39) K;replace f:=And.intro p v;clear p v;walk_nrm;refine wU M f (.cells #[.slice none 0 0,.int .i64 0,.bool false] 39) X X x5 (λh=>Xf) (λh=>Xr) (λy z p v N Y P=>?_);have A:=M.more (.cells #[.slice none 0 0,.int .i64 0,.bool false] 39) P;replace f:yg F x y go s q e l z:=And.intro p v;clear p v;have Q:∀ {w h:World},yg F x y go s q e l w->dW b a (λj=>(O j∨j=x)∨j=y) w h->yg F x y go s q e l h:=λr t=>A.rely r t
 walk_nrm;refine gK 1 (n:=57) ?_;refine aH (n:=10) (m:=47) ?_;u_c XJ Q f;refine XO (λE n=>?_);exact C x y E K P (λe=>N (J e.symm)) (λh=>N (I h)) Y (Q f n)
end
end
section
open Go.Conc
theorem yU.more(b:yU K a0 t V av)(c:∀a,a0 a->a2 a):yU K a2 t V av:=
 ⟨b.tape,b.os,b.out,b.size,λa d e=>b.other a d λf=>e (c a f),λg h=>(b.ev g h).mono (λ_ i=>i) λa j=>j.imp (c a) id⟩
section
variable {P:Program}{b:Bool}{i:Nat->Prop}{e:World->Prop}{a:(Nat->Prop)->Goroutine->World->Prop}{O O' Oc Z:Nat->Prop}{n:Nat}{g:Goroutine}{w d k:World}{c:Nat->Option Obj}
def O9(Oc Z:Nat->Prop)(c:Nat->Option Obj)(a:(Nat->Prop)->Goroutine->World->Prop)(e:Nat->Prop)(g:Goroutine)(w:World):Prop:=
 ∃d,a d g w∧(∀b,d b->e b)∧(∀b,Oc b->e b)∧∀b,Z b->¬d b∧w.heap[b]?=c b
theorem HG.lift(m:HG P b i e a n O g w)(k:∀f,O f->O' f)(o:∀f,Oc f->O' f)(l:∀f,Z f->O' f∧¬O f∧f<w.heap.size∧w.heap[f]?=c f):HG P b i e (O9 Oc Z c a) n O' g w:=by
 induction n generalizing O O' g w with
 |zero=>exact λd j=>⟨O,m d (j.less k),k,o,λf h=>⟨(l f h).2.1,(j.qH f (J (l f h).1)).trans (l f h).2.2.2⟩⟩
 |succ n r=>
  rcases m with m|⟨s,m⟩
  ·exact .inl λd j=>⟨O,m d (j.less k),k,o,λf h=>⟨(l f h).2.1,(j.qH f (J (l f h).1)).trans (l f h).2.2.2⟩⟩
  ·refine .inr ⟨s,λd j=>?_⟩;have:=m d (j.less k);cases q:stepG P b g d with
   |go u v x=>
    rw[q]at this;obtain⟨p,t⟩:=this;refine⟨p.more k,r t (λf h=>h.imp (k f) id) (λf h=>I (o f h)) λf h=>?_⟩;obtain⟨k,m,o,r⟩:=l f h;have l:f<d.heap.size:=aj o j.size;refine⟨I k,λh=>h.elim m λh=>?_,aj l p.size,?_⟩
    ·have:=h.1;omega
    ·rw[p.other f l m,j.qH f (J k),r]
   |_=>rw[q]at this;exact this.elim
end
end
section
open Go.Conc Go.RowKit Go.ConcR.Gen
def Bg(a:Func):Code:=match a.body with|some b=>b|_=> .skip
def NS(a:Func):Code:=match Bg a with |.seq _ b=>b|_=> .skip
def DI(a:Func):Array Oper:=match NS a with |.seq (.region _ b _) _=>b|_ =>#[]
def nS(b:Func)(a c:Value)(T d e f g:Nat)(h i:Int):Frame:=
 (base 27).at ⟨#[a,.pointer (some ⟨T,0,none⟩),.pointer (some ⟨d,0,none⟩),.pointer (some ⟨e,0,none⟩),.pointer (some ⟨f,0,none⟩),undef,.pointer (some ⟨g,0,none⟩),.int .i64 h,c,.int .i64 i,a,U,U],[]⟩ [.inRegion (DI b) [4,5,6],.code .ret]
structure Uz(rd:Nat->Prop)(F:World->Prop)(b6 b7 b8:Nat)(q k:Int)(xs:Value):Prop where
 r6:rd b6
 r7:rd b7
 r8:rd b8
 c6:∀w,F w->w.cell? ⟨b6,0,none⟩=some (.int .i64 q)
 c7:∀w,F w->w.cell? ⟨b7,0,none⟩=some xs
 c8:∀w,F w->w.cell? ⟨b8,0,none⟩=some (.int .i64 k)
section
variable {a:Nat->Prop}{x:World->Prop}{O:Nat->Prop}{w:World}{y:(Nat->Prop)->Goroutine->World->Prop}{n m T d g i u:Nat}{F:World->Prop}{s:Frame}{o:List Frame}{J:Option Addr}{E D:Nat}{e q k:Int}{l:Bool}{c b:Value}
def BU(u:Nat)(w:World):Prop:=w.heap[u]?=some (.cells #[.slice none 0 0,.int .i64 0,.bool false] 39)
def Vq(a:Nat->Prop)(F:World->Prop)(c b:Value)(T d g i:Nat)(q k:Int)(s:Frame)(o:List Frame)(O:Nat->Prop)(f:Nat->Prop)(h:Goroutine)(w:World):Prop:=
 ∃u,u≠T∧¬O u∧¬a u∧(f=λe=>O e∨e=u)∧F w∧BU u w∧h=G (Frame.enter prog 29 #[.int .i64 q,b,.int .i64 k,c] .normal) ((nS f27) c b T d g i u q k::s::o)
theorem Ke(L:me a O T F)(m:Uz a F d g i q k b)(e:F w):HG prog false a x (Vq a F c b T d g i q k s o O) 60 O (G (Frame.enter prog 27 #[c,.pointer (some ⟨T,0,none⟩),.pointer (some ⟨d,0,none⟩),.pointer (some ⟨g,0,none⟩),.pointer (some ⟨i,0,none⟩)] .normal) (s::o)) w:=by
 have r:∀ {w f:World},F w->dW a x O w f->F f:=λt v=>L.rely t v
 have y:∀(u:Nat) (w:World),u≠T->¬O u->¬a u->F w->BU u w->Vq a F c b T d g i q k s o O (λn=>O n∨n=u) (G (Frame.enter prog 29 #[.int .i64 q,b,.int .i64 k,c] .normal) ((nS f27) c b T d g i u q k::s::o)) w:=λu w j z D E J=>⟨u,j,z,D,X,E,J,X⟩
 generalize Vq a F c b T d g i q k s o O=D at y ⊢;simp only[nS,DI,NS,Bg,f27]at y;rw[Yo _ func27 X]
 walk_nrmf f27
 refine aH (n:=10) (m:=50) ?_;u_c XL r e;u_reg r e;refine XO (λA h=>?_);replace e:=r e h;clear h;refine wU L e (.cells #[.slice none 0 0,.int .i64 0,.bool false] 39) X X x5 (λf=>Xf) (λf=>Xr) (λu B p r K M C=>?_);have D:=L.more (.cells #[.slice none 0 0,.int .i64 0,.bool false] 39) C;replace e:=And.intro p r;clear p r;have l:∀ {w f:World},(F w∧w.heap[u]?=some (.cells #[.slice none 0 0,.int .i64 0,.bool false] 39))->dW a x (λn=>O n∨n=u) w f->(F f∧f.heap[u]?=some (.cells #[.slice none 0 0,.int .i64 0,.bool false] 39)):=λt v=>D.rely t v
 walk_nrm;refine gK 29 (n:=20) ?_;refine aH (n:=10) (m:=10) ?_;u_c XJ l e;u_c XL l e;u_reg l e;refine XO (λA h=>?_);replace e:=l e h;clear h;refine fb (.int .i64 q) X X x5 (I m.r6) (m.c6 _ e.1) (λf j=>Xf) (λf j=>Xh) ?_;walk_nrm;refine fb b X X x5 (I m.r7) (m.c7 _ e.1) (λf j=>Xf) (λf j=>Xh) ?_;walk_nrm;refine fb (.int .i64 k) X X x5 (I m.r8) (m.c8 _ e.1) (λf j=>Xf) (λf j=>Xh) ?_;walk_nrm;refine gK 1 (n:=6) ?_;refine aH (n:=4) (m:=2) ?_;u_op l e;refine XO (λA h=>?_);replace e:=l e h;clear h;refine gT (f:=29) (vs:= #[.int .i64 q,b,.int .i64 k,c]) X X x5 X func29 wq wq Xf ?_;refine HG.stop (λB z=>?_);have p:=l e z;exact y u B C K M p.1 p.2
end
section
variable {g:Nat->Prop}{Lv:World->Prop}{O:Nat->Prop}{w:World}{c:(Nat->Prop)->Goroutine->World->Prop}{n m T b6 b7 b8 u:Nat}{F:World->Prop}{o:Frame}{i:List Frame}{go:Option Addr}{b a:Nat}{e q k:Int}{l:Bool}{wv xs:Value}
theorem NY(L:me g O T F)(hu:¬O u)(ab:¬g u)(R:u≠T)(s:∀n,O n∨n=u->K n)(ad:∀w,F w->HG prog false g Lv c m K (G (o.finish (.agg #[.slice go b a,.int .i64 e,.bool l])) i) w)(j:F w∧BU u w):HG prog false g Lv c (m+20) K (G (((base 27).at ⟨#[p,r,v,A,B,C,.pointer (some ⟨u,0,none⟩),M,N,W,Y,Q,undef],[]⟩ [.inRegion (DI f27) [5,6],.code .ret]).finish (.agg #[.slice go b a,.int .i64 e,.bool l])) (o::i)) w:=by
 have L1:=L.more (.cells #[.slice none 0 0,.int .i64 0,.bool false] 39) R;have L3:=L.more (.cells #[.slice go b a,.int .i64 e,.bool l] 39) R;have RL:∀ {w f:World},(F w∧BU u w)->dW g Lv K w f->(F f∧BU u f):=λh z=>L1.rely h (z.less s)
 simp only[DI,NS,Bg,f27];rw[XW];walk_nrm;refine gK 9 (n:=m+11) ?_;refine zi (x:=u) (v0:=.slice go b a) (v1:=.int .i64 e) (v2:=.bool l) RL j (s _ (J X)) (λw h=>h.2) X X x5 (λf d=>?_) (λf d=>?_) (λD S U=>?_)
 ·have t:=cell_of (o:=0) d X;have V:=bF d 0;have k:=cD d 0 (.slice go b a);have I:=cell_of (o:=1) k X;have P:=bF k 1;have q:=cD k 1 (.int .i64 e);have x:=cell_of (o:=2) q X;have Z:=bF q 2;go_simp
 ·have t:=cell_of (o:=0) d X;have V:=bF d 0;have k:=cD d 0 (.slice go b a);have I:=cell_of (o:=1) k X;have P:=bF k 1;have q:=cD k 1 (.int .i64 e);have x:=cell_of (o:=2) q X;have Z:=bF q 2;simp[go_sem, *];rw[X8 (hv:=rfl),X8 (hv:=rfl),t,x];simp only[V,Z];rfl
 ·replace j:F D∧D.heap[u]?=some (.cells #[.slice go b a,.int .i64 e,.bool l] 39):=by
   obtain⟨f,P,k,q⟩:=S;refine⟨L.keep f D (λn hb=>k n λe=>?_) E P.1,U⟩;subst e;exact hb.elim hu ab
  clear S U;have y:∀ {w f:World},(F w∧w.heap[u]?=some (.cells #[.slice go b a,.int .i64 e,.bool l] 39))->dW g Lv K w f->(F f∧f.heap[u]?=some (.cells #[.slice go b a,.int .i64 e,.bool l] 39)):=λh z=>L3.rely h (z.less s)
  walk_nrm;refine aH (n:=9) (m:=m+1) ?_;u_c XJ y j;u_c X3 y j;refine XO (λn k=>?_);replace j:=y j k;clear k;refine zh (x:=u) (fn:=f27) (t:=39) y j (s _ (J X)) (λw h=>h.2) X X func27 (λf d=>?_) (λf d=>?_) ?_
  ·have t:=cell_of (o:=0) d X;have I:=cell_of (o:=1) d X;have x:=cell_of (o:=2) d X;simp only[f27,results];go_simp
  ·have t:=cell_of (o:=0) d X;have I:=cell_of (o:=1) d X;have x:=cell_of (o:=2) d X;simp only[f27];simp[go_sem,results, *]
  ·exact ad _ j.1
theorem Kd(p:∀w d,Lv w->Lv (w.at d))(L:me g O T F)(r:¬O u)(s:¬g u)(j:u≠T)(t:∀w f,(∀h,O h->f h)->F w->HG prog false g Lv c m f (G (o.finish (.agg #[.slice go b a,.int .i64 e,.bool l])) i) w)(v:F w∧BU u w):HG prog false g Lv (o0 g Lv (O6 g Lv c (m+20) T l) (m+20+110) T 0 e) 81 (λn=>O n∨n=u) (G (((nS f27) wv xs T b6 b7 b8 u q k).finish (.agg #[.slice go b a,.int .i64 e,.bool l])) (o::i)) w:=by
 have x:=L.more (.cells #[.slice none 0 0,.int .i64 0,.bool false] 39) j;unfold nS;have n:((DI f27)[4]?).bind (·.dst)=some 11:=rfl;rw[XW,n];have n:(⟨#[wv,.pointer (some ⟨T,0,none⟩),.pointer (some ⟨b6,0,none⟩),.pointer (some ⟨b7,0,none⟩),.pointer (some ⟨b8,0,none⟩),undef,.pointer (some ⟨u,0,none⟩),.int .i64 q,xs,.int .i64 k,wv,U,U],[]⟩:Act).put (some 11) (.agg #[.slice go b a,.int .i64 e,.bool l])=⟨#[wv,.pointer (some ⟨T,0,none⟩),.pointer (some ⟨b6,0,none⟩),.pointer (some ⟨b7,0,none⟩),.pointer (some ⟨b8,0,none⟩),undef,.pointer (some ⟨u,0,none⟩),.int .i64 q,xs,.int .i64 k,wv,.agg #[.slice go b a,.int .i64 e,.bool l],undef],[]⟩:=by simp[Act.put]
 rw[n];refine gT (f:=28) (vs:= #[.pointer (some ⟨T,0,none⟩),.agg #[.slice go b a,.int .i64 e,.bool l]]) X X x5 X func28 wq wq Xf ?_;exact EV (m:=m+20) p x v λw f n y=>NY L r s j n (λw z=>t w f (λh A=>n h (I A)) z) y
end
def Wp(b c d e f g T h i j k:Nat)(l:Nat->Prop)(m:Int)(n:Value)(a:World):Prop:=kx b c d e f g T h i j l a∧a.heap[k]?=some (.cells #[.int .i64 m,n] 98)
section
variable {Wg bO bB bM cO cB T b6 b7 b8 s:Nat}{a:Nat->Prop}{Lv:World->Prop}{O:Nat->Prop}{w b:World}{e:(Nat->Prop)->Goroutine->World->Prop}{i q c:Int}{wv d:Value}{k:List Item}{cs:List Frame}{F:World->Prop}
theorem It(g:T<bO)(h:a bO)(j:¬a T)(k:s≠T):me a (λf=>dU f∨f=s) T (Wp Wg bO bB bM cO cB T b6 b7 b8 s a i wv) where
 keep:=λw b f l d=>⟨d.1.keep (λe c=>f e (J c)) l,(f s (I (J X))).trans d.2⟩
 lt:=λw d e c=>by
  rcases c with(c|rfl)|c|rfl
  ·exact c.elim
  ·exact aC d.2
  ·exact d.1.lt e c
  ·exact Nat.lt_trans g (d.1.lt bO h)
 nT:=⟨λc=>c.elim id λd=>k d.symm,j⟩
theorem OM{g0 g1 g2 h0 h1 h2 a b c d e g h j k l m:Value}(n:f 6=false)(o:f 7=false):gM f cO cB T b6 b7 b8 s i wv g0 g1 g2 a b c d e g h j k l m=gM f cO cB T b6 b7 b8 s i wv h0 h1 h2 a b c d e g h j k l m:=by
 simp[gM,n,o]
structure VN(cO cB T b6 b7 b8 s:Nat)(i:Int)(wv:Value)(k:List Item)(fr:Frame):Prop where
 ex:∃(D:Nat->Bool) (l:List Nat) (v3 v4 v5 v11 v12 v13 v14 v15 v16 v17 v18:Value),BY (cI f52) (λx=>D x || decide (x=6)) l∧D 3=true∧D 4=true∧D 5=true∧(D 2=true->D 1=true)∧D 7=false∧D 8=false∧
  ∀g0 g1 g2,fr=(base 52).at ⟨gM D cO cB T b6 b7 b8 s i wv g0 g1 g2 v3 v4 v5 v11 v12 v13 v14 v15 v16 v17 v18,[]⟩ (.inRegion (cI f52) (6::l)::k)
def WM(a:Nat->Prop)(F:World->Prop)(wv d:Value)(cO cB T b6 b7 b8 s:Nat)(i q c:Int)(k:List Item)(cs:List Frame)(O:Nat->Prop)(e:Nat->Prop)(f:Goroutine)(w:World):Prop:=∃b,VN cO cB T b6 b7 b8 s i wv k b∧Vq a F wv d T b6 b7 b8 q c b cs O e f w
theorem Wc(L:me a O T F)(A:Uz a F b6 b7 b8 q c d)(u:O s)(v:∀w,F w->w.heap[s]?=some (.cells #[.int .i64 i,wv] 98)){g0 g1 g2 v3 v4 v5 v11 v12 v13 v14 v15 v16 v17 v18:Value}:∀(n:List Nat) (e:Nat->Bool) (w:World),BY (cI f52) e n->e 6=false->e 7=false->e 8=false->(e 2=true->e 1=true)->(e 5=true->e 4=true)->F w->HG prog false a Lv (WM a F wv d cO cB T b6 b7 b8 s i q c k cs O) (En e 9+65) O (G ((base 52).at ⟨gM e cO cB T b6 b7 b8 s i wv g0 g1 g2 v3 v4 v5 v11 v12 v13 v14 v15 v16 v17 v18,[]⟩ (.inRegion (cI f52) n::k)) cs) w:=by
 intro n;induction n with
 |nil=>
  intro e w t _ _ g;rw[ON t]at g;cases g
 |cons j n p=>
  intro e w t f m g B C l;obtain⟨D,E,o,x,y,z,I,J⟩:=Gm t;rw[sK E 9 D,Nat.add_right_comm];rcases(by omega:j=0∨j=1∨j=2∨j=3∨j=4∨j=5∨j=6∨j=7∨j=8)with rfl|rfl|rfl|rfl|rfl|rfl|rfl|rfl|rfl
  ·refine Se (p _ w o (by simpa using f) (by simpa using m) (by simpa using g) ?_ ?_ l)<;>simp<;>assumption
  ·refine Sf (p _ w o (by simpa using f) (by simpa using m) (by simpa using g) ?_ ?_ l)<;>simp<;>assumption
  ·refine Sg (x X) u (cell_of (o:=0) (v w l) X) (p _ w o (by simpa using f) (by simpa using m) (by simpa using g) ?_ ?_ l)<;>simp[x X]<;>assumption
  ·refine Vh (p _ w o (by simpa using f) (by simpa using m) (by simpa using g) ?_ ?_ l)<;>simp<;>assumption
  ·refine Vi (p _ w o (by simpa using f) (by simpa using m) (by simpa using g) ?_ ?_ l)<;>simp<;>assumption
  ·refine Vj (y X) u (cell_of (o:=1) (v w l) X) (p _ w o (by simpa using f) (by simpa using m) (by simpa using g) ?_ ?_ l)<;>simp[y X]<;>assumption
  ·have t:=(z X).1;have p:=(z X).2;have u:=C p
   have r:VN cO cB T b6 b7 b8 s i wv k ((base 52).at ⟨gM e cO cB T b6 b7 b8 s i wv g0 g1 g2 v3 v4 v5 v11 v12 v13 v14 v15 v16 v17 v18,[]⟩ (.inRegion (cI f52) (6::n)::k)):=
    ⟨e,n,v3,v4,v5,v11,v12,v13,v14,v15,v16,v17,v18,o,t,u,p,B,m,g,λv x y=>by rw[OM (g0:=g0) (g1:=g1) (g2:=g2) (h0:=v) (h1:=x) (h2:=y) f m]⟩
   generalize En (λm=>e m || decide (m=6)) 9=g;rw[show g+65+1=61+(g+5) by omega];refine gK (g+5) (n:=61) ?_;have g:(gM e cO cB T b6 b7 b8 s i wv g0 g1 g2 v3 v4 v5 v11 v12 v13 v14 v15 v16 v17 v18).getD 14 undef=mW T b6 b7 b8:=by simp[gM,t]
   have m:(gM e cO cB T b6 b7 b8 s i wv g0 g1 g2 v3 v4 v5 v11 v12 v13 v14 v15 v16 v17 v18).getD 16 undef=wv:=by simp[gM,p]
   generalize gM e cO cB T b6 b7 b8 s i wv g0 g1 g2 v3 v4 v5 v11 v12 v13 v14 v15 v16 v17 v18=n at g m r ⊢;have e:n[14]?.getD undef=mW T b6 b7 b8:=by rw[<-g,aw]
   have e:n[16]?.getD undef=wv:=by rw[<-m,aw]
   refine CM (f:=27) (args:= #[wv,.pointer (some ⟨T,0,none⟩),.pointer (some ⟨b6,0,none⟩),.pointer (some ⟨b7,0,none⟩),.pointer (some ⟨b8,0,none⟩)]) X X x5 (λb=>?_) (λb=>?_) ?_
   ·simp only[cI,dS,dv,f52];have K:=Cu #[wv,.pointer (some ⟨T,0,none⟩),.pointer (some ⟨b6,0,none⟩),.pointer (some ⟨b7,0,none⟩),.pointer (some ⟨b8,0,none⟩)] b;clear r;unfold mW at *;go_simp
   ·simp only[cI,dS,dv,f52];have K:=Cx #[wv,.pointer (some ⟨T,0,none⟩),.pointer (some ⟨b6,0,none⟩),.pointer (some ⟨b7,0,none⟩),.pointer (some ⟨b8,0,none⟩)] b #[];clear r;unfold mW at *;simp[go_sem, *]
   ·exact(Ke L A l).mono λe g w h=>⟨_,r,h⟩
  ·rw[(I X).2]at f;cases f
  ·rw[(J X).2.2]at f;cases f
