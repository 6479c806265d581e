/- Texts of ours, one behind the other: ZJ1 ZJ3 ZJ4 ZJ5. -/
import Derived.Test.YtedifobeggabnaaGreatCbZJ0
import Derived.Test.YtedifobeggabnaaGreatCbZH2
import Derived.Test.YtedifobeggabnaaGreatCbZI0
import Derived.Test.YtedifobeggabnaaGreatCbZI5
namespace Go.Proofs.YtedifobeggabnaaGreat
set_option maxHeartbeats 16000000
set_option maxRecDepth 100000
open Tryz
variable {a:FD}{b:Nat->Nat}{d e f:Nat}
section
open Go.Conc Go.RowKit Go.ConcR.Gen
open Go.ConcN.Gen
theorem CS:(prog.info? 98).map (λa=>(a.zero,a.size,a.bytes))=some (some (.agg #[.int .i64 0,.slice none 0 0]),2,32):=wq
theorem CU:(prog.info? 100).map (λa=>(a.zero,a.size,a.bytes))=some (some (.agg #[.int .i64 0,.slice none 0 0,.int .i64 0,.bool false]),4,48):=wq
theorem Qk(a:World):(Instr.makeChan 86 (.int .i64 0)).run prog a=.ok (.chan (some a.heap.size)) { a with heap:=a.heap.push (.chan 0 #[] false 0 0 false)}:=by
 obtain⟨d,b,_,_,c⟩:=X5 CS;exact run_makeChan (P:=prog) (w:=a) underlying86 b .i64 0 E (by rw[c];omega)
theorem Ts(a:World):(Instr.makeChan 86 (.int .i64 0)).events prog a #[]= #[]:=by
 obtain⟨d,b,_,_,c⟩:=X5 CS;exact events_makeChan (P:=prog) (w:=a) underlying86 b .i64 0 E (by rw[c];omega) #[]
theorem Qj(b:Nat)(c:b<=900)(a:World):(Instr.makeChan 87 (.int .i64 (b:Nat))).run prog a=.ok (.chan (some a.heap.size)) { a with heap:=a.heap.push (.chan b #[] false 0 0 false)}:=by
 obtain⟨e,c,_,_,d⟩:=X5 CU;exact run_makeChan (P:=prog) (w:=a) underlying87 c .i64 b E (by rw[d];omega)
theorem Tr(a:Nat)(c:a<=900)(b:World):(Instr.makeChan 87 (.int .i64 (a:Nat))).events prog b #[]= #[]:=by
 obtain⟨e,c,_,_,d⟩:=X5 CU;exact events_makeChan (P:=prog) (w:=b) underlying87 c .i64 a E (by rw[d];omega) #[]
def Qe(a:Func):Nat->Code
 |0=>match a.body with|some b=>b|_=> .skip
 |n+1=>jj (Qe a n)
def RY(a:Func):Array Oper:=match Qe a 4 with |.seq (.region _ b _) _=>b|_ =>#[]
def AU(h:Func)(b i:Int)(c:Option Addr)(d e:Nat)(f g:Value)(a j k l T n m:Nat):Frame:=
 (base 9).at ⟨#[.int .i64 b,.slice c d e,.int .i64 i,f,g,.int .i64 (a:Nat),.pointer (some ⟨j,0,none⟩),.pointer (some ⟨k,0,none⟩),.pointer (some ⟨l,0,none⟩),U,U,U,.slice none 0 0,.int .i64 0,.int .i64 0,.int .i64 0,.int .i64 0,.pointer (some ⟨T,0,none⟩),.int .i64 b,.slice c d e,.int .i64 i,f,g,.int .i64 0,.int .i64 0,.bool false,undef,.int .i64 (a:Nat),.bool false,.bool false,.int .i64 (a:Nat),.bool false,.bool false,.int .i64 b,.slice c d e,f,g,.slice (some ⟨n,0,none⟩) m m,.int .i64 (a:Nat),mW T j k l,U,U,U,U,U,U],[]⟩ [.inRegion (RY h) [7,8],.code (Qe h 5)]
def R9(q k:Int)(a:Option Addr)(b d N e b6 b7 b8 T bM cO bO cB bB Wg f:Nat)(c:Nat->Nat)(er:Nat->Nat)(ls:Nat->Bool)(g:Nat)(h:Nat->Nat->Nat)(rd:Nat->Prop):pJ where
 cO:=cO
 cB:=cB
 Wg:=Wg
 T:=T
 bO:=bO
 bB:=bB
 bM:=bM
 b6:=b6
 b7:=b7
 b8:=b8
 q:=q
 k:=k
 xs:=.slice a b d
 wo:=λa=>some ⟨c a,0,none⟩
 wn:=λ_=>b
 wc:=λ_=>b
 N:=N
 H:=e
 nb:=0
 p0:=0
 er:=er
 ls:=ls
 GM:=Gw bO ls er g h
 rd:=rd
 w0:=default
 Qm:=λa b=>a<N∧(b=f∨b=c a)
 F:=Uq To
 et:=3
 zB:=uE
 BK:=λ_ _ _ _=>False
 Ei:=λ_ _ _=>False
 vE:=λ_ _ _=>False
 ye:=λ_ _ _ _=>False
 Fin:=λ_ _ _ _=>False
structure VK(B:Nat)(h:Nat->Option Obj)(q k:Int)(xo:Option Addr)(n cx N:Nat)(y:Nat->Nat->Int)(b6 b7 b8 T bM cO bO cB bB Wg g0:Nat)(bw:Nat->Nat)(hE zE:Nat->Option Obj):Prop where
 old:∀b o,h b=some o->hE b=some o
 e6:hE b6=some (.cells #[.int .i64 q] 3)
 e7:hE b7=some (.cells #[.slice xo n cx] 22)
 e8:hE b8=some (.cells #[.int .i64 k] 3)
 eM:hE bM=some (.cells #[mW T b6 b7 b8] 67)
 eO:hE bO=some (.cells #[.chan (some cO)] 86)
 eB:hE bB=some (.cells #[.chan (some cB)] 87)
 zT:zE T=some (.cells #[.int .i64 0,.int .i64 0] 62)
 zO:zE cO=some (.chan 0 #[] false 0 0 false)
 zB:zE cB=some (.chan N #[] false 0 0 false)
 zW:zE Wg=some (.cells #[.int .u64 0,.int .u32 0] 94)
 lT:B<=T∧T<cO∧cO<cB∧cB<Wg
 lb:B<=b6∧B<=b7∧B<=b8∧B<=bM∧B<=bO∧T<bO∧bO<bB
 wr:∃(B':Nat) (V:World),B<=B'∧vJ B' g0 N n N bw y V∧∀b c t,B'<=b->V.heap[b]?=some (.cells c t)->hE b=some (.cells c t)
def Ez(k:Nat->Option Obj)(j l:Int)(e:Option Addr)(a f:Nat)(g h:Value)(b:Nat)(y:Nat->Nat->Int)(m:World):Prop:=∃(i:Fx) (n:Nat->Prop) (c:World),Pf prog k [.slice e a f,g,h] m i n c∧i.fn 8∧i.fn 26∧
  (∀T d,Calls prog 8 #[.int .i64 j,.slice e a f,.int .i64 l,g,h] (dZ c T d) λi _=>i=.returned (.int .i64 0))∧
  (∀T d,Calls prog 26 #[.int .i64 j,.slice e a f,g,h] (dZ c T d) λi l=>∃k m,i=.returned (.slice (some ⟨k,0,none⟩) b b)∧vJ c.heap.size k b a b m y l)
section
variable {l:(Nat->Prop)->Goroutine->World->Prop}{O:Nat->Prop}{w:World}{h:Nat->Option Obj}{B:Nat}{c:Frame}{p:List Frame}{q k:Int}{i:Option Addr}{n g:Nat}{m o:Value}{j:Nat}{N:Nat}{y:Nat->Nat->Int}
theorem TI(a:Kp B h (λ_=>none) O w)(bk:1<=j)(b6:j<=8)(hN:N<=900)(ba:∀a3:World,(∀e f,h e=some f->a3.heap[e]?=some f)->Ez h q k i n g m o N y a3)(bB:∀(x v z T Y R D S M Wg F:Nat) (W:Nat->Nat) (hE zE:Nat->Option Obj) (O':Nat->Prop) (w':World) (fr:Frame),VK B h q k i n g N y x v z T Y R D S M Wg F W hE zE->Kp B hE zE O' w'->(∀e,O' e->O e∨B<=e)->(∀e,O e->O' e)->(∀bx er ls kk am rd,Uw ⟨R9 q k i n g N j x v z T Y R D S M Wg bx W er ls kk am rd,F,N,(j:Nat),(AU f9) q k i n g m o j x v z T F N,c::p⟩ 0 fr)->Wk prog l O' (G fr ((AU f9) q k i n g m o j x v z T F N::c::p)) w'):Wk prog l O (G (Frame.enter prog 9 #[.int .i64 q,.slice i n g,.int .i64 k,m,o,.int .i64 (j:Nat)] .normal) (c::p)) w:=by
 have b:∀ {O:Nat->Prop} {h a3:Nat->Option Obj} {w s:World},Kp B h a3 O w->dW dU (BV a3) O w s->Kp B h a3 O s:=λa bk=>a.rely bk
 rw[Yo _ func9 X]
 walk_nrmf f9
 refine fL (n:=100) a ?_;refine aH (n:=20) (m:=80) ?_;repeat(first|u_c XJ b a|u_c XL b a|u_reg b a|u_cnd true b a|u_cnd false b a|u_c XN b a|u_op b a|u_skip b a)
 refine XO (λU t=>?_);replace a:=b a t;clear t;refine nK (n:=79) a (.cells #[.int .i64 q] 3) (λA=> .pointer (some ⟨A,0,none⟩)) X X x5 (λs=>Xf) (λs=>Xr) (λx w6 bb bE _ a=>?_);walk_nrm;refine nK (n:=78) a (.cells #[.slice i n g] 22) (λA=> .pointer (some ⟨A,0,none⟩)) X X x5 (λs=>Xf) (λs=>Xr) (λv w7 bc bM _ a=>?_);walk_nrm;refine nK (n:=77) a (.cells #[.int .i64 k] 3) (λA=> .pointer (some ⟨A,0,none⟩)) X X x5 (λs=>Xf) (λs=>Xr) (λz w8 bd bN _ a=>?_);walk_nrm;have a3:x<v:=bM x _ (dP _ _ _);have a3:v<z:=bN v _ (dP _ _ _);have e6:fP (fP (fP h x (.cells #[.int .i64 q] 3)) v (.cells #[.slice i n g] 22)) z (.cells #[.int .i64 k] 3) x=some (.cells #[.int .i64 q] 3):=by rw[ff _ _ E,ff _ _ E,dP]
 have e7:fP (fP (fP h x (.cells #[.int .i64 q] 3)) v (.cells #[.slice i n g] 22)) z (.cells #[.int .i64 k] 3) v=some (.cells #[.slice i n g] 22):=by rw[ff _ _ E,dP]
 have e8:fP (fP (fP h x (.cells #[.int .i64 q] 3)) v (.cells #[.slice i n g] 22)) z (.cells #[.int .i64 k] 3) z=some (.cells #[.int .i64 k] 3):=dP _ _ _;have F:∀e,e≠x->e≠v->e≠z->fP (fP (fP h x (.cells #[.int .i64 q] 3)) v (.cells #[.slice i n g] 22)) z (.cells #[.int .i64 k] 3) e=h e:=λe u P Z=>by rw[ff _ _ Z,ff _ _ P,ff _ _ u]
 generalize fP (fP (fP h x (.cells #[.int .i64 q] 3)) v (.cells #[.slice i n g] 22)) z (.cells #[.int .i64 k] 3)=u at a e6 e7 e8 F;refine aH (n:=20) (m:=57) ?_;repeat(first|u_c XJ b a|u_c XL b a|u_reg b a|u_cnd true b a|u_cnd false b a|u_c XN b a|u_op b a|u_skip b a)
 refine XO (λU t=>?_);replace a:=b a t;clear t;refine se (n:=56) (off:=0) (.int .i64 q) a e6 X X X x5 (λs u=>Xf) (λs u=>Xh) ?_;walk_nrm;refine se (n:=55) (off:=0) (.slice i n g) a e7 X X X x5 (λs u=>Xf) (λs u=>Xh) ?_;walk_nrm;refine se (n:=54) (off:=0) (.int .i64 k) a e8 X X X x5 (λs u=>Xf) (λs u=>Xh) ?_;walk_nrm;refine aH (n:=20) (m:=34) ?_;repeat(first|u_c XJ b a|u_c XL b a|u_reg b a|u_cnd true b a|u_cnd false b a|u_c XN b a|u_op b a|u_skip b a)
 refine XO (λU t=>?_);replace a:=b a t;clear t;refine gT (n:=33) (f:=8) (vs:= #[.int .i64 q,.slice i n g,.int .i64 k,m,o]) X X x5 X func8 wq wq Xf ?_;refine HG.stop (λC ad=>?_);replace a:=b a ad;clear ad
 have g1:∀e f,h e=some f->u e=some f:=λe f r=>by
  have:=bE e f r;rw[F e E E E];exact r
 have bO:B<=C.heap.size:=a.size;obtain⟨F1,Q1,V1,a3,bk,_,bE,_⟩:=ba C λe f r=>a.mem e f (g1 e f r)
 refine rN (R:=λab _=>ab=.int .i64 0) a a3 g1 wq bk (λab hv=>?_) (λT d=>(bE T d).mono λr a5 he=>⟨_,he,X⟩) (λab bQ T d hp=>hp) (λab V1 W1 hv _ a2=>?_)
 ·simp only[aF,az,aD,bP]at hv;rcases hv with rfl|rfl|rfl|rfl|rfl<;>first|exact J ⟨_,_,rfl⟩|exact I oi
 subst hv;replace a:=a2.Ve (h':=u) λe f r=>pf r
 clear a2;rw[XW];walk_nrm;have q1:decide ((j:Int)<1)=false:=aq E;have q2:decide (8<(j:Int))=false:=aq E;refine fL (n:=100) a ?_;refine aH (n:=60) (m:=40) ?_;repeat(first|u_c XJ b a|u_c XL b a|u_reg b a|u_cnd true b a|u_cnd false b a|u_c XN b a|u_op b a|u_skip b a)
 refine XO (λU t=>?_);replace a:=b a t;clear t;refine HG.stop (λC ad=>?_);replace a:=b a ad;clear ad;refine vC (.cells #[.int .i64 0,.int .i64 0] 62) (λA=> .pointer (some ⟨A,0,none⟩)) X X x5 (λs=>Xf) (λs=>Xr) (λd=>?_);have bg:B<=C.heap.size:=a.size;replace a:=a.push (.cells #[.int .i64 0,.int .i64 0] 62) d;have Q:fP (λ_=>none) C.heap.size (.cells #[.int .i64 0,.int .i64 0] 62) C.heap.size=some (.cells #[.int .i64 0,.int .i64 0] 62):=dP _ _ _;generalize fP (λ_=>none) C.heap.size (.cells #[.int .i64 0,.int .i64 0] 62)=z1 at a Q;generalize C.heap.size=T at a Q bg ⊢;generalize ({ C.at d with heap:=C.heap.push (.cells #[.int .i64 0,.int .i64 0] 62)}:World)=wT at a ⊢;clear d;walk_nrm;refine fL (n:=100) a ?_;refine aH (n:=10) (m:=90) ?_;repeat(first|u_c XJ b a|u_c XL b a|u_reg b a|u_cnd true b a|u_cnd false b a|u_c XN b a|u_op b a|u_skip b a)
 refine XO (λU t=>?_);replace a:=b a t;clear t;refine se (n:=89) (off:=0) (.int .i64 q) a e6 X X X x5 (λs u=>Xf) (λs u=>Xh) ?_;walk_nrm;refine se (n:=88) (off:=0) (.slice i n g) a e7 X X X x5 (λs u=>Xf) (λs u=>Xh) ?_;walk_nrm;refine aH (n:=20) (m:=68) ?_;repeat(first|u_c XJ b a|u_c XL b a|u_reg b a|u_cnd true b a|u_cnd false b a|u_c XN b a|u_op b a|u_skip b a)
 refine XO (λU t=>?_);replace a:=b a t;clear t;refine gT (n:=67) (f:=26) (vs:= #[.int .i64 q,.slice i n g,m,o]) X X x5 X func26 wq wq Xf ?_;refine HG.stop (λao a3=>?_);replace a:=b a a3;clear a3;obtain⟨F2,Q2,V2,a3,_,bE,_,bk⟩:=ba ao λe f r=>a.mem e f (g1 e f r)
 have ba:V2.heap.size=ao.heap.size:=a3.vw.size;rw[ba]at bk;refine rN (R:=λab a5=>∃F W,ab=.slice (some ⟨F,0,none⟩) N N∧vJ ao.heap.size F N n N W y a5) a a3 g1 wq bE (λab hv=>?_) (λT d=>(bk T d).mono ?_) (λab bQ T d hp=>?_) (λab V1 W1 hv bS a2=>?_)
 ·simp only[aF,az,aD,bP]at hv;rcases hv with rfl|rfl|rfl|rfl<;>first|exact J ⟨_,_,rfl⟩|exact I oi
 ·rintro r a5 ⟨F,W,rfl,hw⟩;exact⟨_,X,F,W,X,hw⟩
 ·obtain⟨F,W,r,hw⟩:=hp;exact⟨F,W,r,hw.out,λab hi=>hw.row ab hi,hw.ge,hw.gb,hw.inj⟩
 obtain⟨F,W,rfl,hw⟩:=hv;have⟨P,ab⟩:=eaa (mV u ao.heap.size W1);have a3:∀e f,u e=some f->P e=some f:=λe f r=>by rw[ab];exact pf r
 have bY:∀e c av,ao.heap.size<=e->V1.heap[e]?=some (.cells c av)->P e=some (.cells c av):=λe c av e1 e2=>by rw[ab];exact wu (λe f r=>a.He r) e1 (bS e c av e1 e2)
 have bl:B<=ao.heap.size:=a.size;have a5:T<ao.heap.size:=aC (a.spec T _ Q);rw[<-ab]at a2;clear ab a;rename Kp _ P _ _ _=>a;replace e6:=a3 _ _ e6;replace e7:=a3 _ _ e7;replace e8:=a3 _ _ e8;replace g1:∀e f,h e=some f->P e=some f:=λe f r=>a3 e f (g1 e f r)
 rw[XW];walk_nrm;refine fL (n:=100) a ?_;refine aH (n:=10) (m:=90) ?_;repeat(first|u_c XJ b a|u_c XL b a|u_reg b a|u_cnd true b a|u_cnd false b a|u_c XN b a|u_op b a|u_skip b a)
 refine XO (λU t=>?_);replace a:=b a t;clear t;refine gT (n:=89) (f:=25) (vs:= #[.slice (some ⟨F,0,none⟩) N N,.int .i64 (j:Nat),mW T x v z]) X X x5 X func25 wq wq (by go_simp;rfl) ?_;rw[Yo _ func25 X]
 walk_nrmf f25
 refine aH (n:=10) (m:=79) ?_;repeat(first|u_c XJ b a|u_c XL b a|u_reg b a|u_cnd true b a|u_cnd false b a|u_c XN b a|u_op b a|u_skip b a)
 refine XO (λU t=>?_);replace a:=b a t;clear t;refine nK (n:=78) a (.cells #[mW T x v z] 67) (λA=> .pointer (some ⟨A,0,none⟩)) X X x5 (λs=>by go_simp;rfl) (λs=>Xr) (λY wM bm b0 _ a=>?_);walk_nrm;have eM:=dP P Y (.cells #[mW T x v z] 67);have bn:∀e f,P e=some f->fP P Y (.cells #[mW T x v z] 67) e=some f:=λe f r=>by rw[ff _ _ (by have:=b0 e f r;omega)];exact r
 generalize fP P Y (.cells #[mW T x v z] 67)=Z at a eM bn;refine aH (n:=20) (m:=58) ?_;repeat(first|u_c XJ b a|u_c XL b a|u_reg b a|u_cnd true b a|u_cnd false b a|u_c XN b a|u_op b a|u_skip b a)
 refine XO (λU t=>?_);replace a:=b a t;clear t;refine HG.stop (λC ad=>?_);replace a:=b a ad;clear ad;refine vC (.chan 0 #[] false 0 0 false) (λA=> .chan (some A)) X X x5 (λs=>by have:=Qk s;go_simp) (λs=>by have:=Ts s;simp[go_sem, *]) (λd=>?_);have V:∀e f,z1 e=some f->e<C.heap.size:=λe f r=>aC (a.spec e f r)
 have bo:T<C.heap.size:=V T _ Q;replace a:=a.push (.chan 0 #[] false 0 0 false) d;have eO:=dP z1 C.heap.size (.chan 0 #[] false 0 0 false);have a6:∀e f,z1 e=some f->fP z1 C.heap.size (.chan 0 #[] false 0 0 false) e=some f:=λe f r=>by rw[ff _ _ (by have:=V e f r;omega)];exact r
 generalize fP z1 C.heap.size (.chan 0 #[] false 0 0 false)=z2 at a eO a6;clear V;generalize C.heap.size=R at a eO a6 bo ⊢;generalize ({ C.at d with heap:=C.heap.push (.chan 0 #[] false 0 0 false)}:World)=wO at a ⊢;clear d;walk_nrm;replace Q:=a6 _ _ Q;refine fL (n:=100) a ?_;refine nK (n:=99) a (.cells #[.chan none] 86) (λA=> .pointer (some ⟨A,0,none⟩)) X X x5 (λs=>Xf) (λs=>Xr) (λD C bp a7 b1 a=>?_);walk_nrm;have b2:T<D:=b1 T _ Q;have eb:=dP Z D (.cells #[.chan none] 86);have a0:∀e f,Z e=some f->fP Z D (.cells #[.chan none] 86) e=some f:=λe f r=>by rw[ff _ _ (by have:=a7 e f r;omega)];exact r
 have C:Y<D:=a7 Y _ eM;refine CN (n:=98) (off:=0) (v:=.chan (some R)) a eb X X x5 (λs u=>?_) (λs u=>?_) (λw2 a=>?_)
 ·have c0:=cell_of (o:=0) u X;have f0:=bF u 0;go_simp
 ·have c0:=cell_of (o:=0) u X;have f0:=bF u 0;simp[go_sem, *]
 have a8:fP (fP Z D (.cells #[.chan none] 86)) D (.cells (#[Value.chan none].setIfInBounds 0 (.chan (some R))) 86) D=some (.cells #[.chan (some R)] 86):=dP _ _ _;replace a0:∀e f,Z e=some f->fP (fP Z D (.cells #[.chan none] 86)) D (.cells (#[Value.chan none].setIfInBounds 0 (.chan (some R))) 86) e=some f:=λe f r=>by rw[ff _ _ (by have:=a7 e f r;omega)];exact a0 e f r
 clear eb;generalize fP (fP Z D (.cells #[.chan none] 86)) D (.cells (#[Value.chan none].setIfInBounds 0 (.chan (some R))) 86)=h4 at a a8 a0;walk_nrm;refine aH (n:=20) (m:=78) ?_;repeat(first|u_c XJ b a|u_c XL b a|u_reg b a|u_cnd true b a|u_cnd false b a|u_c XN b a|u_op b a|u_skip b a)
 refine XO (λU t=>?_);replace a:=b a t;clear t;refine HG.stop (λar C=>?_);replace a:=b a C;clear C;refine vC (.chan N #[] false 0 0 false) (λA=> .chan (some A)) X X x5 (λs=>by have:=Qj N hN s;go_simp) (λs=>by have:=Tr N hN s;simp[go_sem, *]) (λd=>?_);have V:∀e f,z2 e=some f->e<ar.heap.size:=λe f r=>aC (a.spec e f r)
 have bs:R<ar.heap.size:=V R _ eO;replace a:=a.push (.chan N #[] false 0 0 false) d;have eB:=dP z2 ar.heap.size (.chan N #[] false 0 0 false);have a4:∀e f,z2 e=some f->fP z2 ar.heap.size (.chan N #[] false 0 0 false) e=some f:=λe f r=>by rw[ff _ _ (by have:=V e f r;omega)];exact r
 generalize fP z2 ar.heap.size (.chan N #[] false 0 0 false)=z3 at a eB a4;clear V;generalize ar.heap.size=S at a eB a4 bs ⊢;generalize ({ ar.at d with heap:=ar.heap.push (.chan N #[] false 0 0 false)}:World)=C at a ⊢;clear d;walk_nrm;replace Q:=a4 _ _ Q;replace eO:=a4 _ _ eO;refine fL (n:=100) a ?_;refine nK (n:=99) a (.cells #[.chan none] 87) (λA=> .pointer (some ⟨A,0,none⟩)) X X x5 (λs=>Xf) (λs=>Xr) (λM C b3 a9 _ a=>?_);walk_nrm;have bw:=dP h4 M (.cells #[.chan none] 87);have ax:∀e f,h4 e=some f->fP h4 M (.cells #[.chan none] 87) e=some f:=λe f r=>by rw[ff _ _ (by have:=a9 e f r;omega)];exact r
 have b4:D<M:=a9 D _ a8;refine CN (n:=98) (off:=0) (v:=.chan (some S)) a bw X X x5 (λs u=>?_) (λs u=>?_) (λw2 a=>?_)
 ·have c0:=cell_of (o:=0) u X;have f0:=bF u 0;go_simp
 ·have c0:=cell_of (o:=0) u X;have f0:=bF u 0;simp[go_sem, *]
 have bz:fP (fP h4 M (.cells #[.chan none] 87)) M (.cells (#[Value.chan none].setIfInBounds 0 (.chan (some S))) 87) M=some (.cells #[.chan (some S)] 87):=dP _ _ _;replace ax:∀e f,h4 e=some f->fP (fP h4 M (.cells #[.chan none] 87)) M (.cells (#[Value.chan none].setIfInBounds 0 (.chan (some S))) 87) e=some f:=λe f r=>by rw[ff _ _ (by have:=a9 e f r;omega)];exact ax e f r
 clear bw;generalize fP (fP h4 M (.cells #[.chan none] 87)) M (.cells (#[Value.chan none].setIfInBounds 0 (.chan (some S))) 87)=h5 at a bz ax;walk_nrm;refine aH (n:=20) (m:=78) ?_;repeat(first|u_c XJ b a|u_c XL b a|u_reg b a|u_cnd true b a|u_cnd false b a|u_c XN b a|u_op b a|u_skip b a)
 refine XO (λU t=>?_);replace a:=b a t;clear t;refine HG.stop (λu C=>?_);replace a:=b a C;clear C;refine vC (.cells #[.int .u64 0,.int .u32 0] 94) (λA=> .pointer (some ⟨A,0,none⟩)) X X x5 (λs=>Xf) (λs=>Xr) (λd=>?_);have V:∀e f,z3 e=some f->e<u.heap.size:=λe f r=>aC (a.spec e f r)
 replace a:=a.push (.cells #[.int .u64 0,.int .u32 0] 94) d;have eW:=dP z3 u.heap.size (.cells #[.int .u64 0,.int .u32 0] 94);have a1:∀e f,z3 e=some f->fP z3 u.heap.size (.cells #[.int .u64 0,.int .u32 0] 94) e=some f:=λe f r=>by rw[ff _ _ (by have:=V e f r;omega)];exact r
 generalize fP z3 u.heap.size (.cells #[.int .u64 0,.int .u32 0] 94)=z4 at a eW a1;have bA:S<u.heap.size:=V S _ eB;clear V;generalize u.heap.size=Wg at a eW a1 bA ⊢;generalize ({ u.at d with heap:=u.heap.push (.cells #[.int .u64 0,.int .u32 0] 94)}:World)=s at a ⊢;clear d;walk_nrm;replace Q:=a1 _ _ Q;replace eO:=a1 _ _ eO;replace eB:=a1 _ _ eB;refine fL (n:=100) a ?_;refine aH (n:=30) (m:=70) ?_;repeat(first|u_c XJ b a|u_c XL b a|u_reg b a|u_cnd true b a|u_cnd false b a|u_c XN b a|u_op b a|u_skip b a)
 u_c Yc b a
 u_c stepG_loop b a
 refine XO (λU t=>?_);replace a:=b a t;clear t;refine HG.stop (λt s=>?_);replace a:=b a s;clear s;have u5:∀e f,P e=some f->h5 e=some f:=λe f r=>ax _ _ (a0 _ _ (bn _ _ r))
 refine bB x v z T Y R D S M Wg F W h5 z4 _ t _ ⟨λe f r=>u5 _ _ (g1 e f r),u5 _ _ e6,u5 _ _ e7,u5 _ _ e8,ax _ _ (a0 _ _ eM),ax _ _ a8,bz,Q,eO,eB,eW,⟨bg,bo,bs,bA⟩,⟨bb,bc,bd,bm,bp,b2,b4⟩,⟨ao.heap.size,V1,bl,hw,λe c av e1 e2=>u5 _ _ (bY e c av e1 e2)⟩⟩ a (λe K=>?_) (λe K=>I (I (I (I (I (I (I (I K)))))))) (λbx er ls kk am rd=>⟨_,_,_,_,_,_,_,_,_,_,_,_,_,_,_,_,_,_,_,_,_,_,_,_,_,_,_,_,_,_,_,_,_,_,_,_,_,_,_,_,_,_,_,_,_,_,_,_,_,_,_,_,_,_,_,_,X⟩);rcases K with((K|rfl)|rfl)|rfl
 ·rcases K with K|K
  ·rcases K with K|K
   ·rcases K with((K|rfl)|rfl)|rfl
    ·exact I K
    ·exact J bb
    ·exact J bc
    ·exact J bd
   ·exact J (aK bO K.1)
  ·exact J (aK bl K.1)
 ·exact J bm
 ·exact J bp
 ·exact J b3
end
section
variable {g:(Nat->Prop)->Goroutine->World->Prop}{O:Nat->Prop}{w:World}{h z:Nat->Option Obj}{B:Nat}{c:Frame}{j:List Frame}{q k:Int}{v:Option Addr}{n p:Nat}{t u:Value}{s N l m o T r i:Nat}{x y:Int}
theorem QV(a:Kp B h z O w)(A:h T=some (.cells #[.int .i64 x,.int .i64 y] 62))(M:∀K,Kp B h z O K->Wk prog g O (G (c.finish (.tuple #[.slice (some ⟨i,0,none⟩) N N,.int .i64 x,.int .i64 y,.int .i64 0])) j) K):Wk prog g O (G (((AU f9) q k v n p t u s l m o T r N).finish (.slice (some ⟨i,0,none⟩) N N)) (c::j)) w:=by
 have b:∀ {O:Nat->Prop} {h z:Nat->Option Obj} {w E:World},Kp B h z O w->dW dU (BV z) O w E->Kp B h z O E:=λa K=>a.rely K
 unfold AU;rw[XW];simp only[RY,Qe,jj,f9];walk_nrm;refine fL (n:=100) a ?_;refine aH (n:=30) (m:=70) ?_;repeat(first|u_c XJ b a|u_c XL b a|u_reg b a|u_cnd true b a|u_cnd false b a|u_c XN b a|u_op b a|u_skip b a)
 refine XO (λF e=>?_);replace a:=b a e;clear e;refine gT (n:=69) (f:=30) (vs:= #[.pointer (some ⟨T,0,none⟩)]) X X x5 X func30 wq wq Xf ?_;rw[Yo _ func30 X]
 walk_nrmf f30
 refine aH (n:=30) (m:=39) ?_;repeat(first|u_c XJ b a|u_c XL b a|u_reg b a|u_cnd true b a|u_cnd false b a|u_c XN b a|u_op b a|u_skip b a)
 refine XO (λF e=>?_);replace a:=b a e;clear e;refine HG.stop (λC D=>?_);replace a:=b a D;clear D;refine Wk.mk X λd=>⟨_,C.at d,_,O,Yt (v:=x) X X x5 X func57 wq wq wq .i64 wq X (show(C.at d).cell? ⟨T,0,none⟩=some (.int .i64 x)from a.cell A X),⟨X,X,X,aa _,λ_ _ _=>rfl,λ_ h=>h,λ_ h=>I h,λJ f=>?_⟩,Wk.at ?_ d⟩
 ·have f:J=⟨.cell ⟨T,0,none⟩,false,true⟩:=by simpa using f
  subst f;exact⟨a.He A,a.own T _ A⟩
 walk_nrm;refine fL (n:=100) a ?_;refine aH (n:=30) (m:=70) ?_;repeat(first|u_c XJ b a|u_c XL b a|u_reg b a|u_cnd true b a|u_cnd false b a|u_c XN b a|u_op b a|u_skip b a)
 u_c X3 b a
 u_leave1 func30 b a
 repeat(first|u_c XJ b a|u_c XL b a|u_reg b a|u_cnd true b a|u_cnd false b a|u_c XN b a|u_op b a|u_skip b a)
 refine XO (λF e=>?_);replace a:=b a e;clear e;refine gT (n:=69) (f:=30) (vs:= #[.pointer (some ⟨T,1,none⟩)]) X X x5 X func30 wq wq Xf ?_;rw[Yo _ func30 X]
 walk_nrmf f30
 refine aH (n:=30) (m:=39) ?_;repeat(first|u_c XJ b a|u_c XL b a|u_reg b a|u_cnd true b a|u_cnd false b a|u_c XN b a|u_op b a|u_skip b a)
 refine XO (λF e=>?_);replace a:=b a e;clear e;refine HG.stop (λC D=>?_);replace a:=b a D;clear D;refine Wk.mk X λd=>⟨_,C.at d,_,O,Yt (v:=y) X X x5 X func57 wq wq wq .i64 wq X (show(C.at d).cell? ⟨T,1,none⟩=some (.int .i64 y)from a.cell A X),⟨X,X,X,aa _,λ_ _ _=>rfl,λ_ h=>h,λ_ h=>I h,λJ f=>?_⟩,Wk.at ?_ d⟩
 ·have f:J=⟨.cell ⟨T,1,none⟩,false,true⟩:=by simpa using f
  subst f;exact⟨a.He A,a.own T _ A⟩
 walk_nrm;refine fL (n:=100) a ?_;refine aH (n:=50) (m:=50) ?_;repeat(first|u_c XJ b a|u_c XL b a|u_reg b a|u_cnd true b a|u_cnd false b a|u_c XN b a|u_op b a|u_skip b a)
 u_c X3 b a
 u_leave1 func30 b a
 repeat(first|u_c XJ b a|u_c XL b a|u_reg b a|u_cnd true b a|u_cnd false b a|u_c XN b a|u_op b a|u_skip b a)
 u_c X3 b a
 refine XO (λF e=>?_);replace a:=b a e;clear e;refine wV (n:=49) (fn:=f9) (.tuple #[.slice (some ⟨i,0,none⟩) N N,.int .i64 x,.int .i64 y,.int .i64 0]) X X func9 (λE=>by simp only[f9,results];go_simp) (λE=>by simp only[f9];simp[go_sem,results]) ?_;refine HG.stop (λe f=>?_);exact M e (b a f)
end
end
section
open Go.RowKit Go.Sort
open Go.Conc
structure IC(D:FD)(n k N:Nat)(c:Nat->Nat)(y:Nat->Nat->Int)(m:Nat->Nat)(c' y' am:Nat->Nat->Nat)(er:Nat->Nat)(ls:Nat->Bool):Prop where
 mb:∀i,i<N->mh D n c (y i) (m i) (c' i) (y' i)
 out:∀i,i<N->(ls i=false∧fB D (m i) k (c' i) (y' i) (am i)∧er i=oX D k (m i) (c' i) (y' i) (am i))∨(ls i=true∧(∀a,¬fB D (m i) k (c' i) (y' i) a)∧er i=0)
 qL:∀i,er i<=1000
theorem Tx(b:FD)(c a:Nat)(d y e:Nat->Nat):oX b c a d y e<=a:=by
 unfold oX;have:=s8 (λf=>decide (b.ev e (d f) c=y f)) a;omega
theorem KD{h k l:Nat}{y:Nat->Nat->Int}(p:h<=64)(m:∀c,c<h->b c<a.q)(n:∀c j,c<h->j<h->c≠j->b c≠b j)(o:∀c j,c<l->j<h->y c j= -1∨(0<=y c j∧y c j<(a.q:Int))):∃g f y' d e i,IC a h k l b y g f y' d e i:=by
 have i:∀c,∃(d:Nat×(Nat->Nat)×(Nat->Nat)×(Nat->Nat)×Nat×Bool),(c<l->mh a h b (y c) d.1 d.2.1 d.2.2.1)∧(c<l->(d.2.2.2.2.2=false∧fB a d.1 k d.2.1 d.2.2.1 d.2.2.2.1∧d.2.2.2.2.1=oX a k d.1 d.2.1 d.2.2.1 d.2.2.2.1)∨(d.2.2.2.2.2=true∧(∀e,¬fB a d.1 k d.2.1 d.2.2.1 e)∧d.2.2.2.2.1=0))∧d.2.2.2.2.1<=1000:=by
  intro c;by_cases d:c<l
  ·obtain⟨g,f,y',h⟩:=LU (D:=a) (y:=y c) m n (λj l=>by
    rcases o c j d l with m|⟨n,p⟩
    ·exact I m
    ·refine J ?_;have l:y c j=(((y c j).toNat:Nat):Int):=by omega
     rw[l];exact jT E)
   by_cases m:∃e,fB a g k f y' e
   ·obtain⟨e,l⟩:=m;have n:=Tx a k g f y' e;have n:=h.le;exact⟨(g,f,y',e,oX a k g f y' e,false),λ_=>h,λ_=>I ⟨X,l,X⟩,by show oX a k g f y' e<=1000;omega⟩
   ·exact⟨(g,f,y',f,0,true),λ_=>h,λ_=>J ⟨X,λe l=>m ⟨e,l⟩,X⟩,by show(0:Nat)<=1000;omega⟩
  ·exact⟨(0,b,b,b,0,true),λe=>absurd e d,λe=>absurd e d,by show(0:Nat)<=1000;omega⟩
 have e:=λc=>dH (i c)
 exact⟨λc=>(Classical.choose (i c)).1,λc=>(Classical.choose (i c)).2.1,λc=>(Classical.choose (i c)).2.2.1,λc=>(Classical.choose (i c)).2.2.2.1,λc=>(Classical.choose (i c)).2.2.2.2.1,λc=>(Classical.choose (i c)).2.2.2.2.2,λc d=>(e c).1 d,λc d=>(e c).2.1 d,λc=>(e c).2.2⟩
theorem Rr{y:Nat->Int}(f:1<=d)(g:d<=64)(h:1<=e)(i:e<=d)(k:∀c,c<d->b c<a.q)(l:∀c j,c<d->j<d->c≠j->b c≠b j)(m:∀j,j<d->y j= -1∨(0<=y j∧y j<(a.q:Int))):a.BC d (λj=>((b j:Nat):Int)) (e:Nat) d y=0:=by
 refine KA f g h i k l ?_;unfold FD.Pk;rw[Ak d (λj c=>?_)];rfl
 have:a.KW (y j)=true:=by
  unfold FD.KW;rcases m j c with f|⟨g,h⟩
  ·rw[f];rfl
  ·have c:y j=(((y j).toNat:Nat):Int):=by omega
   rw[c,jT E];simp
 rw[this];rfl
def Hx(a:Nat->Option Obj)(b:Nat):Prop:=∃c,a b=some c
section
variable {D:FD}{n p k N hs i r j Q:Nat}{c:Nat->Nat}{y:Nat->Nat->Int}{m:Nat->Nat}{M y' s:Nat->Nat->Nat}{J:Nat->Nat}{K:Nat->Bool}{B:Nat}{h g P:Nat->Option Obj}{O:Nat->Prop}{w:World}{x z A T G u I t C o v:Nat}{l:Nat->Nat}{fc:Frame}{cs:List Frame}
theorem Ty(hW:IC D n k N c y m M y' s J K)(hD:D∈ak)(ax:1<=n)(hn:n<=64)(ao:1<=k)(hk:k<=n)(hc:∀a,a<n->c a<D.q)(a0:∀a j,a<n->j<n->a≠j->c a≠c j)(hy:∀a j,a<N->j<n->y a j= -1∨(0<=y a j∧y a j<(D.q:Int)))(b:N<=900)(a1:∀d,(∀b e,h b=some e->d.heap[b]?=some e)->Arg (some ⟨i,r,none⟩) n p (λj=>((c j:Nat):Int)) d)(ad:∃cs U,h i=some (.cells cs U)∧∀f,f∈cs->uY f)(hB:∀b e,h b=some e->b<B)(d:VK B h (D.q:Nat) (k:Nat) (some ⟨i,r,none⟩) n p N y x z A T G u I t C o v l g P)(W:Kp B g P O w)(nb p0:Nat):(mN.at ⟨R9 (D.q:Nat) (k:Nat) (some ⟨i,r,none⟩) n p N hs x z A T G u I t C o i l J K k s (Hx g),v,N,(hs:Nat),fc,cs⟩ nb p0 w).Ah 3∧Uj (mN.at ⟨R9 (D.q:Nat) (k:Nat) (some ⟨i,r,none⟩) n p N hs x z A T G u I t C o i l J K k s (Hx g),v,N,(hs:Nat),fc,cs⟩ nb p0 w).p D n p k i r c l y m M y' s:=by
 obtain⟨f,Q,S,R,Y⟩:=d.wr;have Z:∀b e,g b=some e->w.heap[b]?=some e:=W.mem
 have a2:bD v N 22 (λa=>if a<N then .slice (some ⟨l a,0,none⟩) n n else .slice none 0 0) w:=by
  obtain⟨cs,f,S,V⟩:=R.out;exact⟨cs,Z _ _ (Y _ _ _ R.ge f),S,V⟩
 have ar:∀a,a<N->jF (l a) n (y a) w:=λa Q=>by
  obtain⟨ab,⟨cs,f,S,V⟩,h4⟩:=R.row a Q;exact⟨ab,⟨cs,Z _ _ (Y _ _ _ (R.gb a Q).1 f),S,V⟩,h4⟩
 have r0:Hx g v:=by
  obtain⟨cs,f,S,V⟩:=R.out;exact⟨_,Y _ _ _ R.ge f⟩
 have rx:Hx g i:=by
  obtain⟨cs,U,f,_⟩:=ad;exact⟨_,d.old _ _ f⟩
 have a3:∀a,a<N->Hx g (l a):=λa Q=>by
  obtain⟨ab,⟨cs,f,S,V⟩,h4⟩:=R.row a Q;exact⟨_,Y _ _ _ (R.gb a Q).1 f⟩
 have a4:∀b,Hx g b->b<w.heap.size:=λb Y=>by
  obtain⟨e,V⟩:=Y;exact W.He V
 have ab:∀b e,P b=some e->¬Hx g b:=λb e V Y=>by
  obtain⟨o',e'⟩:=Y;exact W.off b e V (W.own b o' e')
 have av:Uj (mN.at ⟨R9 (D.q:Nat) (k:Nat) (some ⟨i,r,none⟩) n p N hs x z A T G u I t C o i l J K k s (Hx g),v,N,(hs:Nat),fc,cs⟩ nb p0 w).p D n p k i r c l y m M y' s:=by
  have gA:i<B:=by obtain⟨cs,U,f,_⟩:=ad;exact hB _ _ f
  exact {
   hD:=hD,Wx:=hn,k1:=ao,kn:=hk,q:=rfl,kk:=rfl,xs:=rfl
   zz0:=a1 w λb e V=>Z b e (d.old b e V)
   wo:=λa Q=>⟨X,X⟩
   zz1:=λa Q=>(ar a Q).arg E (aa n) (by show n<=9223372036854775807;omega)
   ib:=by
    obtain⟨cs,U,f,S⟩:=ad;exact⟨cs,U,Z _ _ (d.old _ _ f),S⟩
   iw:=λa Q=>⟨by
    obtain⟨cs,f,S⟩:=(ar a Q).plain;exact⟨cs,_,f,S⟩,by
    have:=(R.gb a Q).1;omega⟩
   rx:=rx
   rw:=a3
   jG:=λa Q=>Rr ax hn ao hk hc a0 (λj R=>hy a j Q R)
   mb:=hW.mb
   out:=hW.out
   GM:=rfl
   Qm:=λa b=>dt
   F:=rfl }
 have R:∀ {b:Nat} {cs:Array Value} {U:TypeId} {S:Value} {e:Nat},g b=some (.cells cs U)->cs[e]?=some S->w.cell? ⟨b,e,none⟩=some S:=λV Z=>W.cell V Z
 have U:∀ {S:World} {b:Nat},Hx g b->(∀b,Hx g b->S.heap[b]?=w.heap[b]?)->∀e,S.cell? ⟨b,e,none⟩=w.cell? ⟨b,e,none⟩:=λY V e=>ie (V _ Y) e
 refine⟨⟨⟨UR av ⟨R d.eO X,R d.eB X,R d.eM X,⟨_,d.eO⟩,⟨_,d.eB⟩,⟨_,d.eM⟩,a4⟩
   ⟨⟨_,d.e6⟩,⟨_,d.e7⟩,⟨_,d.e8⟩,λS f=>(U ⟨_,d.e6⟩ f 0).trans (R d.e6 X),λS f=>(U ⟨_,d.e7⟩ f 0).trans (R d.e7 X),λS f=>(U ⟨_,d.e8⟩ f 0).trans (R d.e8 X)⟩
   d.lb.2.2.2.2.2.1 (ab T _ d.zT) hW.qL,r0,λS a f Q=>?_,by show N<1000000;omega,aa N,X,X,X,X,X⟩,ab u _ d.zO,ab t _ d.zB,ab o _ d.zW,?_,?_⟩,av⟩
 ·refine(U r0 f a).trans ?_;have Q:a<N:=Q;have:=a2.cell a Q;rw[ai Q]at this;exact this
 ·show u≠o;have:=d.lT;omega
 ·show t≠o;have:=d.lT;omega
end
end
section
open Go.RowKit Go.Sort
open Go.Conc
open Go.ConcR (WgAt)
open Go.ConcN (sumTo)
section
variable {P:Program}{i:(Nat->Prop)->Goroutine->World->Prop}{D:FD}{n cx k N hs bx ox:Nat}{c:Nat->Nat}{y:Nat->Nat->Int}{B:Nat}{h z:Nat->Option Obj}{O:Nat->Prop}{w:World}{fc:Frame}{cs:List Frame}{ms ns:Value}{g:Value->World->Prop}{Sh0:Nat->Prop}
theorem Kp.at(a:Kp B h z O w)(d:Nat):Kp B h z O (w.at d):=⟨a.mem,a.own,a.size,a.spec,a.off,a.lt⟩
theorem B6{b:Goroutine}(e:jd P g Sh0 O (λw a=>∀c,c∈a->j9 w.heap.size c.act) b w):jd P g Sh0 O (λ_ _=>True) b w:=λf h a i j k d l m _=>e f h a i j k d l m d.seen
theorem Gw.low(h:e<=d){j:Nat->Bool}{m:Nat->Nat->Nat}{c:Value}{w n:World}(r:∀a,yh c a->n.heap[a]?=w.heap[a]?)(s:Gw d j b k m f c w):Gw e j b k m f c n∧∀a,yh c a->d<a:=by
 obtain⟨go,t,rfl,o,p⟩:=s;refine⟨⟨go,t,X,o,λg=>?_⟩,λa u=>?_⟩
 ·obtain⟨v,x,l,cs,rfl,q,z,A,B⟩:=p g;exact⟨v,x,l,cs,X,E,(r l ⟨_,_,_,_,_,X,X⟩).trans z,A,B⟩
 ·obtain⟨C,D,F,G,y,i,rfl⟩:=u;simp at i;obtain⟨⟨rfl,_⟩,_⟩:=i;cases g:j f with
  |true=>have:=(o g).1;cases this
  |false=>
   obtain⟨_,_,l,cs,i,q,_⟩:=p g;cases i;exact q
theorem AO(e:Nat->Prop)(b:World):∃g:Nat->Option Obj,(∀a,e a->g a=b.heap[a]?)∧Kp b.heap.size g (λ_=>none) (λa=>a<b.heap.size∧e a) b:=by
 classical
 refine⟨λa=>if a<b.heap.size∧e a then b.heap[a]? else none,λa g=>?_,⟨λa f d=>?_,λa f d=>?_,aa _,λa f d=>by simp at d,λa f d=>by simp at d,λa g=>g.1⟩⟩
 ·by_cases i:a<b.heap.size
  ·exact ai ⟨i,g⟩
  ·refine(af λc=>i c.1).trans ?_;rw[bC E]
 ·by_cases c:a<b.heap.size∧e a
  ·exact(ai c).symm.trans d
  ·have h:none=some f:=(af c).symm.trans d;cases h
 ·by_cases c:a<b.heap.size∧e a
  ·exact c
  ·have h:none=some f:=(af c).symm.trans d;cases h
structure WL(D:FD)(n k N:Nat)(c:Nat->Nat)(y:Nat->Nat->Int)(h:Nat->Option Obj)(Sh0:Nat->Prop)(Wg bg:Nat)(m:Nat->Nat)(c' y' am:Nat->Nat->Nat)(er:Nat->Nat)(ls:Nat->Bool)(tk:Nat->Option Value)(w w1:World):Prop where
 out:IC D n k N c y m c' y' am er ls
 got:w1.heap[bg]?=some (.cells (lU N tk) 39)
 all:∀i,i<N->∃v,tk i=some v∧Gw w.heap.size ls er k am i v w1∧∀b,yh v b->b<w1.heap.size∧¬(Sh0 b∨b=Wg)
 old:∀b o,h b=some o->w1.heap[b]?=some o
 fix:w1.tape=w.tape∧w1.os=w.os∧w1.output=w.output
 VS:bg<w1.heap.size∧¬(Sh0 bg∨bg=Wg)
 WQ:w.heap.size<=bg
 Xc:w.heap.size<=Wg∧Wg<w1.heap.size
 size:w.heap.size<=w1.heap.size
theorem TH(hD:D∈ak)(bd:1<=n)(hn:n<=64)(bg:1<=k)(hk:k<=n)(hc:∀l,l<n->c l<D.q)(a5:∀l j,l<n->j<n->l≠j->c l≠c j)(hy:∀l j,l<N->j<n->y l j= -1∨(0<=y l j∧y l j<(D.q:Int)))(hN:N<=900)(a6:1<=hs)(bk:hs<=8)(hK:Kp w.heap.size h (λ_=>none) O w)(bl:∀wx,(∀a e,h a=some e->wx.heap[a]?=some e)->Arg (some ⟨bx,ox,none⟩) n cx (λj=>((c j:Nat):Int)) wx)(bm:∃cs W,h bx=some (.cells cs W)∧∀a7,a7∈cs->uY a7)(bn:∀a7:World,(∀a e,h a=some e->a7.heap[a]?=some e)->Ez h (D.q:Nat) (k:Nat) (some ⟨bx,ox,none⟩) n cx ms ns N y a7)(a8:∀a,O a->¬Sh0 a)(a9:∀a,Sh0 a->a<w.heap.size)(bo:∀f x av c' y' Q z A Z i,WL D n k N c y h Sh0 f x av c' y' Q z A Z w i->jd prog g (λa=>Sh0 a∨a=f) (λa=>a<i.heap.size∧¬(Sh0 a∨a=f)) (λ_ _=>True) (G (fc.finish (.tuple #[.slice (some ⟨x,0,none⟩) N N,.int .i64 (sumTo N z:Nat),.int .i64 (sumTo N (λl=>if A l then 1 else 0):Nat),.int .i64 0])) cs) i):jd prog g Sh0 O (λ_ _=>True) (G (Frame.enter prog 9 #[.int .i64 (D.q:Nat),.slice (some ⟨bx,ox,none⟩) n cx,.int .i64 (k:Nat),ms,ns,.int .i64 (hs:Nat)] .normal) (fc::cs)) w:=by
 refine B6 ?_;obtain⟨av,c',y',Q,z,A,hW⟩:=KD (k:=k) hn hc a5 hy;have hB:∀a e,h a=some e->a<w.heap.size:=λa e b=>hK.He b
 refine iP (S1:=λM p W=>(∀op,op∈W->La (λa=>a<w.heap.size∨M a) op.act)∧(p.tape=w.tape∧p.os=w.os∧p.output=w.output)∧w.heap.size<=p.heap.size)
  (Stop:=λM ax p=>∃(r s t T S C u F R f K:Nat) (U:Nat->Nat) (B V:Nat->Option Obj) (fr:Frame),VK w.heap.size h (D.q:Nat) (k:Nat) (some ⟨bx,ox,none⟩) n cx N y r s t T S C u F R f K U B V∧Kp w.heap.size B V M p∧(∀a,M a->O a∨w.heap.size<=a)∧
   (∀a7 z A kk Q rd,Uw ⟨R9 (D.q:Nat) (k:Nat) (some ⟨bx,ox,none⟩) n cx N hs r s t T S C u F R f a7 U z A kk Q rd,K,N,(hs:Nat),(AU f9) (D.q:Nat) (k:Nat) (some ⟨bx,ox,none⟩) n cx ms ns hs r s t T K N,fc::cs⟩ 0 fr)∧ax=G fr ((AU f9) (D.q:Nat) (k:Nat) (some ⟨bx,ox,none⟩) n cx ms ns hs r s t T K N::fc::cs))
  (TI hK a6 bk hN bn λr s t T S C u F R f K U B V M p fr o m ao a7 a0=>Wk.stop λd=>⟨r,s,t,T,S,C,u,F,R,f,K,U,B,V,fr,o,m.at d,ao,a0,X⟩)
  (λM p W t' hs P=>⟨P.Vy _ hs,⟨P.tape,P.os,P.out⟩,P.size⟩) (λM g' p bp=>?_)
 intro gs sl W bs h0 hL hP bw bz a7;obtain⟨hT,a1,bk⟩:=a7;obtain⟨r,s,t,T,S,C,u,F,R,f,K,U,B,V,fr,o,m,ao,a0,rfl⟩:=bp p.drawn;replace m:Kp w.heap.size B V M p:=m;have ba:=Ty (hs:=hs) (fc:=(AU f9) (D.q:Nat) (k:Nat) (some ⟨bx,ox,none⟩) n cx ms ns hs r s t T K N) (cs:=fc::cs) hW hD bd hn bg hk hc a5 hy hN bl bm hB o m
 have a5:∀a,V a=none∨¬M a:=λa=>by
  cases b:V a with
  |none=>exact I X
  |some e=>exact J (m.off a e b)
 have ar:∀a,nW (pJ.Kx (R9 (D.q:Nat) (k:Nat) (some ⟨bx,ox,none⟩) n cx N hs r s t T S C u F R f bx U z A k Q (Hx B)) prog) a->¬M a∧w.heap.size<=a:=by
  have hl:=o.lT;rintro a (b|b|b|b)
  ·replace b:a=f:=b;exact⟨b▸m.off f _ o.zW,E⟩
  ·replace b:a=T:=b;exact⟨b▸m.off T _ o.zT,E⟩
  ·replace b:a=C:=b;exact⟨b▸m.off C _ o.zO,E⟩
  ·replace b:a=F:=b;exact⟨b▸m.off F _ o.zB,E⟩
 have ab:∀a,w.heap.size<=a->¬Sh0 a:=λa q hs=>by have:=a9 a hs;omega
 have M:=o.lb;have M:=o.lT
 refine Px (d:=⟨R9 (D.q:Nat) (k:Nat) (some ⟨bx,ox,none⟩) n cx N hs r s t T S C u F R f bx U z A k Q (Hx B),K,N,(hs:Nat),(AU f9) (D.q:Nat) (k:Nat) (some ⟨bx,ox,none⟩) n cx ms ns hs r s t T K N,fc::cs⟩)
  (λV p0=>(ba V p0).1) (λV p0=>(ba V p0).2) (by show u≠R;omega) (by show C≠F;omega) hN (by show hs<1000000;omega) a6 (a0 _ _ _ _ _ _) (λa q=>?_) (m.spec _ _ o.zW) (m.spec _ _ o.zT) (m.spec _ _ o.zO) (m.spec _ _ o.zB) (λa q=>by show a<u;have:=a9 a q;omega) (λZ x i M=>?_) gs sl W bs h0 hL hP bw bz (λop bA y hy a q=>?_)
 ·obtain⟨e,b⟩:=q;have ho:=m.own a e b;refine⟨m.He b,λhs=>?_,λhs=>(ar a hs).1 ho⟩;rcases ao a ho with c|c
  ·exact a8 a c hs
  ·exact ab a c hs
 ·show jd prog g (λa=>Sh0 a∨a=f) (λa=>a<i.heap.size∧¬(Sh0 a∨a=f)) (λ_ _=>True) (G (((AU f9) (D.q:Nat) (k:Nat) (some ⟨bx,ox,none⟩) n cx ms ns hs r s t T K N).finish (.slice (some ⟨x,0,none⟩) N N)) (fc::cs)) i;have bB:∀l,l<N->∃Y,Z l=some Y∧Gw u A z k Q l Y i∧∀a,yh Y a->a<i.heap.size∧¬nW (pJ.Kx (R9 (D.q:Nat) (k:Nat) (some ⟨bx,ox,none⟩) n cx N hs r s t T S C u F R f bx U z A k Q (Hx B)) prog) a:=M.all;have r:u<x:=M.WO;have r:i.heap[T]?=some (.cells #[.int .i64 (sumTo N z:Nat),.int .i64 (sumTo N (λl=>if A l then 1 else 0):Nat)] 62):=M.xQ;have a2:i.heap[x]?=some (.cells (lU N Z) 39):=M.got;have s:f<i.heap.size:=M.wg;have bE:∀a,Hx B a->i.heap[a]?=p.heap[a]?:=M.Ek;have a3:i.tape=p.tape∧i.os=p.os∧i.output=p.output:=M.fix;have bb:¬(Sh0 x∨x=f):=λc=>c.elim (ab x E) λc=>M.VS.2.1 (I c)
  have p:¬(Sh0 T∨T=f):=λc=>c.elim (ab T E) λc=>E
  obtain⟨h1,e1,s⟩:=AO (λa=>¬(Sh0 a∨a=f)) i
  refine iP (S1:=λ_ v _=>(v.tape=i.tape∧v.os=i.os∧v.output=i.output)∧i.heap.size<=v.heap.size) (Stop:=λ_ ax v=>ax=G (fc.finish (.tuple #[.slice (some ⟨x,0,none⟩) N N,.int .i64 (sumTo N z:Nat),.int .i64 (sumTo N (λl=>if A l then 1 else 0):Nat),.int .i64 0])) cs∧Kp i.heap.size h1 (λ_=>none) (λa=>a<i.heap.size∧¬(Sh0 a∨a=f)) v)
   (QV s ((e1 T p).trans r) λv ad=>Wk.stop λd=>⟨X,ad.at d⟩) (λt v W t' _ P=>⟨⟨P.tape,P.os,P.out⟩,P.size⟩) (λt C v bM=>?_)
  intro bN bO t2 q2 bQ bS bY r b0 p;obtain⟨a4,bc⟩:=p;obtain⟨rfl,ad⟩:=bM v.drawn;replace ad:Kp i.heap.size h1 (λ_=>none) (λa=>a<i.heap.size∧¬(Sh0 a∨a=f)) v:=ad;have p:∀a,¬(Sh0 a∨a=f)->∀e,i.heap[a]?=some e->v.heap[a]?=some e:=λa q e b=>ad.mem a e ((e1 a q).trans b)
  have r:∀a e,B a=some e->i.heap[a]?=some e:=λa e b=>(bE a ⟨e,b⟩).trans (m.mem a e b)
  have i:∀a e,B a=some e->¬(Sh0 a∨a=f):=λa e b c=>by
   have ho:=m.own a e b;rcases c with c|c
   ·rcases ao a ho with d|d
    ·exact a8 a d c
    ·exact ab a d c
   ·exact(ar a (I c)).1 ho
  have m:=aC a2;refine bo f x av c' y' Q z A Z v ⟨hW,p x bb _ a2,λl m=>?_,λa e b=>p a (i a e (o.old a e b)) e (r a e (o.old a e b)),⟨a4.1.trans (a3.1.trans a1.1),a4.2.1.trans (a3.2.1.trans a1.2.1),a4.2.2.trans (a3.2.2.trans a1.2.2)⟩,⟨aj (aC a2) bc,bb⟩,E,⟨E,E⟩,E⟩ bN bO t2 q2 bQ bS bY (λa q=>q) b0 trivial;obtain⟨Y,b,i,q⟩:=bB l m;have m:=(Gw.low (aa u) (λa _=>rfl) i).2;have l:∀a,yh Y a->¬(Sh0 a∨a=f):=λa e c=>c.elim (ab a (by have:=m a e;omega)) λc=>(q a e).2 (I c)
  refine⟨Y,b,(Gw.low E (λa e=>?_) i).1,λa e=>⟨aj (q a e).1 bc,l a e⟩⟩;have hl:=(q a e).1;rw[au hl];exact p a (l a e) _ (au hl)
 ·have:=hT op bA y hy a q;intro hs;rcases this with c|c
  ·have:=(ar a hs).2;omega
  ·exact(ar a hs).1 c
