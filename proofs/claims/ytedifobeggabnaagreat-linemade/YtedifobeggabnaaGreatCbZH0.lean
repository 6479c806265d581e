/- Texts of ours, one behind the other: ZH0 ZH1. -/
import Derived.Test.YtedifobeggabnaaGreatCbS20
import Derived.Test.YtedifobeggabnaaGreatCbZA1
namespace Go.Proofs.YtedifobeggabnaaGreat
set_option maxHeartbeats 8000000
set_option maxRecDepth 100000
open Tryz
open Go.RowKit Go.Sort
variable {f e l g b c:Nat}{m:Nat->Nat}{a:World}{d:FD}{i k:Option Addr}
def BO(d:Value)(e:World):Prop:=∀a,d.ownBlock=some a->∃b,e.heap[a]?=some (.cells b 3)∧∀c,c∈b->uY c
def eh(d b:Nat)(e:Nat->Nat)(f:World):Prop:=∃c,bD d b 3 c f∧∀a,a<b->c a=.int .i64 (e a:Nat)
theorem eh.row(b:eh f e m a):Row f e m a:=by
 obtain⟨c,d,g⟩:=b;exact⟨e,c,d,aa _,g⟩
theorem eh.plain(d:eh f e m a):∃b,a.heap[f]?=some (.cells b 3)∧∀c,c∈b->uY c:=by
 obtain⟨n,⟨b,g,o,h⟩,i⟩:=d;refine⟨b,g,λc k=>?_⟩;obtain⟨j,l,rfl⟩:=gY.1 k;have b:=h j E;rw[i j E,au l]at b;rw[cC b];exact ok_int _ _
theorem eh.all(c:eh f e m a):BO (.slice (some ⟨f,0,none⟩) e l) a:=λd b=>by
 have g:d=f:=by
  simp[Value.ownBlock]at b;exact b.symm
 subst g;exact c.plain
theorem rj(b:aV f (.slice (some ⟨f,0,none⟩) e e) (List.replicate e 0) a):eh f e db a:=by
 rcases b.2 with⟨i,_⟩|⟨o,p,j,c,q,k,r,s,t,u⟩
 ·cases i
 ·simp only[ks,Value.slice.injEq,bt,Addr.mk.injEq,jy,j7]at c;obtain⟨rfl,rfl⟩:=c;by_cases c:e=0
  ·exact⟨λ_=> .int .i64 0,⟨j,k,E,λc i=>E⟩,λd g=>E⟩
  ·obtain⟨c,i,l,h,j,k,o,p,m,n⟩:=b.row e oi E;simp only[Value.slice.injEq,bt,Addr.mk.injEq,jy,j7]at h;obtain⟨rfl,rfl⟩:=h;exact⟨l,m,λd g=>by rw[n d g,jq];rfl⟩
theorem IL{t:Array Oper}{rest:List Oper}{k:Oper}{l:Act}{u:Exit->Act->World->Prop}(A:k.guard=none)(d o:Operand)(B:k.op=.call { callee:=.builtin .copy,args:= #[d,o],argTypes:= #[22,22]})(g h v c w:Nat)(m:Option Addr)(C:l.eval d=.slice (some ⟨g,0,none⟩) h v)(D:l.eval o=.slice m c w)(p f:Nat->Nat)(F:eh g h p a)(x:Sl m c f a)(G:c<=h)(m:Nat)(q:World)(I:Below m q a)(J:m<=g)(K:∀i,eh g h (λb=>if b<c then f b else p b) i->Below m q i->wpList prog t u rest (l.put k.dst (goInt c)) i):wpList prog t u (k::rest) l a:=by
 obtain⟨r,k,M⟩:=F;obtain⟨n,l,N,O⟩:=k;obtain⟨u,k,F,t,Q⟩:=X5 lV;have u:a.heap[g]?=some (.cells n.toList.toArray 3 (0,0)):=by simpa using l
 refine wpList_copy_splice A d o 22 22 B 3 underlying22 (by rw[k];simp[t]) _ _ h v c w C D g 0 n.toList 3 u (qQ c f) (by rw[dD];exact(Nat.min_eq_left G).symm) ?_ XH (vV c f) m q I J ?_
 ·intro y;rw[dD]at y;obtain⟨R,S,rfl,_⟩:=x 0 y;refine⟨X,_,X,λj g s=>?_⟩
  have z:j<c:=by
   have:=(b9.1 s).1
   rwa [dD]at this
  rw[nD c f j z]at s;cases s;obtain⟨g,k,e,P⟩:=x j z;cases e;rw[od];exact P
 ·intro i k g;rw[dD];refine K i ?_ g;have i:(splice n.toList 0 (qQ c f)).length=h:=by rw[length_splice _ _ _ XH];simpa using N
  refine⟨λb=>if b<c then .int .i64 (f b:Nat)else r b,⟨(splice n.toList 0 (qQ c f)).toArray,k.out,by simpa using i,λb g=>?_⟩,λb g=>?_⟩
  ·show _=some (if b<c then _ else r b);unfold splice;rw[an,dC,yu,dD,aW];by_cases e:b<c
   ·rw[bL (by rw[dD];exact e),nD c f b e,ai e]
   ·rw[bU (by rw[dD];omega),dD,mJ,show c+(b-c)=b from E,cU,O b g,af e]
  ·show(if b<c then _ else r b)=.int .i64 ((if b<c then f b else p b:Nat):Int);by_cases e:b<c
   ·rw[ai e,ai e]
   ·rw[af e,af e];exact M b g
def Pa(c:FD)(d b:Nat)(e y:Nat->Nat)(f:World)(i:Ending)(g:World):Prop:=Below f.heap.size f g∧((∃a,fB c d b e y a∧∃h,i=.returned (.tuple #[h,.int .i64 (oX c b d e y a:Nat),.bool true,.int .i64 0])∧cG f.heap.size h b a g∧BO h g)∨((∀a,¬fB c d b e y a)∧i=.returned (.tuple #[.slice none 0 0,.int .i64 0,.bool false,.int .i64 0])))
theorem Ql(hD:d∈ak)(eg:∀args a,(callFunc f args).run prog a=.ok (.enter f args) a){ar q y':Nat->Nat}{y:Nat->Int}(hX:Arg i e l (λj=>((ar j:Nat):Int)) a)(hY:Arg k e g y a)(hn:e<=64)(bd:1<=b)(hk:b<=e)(bd:Calls prog 101 #[.int .i64 d.q,.slice i e l,.int .i64 (b:Nat),.slice k e g] a λn C=>n=.returned (.int .i64 0)∧Below a.heap.size a C)(hH:mh d e ar y c q y')(bg:∀(r T:Nat) (P:Nat->Value) (m:World) (s t:Option Addr) (ac u:Nat),gO r T d P m->Arg s c ac (λj=>((q j:Nat):Int)) m->Arg t c u (λj=>((y' j:Nat):Int)) m->b<=c->Calls prog f (#[.agg #[.pointer (some ⟨r,0,none⟩),.int .i64 (b:Nat),.slice s c ac,.slice t c u]] ++ #[]) m (yN d c b q y' m)):Calls prog 87 #[.int .i64 d.q,.slice i e l,.int .i64 (b:Nat),.slice k e g,.func (.func f) #[] #[]] a (Pa d c b q y' a):=by
 have HH:Hid (mh d e ar y c q y'):=hH;have cc:=hH.le;have Y:Hid (d∈ak∧Arg i e l (λj=>((ar j:Nat):Int)) a∧Arg k e g y a):=⟨hD,hX,hY⟩;have bO:Hid (Calls prog 101 #[.int .i64 d.q,.slice i e l,.int .i64 (b:Nat),.slice k e g] a λn C=>n=.returned (.int .i64 0)∧Below a.heap.size a C):=bd;have bQ:Hid (∀(r T:Nat) (P:Nat->Value) (m:World) (s t:Option Addr) (ac u:Nat),gO r T d P m->Arg s c ac (λj=>((q j:Nat):Int)) m->Arg t c u (λj=>((y' j:Nat):Int)) m->b<=c->Calls prog f (#[.agg #[.pointer (some ⟨r,0,none⟩),.int .i64 (b:Nat),.slice s c ac,.slice t c u]] ++ #[]) m (yN d c b q y' m)):=bg;clear hD hX hY bd hH bg;go_enter func87,ntmps87;go_wp2_with fail;refine bO.out.mono ?_;rintro n w1 ⟨rfl,bk⟩;have H1:Hid (Below a.heap.size a w1):=bk;clear bk;go_wp2_with fail;refine(kh Y.out.1 w1).mono ?_;rintro n w2 ⟨r,T,P,rfl,bl,_,_,bm⟩;have U:Hid (Below a.heap.size a w2∧gO r T d P w2):=⟨al H1.out bm,bl⟩;clear bl bm;go_wp2_with fail;refine(LS (F:=r) (b:Nat) (Y.out.2.1.below U.out.1) (Y.out.2.2.below U.out.1) hn).mono ?_;rintro n w ⟨vx,vy,rfl,a1,a2,bn⟩;rw[HH.out.lx]at a1;rw[HH.out.ly]at a2;obtain⟨s,ac,rfl,hax⟩:=a1.yy;obtain⟨t,u,rfl,bo⟩:=a2.yy;have⟨o,Z⟩:=eaa (w.alloc (.cells #[.pointer (some ⟨r,0,none⟩),.int .i64 (b:Nat),.slice s c ac,.slice t c u] 151));have ar:Below w.heap.size w o:=by rw[Z];exact(XK _ _).alloc (aa _) _
 have bd:o.heap.size=w.heap.size+1:=by rw[Z];simp
 have r4:bD w.heap.size 4 151 (sa #[.pointer (some ⟨r,0,none⟩),.int .i64 (b:Nat),.slice s c ac,.slice t c u]) o:=by rw[Z];exact iV _ _ _ _ X
 have D:Hid (Below a.heap.size a o∧gO r T d P o∧Arg s c ac (λj=>((q j:Nat):Int)) o∧Arg t c u (λj=>((y' j:Nat):Int)) o):=by
  have bd:=al bn ar;exact⟨al U.out.1 bd,U.out.2.below bd U.out.2.qY U.out.2.sg,(hax.arg E).below ar,(bo.arg E).below ar⟩
 have ab:Hid (∀m,Below o.heap.size o m->m.cell? ⟨w.heap.size,0,none⟩=some (.pointer (some ⟨r,0,none⟩))∧m.cell? ⟨w.heap.size,1,none⟩=some (.int .i64 (b:Nat))∧m.cell? ⟨w.heap.size,2,none⟩=some (.slice s c ac)∧m.cell? ⟨w.heap.size,3,none⟩=some (.slice t c u)):=λm hb=>by
  have h:=r4.below hb E;exact⟨h.cell 0 E,h.cell 1 E,h.cell 2 E,h.cell 3 E⟩
 clear a1 a2 bn hax bo ar r4;have bp:Hid (∀m,Calls prog 103 #[.agg #[.pointer (some ⟨r,0,none⟩),.int .i64 (b:Nat),.slice s c ac,.slice t c u]] m λn C=>n=.returned (.int .i64 ((c:Int)-(b:Int)))∧Below m.heap.size m C):=λm=>Kk r (b:Nat) s t c ac c u E E E m
 go_wp2_with fail
 rw[<-Z];clear Z;refine(bp.out o).mono ?_;rintro n Q ⟨rfl,a3⟩;have G:Hid (Below a.heap.size a Q∧Below o.heap.size o Q):=⟨al D.out.1 a3,a3⟩;clear a3;by_cases a4:b<=c
 ·have bS:¬(c:Int)-(b:Int)<0:=by omega
  obtain⟨b0,b1,b2,b3⟩:=ab.out Q G.out.2;have U:w.heap.size<Q.heap.size:=by have:=G.out.2.size;omega
  have U:=bQ.out r T P Q s t ac u (D.out.2.1.below G.out.2 D.out.2.1.qY D.out.2.1.sg) (D.out.2.2.1.below G.out.2) (D.out.2.2.2.below G.out.2) a4;have bY:Hid (Calls prog f (#[.agg #[.pointer (some ⟨r,0,none⟩),.int .i64 (b:Nat),.slice s c ac,.slice t c u]] ++ #[]) Q (yN d c b q y' Q)):=U;clear U;go_wp2_with fail
  go_at_fn f
  refine bY.out.mono ?_;rintro n z ⟨a5,cf,ok,B,x,rfl,bs,bw,bx,cl,bz⟩;obtain⟨fo,V,rfl,bA⟩:=bs.arg E;have p:Hid (Below a.heap.size a z∧Below o.heap.size o z∧Arg fo B V (λj=>((x j:Nat):Int)) z∧El d x∧pK B x∧∀v,El d v->Bd b v->2*oX d b c q y' v<=c-b->ok=true∧x=v):=⟨al G.out.1 a5,al G.out.2 a5,bA,bw,bx,bz⟩;clear a5 bs bw bx bz bA b0 b1 b2 b3;cases ok
  ·have ad:Hid (∀v,¬fB d c b q y' v):=λv A=>by
    have:=(p.out.2.2.2.2.2 v A.1 A.2.1 A.2.2.2).1;cases this
   go_wp2;refine X2 (gW X _ _ _) X ?_;exact⟨p.out.1,J ⟨ad.out,X⟩⟩
  ·by_cases P:b<B
   ·have a6:(b:Int)<(B:Int):=by omega
    have b4:(B:Int) > (b:Int):=a6
    have ad:Hid (∀v,¬fB d c b q y' v):=λv A=>by
     have n:=(p.out.2.2.2.2.2 v A.1 A.2.1 A.2.2.2).2;have h1:=p.out.2.2.2.2.1;rw[n]at h1;have:=OE h1 A.2.1;omega
    go_wp2;refine X2 (gW X _ _ _) X ?_;exact⟨p.out.1,J ⟨ad.out,X⟩⟩
   ·have a6:¬(b:Int)<(B:Int):=by omega
    have b4:¬(B:Int) > (b:Int):=a6;have a7:B<=b:=E;have⟨F,P⟩:=eaa (oX d b c q y' x)
    have Q:F<=c:=by
     rw[P];unfold oX;have:=s8 (λW=>decide (d.ev x (q W) b=y' W)) c;omega
    have HE:Hid (F=oX d b c q y' x):=P;clear P;have av:Hid (∀m,Below o.heap.size o m->m.cell? ⟨w.heap.size,2,none⟩=some (.slice s c ac)∧m.cell? ⟨w.heap.size,3,none⟩=some (.slice t c u)):=λm hb=>⟨(ab.out m hb).2.2.1,(ab.out m hb).2.2.2⟩
    have b6:Hid (Calls prog 48 #[.pointer (some ⟨r,0,none⟩),.slice fo B V,.slice s c ac] z.drew λn C=>n=.returned (.slice (some ⟨z.heap.size,0,none⟩) c c)∧Row z.heap.size c (λW=>d.ev x (q W) b) C∧Below z.heap.size z C):=by
     have ax:Below z.heap.size z z.drew:=(XK _ _).drew;have m:=al p.out.2.1 ax;have h:=uz Y.out.1 (ca:=V) (cx:=ac) (D.out.2.1.below m D.out.2.1.qY D.out.2.1.sg) (show B<=128 by omega) (show c<=64 by omega) p.out.2.2.2.1 HH.out.cq (p.out.2.2.1.below ax).sl (D.out.2.2.1.below m).sl (p.out.2.2.1.below ax).lt (D.out.2.2.1.below m).lt;refine h.mono ?_;rintro n C ⟨rfl,hr,b7⟩;refine⟨X,hr.congr (λW _=>?_),al ax b7⟩;exact(dQ (dE Y.out.1) (q W) p.out.2.2.2.2.1.1 a7).symm
    obtain⟨b0,b1,b2,b3⟩:=ab.out z p.out.2.1;have m:w.heap.size<z.heap.size:=by have:=p.out.2.1.size;omega
    go_wp2;refine XU ?_;have R:=av.out z.drew (al p.out.2.1 (XK _ _).drew);refine jb (S:=λwz=>wz.cell? ⟨w.heap.size,2,none⟩=some (.slice s c ac)∧wz.cell? ⟨w.heap.size,3,none⟩=some (.slice t c u)) [] wL ?_;clear b0 b1 b2 b3;refine tY 0 R ?_;try simp only[Act.put,ae,ah,ag]
    refine tY 1 R ?_;try simp only[Act.put,ae,ah,ag]
    refine tY 2 R ?_;try simp only[Act.put,ae,ah,ag]
    refine tY 3 R ?_;try simp only[Act.put,ae,ah,ag]
    refine tY 5 R ?_;try simp only[Act.put,ae,ah,ag]
    refine tY 6 R ?_;try simp only[Act.put,ae,ah,ag]
    refine bR (i:=4) wL Xe (λao K=>?_);have M:Hid _:=K;clear K;go_simp;refine b6.out.mono ?_;rintro n N ⟨rfl,bB,a0⟩;have O:Hid (Below a.heap.size a N∧Below o.heap.size o N∧Arg fo B V (λj=>((x j:Nat):Int)) N):=⟨al p.out.1 a0,al p.out.2.1 a0,p.out.2.2.1.below a0⟩
    have b8:Hid (Calls prog 104 #[.slice (some ⟨z.heap.size,0,none⟩) c c,.slice t c u] N λn C=>n=.returned (.int .i64 (F:Nat))∧C=N):=by
     show Calls _ _ _ _ _;rw[HE.out];exact IE (bB.sl (aa _)) (D.out.2.2.2.below O.out.2.1).sl E
    clear bB a0;refine M.out _ _ (λ_=>av.out _ O.out.2.1) ?_;clear M ao;try simp only[Act.put,ae,ah,ag]
    refine bR (i:=7) wL Xe (λao K=>?_);have M:Hid _:=K;clear K;go_simp;refine b8.out.mono ?_;rintro n C ⟨rfl,hw⟩;have hw:=hw.symm;subst hw;refine M.out _ _ (λ_=>av.out _ O.out.2.1) ?_;clear M ao;try simp only[Act.put,ae,ah,ag]
    refine bR (i:=8) wL Xe (λao K=>?_);have M:Hid _:=K;clear K;go_simp;refine M.out _ _ (λ_=>av.out _ O.out.2.1) ?_;clear M ao;try simp only[Act.put,ae,ah,ag]
    refine fX wL (XY ?_);clear R;obtain⟨b0,b1,b2,b3⟩:=ab.out N O.out.2.1;have m:w.heap.size<N.heap.size:=by have:=O.out.2.1.size;omega
    have m:IntKind.i64.wrap (2*(F:Int))=2*(F:Int):=BF E E;go_wp2_with fail;refine(bp.out N).mono ?_;rintro n S ⟨rfl,a8⟩;have H8:Hid (Below a.heap.size a S∧Arg fo B V (λj=>((x j:Nat):Int)) S):=⟨al O.out.1 a8,O.out.2.2.below a8⟩;clear a8 b0 b1 b2 b3;by_cases bE:(c:Int)-(b:Int)<2*(F:Int)
    ·have ca:2*(F:Int) > (c:Int)-(b:Int):=bE
     have ad:Hid (∀v,¬fB d c b q y' v):=λv A=>by
      have n:=(p.out.2.2.2.2.2 v A.1 A.2.1 A.2.2.2).2;have h1:=HE.out;rw[n]at h1;have:=A.2.2.2;omega
     go_wp2;refine X2 (gW X _ _ _) X ?_;exact⟨H8.out.1,J ⟨ad.out,X⟩⟩
    ·have ca:¬2*(F:Int) > (c:Int)-(b:Int):=bE;have cb:Hid (fB d c b q y' x):=⟨p.out.2.2.2.1,p.out.2.2.2.2.1.1.mono a7,a4,by rw[<-HE.out];omega⟩
     go_wp2_with (first
      |(at_make;refine iS rfl _ _ rfl _ b rfl rfl E E ?_;intro w9 bM a9)
      |(show wpList _ _ _ (Oper.mk (some 73) _ _ _ _ _::_) _ _;(refine IL rfl _ _ rfl S.heap.size b b B V fo rfl rfl db x (rj bM) ((H8.out.2.below (cH a9 (aa _) (λb hk=>by simp at hk))).sl) a7 S.heap.size S (cH a9 (aa _) (λb hk=>by simp at hk)) (aa _) ?_);intro ba bb bN))
     have bc:Hid (Below a.heap.size a ba∧Row S.heap.size b x ba∧BO (.slice (some ⟨S.heap.size,0,none⟩) b b) ba):=⟨al H8.out.1 bN,bb.row.congr (λj _=>by show(if j<B then x j else db j)=x j;split;rfl;exact(p.out.2.2.2.2.1.1 j E).symm),bb.all⟩;clear bM a9 bb bN;refine X2 (gW X _ _ _) X ?_;exact⟨bc.out.1,I ⟨x,cb.out,_,by rw[<-HE.out];rfl,cG.tJ bc.out.2.1 (aa _) (aa _) E H8.out.1.size,bc.out.2.2⟩⟩
 ·have bS:(c:Int)-(b:Int)<0:=by omega
  go_wp2;refine X2 (gW X _ _ _) X ?_;exact⟨G.out.1,J ⟨λv A=>a4 A.2.2.1,X⟩⟩
theorem E3(u:d∈ak){v o y':Nat->Nat}{y:Nat->Int}(w:Arg i f e (λj=>((v j:Nat):Int)) a)(x:Arg k f l y a)(G:f<=64)(z:1<=g)(K:g<=f)(A:Calls prog 101 #[.int .i64 d.q,.slice i f e,.int .i64 (g:Nat),.slice k f l] a λq c=>q=.returned (.int .i64 0)∧Below a.heap.size a c)(c:mh d f v y b o y'):Calls prog 56 #[.int .i64 d.q,.slice i f e,.int .i64 (g:Nat),.slice k f l] a (Pa d b g o y' a):=by
 have M:Hid (Calls prog 87 #[.int .i64 d.q,.slice i f e,.int .i64 (g:Nat),.slice k f l,.func (.func 88) #[] #[]] a (Pa d b g o y' a)):=by
  refine Ql u IU w x G z K A c (λv T P Q B C ac D N r m O=>?_);have q:(#[Value.agg #[.pointer (some ⟨v,0,none⟩),.int .i64 (g:Nat),.slice B b ac,.slice C b D]] ++ #[]:Array Value)= #[.agg #[.pointer (some ⟨v,0,none⟩),.int .i64 (g:Nat),.slice B b ac,.slice C b D]]:=rfl;rw[q];exact vT u N r m (by have:=c.le;omega) z O c.cq c.ne c.yq
 clear w x A c;go_enter func56,ntmps56;go_wp2_with fail;refine M.out.mono ?_;rintro q s ⟨m,⟨p,r,t,rfl,E⟩|⟨F,rfl⟩⟩
 ·have n:Hid (Below a.heap.size a s∧fB d b g o y' p∧cG a.heap.size t g p s∧BO t s):=⟨m,r,E⟩;clear m r E;go_wp2;refine X2 (gW X _ _ _) X ?_;exact⟨n.out.1,I ⟨p,n.out.2.1,t,X,n.out.2.2⟩⟩
 ·have n:Hid (Below a.heap.size a s∧∀p,¬fB d b g o y' p):=⟨m,F⟩;clear m F;go_wp2;refine X2 (gW X _ _ _) X ?_;exact⟨n.out.1,J ⟨n.out.2,X⟩⟩
def WG(c:FD)(d b:Nat)(e y:Nat->Nat)(f:World)(i:Ending)(g:World):Prop:=Below f.heap.size f g∧((∃a,fB c d b e y a∧∃h,i=.returned (.agg #[h,.int .i64 (oX c b d e y a:Nat),.bool false])∧cG f.heap.size h b a g∧BO h g)∨((∀a,¬fB c d b e y a)∧i=.returned (.agg #[.slice none 0 0,.int .i64 0,.bool true])))
theorem Mh(U:d∈ak){e cx cw b o:Nat}{x p y':Nat->Nat}{y:Nat->Int}(K:Arg i e cx (λj=>((x j:Nat):Int)) a)(M:Arg k e cw y a)(V:e<=64)(W:1<=b)(Y:b<=e)(N:∀f,Below a.heap.size a f->Calls prog 101 #[.int .i64 d.q,.slice i e cx,.int .i64 (b:Nat),.slice k e cw] f λO P=>O=.returned (.int .i64 0)∧Below f.heap.size f P)(P:mh d e x y o p y'):Calls prog 29 #[.int .i64 d.q,.slice i e cx,.int .i64 (b:Nat),.slice k e cw] a (WG d o b p y' a):=by
 have Z:Hid (∀f,Below a.heap.size a f->Calls prog 56 #[.int .i64 d.q,.slice i e cx,.int .i64 (b:Nat),.slice k e cw] f (Pa d o b p y' f)):=λf x=>E3 U (K.below x) (M.below x) V W Y (N f x) P
 clear K M N P;go_enter func29,ntmps29;go_wp2_with fail;have⟨e,f⟩:=eaa (a.alloc (.cells #[.slice none 0 0,.int .i64 0,.bool false] 39));have t:Below a.heap.size a e:=by rw[f];exact(XK _ _).alloc (aa _) _
 have ab:e.heap.size=a.heap.size+1:=by rw[f];simp
 have z:bD a.heap.size 3 39 (sa #[.slice none 0 0,.int .i64 0,.bool false]) e:=by rw[f];exact iV _ _ _ _ X
 rw[<-f];clear f;refine(Z.out e t).mono ?_;rintro O g ⟨u,hr⟩;have A:=al t u;have l:=z.below u E;have e:g.cell? ⟨a.heap.size,0,none⟩=some (.slice none 0 0):=l.cell 0 E;have e:g.cell? ⟨a.heap.size,1,none⟩=some (.int .i64 0):=l.cell 1 E;have e:g.cell? ⟨a.heap.size,2,none⟩=some (.bool false):=l.cell 2 E;have e:=l.free 0;have e:=l.free 1;have e:=l.free 2;have e:a.heap.size<g.heap.size:=l.lt
 have Q:Hid (∀(q:Value) (v:Int) (w:Bool) (c:World),c=((g.setCell ⟨a.heap.size,0,none⟩ q).setCell ⟨a.heap.size,1,none⟩ (.int .i64 v)).setCell ⟨a.heap.size,2,none⟩ (.bool w)->Below a.heap.size a c∧c.cell? ⟨a.heap.size,0,none⟩=some q∧c.cell? ⟨a.heap.size,1,none⟩=some (.int .i64 v)∧c.cell? ⟨a.heap.size,2,none⟩=some (.bool w)):=λq v w c h=>by
  subst h;have e:=((l.store 0 q).store 1 (.int .i64 v)).store 2 (.bool w);exact⟨((A.setCell (aa _) _).setCell (aa _) _).setCell (aa _) _,e.cell 0 E,e.cell 1 E,e.cell 2 E⟩
 rcases hr with⟨m,R,q,rfl,B,S⟩|⟨T,rfl⟩
 ·obtain⟨n,s,rfl,C⟩:∃n D,q=.slice n b D∧Hid (cG (a.heap.size+1) (.slice n b D) b m g∧BO (.slice n b D) g):=by
   have ad:cG (a.heap.size+1) q b m g:=by rw[<-ab];exact B
   obtain⟨ao,ar,rfl,_⟩:=B;exact⟨ao,ar,X,ad,S⟩
  have F:Hid (fB d o b p y' m):=R;clear B R S z l t u A;go_wp2;have⟨c,r⟩:=eaa (((g.setCell ⟨a.heap.size,0,none⟩ (.slice n b s)).setCell ⟨a.heap.size,1,none⟩ (.int .i64 (oX d b o p y' m:Nat))).setCell ⟨a.heap.size,2,none⟩ (.bool false));obtain⟨G,d0,d1,d2⟩:=Q.out _ _ _ _ r;have f:∀e,(Value.slice n b s).ownBlock=some e->e≠a.heap.size:=λe q=>by have:=cG.block C.out.1 e q;omega
  have av:cG a.heap.size (.slice n b s) b m c:=by
   rw[r];exact(((C.out.1.setOther ⟨a.heap.size,0,none⟩ f _).setOther ⟨a.heap.size,1,none⟩ f _).setOther ⟨a.heap.size,2,none⟩ f _).mono E
  have ax:BO (.slice n b s) c:=λe q=>by
   obtain⟨v,w,x⟩:=C.out.2 e q;exact⟨v,by rw[r,heap_setCell,af (f e q),heap_setCell,af (f e q),heap_setCell,af (f e q)];exact w,x⟩
  rw[<-r];refine X2 (v:=.agg #[.slice n b s,.int .i64 (oX d b o p y' m:Nat),.bool false]) (by simp only[f29,results];go_simp) X ?_;exact⟨G,I ⟨m,F.out,_,X,av,ax⟩⟩
 ·have F:Hid (∀m,¬fB d o b p y' m):=T;clear T z l t u A;go_wp2;have⟨c,r⟩:=eaa (((g.setCell ⟨a.heap.size,0,none⟩ (.slice none 0 0)).setCell ⟨a.heap.size,1,none⟩ (.int .i64 0)).setCell ⟨a.heap.size,2,none⟩ (.bool true));obtain⟨G,d0,d1,d2⟩:=Q.out _ _ _ _ r;rw[<-r];refine X2 (v:=.agg #[.slice none 0 0,.int .i64 0,.bool true]) (by simp only[f29,results];go_simp) X ?_;exact⟨G,J ⟨F.out,X⟩⟩
