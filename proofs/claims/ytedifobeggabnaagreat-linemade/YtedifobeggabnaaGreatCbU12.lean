/- Texts of ours, one behind the other: U12 U13 U14 U15 U16 U17 V1 V2 V3 W5 V4 V5. -/
import Derived.Test.YtedifobeggabnaaGreatCbN1
import Derived.Lib.QuietBelow
namespace Go.Proofs.YtedifobeggabnaaGreat
set_option maxHeartbeats 4000000
set_option maxRecDepth 100000
open Tryz
variable {a:FD}{f o:Option Addr}{c e j m:Nat}{b p:World}{d:Nat->Nat}{i:Value}{k:Program}{l:Exit->Act->World->Prop}{n:Act}{g:List Oper}
abbrev XQ:=@Go.below_regrown
section
open Go.RowKit
def FD.quo(c:FD)(d:Nat->Nat)(e:Nat)(a:Nat->Nat)(b:Nat):Nat->Nat:=dV c a (cY a b-1) (c.iv (a (cY a b-1))) (e-(cY a b-1)) d
def FD.BN(c:FD)(d:Nat->Nat)(e:Nat)(a:Nat->Nat)(b:Nat):Nat->Nat:=iE c a (cY a b-1) (c.iv (a (cY a b-1))) (e-(cY a b-1)) d
theorem Dg(w:a∈ak){g y:Nat->Int}(B:Arg f c j g b)(C:Arg o e m y b):Calls prog 108 #[.int .i64 a.q,.slice f c j,.slice o e m] b λl v=>Below b.heap.size b v∧((a.gu c g e y=0∧cY (zc e y) e≠0∧∃D F,l=.returned (.tuple #[D,F,.int .i64 0])∧cG b.heap.size D (cY (a.quo (zc c g) c (zc e y) e) (c-(cY (zc e y) e-1))) (a.quo (zc c g) c (zc e y) e) v∧cG b.heap.size F (cY (a.BN (zc c g) c (zc e y) e) c) (a.BN (zc c g) c (zc e y) e) v)∨(a.gu c g e y=0∧cY (zc e y) e=0∧l=.returned (.tuple #[.slice none 0 0,.slice none 0 0,.int .i64 5]))∨(a.gu c g e y≠0∧l=.returned (.tuple #[.slice none 0 0,.slice none 0 0,.int .i64 (a.gu c g e y)]))):=by
 have q:Hid (Arg f c j g b∧Arg o e m y b∧a∈ak):=⟨B,C,w⟩;clear B C w;unfold FD.quo FD.BN;have⟨n,w⟩:=eaa (cY (zc e y) e);have Q:n<=e:=by rw[w];exact eJ _ _
 rw[<-w];have R:Hid (n=cY (zc e y) e):=w;clear w;go_enter func108,ntmps108;go_wp2_with fail;refine(tK q.out.2.2 q.out.1 q.out.2.1).mono ?_;rintro l t ⟨s,x⟩;rcases x with⟨r,S,T,U,rfl,G,u,V⟩|⟨r,rfl⟩
 ·have i:Hid (a.gu c g e y=0∧gO S T a U t∧Below b.heap.size b t∧Arg f c j g t∧Arg o e m y t):=⟨r,G,s,q.out.1.below s,q.out.2.1.below s⟩;clear r G u V s;have w:=sZ i.out.1;have B:=(mq w.1).1;have B:=(mq w.2).1;have p:Hid (n=cY (zc e y) e∧a.jG c g=0∧a.jG e y=0):=⟨R.out,w⟩;clear w;go_wp2_with fail;refine(xS p.out.2.2 i.out.2.2.2.2).mono ?_;rintro l v ⟨rfl,k1,rfl⟩;rw[<-p.out.1];by_cases v:n=0
  ·have W:((n:Int)==0)=true:=by rw[v];rfl
   have Y:Hid (n=0):=v;clear v;go_wp2
   go_ret3
   exact⟨aO i.out.2.2.1 _,J (I ⟨i.out.1,Y.out,X⟩)⟩
  ·obtain⟨k,rfl⟩:∃k,n=k+1:=⟨n-1,E⟩;have u:=dE q.out.2.2
   have K:=λd=>EY q.out.2.2 (i.out.2.1.drewN d) (ca:=j) (cb:=m) (show c<=1000 by omega) (show k<1000 by omega) (uF u p.out.2.1) (uF u p.out.2.2) (Iu _ _) (by rw[p.out.1];exact lz (Iu _ _)) (by
     have h:=oh (zc e y) e (by rw[<-p.out.1];omega);rw[<-p.out.1]at h;exact h) (sP p.out.2.1 i.out.2.2.2.1.sl) ((sP p.out.2.2 i.out.2.2.2.2.sl).less Q) i.out.2.2.2.1.lt i.out.2.2.2.2.lt i.out.2.2.2.1.nil
   clear u;go_wp2_with fail;refine(K _).mono ?_;rintro l z ⟨M,N,rfl,O,x,P⟩;have n:=i.out.2.2.1.size;have A:Hid (cG b.heap.size M (cY (dV a (zc e y) k (a.iv (zc e y k)) (c-k) (zc c g)) (c-k)) (dV a (zc e y) k (a.iv (zc e y k)) (c-k) (zc c g)) z∧cG b.heap.size N (cY (iE a (zc e y) k (a.iv (zc e y k)) (c-k) (zc c g)) c) (iE a (zc e y) k (a.iv (zc e y k)) (c-k) (zc c g)) z∧Below b.heap.size b z):=⟨O.mono n,x.mono n,iO (aO i.out.2.2.1 _) P⟩;clear O x P K;go_wp2
   go_ret3
   exact⟨A.out.2.2,I ⟨i.out.1,E,M,N,X,A.out.1,A.out.2.1⟩⟩
 ·have i:Hid (a.gu c g e y≠0∧Below b.heap.size b t):=⟨r,s⟩;have⟨l,k⟩:=eaa (a.gu c g e y);rw[<-k]at r ⊢;have W:(l !=0)=true:=by rw[dy];exact r
  have Z:Hid (l=a.gu c g e y):=k;clear r s k;go_wp2
  go_ret3
  exact⟨i.out.2,J (J ⟨i.out.1,by rw[<-Z.out];rfl⟩)⟩
structure PA(D:FD)(ao:Option Addr)(n cap:Nat)(c:Nat->Nat)(w:World):Prop where
 sl:Sl ao n c w
 lt:fp ao w.heap.size
 nil:ao=none->cap=0
 el:El D c
 T7:pK n c
theorem PA.below(g:PA a f c e d b)(h:Below b.heap.size b p):PA a f c e d p:=
 ⟨g.sl.below h g.lt,g.lt.mono h.size,g.nil,g.el,g.T7⟩
theorem PA.drewN(g:PA a f c e d b)(h:Nat):PA a f c e d (b.drewN h):=⟨g.sl,g.lt,g.nil,g.el,g.T7⟩
theorem cG.pa{D:FD}(g:cG c i e d b)(h:El D d)(j:pK e d):∃a f,i=.slice a e f∧PA D a e f d b:=by
 obtain⟨a,f,k,_,_,_,l,m,n⟩:=g.open;exact⟨a,f,k,n,l,m,h,j⟩
def U8:Value->Nat
 |.slice _ a _=>a
 |_=>0
def nu(a:Nat->Nat)(c:Nat):Prop:=∃b j,b<j∧j<c∧a b=a j
theorem AL(h:Sl f c d b)(G:c<=1000)(p:fp f b.heap.size)(t:∀j,d j<64):Calls prog 121 #[.slice f c e] b λk G=>(∃r,k=.returned (.bool r)∧(r=true↔nu d c))∧Below b.heap.size b G:=by
 have s:Hid (Sl f c d b∧fp f b.heap.size∧∀j,d j<64):=⟨h,p,t⟩;clear h p t;go_enter func121,ntmps121;go_wp2
 change Code.wp _ _ _ _ (b.alloc (.cells (Array.replicate 64 (.bool false)) 167))
 obtain⟨p,t⟩:∃p:World,p=b.alloc (.cells (Array.replicate 64 (.bool false)) 167):=⟨_,X⟩
 have v:Hid (bD b.heap.size 64 167 (λ_=> .bool false) p∧Below b.heap.size b p):=by
  rw[t];refine⟨⟨_,dR _,oi,λG p=>by simp[p]⟩,(XK _ _).alloc (aa _) _⟩
 rw[<-t];clear t;go_loopw [8] (λa wr=>∃(i:Nat) (n:Nat->Value),i<=c∧a=.int .i64 i∧bD b.heap.size 64 167 n wr∧(∀g,g<64->n g=.bool (decide (∃a,a<i∧d a=g)))∧¬nu d i∧Below b.heap.size b wr) (λa _=>c-(intOf a).toNat)
 case atStart=>exact⟨0,_,E,X,v.out.1,λg _=>by rw[aq (by rintro⟨a,q,_⟩;omega)],by rintro⟨a,j,w,I,_⟩;omega,v.out.2⟩
 case round=>
  obtain⟨i,n,M,rfl,x,z,A,B⟩:=hrel;have l:Hid (bD b.heap.size 64 167 n wr∧(∀g,g<64->n g=.bool (decide (∃a,a<i∧d a=g)))∧¬nu d i∧Below b.heap.size b wr):=⟨x,z,A,B⟩;clear x z A B;by_cases C:i<c
  ·obtain⟨r,N,rfl,J⟩:=(s.out.1.below l.out.2.2.2 s.out.2.1) i C;have⟨g,m⟩:=eaa (d i);have D:g<64:=by rw[m];exact s.out.2.2 i
   rw[<-m]at J;have p:=l.out.1.free g;by_cases o:∃a,a<i∧d a=g
   ·have K:wr.cell? ⟨b.heap.size,g,none⟩=some (.bool true):=by rw[l.out.1.cell g E,l.out.2.1 g D,aU o]
    have u:Hid (nu d c):=by
     obtain⟨a,q,k⟩:=o;exact⟨a,i,q,C,by rw[k,m]⟩
    clear o m;go_wp2;go_ret;exact⟨⟨true,X,λ_=>u.out,λ_=>rfl⟩,l.out.2.2.2⟩
   ·have K:wr.cell? ⟨b.heap.size,g,none⟩=some (.bool false):=by rw[l.out.1.cell g E,l.out.2.1 g D,aq o]
    have F:Hid (¬nu d (i+1)∧∀y,y<64->upd n g (.bool true) y=.bool (decide (∃a,a<i+1∧d a=y))):=by
     refine⟨?_,λy p=>?_⟩
     ·rintro⟨a,j,w,I,k⟩;by_cases n:j=i
      ·exact o ⟨a,E,by rw[k,n,m]⟩
      ·exact l.out.2.2.1 ⟨a,j,w,E,k⟩
     ·by_cases n:y=g
      ·rw[n,mH,aU ⟨i,E,m.symm⟩]
      ·rw[upd_ne _ _ _ n,l.out.2.1 y p]
       congr 1
       rw[fK];constructor
       ·rintro⟨a,q,k⟩;exact⟨a,E,k⟩
       ·rintro⟨a,q,k⟩;by_cases p:a=i
        ·exact absurd (by rw[<-k,p,m]) n
        ·exact⟨a,E,k⟩
    clear o m;go_wp2;go_roundw
    case rel=>exact⟨i+1,_,E,x9,l.out.1.store g _,F.out.2,F.out.1,l.out.2.2.2.setCell oi _⟩
    case measure=>simp[intOf];omega
  ·have u:Hid (¬nu d c):=by have h:=l.out.2.2.1;rw[show i=c from E]at h;exact h
   go_wp2;go_ret;exact⟨⟨false,X,λk=>(by cases k),λk=>absurd k u.out⟩,l.out.2.2.2⟩
theorem qw{n cap:Nat}{c:Nat->Nat}(h:Sl f n c b)(A:n<=cap)(_hcap:cap<=9223372036854775807)(r:f=none->cap=0)(s:fp f b.heap.size)(B:n<=1000000):Calls prog 37 #[.slice f n cap] b λi e=>∃a,i=.returned a∧cG b.heap.size a (cY c n) c e∧Below b.heap.size b e:=by
 have o:Hid (Sl f n c b∧(f=none->cap=0)∧fp f b.heap.size):=⟨h,r,s⟩;clear h r s;have v:=eJ c n;go_enter func37,ntmps37;go_wp2;go_loopw [3] (λp wr=>∃g:Nat,g<=n∧p=.int .i64 g∧Hid (cY c n=cY c g)∧∃d,wr=b.drewN d) (λp _=>(intOf p).toNat)
 case atStart=>exact⟨n,aa _,X,X,0,X⟩
 case round=>
  obtain⟨g,C,rfl,q,d,rfl⟩:=hrel
  have t:Hid (Calls prog 60 #[.slice f (cY c n) cap] (b.drewN d) λi e=>∃a,i=.returned a∧cG b.heap.size a (cY c n) c e∧Below b.heap.size (b.drewN d) e):=
   Cg (w:=b.drewN d) (o.out.1.less v) E o.out.2.1 o.out.2.2
  cases g with
  |zero=>
   have j:Hid (cY c n=0):=q.out
   have u:Hid (Calls prog 60 #[.slice f 0 cap] (b.drewN d) λi e=>∃a,i=.returned a∧cG b.heap.size a (cY c n) c e∧Below b.heap.size (b.drewN d) e):=by
    have h:=t.out;rw[j.out]at h ⊢;exact h
   cases f with
   |none=>
    go_wp2_with (go_at_call 60;refine u.out.mono ?_;rintro i e ⟨a,rfl,k,l⟩)
    go_ret;exact⟨a,X,k,aO (XK _ _) d|>.trans l⟩
   |some D=>
    go_wp2_with (go_at_call 60;refine u.out.mono ?_;rintro i e ⟨a,rfl,k,l⟩)
    go_ret;exact⟨a,X,k,aO (XK _ _) d|>.trans l⟩
  |succ g=>
   obtain⟨w,x,rfl,F⟩:=o.out.1 g E;by_cases m:c g=0
   ·have j:Hid (cY c n=cY c g):=by show _=_;rw[q.out,cY,ai m]
    have y:(((c g:Nat):Int)==0)=true:=by rw[m];rfl
    clear m;go_wp2;go_roundw
    case rel=>exact⟨g,E,x9,j.out,_,X⟩
    case measure=>simp[intOf]
   ·have j:Hid (cY c n=g+1):=by show _=_;rw[q.out,cY,af m]
    have y:(((c g:Nat):Int)==0)=false:=Xp
    have z:Hid (Calls prog 60 #[.slice (some ⟨w,x,none⟩) (g+1) cap] (b.drewN d) λi e=>∃a,i=.returned a∧cG b.heap.size a (cY c n) c e∧Below b.heap.size (b.drewN d) e):=by
     have h:=t.out;rw[j.out]at h ⊢;exact h
    clear m;go_wp2_with (go_at_call 60;refine z.out.mono ?_;rintro i e ⟨a,rfl,k,l⟩);go_ret;exact⟨a,X,k,aO (XK _ _) d|>.trans l⟩
theorem Dk(C:a∈ak){i:Nat->Int}(h:lu f c i b)(D:fp f b.heap.size)(hn:c<=1000000):Calls prog 20 #[.int .i64 a.q,.slice f c e] b λl j=>l=.returned (.int .i64 (a.jG c i))∧Below b.heap.size b j:=by
 have r:Hid (lu f c i b∧fp f b.heap.size∧a∈ak):=⟨h,D,C⟩;clear h D C;go_enter func20,ntmps20;go_wp2_with fail;refine(xC r.out.2.2 b).mono ?_;rintro l d ⟨u,rfl,F,_,v⟩;have C:=(dE r.out.2.2).m6;obtain⟨m,n,C,w,Y⟩:=F.row (a.m+1) zp E;subst w;have k:Hid (Below b.heap.size b d):=v;have C:=v.size;clear v F Y;unfold rf;have⟨u,w⟩:=eaa (Value.slice (some ⟨m,0,none⟩) (a.m+1) n);have Z:Hid (gN d.heap.size a a.gen (.slice (some ⟨m,0,none⟩) (a.m+1) n) (d.alloc (.cells #[.int .i64 a.q,.int .i64 a.p,.int .i64 a.m,.int .i64 a.gen,.slice (some ⟨m,0,none⟩) (a.m+1) n] 32))):=eL a a.gen _ d;clear w;by_cases x:128<c
 ·have s:Hid (a.jG c i=4):=by show a.jG c i=4;rw[FD.jG,ai x]
  go_wp2;go_ret;exact⟨aY (by rw[s.out]),by first|exact k.out|exact k.out.alloc k.out.size _⟩
 ·go_wp2;go_loopw [7] (λy wr=>∃g:Nat,g<=c∧y=.int .i64 g∧Hid (a.kB i g=true)∧gN d.heap.size a a.gen (.slice (some ⟨m,0,none⟩) (a.m+1) n) wr∧Below b.heap.size b wr∧d.heap.size<wr.heap.size) (λy _=>c-(intOf y).toNat)
  case atStart=>exact⟨0,E,X,X,Z.out,k.out.alloc k.out.size _,oi⟩
  case round=>
   obtain⟨g,hr,rfl,G,ab,I,J⟩:=hrel;obtain⟨K,M,N,O,P⟩:=ab;have q:Hid (gN d.heap.size a a.gen (.slice (some ⟨m,0,none⟩) (a.m+1) n) wr∧Below b.heap.size b wr):=⟨⟨K,M,N,O,P⟩,I⟩;clear I;by_cases Q:g<c
   ·obtain⟨z,A,rfl,B⟩:=(r.out.1.below q.out.2 r.out.2.1) g Q;have⟨o,k⟩:=eaa (i g);rw[<-k]at B;have u:(0:Int)<=(g:Int):=E;have u:(g:Int)<(c:Int):=E;have R:Hid (o=i g):=k;clear k;have⟨t,u⟩:=eaa (a.has o)
    have S:Hid (∀k:World,Calls prog 21 #[.agg #[.int .i64 a.q,.int .i64 a.p,.int .i64 a.m,.int .i64 a.gen,.slice (some ⟨m,0,none⟩) (a.m+1) n],.int .i64 o] k λl j=>l=.returned (.bool t)∧Below k.heap.size k j):=by
     intro k;rw[u];exact dp a a.gen _ o k
    have T:Hid (t=a.has o):=u;clear u
    have U:Hid (∀k:World,Below wr.heap.size wr k->k.cell? ⟨d.heap.size,0,none⟩=some (.int .i64 (a.q:Nat))∧k.cell? ⟨d.heap.size,1,none⟩=some (.int .i64 (a.p:Nat))∧k.cell? ⟨d.heap.size,2,none⟩=some (.int .i64 (a.m:Nat))∧k.cell? ⟨d.heap.size,3,none⟩=some (.int .i64 (a.gen:Nat))∧k.cell? ⟨d.heap.size,4,none⟩=some (.slice (some ⟨m,0,none⟩) (a.m+1) n)∧k.cell? ⟨z,A+g,none⟩=some (.int .i64 o)):=by
     intro k u;have k:=q.out.1.below (B:=wr.heap.size) u J;refine⟨k.c0,k.c1,k.c2,k.c3,k.c4,?_⟩;rw[(iN u).1 z (A+g) (aj (r.out.2.1 _ X) q.out.2.size)];exact B
    have p:Below wr.heap.size wr wr:=XK _ _;go_wp2_with fail
    go_region_held3 (λj=>j.cell? ⟨d.heap.size,0,none⟩=some (.int .i64 (a.q:Nat))∧j.cell? ⟨d.heap.size,1,none⟩=some (.int .i64 (a.p:Nat))∧j.cell? ⟨d.heap.size,2,none⟩=some (.int .i64 (a.m:Nat))∧j.cell? ⟨d.heap.size,3,none⟩=some (.int .i64 (a.gen:Nat))∧j.cell? ⟨d.heap.size,4,none⟩=some (.slice (some ⟨m,0,none⟩) (a.m+1) n)∧j.cell? ⟨z,A+g,none⟩=some (.int .i64 o))
     (first|go_keep|exact U.out _ (by first|exact p|exact p.drew))
     (first|(go_at_call 21;refine(S.out _).mono ?_;rintro l j ⟨rfl,V⟩;replace p:=al (by first|exact p|exact p.drew) V;clear V))
    have W:Hid (gN d.heap.size a a.gen (.slice (some ⟨m,0,none⟩) (a.m+1) n) j∧Below b.heap.size b j∧d.heap.size<j.heap.size):=⟨q.out.1.below p J,al q.out.2 p,by have:=p.size;omega⟩;clear K M N O P S B p U;cases t with
    |true=>
     have ad:Hid (a.kB i (g+1)=true):=by show a.kB i (g+1)=true;rw[FD.kB,G.out, <-R.out, <-T.out];rfl
     go_wp2;go_roundw
     case rel=>exact⟨g+1,E,x9,ad.out,W.out⟩
     case measure=>simp[intOf];omega
    |false=>
     have s:Hid (a.jG c i=2):=by
      show a.jG c i=2;rw[FD.jG,af x,af];intro l;have h:=iM.1 l g Q;rw[<-R.out, <-T.out]at h;cases h
     go_wp2;go_ret;exact⟨aY (by rw[s.out]),W.out.2.1⟩
   ·have s:Hid (a.jG c i=0):=by
     show a.jG c i=0;have l:g=c:=E;rw[FD.jG,af x,ai (l▸G.out)]
    go_wp2;go_ret;exact⟨aY (by rw[s.out]),q.out.2⟩
end
section
open Go Go.Sort Go.RowKit
theorem yG{C:World->Prop}(a:Nat)(p:k.follows .mixedOrders=true)(h:Region.lexTailB .any g.toArray a=true)(q:C { b with drawn:=b.drawn+1 })(r:wpQuiet k g.toArray C (λf=>∀d,C d->wpList k g.toArray l (g.drop a) f d) (g.take a) n):(Code.region c g.toArray true).wp k l n b:=by
 simp only[Region.lexTailB,aI,bu]at h;obtain⟨⟨⟨⟨s,i⟩,t⟩,u⟩,v⟩:=h;have h:a<g.length:=by simpa using i
 have e:(g.take a).length=a:=x7;have m:(g.drop a).length=g.toArray.size-a:=oi
 have w:HeadInv .any g.toArray a (Array.replicate g.toArray.size false):=
  ⟨oi,λj y _ o=>(by rw[Yu]at o;cases o),λz _ x=>getD_in (by simpa using x) (Yu _ _)⟩
 have H:=CL (g:=g.toArray.size-a) s t u i (g.take a) 0 _ n (λj h=>by
  have i:j<a:=by rw[e]at h;exact h
  simp[i]) (by simpa using e) w (by rw[e];exact v) r
 refine YT p ?_
 have h:=CK (Q:=l) (g:=g.toArray.size-a) (λo f d p i=>by
  have:=wpAny_of_seq (md:=.any) (Q':=l) (g.drop a) a o f d (λj=>by simp[List.getElem?_drop]) (by rw[m];exact i.1) (i.2 d p)
  rwa [m]at this) _ _ _ _ q H
 rw[e,show a+(g.toArray.size-a)=g.toArray.size by omega]at h;exact h
theorem oe(e:Nat)(f:k.follows .mixedOrders=true)(h:Region.lexTailB .any g.toArray e=true)(i:wpQuiet k g.toArray (λd=>∃a:Regrown,d=grow (redrawn b a.d) a.os) (λj=>∀d,(∃a:Regrown,d=grow (redrawn b a.d) a.os)->wpList k g.toArray l (g.drop e) j d) (g.take e) n):(Code.region c g.toArray true).wp k l n b:=
 yG (C:=λd=>∃a:Regrown,d=grow (redrawn b a.d) a.os) e f h ⟨⟨b.drawn+1,#[]⟩,by rw[grow_empty];rfl⟩ i
theorem lR{a:Addr}(e:a.block<b.heap.size)(f:b.frozen? a=false)(d:Nat)(c:Array Obj):(grow (redrawn b d) c).frozen? a=false:=by
 rw[World.frozen?_of_block (w:=b) ((XQ b d c).block _ e)];exact f
end
section
open Go.RowKit Go.Sort
end
section
open Go.RowKit
theorem DU(G:a∈ak)(gen:Nat){cap e k:Nat}(S:k<a.q)(hn:e<=1000)(I:∀j,d j<a.q)(T:fp f b.heap.size)(J:Sl f e d b)(K:eH a i a.md b):Calls prog 90 #[rf a.q a.p a.m gen i,.slice f e cap,.int .i64 k] b λq g=>q=.returned (.int .i64 (a.val d e k e:Nat))∧Below b.heap.size b g:=by
 have p:Hid (eH a i a.md b∧a∈ak∧Sl f e d b∧∀j,d j<a.q):=⟨K,G,J,I⟩;clear K G J I;have U:Hid (gN b.heap.size a gen i (b.alloc (.cells #[.int .i64 a.q,.int .i64 a.p,.int .i64 a.m,.int .i64 gen,i] 32))):=eL a gen i b;unfold rf;go_enter func90,ntmps90;go_wp2;go_loopw [7,8] (λc D wr=>∃o:Nat,o<=e∧D=.int .i64 ((o:Int)-1)∧c=.int .i64 (a.val d e k (e-o):Nat)∧gN b.heap.size a gen i wr∧Below b.heap.size b wr∧b.heap.size<wr.heap.size) (λ_ D _=>(intOf D+1).toNat)
 case atStart=>exact⟨e,E,X,by rw[fN];rfl,U.out,(XK _ _).alloc (aa _) _,oi⟩
 case round=>
  obtain⟨o,hr,s,rfl,V,M,W⟩:=hrel;obtain⟨t,u,v,w,x⟩:=V;have z:Hid (gN b.heap.size a gen i wr∧Below b.heap.size b wr):=⟨⟨t,u,v,w,x⟩,M⟩;clear M;cases o with
  |succ c=>
   have F:u8=.int .i64 (c:Int):=by rw[s];go_num
   clear s;subst F;have⟨y,o⟩:=eaa (a.val d e k (e-(c+1)));have D:y<a.q:=by rw[o];exact BA p.out.2.1 d e k p.out.2.2.2 _
   have Y:Hid (a.val d e k (e-c)=dz a.p a.q (a.mul y k) (d c)):=by
    show _=_;rw[o,show e-c=(e-(c+1))+1 from E,FD.val,show e-1-(e-(c+1))=c from E]
   rw[<-o];clear o
   have N:Hid (Calls prog 34 #[.agg #[.int .i64 a.q,.int .i64 a.p,.int .i64 a.m,.int .i64 gen,i],.int .i64 y,.int .i64 k] wr λq g=>q=.returned (.int .i64 (a.mul y k:Nat))∧Below wr.heap.size wr g):=
    nR p.out.2.1 gen p.out.1 y k D S wr z.out.2
   go_wp2_with fail
   refine N.out.mono ?_;rintro q m ⟨rfl,A⟩;have n:Hid (gN b.heap.size a gen i m∧Below b.heap.size b m):=⟨z.out.1.below A W,z.out.2.trans (A.mono E)⟩;have r:b.heap.size<m.heap.size:=by have:=A.size;omega
   clear A t u v w x N;obtain⟨t,u,v,w,x⟩:=n.out.1;obtain⟨B,C,rfl,O⟩:=p.out.2.2.1 c E;have P:Hid (∀o:World,Below b.heap.size b o->o.cell? ⟨B,C+c,none⟩=some (.int .i64 (d c:Nat))):=λo A=>((iN A).1 B (C+c) (T _ X)).trans O
   have Z:m.cell? ⟨B,C+c,none⟩=some (.int .i64 (d c:Nat)):=P.out _ n.out.2;clear O;have A:(0:Int)<=(c:Int):=E;have A:(c:Int)<(e:Int):=E
   have Q:Hid (∀o:World,Calls prog 41 #[.agg #[.int .i64 a.q,.int .i64 a.p,.int .i64 a.m,.int .i64 gen,i],.int .i64 (a.mul y k:Nat),.int .i64 (d c:Nat)] o λq g=>q=.returned (.int .i64 (dz a.p a.q (a.mul y k) (d c):Nat))∧Below o.heap.size o g):=
    λo=>Dw p.out.2.1 gen i _ _ ((dE p.out.2.1).bX _ _) (p.out.2.2.2 c) o
   have l:Below m.heap.size m m:=XK _ _;go_wp2_with fail
   go_region_held3 (λg=>g.cell? ⟨b.heap.size,0,none⟩=some (.int .i64 (a.q:Nat))∧g.cell? ⟨b.heap.size,1,none⟩=some (.int .i64 (a.p:Nat))∧g.cell? ⟨b.heap.size,2,none⟩=some (.int .i64 (a.m:Nat))∧g.cell? ⟨b.heap.size,3,none⟩=some (.int .i64 (gen:Nat))∧g.cell? ⟨b.heap.size,4,none⟩=some i∧g.cell? ⟨B,C+c,none⟩=some (.int .i64 (d c:Nat)))
    (first|go_keep|exact⟨(n.out.1.below (B:=m.heap.size) l r).c0,(n.out.1.below (B:=m.heap.size) l r).c1,(n.out.1.below (B:=m.heap.size) l r).c2,(n.out.1.below (B:=m.heap.size) l r).c3,(n.out.1.below (B:=m.heap.size) l r).c4,P.out _ (al n.out.2 l)⟩)
    (first|(go_at_call 41;refine(Q.out _).mono ?_;rintro q g ⟨rfl,R⟩;replace l:=al (by first|exact l|exact l.drew) R;clear R))
   have ab:Hid (gN b.heap.size a gen i g∧Below b.heap.size b g∧b.heap.size<g.heap.size):=⟨n.out.1.below l r,al n.out.2 l,by have:=l.size;omega⟩;clear t u v w x Q Z l;go_wp2;go_roundw
   case rel=>exact⟨c,E,x9,by rw[Y.out],ab.out⟩
   case measure=>simp[intOf]
  |zero=>
   have F:u8=.int .i64 (-1):=by rw[s];rfl
   clear s;subst F;go_wp2;go_ret;exact⟨X,z.out.2⟩
theorem DN(n:a∈ak)(gen g i:Nat){cap c j:Nat}(s:j<a.q)(t:c<=1000)(o:El a d)(m:fp f b.heap.size)(p:Sl f c d b)(q:eH a (.slice (some ⟨g,0,none⟩) (a.m+1) i) a.md b):Calls prog 63 #[rf a.q a.p a.m gen (.slice (some ⟨g,0,none⟩) (a.m+1) i),.slice f c cap,.int .i64 j] b λk e=>k=.returned (.int .i64 (a.val d c j c:Nat))∧Below b.heap.size b e:=by
 have l:Below b.heap.size b (b.alloc (.cells #[.int .i64 a.q,.int .i64 a.p,.int .i64 a.m,.int .i64 gen,.slice (some ⟨g,0,none⟩) (a.m+1) i] 32)):=(XK _ _).alloc (aa _) _
 have u:Hid (Calls prog 90 #[rf a.q a.p a.m gen (.slice (some ⟨g,0,none⟩) (a.m+1) i),.slice f c cap,.int .i64 j] (b.alloc (.cells #[.int .i64 a.q,.int .i64 a.p,.int .i64 a.m,.int .i64 gen,.slice (some ⟨g,0,none⟩) (a.m+1) i] 32)) λk e=>k=.returned (.int .i64 (a.val d c j c:Nat))∧Below b.heap.size b e):=
  (DU n gen (cap:=cap) s t o (m.mono l.size) (p.below l m) (q.below l)).mono λk e ⟨c,h2⟩=>⟨c,al l h2⟩
 clear l p q o m n;unfold rf at *;go_enter func63,ntmps63;go_wp2_with fail;refine u.out.mono ?_;rintro k e ⟨rfl,r⟩;have v:Hid (Below b.heap.size b e):=r;clear r;go_wp2;go_ret;exact⟨X,v.out⟩
