/- Texts of ours, one behind the other: ZI0 ZI1 ZI2 ZI3 ZI4. -/
import Derived.Test.YtedifobeggabnaaGreatCbZH0
import Derived.Test.YtedifobeggabnaaGreatCbKD16
namespace Go.Proofs.YtedifobeggabnaaGreat
set_option maxHeartbeats 8000000
set_option maxRecDepth 100000
open Tryz
variable {a i e x p D m:Nat}{f l t u:Nat->Nat}{c d:World}{b:FD}{C:Nat->Value}{o s A:Option Addr}{v:Nat->Option Addr}{q:Nat->Nat->Nat}{k:Nat->Int}
section
open Go.RowKit Go.Sort
theorem eh.cell(e:eh a i f c)(b:Nat)(d:b<i):c.cell? ⟨a,b,none⟩=some (.int .i64 (f b:Nat)):=by
 obtain⟨j,g,h⟩:=e;rw[g.cell b d,h b d]
theorem eh.free(d:eh a i f c)(b:Nat):c.frozen? ⟨a,b,none⟩=false:=by
 obtain⟨g,e,h⟩:=d;exact e.free b
theorem eh.lt(b:eh a i f c):a<c.heap.size:=by
 obtain⟨e,d,g⟩:=b;exact d.lt
theorem eh.drewN(d:eh a i f c)(b:Nat):eh a i f (c.drewN b):=by
 obtain⟨e,g,h⟩:=d;exact⟨e,g.drewN b,h⟩
theorem eh.store{e d:Nat->Nat}(h:eh a i e c)(b f:Nat)(k:∀j,j<i->d j=if j=b then f else e j):eh a i d (c.setCell ⟨a,b,none⟩ (.int .i64 (f:Nat))):=by
 obtain⟨f,e,l⟩:=h;refine⟨_,e.store b _,λj g=>?_⟩;unfold upd;rw[k j g];split
 ·rfl
 ·exact l j g
theorem eh.congr{e d:Nat->Nat}(f:eh a i e c)(g:∀b,b<i->e b=d b):eh a i d c:=by
 obtain⟨h,j,k⟩:=f;exact⟨h,j,λb e=>by rw[k b e,g b e]⟩
theorem eh.other(b:eh a i f c)(e:d.heap[a]?=c.heap[a]?):eh a i f d:=by
 obtain⟨g,h,j⟩:=b;exact⟨g,h.other e,j⟩
theorem Bi{z T:Nat}(J:b∈ak)(K:gO z T b C c)(R:a<=128)(hn:i<=64)(S:El b f)(u:∀q,q<i->l q<b.q)(U:Sl o a f c)(V:Sl s i l c)(W:fp o c.heap.size)(Y:fp s c.heap.size):Calls prog 48 #[.pointer (some ⟨z,0,none⟩),.slice o a e,.slice s i x] c λk v=>k=.returned (.slice (some ⟨c.heap.size,0,none⟩) i i)∧eh c.heap.size i (λq=>b.ev f (l q) a) v∧Below c.heap.size c v:=by
 have m:Hid (gO z T b C c∧b∈ak∧Sl o a f c∧Sl s i l c∧El b f∧(∀q,q<i->l q<b.q)∧fp o c.heap.size∧fp s c.heap.size):=⟨K,J,U,V,S,u,W,Y⟩;clear K J U V S u W Y;go_enter func48,ntmps48;go_wp2_with (at_make;refine iS X _ _ X _ i X X E E ?_;intro D Z ab);have J:Hid (Below c.heap.size c D∧eh c.heap.size i db D):=⟨cH ab (aa _) (λa R=>by simp at R),rj Z⟩;clear Z ab;have⟨r,K⟩:=eaa (c.heap.size);have F:Hid (Below c.heap.size c D∧eh r i db D∧r=c.heap.size):=by rw[K];exact⟨J.out.1,J.out.2,X⟩
 rw[<-K];have ad:c.heap.size<=r:=E;clear J K;go_loopw [16] (λq wr=>∃g:Nat,g<=i∧q=.int .i64 g∧Hid (eh r i (λj=>if j<g then b.ev f (l j) a else 0) wr∧Below c.heap.size c wr)) (λq _=>i-(intOf q).toNat)
 case atStart=>exact⟨0,E,X,F.out.2.1.congr (λj _=>XF),F.out.1⟩
 case round=>
  obtain⟨g,hr,rfl,A⟩:=hrel;rename World=>wA;by_cases M:g<i
  ·have ao:(g:Int)<(i:Int):=by omega
   obtain⟨q,D,ar,av⟩:=(m.out.2.2.2.1.below A.out.2 m.out.2.2.2.2.2.2.2) g M;subst ar;have⟨n,u⟩:=eaa (l g);rw[<-u]at av;have q:n<b.q:=by rw[u];exact m.out.2.2.2.2.2.1 g M
   have N:Hid (n=l g∧n<b.q):=⟨u,q⟩;clear u q;go_wp2;go_loopw [10] (λO wr=>∃B:Nat,B<=a∧O=.int .i64 ((B:Int)-1)∧Hid (eh r i (λj=>if j<g then b.ev f (l j) a else if j=g then b.val f a n (a-B)else 0) wr∧Below c.heap.size c wr)) (λO _=>(intOf O+1).toNat)
   case atStart=>exact⟨a,aa _,by first|rfl|go_num,A.out.1.congr (λj _=>by
    by_cases k:j<g
    ·rw[ai k,ai k]
    ·rw[af k,af k];split
     ·rw[fN];rfl
     ·rfl),A.out.2⟩
   case round=>
    obtain⟨B,q,G,t⟩:=hrel;rename World=>wr;cases B with
    |succ p=>
     have P:u10=.int .i64 (p:Int):=by rw[G];go_num
     clear G;subst P;have⟨y,I⟩:=eaa (b.val f a n (a-(p+1)));have ax:y<b.q:=by rw[I];exact BA m.out.2.1 f a n m.out.2.2.2.2.1 _
     have q:wr.cell? ⟨r,g,none⟩=some (.int .i64 (y:Nat)):=by
      have h:=t.out.1.cell g M;rw[af E,ai X, <-I]at h;exact h
     have q:=t.out.1.free g;obtain⟨q,u,a0,a1⟩:=(m.out.2.2.1.below t.out.2 m.out.2.2.2.2.2.2.1) p E;subst a0;have⟨u,B⟩:=eaa (f p);rw[<-B]at a1;have⟨q,D⟩:=eaa (b.mul y n);have⟨w,J⟩:=eaa (dz b.p b.q q u);have M:=dE m.out.2.1;have K:=m.out.1.below t.out.2 m.out.1.qY m.out.1.sg
     have a2:Hid (∀d,Calls prog 67 #[.pointer (some ⟨z,0,none⟩),.int .i64 (y:Nat),.int .i64 (n:Nat)] (wr.drewN d) λk v=>k=.returned (.int .i64 (q:Nat))∧∃a,v=(wr.drewN d).drewN a):=λd=>by
      rw[D];exact mR m.out.2.1 (K.drewN d) ax N.out.2
     have a3:Hid (∀d,Calls prog 66 #[.pointer (some ⟨z,0,none⟩),.int .i64 (q:Nat),.int .i64 (u:Nat)] (wr.drewN d) λk v=>k=.returned (.int .i64 (w:Nat))∧∃a,v=(wr.drewN d).drewN a):=λd=>by
      rw[J];exact pL m.out.2.1 (K.drewN d) (by rw[D];exact M.bX _ _) (by rw[B];exact m.out.2.2.2.2.1 p)
     have q:b.val f a n (a-p)=w:=by
      rw[J,D,I,B,show a-p=(a-(p+1))+1 from E,FD.val,show a-1-(a-(p+1))=p from E]
     have HV:Hid (∀j,j<i->(if j<g then b.ev f (l j) a else if j=g then b.val f a n (a-p)else 0)=if j=g then w else if j<g then b.ev f (l j) a else if j=g then b.val f a n (a-(p+1))else 0):=λj _=>by
      by_cases k:j=g
      ·rw[ai k,af E,ai k,q]
      ·rw[af k,af k,af k]
     have u:(p:Int)<(a:Int):=E;clear B D J I q M K;go_wp2;refine iU 16 wL wL ?_;simp only[cW,dC,cV,eF];repeat(go_big_quiet_step (first|(go_at_call 67;exact XS (a2.out _))|(go_at_call 66;exact XS (a3.out _))|fail))
     refine XZ ?_;intro _ q;obtain⟨nq,a4⟩:=q;subst a4;go_wp2;go_roundw
     case rel=>exact⟨p,E,x9,(t.out.1.drewN nq).store g w HV.out,(aO t.out.2 nq).setCell ad _⟩
     case measure=>simp[intOf]
    |zero=>
     have P:u10=.int .i64 (-1):=by rw[G];rfl
     clear G;subst P
     have Q:Hid (eh r i (λj=>if j<g+1 then b.ev f (l j) a else 0) wr∧Below c.heap.size c wr):=by
      refine⟨t.out.1.congr (λj _=>?_),t.out.2⟩;by_cases k:j<g
      ·rw[ai k,ai E]
      ·rw[af k];by_cases k:j=g
       ·rw[ai k,ai E,k,Nat.sub_zero,xU (dE m.out.2.1) n a m.out.2.2.2.2.1 N.out.2,N.out.1]
       ·rw[af k,af E]
     go_wp2;go_roundw
     case rel=>exact⟨g+1,E,x9,Q.out⟩
     case measure=>simp[intOf];omega
  ·have ao:¬(g:Int)<(i:Int):=by omega
   have Q:Hid (eh r i (λj=>b.ev f (l j) a) wA):=A.out.1.congr (λj g=>by rw[ai E]);go_wp2;go_ret;exact⟨by rw[<-F.out.2.2];rfl,by rw[<-F.out.2.2];exact Q.out,A.out.2⟩
theorem um(t:b∈ak)(P:1<=a)(A:a<=64)(Q:a<=i)(u:∀d,d<a->f d<b.q)(v:∀d j,d<a->j<a->d≠j->f d≠f j)(w:Sl o a f c)(y:fp o c.heap.size)(R:1<=e)(S:e<=a)(B:El b l)(C:Sl s e l c)(D:fp s c.heap.size):Calls prog 23 #[.int .i64 b.q,.slice o a i,.slice s e x] c λk n=>∃q,k=.returned (.tuple #[.slice (some ⟨q,0,none⟩) a a,.int .i64 0])∧c.heap.size<=q∧eh q a (λd=>b.ev l (f d) e) n∧Below c.heap.size c n:=by
 have g:Hid (b∈ak∧(∀d,d<a->f d<b.q)∧(∀d j,d<a->j<a->d≠j->f d≠f j)∧Sl o a f c∧fp o c.heap.size∧El b l∧Sl s e l c∧fp s c.heap.size):=⟨t,u,v,w,y,B,C,D⟩;have U:Hid (Calls prog 22 #[.int .i64 b.q,.slice o a i,.int .i64 (e:Nat)] c λk n=>k=.returned (.int .i64 0)∧Below c.heap.size c n):=tO t P A Q u v w y R S;clear t u v w y B C D;go_enter func23,ntmps23;go_wp2_with fail;refine U.out.mono ?_;rintro k p ⟨rfl,r⟩;have V:Hid (Below c.heap.size c p):=r
 have W:Hid (Calls prog 47 #[.int .i64 b.q,.slice s e x] p λk n=>k=.returned (.int .i64 0)∧Below p.heap.size p n):=by
  have h:=pN (cap:=x) g.out.1 (w:=p) (z:=λj=>((l j:Nat):Int)) (show lu s e (λj=>((l j:Nat):Int)) p from g.out.2.2.2.2.2.2.1.below r g.out.2.2.2.2.2.2.2) (g.out.2.2.2.2.2.2.2.mono r.size) E;rw[kQ g.out.2.2.2.2.2.1 E]at h;exact h
 clear r;go_wp2_with fail;refine W.out.mono ?_;rintro k F ⟨rfl,G⟩;have Y:Hid (Below c.heap.size c F):=al V.out G;clear G;go_wp2_with fail;refine(kh g.out.1 F).mono ?_;rintro k z ⟨Z,T,q,rfl,I,hF,hT,J⟩;have m:Hid (gO Z T b q z∧Below c.heap.size c z):=⟨I,al Y.out J⟩;clear I hF hT J;go_wp2_with fail;refine(Bi g.out.1 m.out.1 E A g.out.2.2.2.2.2.1 g.out.2.1 (g.out.2.2.2.2.2.2.1.below m.out.2 g.out.2.2.2.2.2.2.2) (g.out.2.2.2.1.below m.out.2 g.out.2.2.2.2.1) (g.out.2.2.2.2.2.2.2.mono m.out.2.size) (g.out.2.2.2.2.1.mono m.out.2.size)).mono ?_;rintro k K ⟨rfl,M,N⟩;have O:Hid (eh z.heap.size a (λd=>b.ev l (f d) e) K∧Below c.heap.size c K):=⟨M,al m.out.2 N⟩;clear M N;go_wp2
 go_ret2
 exact⟨_,X,m.out.2.size,O.out.1,O.out.2⟩
def jF(d b:Nat)(e:Nat->Int)(f:World):Prop:=∃c,bD d b 3 c f∧∀a,a<b->c a=.int .i64 (e a)
structure EA(g:Nat)(w w':World):Prop where
 os:w'.os=w.os
 tape:w'.tape=w.tape
 output:w'.output=w.output
 size:w.heap.size<=w'.heap.size
 block:∀k,k<w.heap.size->k≠g->w'.heap[k]?=w.heap[k]?
def dst(b:FD)(y:Nat->Int)(a:Nat)(c:Int)(j:Nat):Int:=if j=a then(if c= -1∨y a= -1 then -1 else((dz b.p b.q (y a).toNat c.toNat:Nat):Int))else y j
section
variable {g N:Nat}{z:Nat->Int}{w j:World}
theorem eh.Xb(a:eh g N f w):jF g N (λb=>((f b:Nat):Int)) w:=a
theorem jF.cell(c:jF g N z w)(a:Nat)(b:a<N):w.cell? ⟨g,a,none⟩=some (.int .i64 (z a)):=by
 obtain⟨f,d,e⟩:=c;rw[d.cell a b,e a b]
theorem jF.free(b:jF g N z w)(a:Nat):w.frozen? ⟨g,a,none⟩=false:=by
 obtain⟨d,c,e⟩:=b;exact c.free a
theorem jF.lt(a:jF g N z w):g<w.heap.size:=by
 obtain⟨c,b,d⟩:=a;exact b.lt
theorem jF.other(a:jF g N z w)(b:j.heap[g]?=w.heap[g]?):jF g N z j:=by
 obtain⟨c,d,e⟩:=a;exact⟨c,d.other b,e⟩
theorem jF.congr{y:Nat->Int}(b:jF g N z w)(c:∀a,a<N->z a=y a):jF g N y w:=by
 obtain⟨d,e,f⟩:=b;exact⟨d,e,λa b=>by rw[f a b,c a b]⟩
theorem jF.store{y:Nat->Int}(d:jF g N z w)(a:Nat)(b:Int)(e:∀j,j<N->y j=if j=a then b else z j):jF g N y (w.setCell ⟨g,a,none⟩ (.int .i64 b)):=by
 obtain⟨h,b,f⟩:=d;refine⟨_,b.store a _,λj c=>?_⟩;unfold upd;rw[e j c];split
 ·rfl
 ·exact f j c
theorem jF.plain(c:jF g N z w):∃a,w.heap[g]?=some (.cells a 3)∧∀b,b∈a->uY b:=by
 obtain⟨k,⟨a,d,l,e⟩,f⟩:=c;refine⟨a,d,λb h=>?_⟩;obtain⟨j,i,rfl⟩:=gY.1 h;have a:=e j E;rw[f j E,au i]at a;rw[cC a];exact ok_int _ _
theorem jF.arg(b:jF g N z w)(c:N<=1000000)(d:N<=a)(e:a<=9223372036854775807):Arg (some ⟨g,0,none⟩) N a z w:=
 ⟨λj f=>⟨g,0,X,by rw[aW];exact b.cell j f⟩,λk h=>by cases h;exact b.lt,c,λi=>(by cases i),d,e⟩
theorem EA.trans{c:World}(a:EA g w j)(b:EA g j c):EA g w c:=⟨b.os.trans a.os,b.tape.trans a.tape,b.output.trans a.output,aK a.size b.size,λd e f=>(b.block d (aj e a.size) f).trans (a.block d e f)⟩
theorem EA.Nm(a:Below w.heap.size w j):EA g w j:=⟨a.os,a.tape,a.output,a.size,λb c _=>a.block b c⟩
theorem EA.set(w:World)(a:Nat)(b:Value):EA g w (w.setCell ⟨g,a,none⟩ b):=⟨X,X,X,by rw[size_setCell];exact aa _,λd _ c=>by rw[heap_setCell,af c]⟩
end
theorem Lz(R:b∈ak){v T:Nat}(w:gO v T b C c){e i cap:Nat}{y:Nat->Int}(F:jF e i y c)(M:∀j,j<i->y j= -1∨(0<=y j∧y j<(b.q:Int)))(t:Int){p:Nat}(N:p<i){f:Int}(O:f= -1∨(0<=f∧f<(b.q:Int))):Calls prog 54 #[.pointer (some ⟨v,0,none⟩),.slice (some ⟨e,0,none⟩) i cap,.agg #[.int .i64 t,.int .i64 (p:Nat),.int .i64 f]] c λn x=>n=.returned (.tuple #[])∧jF e i (dst b y p f) x∧EA e c x:=by
 have⟨a,l⟩:=eaa (c.alloc (.cells #[.int .i64 t,.int .i64 (p:Nat),.int .i64 f] 47));have z:Below c.heap.size c a:=by rw[l];exact(XK _ _).alloc (aa _) _
 have Z:a.heap.size=c.heap.size+1:=by rw[l];simp
 have A:bD c.heap.size 3 47 (sa #[.int .i64 t,.int .i64 (p:Nat),.int .i64 f]) a:=by rw[l];exact iV _ _ _ _ X
 have S:a.cell? ⟨c.heap.size,0,none⟩=some (.int .i64 t):=A.cell 0 E;have U:a.cell? ⟨c.heap.size,1,none⟩=some (.int .i64 (p:Nat)):=A.cell 1 E;have V:a.cell? ⟨c.heap.size,2,none⟩=some (.int .i64 f):=A.cell 2 E;have B:jF e i y a:=F.other (z.block e F.lt);have G:a.cell? ⟨e,p,none⟩=some (.int .i64 (y p)):=B.cell p N;have W:=B.free p;have t:(p:Int)<(i:Int):=E;have Y:c.heap.size<a.heap.size:=E
 have D:Hid (∀(t:Int) (nq:Nat),t=dst b y p f p->jF e i (dst b y p f) (((a.drewN nq).setCell ⟨e,p,none⟩ (.int .i64 t)))∧EA e c ((a.drewN nq).setCell ⟨e,p,none⟩ (.int .i64 t))):=λt nq Z=>by
  refine⟨jF.store (jF.other B X) p t (λj _=>?_),((EA.Nm z).trans (show EA e a (a.drewN nq)from⟨X,X,X,aa _,λ_ _ _=>rfl⟩)).trans (EA.set (a.drewN nq) p _)⟩;rw[Z];unfold dst;by_cases n:j=p
  ·subst n;simp
  ·rw[af n,af n]
 have P:Hid (gO v T b C a):=w.below z w.qY w.sg;clear F B w z A;rw[l]at S U V G W Y;by_cases s:f= -1
 ·have m:dst b y p f p= -1:=by unfold dst;rw[ai X,ai (I s)]
  have g:=D.out (-1) 0 m.symm;rw[l]at g;have g:Hid _:=g;go_enter func54,ntmps54;subst s;clear m;go_wp2;refine X2 (v:=.tuple #[]) (by simp only[f54,results];go_simp) X ?_;exact⟨X,g.out⟩
 ·by_cases o:y p= -1
  ·have m:dst b y p f p= -1:=by unfold dst;rw[ai X,ai (J o)]
   have g:=D.out (-1) 0 m.symm;rw[l]at g;have g:Hid _:=g;rw[o]at G;have ab:(f== -1)=false:=by simpa using s
   go_enter func54,ntmps54;clear m o;go_wp2;refine X2 (v:=.tuple #[]) (by simp only[f54,results];go_simp) X ?_;exact⟨X,g.out⟩
  ·obtain⟨q,u⟩:∃q:Nat,y p=(q:Int)∧q<b.q:=by
    rcases M p N with r|r
    ·exact absurd r o
    ·exact⟨(y p).toNat,E,E⟩
   obtain⟨k,rfl,ad⟩:∃k:Nat,f=(k:Int)∧k<b.q:=by
    rcases O with r|r
    ·exact absurd r s
    ·exact⟨f.toNat,E,E⟩
   have⟨f,K⟩:=eaa (dz b.p b.q q k)
   have m:((f:Nat):Int)=dst b y p (k:Nat) p:=by
    unfold dst;rw[ai X,af (λr=>r.elim s o),K,u.1];rfl
   have g:Hid (∀nq,jF e i (dst b y p (k:Nat)) (((a.drewN nq).setCell ⟨e,p,none⟩ (.int .i64 (f:Nat))))∧EA e c ((a.drewN nq).setCell ⟨e,p,none⟩ (.int .i64 (f:Nat)))):=λnq=>D.out _ nq m
   have Q:Hid (∀d,Calls prog 66 #[.pointer (some ⟨v,0,none⟩),.int .i64 (q:Nat),.int .i64 (k:Nat)] (a.drewN d) λn x=>n=.returned (.int .i64 (f:Nat))∧∃e,x=(a.drewN d).drewN e):=λd=>by
    rw[K];exact pL R (P.out.drewN d) u.2 ad
   rw[u.1]at G;have ab:((k:Int)== -1)=false:=oi;have a:((q:Int)== -1)=false:=oi;have a:¬(k:Int)= -1:=s;have a:¬(q:Int)= -1:=by have h:=o;rw[u.1]at h;exact h
   go_enter func54,ntmps54;clear m o K u M O D P;rw[l]at g Q;clear l;go_wp2;refine iU 13 wL wL ?_;simp only[cW,dC,cV,eF];repeat(go_big_quiet_step (first|(go_at_call 66;exact XS (Q.out _))|fail))
   refine XZ ?_;intro _ a;obtain⟨nq,ao⟩:=a;subst ao;go_wp2;refine bodyPost_end (results_none X _ _ _) X ?_;exact⟨X,g.out nq⟩
structure vJ(B g0 N n r:Nat)(bw:Nat->Nat)(y:Nat->Nat->Int)(w:World):Prop where
 out:bD g0 N 22 (λi=>if i<r then .slice (some ⟨bw i,0,none⟩) n n else .slice none 0 0) w
 row:∀i,i<r->jF (bw i) n (y i) w
 ge:B<=g0
 gb:∀i,i<r->B<=bw i∧bw i≠g0
 inj:∀i j,i<r->j<r->bw i=bw j->i=j
def kt(a:FD)(b:Nat->Nat->Int)(c d:Nat->Nat)(e:Nat->Int):Nat->Nat->Nat->Int
 |0=>b
 |r+1=>λf=>if f=c r then dst a (kt a b c d e r f) (d r) (e r)else kt a b c d e r f
def KP(g:Option Addr)(h e:Nat)(c:Nat->Option Addr)(i:Nat->Nat)(j:Nat->Nat->Nat)(b:World):Prop:=∀a,a<h->(∃d f,g=some ⟨d,f,none⟩∧d<b.heap.size∧b.cell? ⟨d,f+a,none⟩=some (.slice (c a) e (i a)))∧Sl (c a) e (j a) b∧fp (c a) b.heap.size
def Eg(e:Option Addr)(L:Nat)(f g:Nat->Nat)(h:Nat->Int)(c:World):Prop:=∀a,a<L->∃b d,e=some ⟨b,d,none⟩∧b<c.heap.size∧c.cell? ⟨b,d+a*3,none⟩=some (.int .i64 (f a:Nat))∧c.cell? ⟨b,d+a*3+1,none⟩=some (.int .i64 (g a:Nat))∧c.cell? ⟨b,d+a*3+2,none⟩=some (.int .i64 (h a))
section
variable {B F N n r:Nat}{z:Nat->Nat}{y:Nat->Nat->Int}{w g:World}
theorem fF{b:Value}(c:Below B w g)(d:a<B)(e:w.cell? ⟨a,i,none⟩=some b):g.cell? ⟨a,i,none⟩=some b:=by
 have b:g.cell? ⟨a,i,none⟩=w.cell? ⟨a,i,none⟩:=by simp[World.cell?,c.block a d]
 rw[b];exact e
theorem KP.below(e:KP o N a v f q w)(b:Below w.heap.size w g):KP o N a v f q g:=λh i=>by
 obtain⟨⟨j,k,l,c,m⟩,n,d⟩:=e h i;exact⟨⟨j,k,l,aj c b.size,fF b c m⟩,n.below b d,d.mono b.size⟩
theorem Eg.below(d:Eg o a f l k w)(b:Below w.heap.size w g):Eg o a f l k g:=λe h=>by
 obtain⟨i,j,m,c,n,p,q⟩:=d e h;exact⟨i,j,m,aj c b.size,fF b c n,fF b c p,fF b c q⟩
theorem xn(g:b∈ak){e:Nat->Nat->Int}{na d:Nat->Nat}(h:∀c j,c<N->j<n->e c j= -1∨(0<=e c j∧e c j<(b.q:Int)))(i:∀r,r<a->d r<n)(l:∀r,r<a->k r= -1∨(0<=k r∧k r<(b.q:Int))):∀r,r<=a->∀c j,c<N->j<n->kt b e na d k r c j= -1∨(0<=kt b e na d k r c j∧kt b e na d k r c j<(b.q:Int))
 |0,_,c,j,f,m=>h c j f m
 |r+1,o,c,j,f,m=>by
  have o:=xn (na:=na) g h i l r E c j f m;have m:=xn (na:=na) g h i l r E c (d r) f (i r E);have f:=l r E;have i:kt b e na d k (r+1) c j=(if c=na r then dst b (kt b e na d k r c) (d r) (k r)else kt b e na d k r c:Nat->Int) j:=rfl;by_cases l:c=na r
  ·rw[i,ai l];unfold dst;by_cases m:j=d r
   ·rw[ai m];by_cases f:k r= -1∨kt b e na d k r c (d r)= -1
    ·rw[ai f];exact I X
    ·rw[af f];refine J ⟨E,?_⟩;have p:k r≠ -1:=λh=>f (I h)
     have p:kt b e na d k r c (d r)≠ -1:=λh=>f (J h)
     have:=(dE g).xP (kt b e na d k r c (d r)).toNat (k r).toNat E E;omega
   ·rw[af m];exact o
  ·rw[i,af l];exact o
theorem vJ.below(b:vJ B F N n r z y w)(c:Below a w g)(d:w.heap.size<=a):vJ B F N n r z y g:=
 ⟨b.out.below c (aj b.out.lt d),λe f=>(b.row e f).other (c.block _ (aj (b.row e f).lt d)),b.ge,b.gb,b.inj⟩
theorem vJ.snoc(d:vJ B F N n r z y w)(q:r<N)(s:B<=w.heap.size)(m:Below w.heap.size w g)(t:w.heap.size<=a)(o:jF a n k g)(p:∀j,j<n->k j=y r j):vJ B F N n (r+1) (λb=>if b=r then a else z b) y (g.setCell ⟨F,r,none⟩ (.slice (some ⟨a,0,none⟩) n n)):=by
 have i:=d.below m (aa _);have m:=d.out.lt;have l:∀b,b<r->z b<w.heap.size:=λb e=>(d.row b e).lt
 refine⟨(i.out.store r _).congr (λh m=>?_),λb e=>?_,d.ge,λb e=>?_,λb j e q c=>?_⟩
 ·unfold upd;by_cases c:h=r
  ·subst c;simp
  ·rw[af c];show(if h<r then _ else _)=_;by_cases f:h<r
   ·rw[ai f,ai E,af c]
   ·rw[af f,af E]
 ·by_cases c:b=r
  ·subst c;simp only[ek];exact(o.congr p).other (by rw[heap_setCell,af (by show a≠F;omega)])
  ·simp only[af c];have e:b<r:=E;exact(i.row b e).other (by rw[heap_setCell,af (d.gb b e).2])
 ·by_cases c:b=r
  ·simp only[ai c];exact⟨E,E⟩
  ·simp only[af c];exact d.gb b E
 ·by_cases e:b=r<;>by_cases f:j=r
  ·omega
  ·simp only[ai e,af f]at c;have:=l j E;omega
  ·simp only[af e,ai f]at c;have:=l b E;omega
  ·simp only[af e,af f]at c;exact d.inj b j E E c
theorem vJ.put{y':Nat->Nat->Int}(c:vJ B F N n N z y w)(f:a<N)(h:EA (z a) w g)(i:jF (z a) n k g)(j:∀b,b<N->y' b=if b=a then k else y b):vJ B F N n N z y' g:=by
 refine⟨c.out.other (h.block _ c.out.lt (c.gb a f).2.symm),λb d=>?_,c.ge,c.gb,c.inj⟩;rw[j b d];by_cases e:b=a
 ·subst e;rw[ai X];exact i
 ·rw[af e];exact(c.row b d).other (h.block _ (c.row b d).lt λi=>e (c.inj b a d f i))
end
theorem IH(W:b∈ak){w:World}(bl:1<=a)(hn:a<=64)(bm:a<=i)(hx:∀c,c<a->f c<b.q)(a5:∀c j,c<a->j<a->c≠j->f c≠f j)(hX:Sl o a f w)(a0:fp o w.heap.size)(bn:1<=m)(hk:m<=a)(hM:KP s e m v l q w)(hE:∀c,c<e->El b (q c))(R:e<=900)(hZ:Eg A p t u k w)(hL:p<=900)(a6:∀g,g<p->t g<e)(a7:∀g,g<p->u g<a)(a8:∀g,g<p->k g= -1∨(0<=k g∧k g<(b.q:Int))):Calls prog 26 #[.int .i64 b.q,.slice o a i,.slice s e x,.slice A p D] w λz C=>∃y r,z=.returned (.slice (some ⟨y,0,none⟩) e e)∧vJ w.heap.size y e a e r (kt b (λc j=>((b.ev (q c) (f j) m:Nat):Int)) t u k p) C∧Below w.heap.size w C:=by
 have HM:Hid (KP s e m v l q w):=hM;have HZ:Hid (Eg A p t u k w):=hZ;have Y:Hid ((∀c,c<e->El b (q c))∧(∀g,g<p->t g<e)∧(∀g,g<p->u g<a)∧(∀g,g<p->k g= -1∨(0<=k g∧k g<(b.q:Int)))):=⟨hE,a6,a7,a8⟩
 have a9:Hid (∀R c,Below w.heap.size w R->c<e->Calls prog 23 #[.int .i64 b.q,.slice o a i,.slice (v c) m (l c)] R λz C=>∃M,z=.returned (.tuple #[.slice (some ⟨M,0,none⟩) a a,.int .i64 0])∧R.heap.size<=M∧eh M a (λj=>b.ev (q c) (f j) m) C∧Below R.heap.size R C):=λR c S I=>by
  obtain⟨_,R,h3⟩:=(hM.below S) c I;exact um W bl hn bm hx a5 (hX.below S a0) (a0.mono S.size) bn hk (hE c I) R h3
 clear hM hZ hE a6 a7 a8 hX a0 hx a5;go_enter func26,ntmps26;go_wp2_with fail;refine(kh W w).mono ?_;rintro z n ⟨a1,T,M,rfl,ab,_,_,ba⟩;have O:Hid (Below w.heap.size w n∧gO a1 T b M n∧a1<n.heap.size∧T<n.heap.size):=⟨ba,ab,ab.qY,ab.sg⟩;clear ab ba;go_wp2_with (at_make;refine Mq X _ _ X _ e X X X E ?_;intro w2 bb bc)
 have H2:Hid (vJ n.heap.size n.heap.size e a 0 (λ_=>0) (λc j=>((b.ev (q c) (f j) m:Nat):Int)) w2∧Below n.heap.size n w2):=
  ⟨⟨bb.congr (λR _=>XC),λc I=>E,aa _,λc I=>E,λc j I=>E⟩,cH bc (aa _) (λm hk=>by simp at hk)⟩
 clear bb bc;have⟨y,R⟩:=eaa (n.heap.size);have H3:Hid (vJ n.heap.size y e a 0 (λ_=>0) (λc j=>((b.ev (q c) (f j) m:Nat):Int)) w2∧Below n.heap.size n w2):=by rw[R];exact H2.out
 rw[<-R];clear H2 R;go_loopw [26] (λc wr=>∃g:Nat,g<=e∧c=.int .i64 g∧Hid (∃r,vJ n.heap.size y e a g r (λc j=>((b.ev (q c) (f j) m:Nat):Int)) wr∧Below n.heap.size n wr)) (λc _=>e-(intOf c).toNat)
 case atStart=>exact⟨0,E,X,_,H3.out.1,H3.out.2⟩
 case round=>
  obtain⟨g,hr,rfl,K⟩:=hrel;rename World=>wA;by_cases ad:g<e
  ·have ao:(g:Int)<(e:Int):=by omega
   obtain⟨r,N⟩:∃r,Hid (vJ n.heap.size y e a g r (λc j=>((b.ev (q c) (f j) m:Nat):Int)) wA∧Below n.heap.size n wA):=by
    obtain⟨r,h⟩:=K.out;exact⟨r,h⟩
   have a2:Below w.heap.size w wA:=al O.out.1 N.out.2;obtain⟨⟨R,om,bo,ab,bp⟩,_,_⟩:=(HM.out.below a2) g ad;subst bo;have⟨a5,R⟩:=eaa (v g);have⟨a6,a0⟩:=eaa (l g);rw[<-R, <-a0]at bp
   have bs:Hid (Calls prog 23 #[.int .i64 b.q,.slice o a i,.slice a5 m a6] wA λz C=>∃M,z=.returned (.tuple #[.slice (some ⟨M,0,none⟩) a a,.int .i64 0])∧wA.heap.size<=M∧eh M a (λj=>b.ev (q g) (f j) m) C∧Below wA.heap.size wA C):=by
    rw[R,a0];exact a9.out wA g a2 ad
   clear a2 R a0 K;go_wp2_with fail;refine bs.out.mono ?_;rintro z w3 ⟨gw,rfl,bd,bg,ar⟩
   have H5:Hid (vJ n.heap.size y e a (g+1) (λc=>if c=g then gw else r c) (λc j=>((b.ev (q c) (f j) m:Nat):Int)) (w3.setCell ⟨y,g,none⟩ (.slice (some ⟨gw,0,none⟩) a a))∧Below n.heap.size n (w3.setCell ⟨y,g,none⟩ (.slice (some ⟨gw,0,none⟩) a a))):=
    ⟨N.out.1.snoc ad N.out.2.size ar bd bg.Xb (λj _=>rfl),(al N.out.2 ar).setCell N.out.1.ge _⟩
   have M:=(N.out.1.below ar (aa _)).out;have R:=M.cell g ad;rw[af (Nat.lt_irrefl g)]at R;have R:=M.free g;clear M bg ar bd;go_wp2;go_roundw
   case rel=>exact⟨g+1,E,x9,_,H5.out⟩
   case measure=>simp[intOf];omega
  ·have ao:¬(g:Int)<(e:Int):=by omega
   have M:g=e:=E
   obtain⟨r,N⟩:∃r,Hid (vJ n.heap.size y e a e r (λc j=>((b.ev (q c) (f j) m:Nat):Int)) wA∧Below n.heap.size n wA):=by
    obtain⟨r,h⟩:=K.out;rw[M]at h;exact⟨r,h⟩
   clear M K;obtain⟨F,M⟩:∃F:Nat->Nat->Int,F=λc j=>((b.ev (q c) (f j) m:Nat):Int):=⟨_,X⟩
   have HY:Hid (∀c j,c<e->j<a->F c j= -1∨(0<=F c j∧F c j<(b.q:Int))):=λc j _ _=>by
    rw[M];have:=iQ (dE W) (q c) (f j) m;show((b.ev (q c) (f j) m:Nat):Int)= -1∨(0<=((b.ev (q c) (f j) m:Nat):Int)∧((b.ev (q c) (f j) m:Nat):Int)<(b.q:Int));exact J ⟨E,E⟩
   have bw:Hid (F=λc j=>((b.ev (q c) (f j) m:Nat):Int)):=M;rw[<-M]at N ⊢;clear M a9 HM;go_wp2;go_loopw [44] (λc wr=>∃g:Nat,g<=p∧c=.int .i64 g∧Hid (vJ n.heap.size y e a e r (kt b F t u k g) wr∧Below n.heap.size n wr)) (λc _=>p-(intOf c).toNat)
   case atStart=>exact⟨0,E,X,N.out⟩
   case round=>
    obtain⟨g,hr,rfl,K⟩:=hrel;rename World=>wB;clear ao;by_cases av:g<p
    ·have ao:(g:Int)<(p:Int):=by omega
     have bk:Below w.heap.size w wB:=al O.out.1 K.out.2;obtain⟨M,N,bx,R,m0,m1,m2⟩:=(HZ.out.below bk) g av;subst bx;have⟨B,ha⟩:=eaa (t g);have⟨M,hp⟩:=eaa (u g);have⟨N,hv⟩:=eaa (k g);rw[<-ha]at m0;rw[<-hp]at m1;rw[<-hv]at m2;have U:B<e:=by rw[ha];exact Y.out.2.1 g av
     have⟨G,ax⟩:=eaa (wB.alloc (.cells #[.int .i64 (B:Nat),.int .i64 (M:Nat),.int .i64 N] 47));have a3:Below wB.heap.size wB G:=by rw[ax];exact(XK _ _).alloc (aa _) _
     have Z:bD wB.heap.size 3 47 (sa #[.int .i64 (B:Nat),.int .i64 (M:Nat),.int .i64 N]) G:=by rw[ax];exact iV _ _ _ _ X
     have R:G.cell? ⟨wB.heap.size,0,none⟩=some (.int .i64 (B:Nat)):=Z.cell 0 E;have R:G.cell? ⟨wB.heap.size,1,none⟩=some (.int .i64 (M:Nat)):=Z.cell 1 E;have R:G.cell? ⟨wB.heap.size,2,none⟩=some (.int .i64 N):=Z.cell 2 E;have P:=K.out.1.below a3 (aa _)
     have R:G.cell? ⟨y,B,none⟩=some (.slice (some ⟨r B,0,none⟩) a a):=by
      have h:=P.out.cell B U;rw[ai U]at h;exact h
     have bz:Hid (∀d,Calls prog 54 #[.pointer (some ⟨a1,0,none⟩),.slice (some ⟨r B,0,none⟩) a a,.agg #[.int .i64 (B:Nat),.int .i64 (M:Nat),.int .i64 N]] (G.drewN d) λz C=>z=.returned (.tuple #[])∧Hid (vJ n.heap.size y e a e r (kt b F t u k (g+1)) C∧Below n.heap.size n C)):=λd=>by
      have Q:Below n.heap.size n (G.drewN d):=aO (al K.out.2 a3) d;have N:=xn (na:=t) W HY.out Y.out.2.2.1 Y.out.2.2.2 g E;have a4:vJ n.heap.size y e a e r (kt b F t u k g) (G.drewN d):=⟨P.out.drewN d,λc I=>(P.row c I).other X,P.ge,P.gb,P.inj⟩;refine(Lz W (O.out.2.1.below Q O.out.2.2.1 O.out.2.2.2) (cap:=a) (a4.row B U) (λj R=>N B j U R) (B:Nat) (p:=M) (by rw[hp];exact Y.out.2.2.1 g av) (by rw[hv];exact Y.out.2.2.2 g av)).mono ?_;rintro z C ⟨rfl,bA,V⟩;refine⟨X,a4.put U V bA (λc I=>?_),⟨V.os.trans Q.os,V.tape.trans Q.tape,V.output.trans Q.output,aK Q.size V.size,λC S=>(V.block C (aj S Q.size) (λM=>by have:=(a4.gb B U).1;omega)).trans (Q.block C S)⟩⟩;show(if c=t g then dst b (kt b F t u k g c) (u g) (k g)else kt b F t u k g c)=_;rw[<-ha, <-hp, <-hv];by_cases z:c=B
      ·rw[ai z,ai z,z]
      ·rw[af z,af z]
     have C:wB.heap.size<G.heap.size:=Z.lt;have C:(B:Int)<(e:Int):=E;clear bk ha hp hv a3 Z P K;go_wp2;rw[<-ax];clear ax;refine iU 7 wL wL ?_;simp only[cW,dC,cV,eF];repeat(go_big_quiet_step (fail))
     refine XZ ?_;intro _ B;obtain⟨nq,bB⟩:=B;subst bB;go_wp2_with (go_at_call 54;refine(bz.out _).mono ?_;rintro z w5 ⟨rfl,H6⟩);go_roundw
     case rel=>exact⟨g+1,E,x9,H6.out⟩
     case measure=>simp[intOf];omega
    ·have ao:¬(g:Int)<(p:Int):=by omega
     have pV:g=p:=E;have HF:Hid (vJ n.heap.size y e a e r (kt b F t u k p) wB∧Below n.heap.size n wB):=by rw[<-pV];exact K.out
     clear pV K;go_wp2;go_ret;have g:=HF.out;rw[bw.out]at g;exact⟨y,X,⟨r,g.1.out,g.1.row,aK O.out.1.size g.1.ge,λc I=>⟨aK O.out.1.size (g.1.gb c I).1,(g.1.gb c I).2⟩,g.1.inj⟩,al O.out.1 g.2⟩
theorem Pn(N:b∈ak)(p:Eg o e f l k c)(Y:e<=900)(A:∀d,d<e->f d<a)(B:∀d,d<e->l d<i)(C:∀d,d<e->k d= -1∨(0<=k d∧k d<(b.q:Int))):Calls prog 24 #[.int .i64 b.q,.int .i64 (a:Nat),.int .i64 (i:Nat),.slice o e x] c λr w=>r=.returned (.int .i64 0)∧Below c.heap.size c w:=by
 have O:Hid (Eg o e f l k c):=p;have y:Hid ((∀d,d<e->f d<a)∧(∀d,d<e->l d<i)∧(∀d,d<e->k d= -1∨(0<=k d∧k d<(b.q:Int)))):=⟨A,B,C⟩;clear p A B C;go_enter func24,ntmps24;go_wp2_with fail;refine(kh N c).mono ?_;rintro r m ⟨z,T,P,rfl,j,_,_,K⟩;have s:Hid (Below c.heap.size c m∧gO z T b P m∧z<m.heap.size∧T<m.heap.size):=⟨K,j,j.qY,j.sg⟩;clear j K;go_wp2;go_loopw [20] (λn wr=>∃d:Nat,d<=e∧n=.int .i64 d∧Hid (Below m.heap.size m wr)) (λn _=>e-(intOf n).toNat)
 case atStart=>exact⟨0,E,X,XK _ _⟩
 case round=>
  obtain⟨d,Z,rfl,t⟩:=hrel;rename World=>wB;by_cases v:d<e
  ·have Q:(d:Int)<(e:Int):=by omega
   have M:Below c.heap.size c wB:=al s.out.1 t.out;obtain⟨j,n,R,p,S,U,V⟩:=(O.out.below M) d v;subst R;have⟨n,A⟩:=eaa (f d);have⟨p,B⟩:=eaa (l d);have⟨g,C⟩:=eaa (k d);rw[<-A]at S;rw[<-B]at U;rw[<-C]at V;have j:n<a:=by rw[A];exact y.out.1 d v
   have j:p<i:=by rw[B];exact y.out.2.1 d v
   have q:g= -1∨b.has g=true:=by
    rw[C];rcases y.out.2.2 d v with j|j
    ·exact I j
    ·refine J ?_;have j:k d=(((k d).toNat:Nat):Int):=E;rw[j];exact jT E
   have⟨j,u⟩:=eaa (wB.alloc (.cells #[.int .i64 (n:Nat),.int .i64 (p:Nat),.int .i64 g] 47));have y:Below wB.heap.size wB j:=by rw[u];exact(XK _ _).alloc (aa _) _
   have v:bD wB.heap.size 3 47 (sa #[.int .i64 (n:Nat),.int .i64 (p:Nat),.int .i64 g]) j:=by rw[u];exact iV _ _ _ _ X
   have K:j.cell? ⟨wB.heap.size,0,none⟩=some (.int .i64 (n:Nat)):=v.cell 0 E;have N:j.cell? ⟨wB.heap.size,1,none⟩=some (.int .i64 (p:Nat)):=v.cell 1 E;have O:j.cell? ⟨wB.heap.size,2,none⟩=some (.int .i64 g):=v.cell 2 E;have P:wB.heap.size<j.heap.size:=v.lt;have D:Hid (Below m.heap.size m j):=al t.out y;have F:Hid (Calls prog 45 #[.pointer (some ⟨z,0,none⟩),.int .i64 g] j λr w=>r=.returned (.bool (b.has g))∧w=j):=eG (s.out.2.1.below D.out s.out.2.2.1 s.out.2.2.2) g;have j:¬(n:Int)<0:=E;have j:(n:Int)<(a:Int):=E;have j:¬(p:Int)<0:=E;have j:(p:Int)<(i:Int):=E;clear M A B C y v t;rw[u]at K N O P F;rcases q with rfl|q
   ·go_wp2;go_roundw
    case rel=>exact⟨d+1,E,x9,by rw[<-u];exact D.out⟩
    case measure=>simp[intOf];omega
   ·by_cases j:g= -1
    ·exfalso;rw[j]at q;unfold FD.has at q;simp at q
    ·rw[q]at F;have n:(g== -1)=false:=by simpa using j
     go_wp2_with fail
     refine F.out.mono ?_;rintro r w ⟨rfl,G⟩;have G:=G.symm;subst G;go_wp2;go_roundw
     case rel=>exact⟨d+1,E,x9,by rw[<-u];exact D.out⟩
     case measure=>simp[intOf];omega
  ·have Q:¬(d:Int)<(e:Int):=by omega
   have W:Hid (Below m.heap.size m wB):=t.out;clear t;go_wp2;go_ret;exact⟨X,al s.out.1 W.out⟩
theorem PY(G:b∈ak){w:World}(P:1<=a)(Q:a<=64)(R:a<=i)(I:∀d,d<a->f d<b.q)(J:∀d j,d<a->j<a->d≠j->f d≠f j)(K:Sl o a f w)(F:fp o w.heap.size)(S:1<=m)(T:m<=a)(M:KP s e m v l q w)(U:∀d,d<e->El b (q d))(r:e<=200)(V:Eg A p t u k w)(B:p<=200)(W:∀c,c<p->t c<e)(Y:∀c,c<p->u c<a)(Z:∀c,c<p->k c= -1∨(0<=k c∧k c<(b.q:Int))):Calls prog 8 #[.int .i64 b.q,.slice o a i,.int .i64 (m:Nat),.slice s e x,.slice A p D] w λg n=>g=.returned (.int .i64 0)∧Below w.heap.size w n:=by
 have HM:Hid (KP s e m v l q w):=M;have ao:Hid (Calls prog 22 #[.int .i64 b.q,.slice o a i,.int .i64 (m:Nat)] w λg n=>g=.returned (.int .i64 0)∧Below w.heap.size w n):=tO G P Q R I J K F S T
 have ar:Hid (∀r d,Below w.heap.size w r->d<e->Calls prog 23 #[.int .i64 b.q,.slice o a i,.slice (v d) m (l d)] r λg n=>∃y,g=.returned (.tuple #[.slice (some ⟨y,0,none⟩) a a,.int .i64 0])∧r.heap.size<=y∧eh y a (λj=>b.ev (q d) (f j) m) n∧Below r.heap.size r n):=λr d B hi=>by
  obtain⟨_,h2,h3⟩:=(M.below B) d hi;exact um G P Q R I J (K.below B F) (F.mono B.size) S T (U d hi) h2 h3
 have av:Hid (∀r,Below w.heap.size w r->Calls prog 24 #[.int .i64 b.q,.int .i64 (e:Nat),.int .i64 (a:Nat),.slice A p D] r λg n=>g=.returned (.int .i64 0)∧Below r.heap.size r n):=λr B=>Pn G (V.below B) E W Y Z
 clear M V U W Y Z K F I J;have r:¬(200:Int)<(e:Int):=E;have r:¬(200:Int)<(p:Int):=E;go_enter func8,ntmps8;go_wp2_with fail;refine ao.out.mono ?_;rintro g w1 ⟨rfl,ab⟩;have H1:Hid (Below w.heap.size w w1):=ab;clear ab;go_wp2;go_loopw [33] (λd wr=>∃c:Nat,c<=e∧d=.int .i64 c∧Hid (Below w.heap.size w wr)) (λd _=>e-(intOf d).toNat)
 case atStart=>exact⟨0,E,X,H1.out⟩
 case round=>
  obtain⟨c,hr,rfl,z⟩:=hrel;rename World=>wA;by_cases ad:c<e
  ·have ax:(c:Int)<(e:Int):=by omega
   obtain⟨⟨d,r,a0,B,a1⟩,_,_⟩:=(HM.out.below z.out) c ad;subst a0;have⟨F,d⟩:=eaa (v c);have⟨G,B⟩:=eaa (l c);rw[<-d, <-B]at a1
   have a2:Hid (Calls prog 23 #[.int .i64 b.q,.slice o a i,.slice F m G] wA λg n=>∃y,g=.returned (.tuple #[.slice (some ⟨y,0,none⟩) a a,.int .i64 0])∧wA.heap.size<=y∧eh y a (λj=>b.ev (q c) (f j) m) n∧Below wA.heap.size wA n):=by
    rw[d,B];exact ar.out wA c z.out ad
   clear d B;go_wp2_with fail;refine a2.out.mono ?_;rintro g N ⟨gw,rfl,_,_,C⟩;have O:Hid (Below w.heap.size w N):=al z.out C;clear C;go_wp2;go_roundw
   case rel=>exact⟨c+1,E,x9,O.out⟩
   case measure=>simp[intOf];omega
  ·have ax:¬(c:Int)<(e:Int):=by omega
   have a3:Hid (Calls prog 24 #[.int .i64 b.q,.int .i64 (e:Nat),.int .i64 (a:Nat),.slice A p D] wA λg n=>g=.returned (.int .i64 0)∧Below wA.heap.size wA n):=av.out wA z.out;go_wp2_with fail;refine a3.out.mono ?_;rintro g N ⟨rfl,C⟩;have O:Hid (Below w.heap.size w N):=al z.out C;clear C z;go_wp2;go_ret;exact⟨X,O.out⟩
