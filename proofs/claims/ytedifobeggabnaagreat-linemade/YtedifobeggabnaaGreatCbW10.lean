/- Texts of ours, one behind the other: W10 Y5 S10 S11 Z1 E5 Z2 Z3 Z4 Z5 Z6 Z7 Z8 Z9 Z10 Z11 Z12 Z13. -/
import Derived.Deep.AppendLies
import Derived.Test.YtedifobeggabnaaGreatCbT8
namespace Go.Proofs.YtedifobeggabnaaGreat
set_option maxHeartbeats 8000000
set_option maxRecDepth 100000
open Tryz
open Go.RowKit Go.Sort
variable {b:World}{o:Nat->Value}{vz648:FD}{a c g q:Nat}{m:Nat->Bool}{vz653 f p:Nat->Nat}{i l:Option Addr}{e:Nat->Int}
theorem XF{a:Prop}(b:a:=by rw[af (by omega)];rfl):a:=b
theorem dx{r:Array Oper}{c:Oper}{g:Act}{o:Act->World->Prop}{s:Exit->Act->World->Prop}{t:Prop}(u:c.guard=none)(h n:Operand)(v:c.op=.call { callee:=.builtin .append,args:= #[h,n],argTypes:= #[22,22]})(l:Nat)(i:Value)(a:List Int)(w:g.eval h=i)(x:aV l i a b)(d:Addr)(p:Nat)(y:Int)(z:g.eval n=.slice (some d) 1 p)(A:b.cell? d=some (.int .i64 y))(F:a.length<=1000000)(B:l<=b.heap.size)(C:∀e f k,aV l (.slice (some ⟨e,0,none⟩) (a.length+1) f) (a++[y]) k->b.grownBy k i.ownBlock->(Value.ownBlock (.slice (some ⟨e,0,none⟩) (a.length+1) f)=i.ownBlock∨Value.ownBlock (.slice (some ⟨e,0,none⟩) (a.length+1) f)=some b.heap.size)->o (g.put c.dst (.slice (some ⟨e,0,none⟩) (a.length+1) f)) k):if Region.wanted c (yielded r g.tmps)=true then Oper.wp prog c g b o s else t:=by
 obtain⟨g,o,r,s,t⟩:=X5 lV;refine step_append_lies b u h n 22 v l 3 g (.int .i64 0) 1 8 underlying22 o r s t X x5 i a.length _ w x d 1 p [.int .i64 y] z X ?_ ?_ E ?_ ?_ B _ X ?_
 ·intro j D m
  match j,m with
  |0,m=>
   simp at m;subst m;have:d.add 0=d:=by cases d with|mk G c h=>cases h<;>simp[Addr.add]
   rw[this];exact A
 ·intro D q;simp at q;subst q;rfl
 ·unfold maxLen;omega
 ·omega
 ·intro e f k a c d _;refine C e f k ?_ c ?_
  ·unfold aV;rw[dN,aQ];exact a
  ·rcases d with a|a
   ·exact I a.symm
   ·exact J (by rw[a];rfl)
theorem uI.Qg{l m e n c:Nat}{h:Value}{i:Nat->Nat->Int}{M:Nat->Nat->Nat}(k:uI l m e c h o i b)(f:e=n+1)(p:∀j,j<c->∀a,a<e->i j a=((M j a:Nat):Int)):∃d g,h=.slice d c g∧vG d c n M b:=by
 subst f;obtain⟨d,g,h,_,_,_,i⟩:=k.own.open;rw[cg]at h;refine⟨d,g,h,λj e=>?_⟩;obtain⟨g,h,f,_⟩:=i j (o j) (kM c o j e);obtain⟨i,l,m,c⟩:=(k.row j e).yy;refine⟨g,0,o j,h,by rw[aW];exact f,i,l,m,λa d=>?_,c.lt,c.nil,c.le,c.cap⟩;obtain⟨f,g,h,i⟩:=c.sl a d;exact⟨f,g,h,by rw[i,p j e a d]⟩
theorem R0(b:bV vz648)(d:a<vz648.q)(e:c<vz648.q):vz648.ng (vz648.ad a c)=vz648.ad (vz648.ng a) (vz648.ng c):=by
 have f:vz648.ad (vz648.ad a c) (vz648.ad (vz648.ng a) (vz648.ng c))=0:=by
  rw[UD b d e (ia b d) (ia b e),o5 b d,o5 b e,b5 b (aX b)]
 exact(nA b (oK b d e) (oK b (ia b d) (ia b e)) (ia b (oK b d e)) (f.trans (o5 b (oK b d e)).symm)).symm
theorem TK(b:bV vz648)(f:a<vz648.q)(d:c<vz648.q)(e:g<vz648.q):vz648.sb a (vz648.ad c g)=vz648.sb (vz648.sb a c) g:=by
 unfold FD.sb;rw[R0 b d e,g7 b f (ia b d) (ia b e)]
def ct(a:Nat->Bool):Nat->Nat
 |0=>0
 |n+1=>ct a n+if a n=true then 1 else 0
theorem GH:∀n,(∀a,a<n->m a=false)->ct m n=0
 |0,_=>rfl
 |n+1,b=>by
  show ct m n+(if m n=true then 1 else 0)=0;rw[GH n (λa c=>b a E),b n E];rfl
theorem GI{p p':Nat->Bool}(a:Nat):∀n,(∀b,b<n->b≠a->p b=true->p' b=true)->ct p n<=ct p' n+if a<n then 1 else 0
 |0,_=>by simp[ct]
 |n+1,f=>by
  show ct p n+(if p n=true then 1 else 0)<=ct p' n+(if p' n=true then 1 else 0)+if a<n+1 then 1 else 0
  have d:=GI a n (λb c=>f b E);by_cases g:a=n
  ·rw[af E]at d;rw[ai (show a<n+1 by omega)];split<;>split<;>omega
  ·have b:=f n E (λh=>g h.symm);by_cases e:p n=true
   ·rw[ai e,ai (b e)];by_cases c:a<n
    ·rw[ai c]at d;rw[ai (show a<n+1 by omega)];omega
    ·rw[af c]at d;split<;>omega
   ·rw[af e];by_cases c:a<n
    ·rw[ai c]at d;rw[ai (show a<n+1 by omega)];omega
    ·rw[af c]at d;omega
theorem s8(a:Nat->Bool):∀n,ct a n+ct (λb => !a b) n=n
 |0=>rfl
 |n+1=>by
  show ct a n+(if a n=true then 1 else 0)+(ct (λb => !a b) n+if(!a n)=true then 1 else 0)=n+1;have:=s8 a n;cases a n<;>simp<;>omega
theorem AD(b:bV vz648)(a:Nat)(c:El vz648 vz653)(d:El vz648 f):∀n,vz648.ev (iF vz648 vz653 f) a n=vz648.sb (vz648.ev vz653 a n) (vz648.ev f a n)
 |0=>(fA b (aX b)).symm
 |n+1=>by
  show vz648.ad (vz648.ev (iF vz648 vz653 f) a n) (vz648.mul (vz648.sb (vz653 n) (f n)) (vz648.xp a n))=vz648.sb (vz648.ad (vz648.ev vz653 a n) (vz648.mul (vz653 n) (vz648.xp a n))) (vz648.ad (vz648.ev f a n) (vz648.mul (f n) (vz648.xp a n)));rw[AD b a c d n,TL b (c n) (d n)];have e:=iQ b vz653 a n;have c:=iQ b f a n;have g:=b.bX (vz653 n) (vz648.xp a n);have d:=b.bX (f n) (vz648.xp a n);unfold FD.sb;rw[R0 b c d,UD b e (ia b c) g (ia b d)]
def sN(a:FD)(b:Nat):Nat->Nat:=λj=>if j=0 then a.ng b else if j=1 then 1 else 0
theorem yd(b:bV vz648)(c:a<vz648.q):El vz648 (sN vz648 a):=λj=>by
 unfold sN;split
 ·exact ia b c
 ·split
  ·exact gV b
  ·exact aX b
theorem yb(a:Nat):Bd 2 (sN vz648 a):=λj b=>by
 unfold sN;rw[af E,af E]
theorem Gp(b:bV vz648)(d:a<vz648.q)(e:c<vz648.q):vz648.ev (sN vz648 a) c 2=vz648.sb c a:=by
 show vz648.ad (vz648.ad 0 (vz648.mul (vz648.ng a) 1)) (vz648.mul 1 (vz648.mul 1 c))=vz648.ad c (vz648.ng a);rw[mM b (ia b d),FJ b (b.bX _ _),FJ b e,gC b (ia b d),gQ b]
theorem NW(b:bV vz648){d:Nat->Nat}(h:El vz648 d)(n:Bd (a+1) d)(g:c<vz648.q)(o:vz648.ev d c (a+1)=0):∃e,El vz648 e∧Bd a e∧d=aZ vz648 a e (sN vz648 c):=by
 have f:vz648.mul (sN vz648 c 1) 1=1:=mM b (gV b);have i:=Av b (b:=sN vz648 c) (l:=1) (inv:=1) a h;have k:=u3 b (yd b g) (yb c) f a h n;have⟨e,l⟩:=eaa (dV vz648 (sN vz648 c) 1 1 a d);have⟨f,m⟩:=eaa (iE vz648 (sN vz648 c) 1 1 a d);rw[<-l, <-m]at i;rw[<-m]at k;have p:El vz648 e:=by rw[l];exact oo b a d
 have q:Bd a e:=by rw[l];exact mQ a d
 have l:El vz648 f:=by rw[m];exact rX b a h
 have h:vz648.ev d c (a+2)=0:=by rw[dQ b c n E];exact o
 rw[<-i,we b c (dG b _ _ _) l,oq b c (yb c) (yd b g) a (a+2) (aa _),Gp b g g,fA b g,gI b,gC b (iQ b _ _ _),dQ b c k E]at h
 have r:f 0=0:=by
  have h:vz648.ad 0 (vz648.mul (f 0) 1)=0:=h;rw[gC b (b.bX _ _),mM b (l 0)]at h;exact h
 have s:f=db:=by
  funext j
  cases j with
  |zero=>exact r
  |succ j=>exact k _ E
 refine⟨e,p,q,?_⟩;rw[s]at i;rw[<-i]
 funext j
 exact b5 b (dG b _ _ _ _)
theorem tp(F:bV vz648)(hx:∀i,i<a->vz653 i<vz648.q)(hne:∀i j,i<a->j<a->i≠j->vz653 i≠vz653 j):∀k {d:Nat->Nat},El vz648 d->Bd k d->d≠db->ct (λi=>decide (vz648.ev d (vz653 i) k=0)) a<k
 |0,d,_,f,g=>absurd (yX f) g
 |k+1,d,m,f,g=>by
  by_cases h:∃i,i<a∧vz648.ev d (vz653 i) (k+1)=0
  ·obtain⟨b,hi0,n⟩:=h;obtain⟨Q,o,p,hQ⟩:=NW F m f (hx b hi0) n
   have q:Q≠db:=λe=>g (by
    rw[hQ,e]
    funext j
    have:∀c,aZ vz648 c db (sN vz648 (vz653 b)) j=0:=λc=>by
     induction c with
     |zero=>rfl
     |succ c l=>
      show vz648.ad (aZ vz648 c db (sN vz648 (vz653 b)) j) (kS c (aP vz648 0 (sN vz648 (vz653 b))) j)=0;rw[l];unfold kS aP;split
      ·rw[qI F,b5 F (aX F)]
      ·rw[b5 F (aX F)]
    exact this k)
   have l:=tp F hx hne k o p q
   have c:=GI (p:=λi=>decide (vz648.ev d (vz653 i) (k+1)=0)) (p':=λi=>decide (vz648.ev Q (vz653 i) k=0)) b a (λi hi hne' hp=>by
    have hp:vz648.ev d (vz653 i) (k+1)=0:=nk hp;refine aU ?_;have h2:vz648.ev d (vz653 i) (k+2)=0:=by rw[dQ F _ f E];exact hp
    rw[hQ,oq F _ (yb _) (yd F (hx b hi0)) k (k+2) (aa _),Gp F (hx b hi0) (hx i hi)]at h2;by_cases e:vz648.ev Q (vz653 i) k=0
    ·exact e
    ·exfalso;have h3:vz648.sb (vz653 i) (vz653 b)=0:=oz F e (lM F (hx i hi) (hx b hi0)) (aX F) (h2.trans (gI F _).symm);exact hne i b hi hi0 hne' (gX F (hx i hi) (hx b hi0) h3))
   rw[ai hi0]at c;omega
  ·rw[GH a (λi hi=>aq (λe=>h ⟨i,hi,e⟩))];omega
theorem IW(F:bV vz648)(hx:∀i,i<a->vz653 i<vz648.q)(hne:∀i j,i<a->j<a->i≠j->vz653 i≠vz653 j)(b:El vz648 f)(d:El vz648 p)(h:Bd c f)(k:Bd c p)(l:f≠p):a<c+ct (λi => !decide (vz648.ev f (vz653 i) c=vz648.ev p (vz653 i) c)) a:=by
 have m:=tp F hx hne c (tj F b d) (λj g=>by show vz648.sb (f j) (p j)=0;rw[h j g,k j g,fA F (aX F)]) (λe=>l (by
  funext j
  exact gX F (b j) (d j) (rA e j)))
 have h2:=s8 (λi=>decide (vz648.ev f (vz653 i) c=vz648.ev p (vz653 i) c)) a
 have e:(λi=>decide (vz648.ev (iF vz648 f p) (vz653 i) c=0))=λi=>decide (vz648.ev f (vz653 i) c=vz648.ev p (vz653 i) c):=by
  funext i
  rw[AD F _ b d];refine fK.2 ⟨λe=>gX F (iQ F _ _ _) (iQ F _ _ _) e,λe=>by rw[e,fA F (iQ F _ _ _)]⟩
 rw[e]at m;omega
theorem uz{v T:Nat}(D:vz648∈ak)(F:gO v T vz648 o b){a e ca cx:Nat}(N:a<=128)(hn:e<=64)(O:El vz648 vz653)(s:∀p,p<e->f p<vz648.q)(P:Sl i a vz653 b)(Q:Sl l e f b)(R:fp i b.heap.size)(S:fp l b.heap.size):Calls prog 48 #[.pointer (some ⟨v,0,none⟩),.slice i a ca,.slice l e cx] b λg t=>g=.returned (.slice (some ⟨b.heap.size,0,none⟩) e e)∧Row b.heap.size e (λp=>vz648.ev vz653 (f p) a) t∧Below b.heap.size b t:=by
 have k:Hid (gO v T vz648 o b∧vz648∈ak∧Sl i a vz653 b∧Sl l e f b∧El vz648 vz653∧(∀p,p<e->f p<vz648.q)∧fp i b.heap.size∧fp l b.heap.size):=⟨F,D,P,Q,O,s,R,S⟩;clear F D P Q O s R S;go_enter func48,ntmps48;go_wp2_with (at_make;refine iS X _ _ X _ e X X E E ?_;intro z U V);have D:Hid (Below b.heap.size b z∧Row b.heap.size e db z):=⟨cH V (aa _) (λa N=>by simp at N),ji U⟩;clear U V;have⟨q,F⟩:=eaa (b.heap.size);have A:Hid (Below b.heap.size b z∧Row q e db z∧q=b.heap.size):=by rw[F];exact⟨D.out.1,D.out.2,X⟩
 rw[<-F];have W:b.heap.size<=q:=E;clear D F;go_loopw [16] (λp wr=>∃c:Nat,c<=e∧p=.int .i64 c∧Hid (Row q e (λj=>if j<c then vz648.ev vz653 (f j) a else 0) wr∧Below b.heap.size b wr)) (λp _=>e-(intOf p).toNat)
 case atStart=>exact⟨0,E,X,A.out.2.1.congr (λj _=>XF),A.out.1⟩
 case round=>
  obtain⟨c,hr,rfl,w⟩:=hrel;rename World=>wA;by_cases G:c<e
  ·have Y:(c:Int)<(e:Int):=by omega
   obtain⟨p,z,Z,ab⟩:=(k.out.2.2.2.1.below w.out.2 k.out.2.2.2.2.2.2.2) c G;subst Z;have⟨m,s⟩:=eaa (f c);rw[<-s]at ab;have p:m<vz648.q:=by rw[s];exact k.out.2.2.2.2.2.1 c G
   have I:Hid (m=f c∧m<vz648.q):=⟨s,p⟩;clear s p;go_wp2;go_loopw [10] (λJ wr=>∃x:Nat,x<=a∧J=.int .i64 ((x:Int)-1)∧Hid (Row q e (λj=>if j<c then vz648.ev vz653 (f j) a else if j=c then vz648.val vz653 a m (a-x)else 0) wr∧Below b.heap.size b wr)) (λJ _=>(intOf J+1).toNat)
   case atStart=>exact⟨a,aa _,by first|rfl|go_num,w.out.1.congr (λj _=>by
    by_cases g:j<c
    ·rw[ai g,ai g]
    ·rw[af g,af g];split
     ·rw[fN];rfl
     ·rfl),w.out.2⟩
   case round=>
    obtain⟨x,p,B,r⟩:=hrel;rename World=>wr;cases x with
    |succ n=>
     have K:u10=.int .i64 (n:Int):=by rw[B];go_num
     clear B;subst K;have⟨y,C⟩:=eaa (vz648.val vz653 a m (a-(n+1)));have ad:y<vz648.q:=by rw[C];exact BA k.out.2.1 vz653 a m k.out.2.2.2.2.1 _
     have p:wr.cell? ⟨q,c,none⟩=some (.int .i64 (y:Nat)):=by
      have h:=r.out.1.cell c G;rw[af E,ai X, <-C]at h;exact h
     have p:=r.out.1.free c;obtain⟨p,s,ao,ar⟩:=(k.out.2.2.1.below r.out.2 k.out.2.2.2.2.2.2.1) n E;subst ao;have⟨s,x⟩:=eaa (vz653 n);rw[<-x]at ar;have⟨p,z⟩:=eaa (vz648.mul y m);have⟨u,D⟩:=eaa (dz vz648.p vz648.q p s);have G:=dE k.out.2.1;have F:=k.out.1.below r.out.2 k.out.1.qY k.out.1.sg
     have av:Hid (∀d,Calls prog 67 #[.pointer (some ⟨v,0,none⟩),.int .i64 (y:Nat),.int .i64 (m:Nat)] (wr.drewN d) λg t=>g=.returned (.int .i64 (p:Nat))∧∃a,t=(wr.drewN d).drewN a):=λd=>by
      rw[z];exact mR k.out.2.1 (F.drewN d) ad I.out.2
     have ax:Hid (∀d,Calls prog 66 #[.pointer (some ⟨v,0,none⟩),.int .i64 (p:Nat),.int .i64 (s:Nat)] (wr.drewN d) λg t=>g=.returned (.int .i64 (u:Nat))∧∃a,t=(wr.drewN d).drewN a):=λd=>by
      rw[D];exact pL k.out.2.1 (F.drewN d) (by rw[z];exact G.bX _ _) (by rw[x];exact k.out.2.2.2.2.1 n)
     have p:vz648.val vz653 a m (a-n)=u:=by
      rw[D,z,C,x,show a-n=(a-(n+1))+1 from E,FD.val,show a-1-(a-(n+1))=n from E]
     have HV:Hid (∀j,j<e->(if j<c then vz648.ev vz653 (f j) a else if j=c then vz648.val vz653 a m (a-n)else 0)=if j=c then u else if j<c then vz648.ev vz653 (f j) a else if j=c then vz648.val vz653 a m (a-(n+1))else 0):=λj _=>by
      by_cases g:j=c
      ·rw[ai g,af E,ai g,p]
      ·rw[af g,af g,af g]
     have s:(n:Int)<(a:Int):=E;clear x z D C p G F;go_wp2;refine iU 16 wL wL ?_;simp only[cW,dC,cV,eF];repeat(go_big_quiet_step (first|(go_at_call 67;exact XS (av.out _))|(go_at_call 66;exact XS (ax.out _))|fail))
     refine XZ ?_;intro _ p;obtain⟨nq,a0⟩:=p;subst a0;go_wp2;go_roundw
     case rel=>exact⟨n,E,x9,(r.out.1.drewN nq).store c u HV.out,(aO r.out.2 nq).setCell W _⟩
     case measure=>simp[intOf]
    |zero=>
     have K:u10=.int .i64 (-1):=by rw[B];rfl
     clear B;subst K
     have M:Hid (Row q e (λj=>if j<c+1 then vz648.ev vz653 (f j) a else 0) wr∧Below b.heap.size b wr):=by
      refine⟨r.out.1.congr (λj _=>?_),r.out.2⟩;by_cases g:j<c
      ·rw[ai g,ai E]
      ·rw[af g];by_cases g:j=c
       ·rw[ai g,ai E,g,Nat.sub_zero,xU (dE k.out.2.1) m a k.out.2.2.2.2.1 I.out.2,I.out.1]
       ·rw[af g,af E]
     go_wp2;go_roundw
     case rel=>exact⟨c+1,E,x9,M.out⟩
     case measure=>simp[intOf];omega
  ·have Y:¬(c:Int)<(e:Int):=by omega
   have M:Hid (Row q e (λj=>vz648.ev vz653 (f j) a) wA):=w.out.1.congr (λj c=>by rw[ai E]);go_wp2;go_ret;exact⟨by rw[<-A.out.2.2];rfl,by rw[<-A.out.2.2];exact M.out,w.out.2⟩
theorem tO(s:vz648∈ak)(K:1<=a)(M:a<=64)(N:a<=c)(m:∀d,d<a->vz653 d<vz648.q)(t:∀d j,d<a->j<a->d≠j->vz653 d≠vz653 j)(u:Sl i a vz653 b)(v:fp i b.heap.size)(O:1<=g)(P:g<=a):Calls prog 22 #[.int .i64 vz648.q,.slice i a c,.int .i64 (g:Nat)] b λl n=>l=.returned (.int .i64 0)∧Below b.heap.size b n:=by
 have o:Hid (vz648∈ak∧(∀d,d<a->vz653 d<vz648.q)∧(∀d j,d<a->j<a->d≠j->vz653 d≠vz653 j)∧Sl i a vz653 b∧fp i b.heap.size):=⟨s,m,t,u,v⟩;have K:¬(a:Int)<1:=E;have K:¬(64:Int)<(a:Int):=E;have K:¬(g:Int)<1:=E;have K:¬(a:Int)<(g:Int):=E;clear s m t u v;go_enter func22,ntmps22;go_wp2_with fail;refine(kh o.out.1 b).mono ?_;rintro l k ⟨w,T,A,rfl,x,B,C,q⟩;have p:Hid (gO w T vz648 A k∧Sl i a vz653 k∧Below b.heap.size b k):=⟨x,o.out.2.2.2.1.below q o.out.2.2.2.2,q⟩;clear x B C q;go_wp2;go_loopw [29] (λd wr=>∃e:Nat,e<=a∧d=.int .i64 e∧wr=k) (λd _=>a-(intOf d).toNat)
 case atStart=>exact⟨0,E,X,X⟩
 case round=>
  obtain⟨e,Q,rfl,f⟩:=hrel;have f:=f.symm;subst f;by_cases r:e<a
  ·have D:(e:Int)<(a:Int):=by omega
   obtain⟨y,z,F,G⟩:=p.out.2.1 e r;subst F;have⟨d,m⟩:=eaa (vz653 e);rw[<-m]at G;have q:(e:Int)<=(c:Int):=E
   have I:Hid (Calls prog 45 #[.pointer (some ⟨w,0,none⟩),.int .i64 (d:Nat)] k λl n=>l=.returned (.bool true)∧n=k):=by
    have h:=eG p.out.1 (d:Int);rw[jT (by rw[m];exact o.out.2.1 e r)]at h;exact h
   have J:Hid (Calls prog 46 #[.slice (some ⟨y,z,none⟩) e c,.int .i64 (d:Nat)] k λl n=>l=.returned (.bool false)∧n=k):=by
    have h:=rS (ca:=c) (w:=k) (z:=λj=>((vz653 j:Nat):Int)) (d:Int) (show lu (some ⟨y,z,none⟩) e (λj=>((vz653 j:Nat):Int)) k from p.out.2.1.less E) E
    rw[aq (λd=>by
     unfold zl at d;obtain⟨j,k,l⟩:=gF.1 d;have k:=bj.1 k;exact o.out.2.2.1 j e E r E (by rw[<-m];omega))]at h
    exact h
   clear m;go_wp2_with fail;refine I.out.mono ?_;rintro l n ⟨rfl,f⟩;have f:=f.symm;subst f;go_wp2_with fail;refine J.out.mono ?_;rintro l n ⟨rfl,f⟩;have f:=f.symm;subst f;go_wp2;go_roundw
   case rel=>exact⟨e+1,E,x9,Xo⟩
   case measure=>simp[intOf];omega
  ·have D:¬(e:Int)<(a:Int):=by omega
   go_wp2;go_ret;exact⟨X,p.out.2.2⟩
theorem IT(s:vz648∈ak)(N:1<=a)(y:a<=64)(O:a<=c)(t:∀d,d<a->vz653 d<vz648.q)(u:∀d j,d<a->j<a->d≠j->vz653 d≠vz653 j)(v:Sl i a vz653 b)(w:fp i b.heap.size)(P:1<=g)(Q:g<=a)(z:El vz648 f)(A:Sl l g f b)(B:fp l b.heap.size):Calls prog 23 #[.int .i64 vz648.q,.slice i a c,.slice l g q] b λk m=>∃p,k=.returned (.tuple #[.slice (some ⟨p,0,none⟩) a a,.int .i64 0])∧Row p a (λd=>vz648.ev f (vz653 d) g) m∧Below b.heap.size b m:=by
 have e:Hid (vz648∈ak∧(∀d,d<a->vz653 d<vz648.q)∧(∀d j,d<a->j<a->d≠j->vz653 d≠vz653 j)∧Sl i a vz653 b∧fp i b.heap.size∧El vz648 f∧Sl l g f b∧fp l b.heap.size):=⟨s,t,u,v,w,z,A,B⟩;have R:Hid (Calls prog 22 #[.int .i64 vz648.q,.slice i a c,.int .i64 (g:Nat)] b λk m=>k=.returned (.int .i64 0)∧Below b.heap.size b m):=tO s N y O t u v w P Q;clear s t u v w z A B;go_enter func23,ntmps23;go_wp2_with fail;refine R.out.mono ?_;rintro k n ⟨rfl,r⟩;have S:Hid (Below b.heap.size b n):=r
 have U:Hid (Calls prog 47 #[.int .i64 vz648.q,.slice l g q] n λk m=>k=.returned (.int .i64 0)∧Below n.heap.size n m):=by
  have h:=pN (cap:=q) e.out.1 (w:=n) (z:=λj=>((f j:Nat):Int)) (show lu l g (λj=>((f j:Nat):Int)) n from e.out.2.2.2.2.2.2.1.below r e.out.2.2.2.2.2.2.2) (e.out.2.2.2.2.2.2.2.mono r.size) E;rw[kQ e.out.2.2.2.2.2.1 E]at h;exact h
 clear r;go_wp2_with fail;refine U.out.mono ?_;rintro k C ⟨rfl,D⟩;have V:Hid (Below b.heap.size b C):=al S.out D;clear D;go_wp2_with fail;refine(kh e.out.1 C).mono ?_;rintro k x ⟨W,T,p,rfl,F,Y,Z,G⟩;have o:Hid (gO W T vz648 p x∧Below b.heap.size b x):=⟨F,al V.out G⟩;clear F Y Z G;go_wp2_with fail;refine(uz e.out.1 o.out.1 E y e.out.2.2.2.2.2.1 e.out.2.1 (e.out.2.2.2.2.2.2.1.below o.out.2 e.out.2.2.2.2.2.2.2) (e.out.2.2.2.1.below o.out.2 e.out.2.2.2.2.1) (e.out.2.2.2.2.2.2.2.mono o.out.2.size) (e.out.2.2.2.2.1.mono o.out.2.size)).mono ?_;rintro k I ⟨rfl,J,K⟩;have M:Hid (Row x.heap.size a (λd=>vz648.ev f (vz653 d) g) I∧Below b.heap.size b I):=⟨J,al o.out.2 K⟩;clear J K;go_wp2
 go_ret2
 exact⟨_,X,M.out.1,M.out.2⟩
theorem IE(t:Sl i a vz653 b)(u:Sl l a f b)(x:a<=1000):Calls prog 104 #[.slice i a c,.slice l a g] b λk x=>k=.returned (.int .i64 (ct (λe => !decide (vz653 e=f e)) a:Nat))∧x=b:=by
 have v:Hid (Sl i a vz653 b∧Sl l a f b):=⟨t,u⟩;clear t u;go_enter func104,ntmps104;go_wp2;go_loopw [5,15] (λz p wr=>∃(d j:Nat),d<=a∧j<=d∧z=.int .i64 (j:Nat)∧p=.int .i64 d∧Hid (j=ct (λe => !decide (vz653 e=f e)) d)∧wr=b) (λ_ p _=>a-(intOf p).toNat)
 case atStart=>exact⟨0,0,E,E,X,X,X,X⟩
 case round=>
  obtain⟨d,j,J,K,rfl,rfl,q,r⟩:=hrel;have r:=r.symm;subst r;by_cases w:d<a
  ·have A:(d:Int)<(a:Int):=by omega
   obtain⟨p,r,B,C⟩:=v.out.1 d w;subst B;obtain⟨p,r,D,F⟩:=v.out.2 d w;subst D;have⟨m,n⟩:=eaa (vz653 d);have⟨y,o⟩:=eaa (f d);rw[<-n]at C;rw[<-o]at F;by_cases k:m=y
   ·have G:(((m:Nat):Int) !=((y:Nat):Int))=false:=by rw[k];simp
    have s:Hid (j=ct (λe => !decide (vz653 e=f e)) (d+1)):=by
     show j=ct (λe => !decide (vz653 e=f e)) d+if(!decide (vz653 d=f d))=true then 1 else 0
     rw[<-q.out,aU (by rw[<-n, <-o];exact k)];rfl
    clear k n o;go_wp2;go_roundw
    case rel=>exact⟨d+1,j,E,E,X,x9,s.out,Xo⟩
    case measure=>simp[intOf];omega
   ·have G:(((m:Nat):Int) !=((y:Nat):Int))=true:=by rw[dy];omega
    have s:Hid (j+1=ct (λe => !decide (vz653 e=f e)) (d+1)):=by
     show j+1=ct (λe => !decide (vz653 e=f e)) d+if(!decide (vz653 d=f d))=true then 1 else 0
     rw[<-q.out,aq (by rw[<-n, <-o];exact k)];rfl
    clear k n o;go_wp2;go_roundw
    case rel=>exact⟨d+1,j+1,E,E,x9,x9,s.out,Xo⟩
    case measure=>simp[intOf];omega
  ·have A:¬(d:Int)<(a:Int):=by omega
   have I:a=d:=E;subst I;go_wp2;go_ret;exact⟨by rw[<-q.out];rfl,X⟩
theorem qd{m:Int}{k:Nat}(b:0<k):∃a:Nat,pick m (k:Int)=(a:Int)∧a<k:=by
 have a:=qe m (k:Int) E;have a:=p9 m (k:Int) E;exact⟨(pick m (k:Int)).toNat,E,E⟩
def FD.oQ(b:FD)(a:Nat->Int):Nat->Int
 |0=>0
 |r+1=>if b.oQ a r≠0 then b.oQ a r else if b.has (a r)=true then(if a r∈zl r a then 7 else 0)else 2
theorem zC(b:vz648.oQ e a≠0):∀k,vz648.oQ e (a+k)=vz648.oQ e a
 |0=>rfl
 |k+1=>by
  have c:=zC b k;show(if vz648.oQ e (a+k)≠0 then vz648.oQ e (a+k)else _)=_;rw[c,ai b]
theorem tL{r a:Nat}(b:vz648.oQ e r≠0)(c:r<=a):vz648.oQ e a=vz648.oQ e r:=by
 have:=zC b (a-r)
 rwa [show r+(a-r)=a from E]at this
def FD.fI(b:FD)(a:Nat)(c:Nat->Int)(d:Int):Int:=if a<1∨64<a then 4 else if b.oQ c a≠0 then b.oQ c a else if d<1∨(a:Int)<d then 6 else 0
theorem re(x:vz648∈ak)(g:Int)(p:Arg i a c e b):Calls prog 22 #[.int .i64 vz648.q,.slice i a c,.int .i64 g] b λk m=>k=.returned (.int .i64 (vz648.fI a e g))∧Below b.heap.size b m:=by
 have v:Hid (vz648∈ak∧Arg i a c e b):=⟨x,p⟩;have W:=p.qL;have W:=p.le;clear x p;go_enter func22,ntmps22;go_wp2_with fail;refine(kh v.out.1 b).mono ?_;rintro k q ⟨A,T,G,rfl,B,K,M,o⟩;have n:Hid (gO A T vz648 G q∧lu i a e q∧Below b.heap.size b q):=⟨B,v.out.2.sl.below o v.out.2.lt,o⟩;clear B K M o;by_cases C:a<1
 ·have l:Hid (vz648.fI a e g=4):=by show vz648.fI a e g=4;unfold FD.fI;rw[ai (I C)]
  have N:(a:Int)<1:=E;go_wp2;go_ret;exact⟨aY (by rw[l.out]),n.out.2.2⟩
 ·have N:¬(a:Int)<1:=by omega
  by_cases D:64<a
  ·have l:Hid (vz648.fI a e g=4):=by show vz648.fI a e g=4;unfold FD.fI;rw[ai (J D)]
   have O:(64:Int)<(a:Int):=E;go_wp2;go_ret;exact⟨aY (by rw[l.out]),n.out.2.2⟩
  ·have O:¬(64:Int)<(a:Int):=by omega
   have r:Hid (vz648.fI a e g=if vz648.oQ e a≠0 then vz648.oQ e a else if g<1∨(a:Int)<g then 6 else 0):=by show vz648.fI a e g=_;unfold FD.fI;rw[af E]
   clear C D;go_wp2;go_loopw [29] (λw wr=>∃d:Nat,d<=a∧w=.int .i64 d∧Hid (vz648.oQ e d=0)∧wr=q) (λw _=>a-(intOf w).toNat)
   case atStart=>exact⟨0,E,X,X,X⟩
   case round=>
    obtain⟨d,Y,rfl,u,f⟩:=hrel;have f:=f.symm;subst f;by_cases p:d<a
    ·have P:(d:Int)<(a:Int):=by omega
     obtain⟨Q,R,S,U⟩:=n.out.2.1 d p;subst S;have⟨p,v⟩:=eaa (e d);rw[<-v]at U;have w:(d:Int)<=(c:Int):=E;have⟨s,w⟩:=eaa (vz648.has p);have⟨o,x⟩:=eaa (decide (p∈zl d e))
     have y:Hid (Calls prog 45 #[.pointer (some ⟨A,0,none⟩),.int .i64 p] q λk m=>k=.returned (.bool s)∧m=q):=by
      rw[w];exact eG n.out.1 p
     have F:Hid (Calls prog 46 #[.slice (some ⟨Q,R,none⟩) d c,.int .i64 p] q λk m=>k=.returned (.bool o)∧m=q):=by
      rw[x];exact rS p (λj q=>n.out.2.1 j E) E
     have z:Hid (vz648.oQ e (d+1)=if s=true then(if o=true then 7 else 0)else 2):=by
      show(if vz648.oQ e d≠0 then vz648.oQ e d else if vz648.has (e d)=true then(if e d∈zl d e then 7 else 0)else 2)=_;rw[af (λh=>h u.out),w,x, <-v];by_cases k:p∈zl d e
      ·rw[ai k,aU k];simp
      ·rw[af k,aq k];simp
     clear v w x;cases s with
     |false=>
      have l:Hid (vz648.fI a e g=2):=by
       have t:vz648.oQ e (d+1)=2:=z.out;show _=_;rw[r.out,tL (r:=d+1) (by rw[t];omega) E,t];rfl
      go_wp2_with fail
      refine y.out.mono ?_;rintro k m ⟨rfl,f⟩;have f:=f.symm;subst f;go_wp2;go_ret;exact⟨aY (by rw[l.out]),n.out.2.2⟩
     |true=>
      cases o with
      |true=>
       have l:Hid (vz648.fI a e g=7):=by
        have t:vz648.oQ e (d+1)=7:=z.out;show _=_;rw[r.out,tL (r:=d+1) (by rw[t];omega) E,t];rfl
       go_wp2_with fail
       refine y.out.mono ?_;rintro k m ⟨rfl,f⟩;have f:=f.symm;subst f;go_wp2_with fail;refine F.out.mono ?_;rintro k m ⟨rfl,f⟩;have f:=f.symm;subst f;go_wp2;go_ret;exact⟨aY (by rw[l.out]),n.out.2.2⟩
      |false=>
       go_wp2_with fail
       refine y.out.mono ?_;rintro k m ⟨rfl,f⟩;have f:=f.symm;subst f;go_wp2_with fail;refine F.out.mono ?_;rintro k m ⟨rfl,f⟩;have f:=f.symm;subst f;go_wp2;go_roundw
       case rel=>exact⟨d+1,E,x9,z.out,Xo⟩
       case measure=>simp[intOf];omega
    ·have P:¬(d:Int)<(a:Int):=by omega
     have V:a=d:=E;subst V;by_cases d:g<1
     ·have l:Hid (vz648.fI a e g=6):=by show _=_;rw[r.out,af (λh=>h u.out),ai (I d)]
      go_wp2;go_ret;exact⟨aY (by rw[l.out]),n.out.2.2⟩
     ·by_cases d:(a:Int)<g
      ·have l:Hid (vz648.fI a e g=6):=by show _=_;rw[r.out,af (λh=>h u.out),ai (J d)]
       go_wp2;go_ret;exact⟨aY (by rw[l.out]),n.out.2.2⟩
      ·have l:Hid (vz648.fI a e g=0):=by show _=_;rw[r.out,af (λh=>h u.out),af E]
       go_wp2;go_ret;exact⟨aY (by rw[l.out]),n.out.2.2⟩
theorem DC(M:vz648∈ak)(g:Int)(z:Arg i a c e b):Calls prog 19 #[.int .i64 vz648.q,.slice i a c,.int .i64 g] b λk v=>k=.returned (.int .i64 (vz648.fI a e g))∧Below b.heap.size b v:=by
 have N:Hid (vz648∈ak∧Arg i a c e b):=⟨M,z⟩;have ax:=z.qL;have ax:=z.le;clear M z;go_enter func19,ntmps19;go_wp2_with fail;refine(qj N.out.1 b).mono ?_;rintro k t ⟨A,B,rfl,W,o⟩;unfold rf;have⟨l,r⟩:=eaa (t.alloc (.cells #[.int .i64 vz648.q,.int .i64 vz648.p,.int .i64 vz648.m,.int .i64 vz648.gen,.slice (some ⟨A,0,none⟩) (vz648.m+1) B] 32))
 have s:Hid (gN t.heap.size vz648 vz648.gen (.slice (some ⟨A,0,none⟩) (vz648.m+1) B) l∧l.heap.size=t.heap.size+1∧Below b.heap.size b l):=by
  have z:Below t.heap.size t l:=by rw[r];exact(XK _ _).alloc (aa _) _
  exact⟨by rw[r];exact eL vz648 vz648.gen _ t,by rw[r];simp,al o z⟩
 clear W o;by_cases O:a<1
 ·have m:Hid (vz648.fI a e g=4):=by show vz648.fI a e g=4;unfold FD.fI;rw[ai (I O)]
  have Y:(a:Int)<1:=E;go_wp2;go_ret;rw[<-r];exact⟨aY (by rw[m.out]),s.out.2.2⟩
 ·have Y:¬(a:Int)<1:=by omega
  by_cases P:64<a
  ·have m:Hid (vz648.fI a e g=4):=by show vz648.fI a e g=4;unfold FD.fI;rw[ai (J P)]
   have Z:(64:Int)<(a:Int):=E;go_wp2;go_ret;rw[<-r];exact⟨aY (by rw[m.out]),s.out.2.2⟩
  ·have Z:¬(64:Int)<(a:Int):=by omega
   have w:Hid (vz648.fI a e g=if vz648.oQ e a≠0 then vz648.oQ e a else if g<1∨(a:Int)<g then 6 else 0):=by show vz648.fI a e g=_;unfold FD.fI;rw[af E]
   clear O P;go_wp2;rw[<-r];clear r;go_loopw [9] (λC wr=>∃f:Nat,f<=a∧C=.int .i64 f∧Hid (vz648.oQ e f=0∧Below l.heap.size l wr)) (λC _=>a-(intOf C).toNat)
   case atStart=>exact⟨0,E,X,X,XK _ _⟩
   case round=>
    obtain⟨f,hr,rfl,p⟩:=hrel;rename World=>wr;by_cases r:f<a
    ·have ab:(f:Int)<(a:Int):=by omega
     have t:(0:Int)<=(f:Int):=E;have D:=N.out.2.below (al s.out.2.2 p.out.2);obtain⟨F,G,ad,u⟩:=D.sl f r;subst ad;have⟨n,r⟩:=eaa (e f);rw[<-r]at u;have t:(f:Int)<=(c:Int):=E;have⟨x,t⟩:=eaa (vz648.has n);have⟨o,z⟩:=eaa (decide (n∈zl f e))
     have Q:Hid (∀d C,Calls prog 21 #[.agg #[.int .i64 vz648.q,.int .i64 vz648.p,.int .i64 vz648.m,.int .i64 vz648.gen,.slice (some ⟨A,0,none⟩) (vz648.m+1) B],.int .i64 n] (grow (redrawn wr d) C) λk N=>k=.returned (.bool x)∧∃M:Regrown,N=grow (redrawn wr M.d) M.os):=λd C=>by
      rw[t];exact X0 (dp vz648 vz648.gen _ n _)
     have R:Hid (∀j,Below wr.heap.size wr j->∀d,Calls prog 43 #[.int .i64 n,.slice (some ⟨F,G,none⟩) f c] (j.drewN d) λk v=>k=.returned (.bool o)∧∃g,v=(j.drewN d).drewN g):=λj A d=>by
      rw[z];exact LX n (EE ((D.below A).drewN d) E)
     have K:Hid (vz648.oQ e (f+1)=if x=true then(if o=true then 7 else 0)else 2):=by
      show(if vz648.oQ e f≠0 then vz648.oQ e f else if vz648.has (e f)=true then(if e f∈zl f e then 7 else 0)else 2)=_;rw[af (λh=>h p.out.1),t,z, <-r];by_cases k:n∈zl f e
      ·rw[ai k,aU k];simp
      ·rw[af k,aq k];simp
     have gA:=s.out.1.below (B:=l.heap.size) p.out.2 (by have:=s.out.2.1;omega);have k0:=XM gA.c0;have k1:=XM gA.c1;have k2:=XM gA.c2;have k3:=XM gA.c3;have k4:=XM gA.c4;have k5:=XM u;have S:Hid (Below b.heap.size b wr∧Below l.heap.size l wr):=⟨al s.out.2.2 p.out.2,p.out.2⟩;have ao:Hid (∀j,Below wr.heap.size wr j->j.cell? ⟨F,G+f,none⟩=some (.int .i64 n)):=λj A=>((iN A).1 _ _ (lN u)).trans u
     clear r t z D gA u;go_wp2;refine X6 wL wL ?_;repeat(go_big_quiet_step (first|(go_at_call 21;exact Q.out _ _)))
     refine XZ ?_;intro _ r;obtain⟨⟨T,U⟩,ar⟩:=r;subst ar;have⟨j,r⟩:=eaa (grow (redrawn wr T) U)
     have q:Hid (Below wr.heap.size wr j∧Below b.heap.size b j∧Below l.heap.size l j):=by
      have h:Below wr.heap.size wr j:=by rw[r];exact XQ wr T U
      exact⟨h,al S.out.1 h,al S.out.2 h⟩
     rw[<-r];clear r k0 k1 k2 k3 k4 k5 Q;have u:=ao.out j q.out.1;have V:Hid (∀d,Calls prog 43 #[.int .i64 n,.slice (some ⟨F,G,none⟩) f c] (j.drewN d) λk v=>k=.returned (.bool o)∧∃g,v=(j.drewN d).drewN g):=R.out j q.out.1;clear R;cases x with
     |false=>
      have m:Hid (vz648.fI a e g=2):=by
       have y:vz648.oQ e (f+1)=2:=K.out;show _=_;rw[w.out,tL (r:=f+1) (by rw[y];omega) E,y];rfl
      go_wp2;go_ret;exact⟨aY (by rw[m.out]),q.out.2.1⟩
     |true=>
      cases o with
      |true=>
       have m:Hid (vz648.fI a e g=7):=by
        have y:vz648.oQ e (f+1)=7:=K.out;show _=_;rw[w.out,tL (r:=f+1) (by rw[y];omega) E,y];rfl
       go_wp2
       go_quiet ((go_at_call 43;exact XS (V.out _)))
       go_wp2;go_ret;exact⟨aY (by rw[m.out]),aO q.out.2.1 _⟩
      |false=>
       go_wp2
       go_quiet ((go_at_call 43;exact XS (V.out _)))
       go_wp2;go_roundw
       case rel=>exact⟨f+1,E,x9,K.out,aO q.out.2.2 _⟩
       case measure=>simp[intOf];omega
    ·have ab:¬(f:Int)<(a:Int):=by omega
     have av:a=f:=E;subst av;have q:Hid (Below b.heap.size b wr):=al s.out.2.2 p.out.2;by_cases f:g<1
     ·have m:Hid (vz648.fI a e g=6):=by show _=_;rw[w.out,af (λh=>h p.out.1),ai (I f)]
      go_wp2;go_ret;exact⟨aY (by rw[m.out]),q.out⟩
     ·by_cases f:(a:Int)<g
      ·have m:Hid (vz648.fI a e g=6):=by show _=_;rw[w.out,af (λh=>h p.out.1),ai (J f)]
       go_wp2;go_ret;exact⟨aY (by rw[m.out]),q.out⟩
      ·have m:Hid (vz648.fI a e g=0):=by show _=_;rw[w.out,af (λh=>h p.out.1),af E]
       go_wp2;go_ret;exact⟨aY (by rw[m.out]),q.out⟩
def uK(a:Nat->Bool):Nat->Bool
 |0=>false
 |n+1=>uK a n || a n
theorem Ak:∀n,(∀j,j<n->m j=false)->uK m n=false
 |0,_=>rfl
 |n+1,a=>by
  show(uK m n || m n)=false;rw[Ak n (λj b=>a j E),a n E];rfl
theorem B4(b:m a=true):∀n,a<n->uK m n=true
 |0,c=>absurd c E
 |n+1,c=>by
  show(uK m n || m n)=true;by_cases c:a=n
  ·rw[<-c,b,Bool.or_true]
  ·rw[B4 b n E,Bool.true_or]
theorem vW{l:Array Value}(p:∀args b,(callFunc a args).run prog b=.ok (.enter a args) b)(q:lu i c e b)(s:c<=1000000)(r:∀j,j<c->Calls prog a (#[.int .i64 (e j)]++l) b λd f=>d=.returned (.bool (m j))∧f=b):Calls prog 117 #[.slice i c g,.func (.func a) #[] l] b λd f=>d=.returned (.bool (uK m c))∧f=b:=by
 have t:Hid (∀g,Calls prog 128 #[.slice i c g,.func (.func a) #[] l] b λd f=>f=b∧∃k:Int,d=.returned (.int .i64 k)∧decide (0<=k)=uK m c):=λg=>by
  refine(yB (cap:=g) (p:=m) p q s r).mono ?_;rintro d f ⟨rfl,⟨k,n,u,_,rfl⟩|⟨v,rfl⟩⟩
  ·refine⟨X,_,X,?_⟩;rw[B4 u c n];simp
  ·refine⟨X,_,X,?_⟩;rw[Ak c v];rfl
 clear q r p;have⟨y,l⟩:=eaa (uK m c);rw[<-l];have w:Hid (y=uK m c):=l;clear l;go_enter func117,ntmps117;go_wp2_with (go_at_call 128;refine(t.out _).mono ?_;rintro d f ⟨o,k,rfl,n⟩;rw[<-w.out]at n;have o:=o.symm;subst o);go_ret;exact⟨by first|rfl|simp_all,X⟩
def FD.KW(b:FD)(a:Int):Bool:=decide (a= -1) || b.has a
def FD.Pk(a:FD)(b:Nat->Int)(c:Nat):Bool:= !uK (λj => !a.KW (b j)) c
def FD.BC(a:FD)(b:Nat)(c:Nat->Int)(d:Int)(e:Nat)(y:Nat->Int):Int:=if a.fI b c d≠0 then a.fI b c d else if e≠b then 6 else if a.Pk y e=true then 0 else 2
theorem Cv:∀args a,(callFunc 118 args).run prog a=.ok (.enter 118 args) a:=
 enters_of func118 wL X
theorem KC{d T j:Nat}(h:gO d T vz648 o b)(m:b.cell? ⟨j,0,none⟩=some (.pointer (some ⟨d,0,none⟩)))(a:Int):Calls prog 118 #[.int .i64 a,.pointer (some ⟨j,0,none⟩)] b λc e=>c=.returned (.bool (!vz648.KW a))∧e=b:=by
 have j:Hid (gO d T vz648 o b):=h;clear h;have⟨y,f⟩:=eaa (vz648.has a)
 have k:Hid (Calls prog 45 #[.pointer (some ⟨d,0,none⟩),.int .i64 a] b λc e=>c=.returned (.bool y)∧e=b):=by
  show Calls _ _ _ _ _;rw[f];exact eG j.out a
 by_cases c:a= -1
 ·have g:Hid (vz648.KW a=true):=by show vz648.KW a=true;unfold FD.KW;rw[aU c];rfl
  have l:(a != -1)=false:=by rw[c];rfl
  clear f c;go_enter func118,ntmps118;go_wp2;go_ret;exact⟨by rw[g.out];rfl,X⟩
 ·have g:Hid (vz648.KW a=y):=by show vz648.KW a=y;unfold FD.KW;rw[aq c,f];rfl
  have l:(a != -1)=true:=by rw[dy];exact c
  clear f c;go_enter func118,ntmps118;go_wp2_with (go_at_call 45;refine k.out.mono ?_;rintro c e ⟨rfl,i⟩;have i:=i.symm;subst i);go_ret;exact⟨by rw[g.out];rfl,X⟩
theorem OP(A:vz648∈ak){k y:Nat->Int}(f:Int)(v:Arg i a c k b)(B:Arg l g q y b):Calls prog 101 #[.int .i64 vz648.q,.slice i a c,.int .i64 f,.slice l g q] b λd o=>d=.returned (.int .i64 (vz648.BC a k f g y))∧Below b.heap.size b o:=by
 have G:Hid (vz648∈ak∧Arg i a c k b∧Arg l g q y b):=⟨A,v,B⟩;have⟨m,C⟩:=eaa (vz648.fI a k f);have D:Hid (Calls prog 22 #[.int .i64 vz648.q,.slice i a c,.int .i64 f] b λd o=>d=.returned (.int .i64 m)∧Below b.heap.size b o):=by rw[C];exact re A f v
 have R:=v.qL;have M:=B.qL;have E:Hid (vz648.BC a k f g y=if m≠0 then m else if g≠a then 6 else if vz648.Pk y g=true then 0 else 2):=by show _=_;rw[C];rfl
 clear A v B C;by_cases w:m=0
 ·subst w;by_cases I:g=a
  ·subst I;obtain⟨p,F⟩:∃p,p=uK (λj => !vz648.KW (y j)) g:=⟨_,X⟩
   have r:Hid (vz648.BC g k f g y=if p=true then 2 else 0):=by
    show _=_;rw[E.out,af oi,af oi];show(if(!uK (λj => !vz648.KW (y j)) g)=true then(0:Int)else 2)=_;rw[<-F];cases p<;>rfl
   go_enter func101,ntmps101;go_wp2_with fail;refine D.out.mono ?_;rintro d s ⟨rfl,n⟩;have u:Hid (Below b.heap.size b s):=n;clear n;go_wp2_with fail;refine(kh G.out.1 s).mono ?_;rintro d e ⟨t,T,N,rfl,x,O,P,J⟩;have v:Below e.heap.size e (e.alloc (.cells #[.pointer (some ⟨t,0,none⟩)] 81)):=(XK _ _).alloc (aa _) _;have z:Hid (gO t T vz648 N (e.alloc (.cells #[.pointer (some ⟨t,0,none⟩)] 81))∧Below b.heap.size b (e.alloc (.cells #[.pointer (some ⟨t,0,none⟩)] 81))):=⟨x.below v x.qY x.sg,al (al u.out J) v⟩
   have K:Hid (∀A,Calls prog 117 #[.slice l g A,.func (.func 118) #[] #[.pointer (some ⟨e.heap.size,0,none⟩)]] (e.alloc (.cells #[.pointer (some ⟨t,0,none⟩)] 81)) λd o=>d=.returned (.bool p)∧o=e.alloc (.cells #[.pointer (some ⟨t,0,none⟩)] 81)):=λA=>by
    rw[F];refine vW Cv (G.out.2.2.below z.out.2).sl M (λj _=>?_);have d:(#[Value.int .i64 (y j)] ++ #[Value.pointer (some ⟨e.heap.size,0,none⟩)]:Array Value)= #[.int .i64 (y j),.pointer (some ⟨e.heap.size,0,none⟩)]:=rfl;rw[d];exact KC z.out.1 oi (y j)
   clear x O P J v F;cases p
   ·go_wp2_with (go_at_call 117;refine(K.out _).mono ?_;rintro d o ⟨rfl,rfl⟩)
    go_ret;exact⟨aY (by rw[r.out];rfl),z.out.2⟩
   ·go_wp2_with (go_at_call 117;refine(K.out _).mono ?_;rintro d o ⟨rfl,rfl⟩)
    go_ret;exact⟨aY (by rw[r.out];rfl),z.out.2⟩
  ·have r:Hid (vz648.BC a k f g y=6):=by show _=_;rw[E.out,af oi,ai I]
   have Q:(((g:Nat):Int) !=((a:Nat):Int))=true:=by rw[dy];omega
   go_enter func101,ntmps101;go_wp2_with fail;refine D.out.mono ?_;rintro d s ⟨rfl,n⟩;have u:Hid (Below b.heap.size b s):=n;clear n;go_wp2;go_ret;exact⟨aY (by rw[r.out]),u.out⟩
 ·have r:Hid (vz648.BC a k f g y=m):=by show _=_;rw[E.out,ai w]
  have Q:(m !=0)=true:=by rw[dy];exact w
  clear w;go_enter func101,ntmps101;go_wp2_with fail;refine D.out.mono ?_;rintro d s ⟨rfl,n⟩;have u:Hid (Below b.heap.size b s):=n;clear n;go_wp2;go_ret;exact⟨aY (by rw[r.out]),u.out⟩
