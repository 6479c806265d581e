/- Texts of ours, one behind the other: ZC23 ZC24 ZC25 ZC26 ZC27 ZC28 ZC29 ZC30 ZD1. -/
import Derived.Test.YtedifobeggabnaaGreatCbZC12
namespace Go.Proofs.YtedifobeggabnaaGreat
variable {k:(Nat->Prop)->Goroutine->World->Prop}{b e:Nat}{i:Program}{p l:Nat->Prop}{f s:Goroutine}{n:FuncId}{o:String}{d:Array Goroutine}{v:Nat->Nat}
abbrev YK:=@Go.Conc.awake_of
section
open Go.Conc
open Go.ConcR (KK WgAt stA smA rd wr mk Payload DC0 Bk)
open Go.ConcN (WgLive CTag WD RelBy sumTo upd upd_same upd_ne sumTo_congr sumTo_upd cnt Vc)
section
variable {K:m8}{g:Loc->Prop}{x z:pI K.P}{m:Array Goroutine}{w c:World}{t:Trace}{j:Array Event}{a r:Goroutine}{q:Option (Nat×Nat)}{md':MD}{y u:Int}
theorem Fz(l:du K)(h:iI K x g m w t)(B:m[0]?=some a)(C:stepG K.P true a w=.go r c j)(d:yU K.rd x.md.O w c j)(D:∀b,md'.O b->nY x.md.O w c b)(E:md'.d0=x.md.d0)(F:ku K x.j x.next x.tk md' r c)(G:(md'.s<14↔x.md.s<14)∧(md'.s<3↔x.md.s<3))(M:md'.s<=3->x.md.s<=3)(N:Go.ConcN.Mode x.j (dj K x) (mG md') x.st x.sm)(O:eX K.H (Vc x.j (dj K x)) md'<eX K.H (Vc x.j (dj K x)) x.md∨(eX K.H (Vc x.j (dj K x)) md'=eX K.H (Vc x.j (dj K x)) x.md∧md'.s≠7∧x.md.s≠7∧md'.fu<x.md.fu))(P:md'.s≠14:=by simp)(Q:md'.s≠1:=by simp):nf K g x t (runT K.P (crowd m w q) 0):=by
 have⟨R,S,T,U⟩:=E4 (gi:=0) (fn:=a.frame.fn) (pos:=a.frame.place) d.ev;have u:∀b,x.md.O b->gv K x 0 b:=λb f=>I ⟨X,f⟩
 have n:∀b,nW K b->¬x.md.O b:=λb f k=>(h.mem.ld _ b (u b k)).1 f
 have⟨V,W,Y,Z⟩:=h.cu.C4;have eW:=d.other _ V (n _ (I X));have eT:=d.other _ W (n _ (J (I X)));have v:=d.other _ Y (n _ (J (J (I X))));have eB:=d.other _ Z (n _ (J (J (J X))));have eD:∀b,x.Dn b->c.heap[b]?=w.heap[b]?:=λb f=>d.other b (h.mem.pS b f).2 λk=>(h.mem.ld _ b (u b k)).2 f
 have z:=eW.trans h.cu.wg;have ab:=h.cu.Cf (x':={ x with md:=md' }) l.hand X ⟨X,X,X,X,X,X,X⟩ ⟨X,X,X,X,X,X⟩ (λ_ _=>⟨dt,dt,dt,id,λ_=>rfl⟩) G z N v eB eT eD (λ_ _ _ o=>o) (λe=>absurd e Q) (λe=>absurd e P);have A:=X9 (P:=K.P) (sl:=q) (i:=0) B (by simpa using C);refine⟨_,c,q,{ x with md:=md' },by rw[A],?_,?_⟩
 ·rw[A]
  exact nL (x':={ x with md:=md' }) l.hand l.c1 l.c2 h X X X d.size ⟨d.tape,d.os,d.out⟩ (λb f k _=>d.other b f k) ⟨_,_,z⟩ D F (qU h v) (λ_ _=>⟨X,X,id⟩)
   (λp s y hy=>J (R p s y hy)) (λp s=>j9.of_low (S p s)) (by show _=md'.d0;rw[E];exact T _) (λe he=>U e he _) (λo=>I (M o)) ab
 ·rcases O with hl|⟨hl,h7,ad,hf⟩
  ·refine Prod.Lex.left _ _ ?_;show 100*(K.N-x.next)+10*(K.N-x.nt)+sumTo K.nb x.q+sumTo x.j (λi=>(x.hs i).st)+eX K.H (Vc x.j (dj K x)) md'<100*(K.N-x.next)+10*(K.N-x.nt)+sumTo K.nb x.q+sumTo x.j (λi=>(x.hs i).st)+eX K.H (Vc x.j (dj K x)) x.md;omega
  ·have e:(nM K { x with md:=md' })=((nM K x).1,(nM K { x with md:=md' }).2):=Prod.ext (by
    show 100*(K.N-x.next)+10*(K.N-x.nt)+sumTo K.nb x.q+sumTo x.j (λi=>(x.hs i).st)+eX K.H (Vc x.j (dj K x)) md'=100*(K.N-x.next)+10*(K.N-x.nt)+sumTo K.nb x.q+sumTo x.j (λi=>(x.hs i).st)+eX K.H (Vc x.j (dj K x)) x.md;omega) X
   unfold RZ;rw[e];refine Prod.Lex.right _ (Prod.Lex.right _ ?_);grind
theorem Mu{m:Mark}(d:m=.disable∨m=.enable∨m=.read (smA K.Wg)∨m=.write (smA K.Wg)∨m=.acquire (stA K.Wg)):(∀b∈#[mk m],∀y,(MemAct.ofEvent b).touch?=some y->ry (KS K) y.loc∧y.kind≠.plain)∧∀b∈#[mk m],b.loc≠.mark (.release (stA K.Wg)):=by
 refine⟨λb c y a=>?_,λb c=>?_⟩
 ·simp only[aF,az,aD,bP]at c;subst c;rcases d with rfl|rfl|rfl|rfl|rfl
  ·cases a
  ·cases a
  ·simp only[mk,MemAct.ofEvent,MemAct.touch?,bt]at a;subst a;exact⟨⟨_,X,I X⟩,oi⟩
  ·simp only[mk,MemAct.ofEvent,MemAct.touch?,bt]at a;subst a;exact⟨⟨_,X,I X⟩,oi⟩
  ·cases a
 ·simp only[aF,az,aD,bP]at c;subst c;rcases d with rfl|rfl|rfl|rfl|rfl<;>simp[mk]
theorem jm(b:∀a∈j,Bk K.Wg a):(∀a∈j,∀y,(MemAct.ofEvent a).touch?=some y->ry (KS K) y.loc∧y.kind≠.plain)∧∀a∈j,a.loc≠.mark (.release (stA K.Wg)):=⟨λa c y d=>⟨((GD b).1 a c y d).1,((GD b).1 a c y d).2.1⟩,(GD b).2⟩
theorem BD(a:iI K x g m w t){v:Nat}(b:x.st=(v:Int)*KK)(c:x.sm=0):WgAt K.ty K.Wg w (v*KK) 0:=by
 have:=a.cu.wg;grind
end
end
section
open Go.Conc
open Go.ConcR (KK WgAt stA smA rd wr mk Payload DC0 Bk)
open Go.ConcN (WgLive CTag WD RelBy sumTo upd upd_same upd_ne sumTo_congr sumTo_upd cnt Vc bk_rd bk_rw bk_sem)
section
variable {K:m8}{c:Loc->Prop}{x z:pI K.P}{g:Array Goroutine}{w j:World}{t:Trace}{m:Array Event}{a q:Goroutine}{sl:Option (Nat×Nat)}{r:MD}{y u:Int}
theorem pW(m:du K)(j:iI K x c g w t)(n:g[0]?=some a){e:Mark}(b h f:Nat)(l:e=.disable∨e=.enable∨e=.read (smA K.Wg)∨e=.write (smA K.Wg)∨e=.acquire (stA K.Wg))(o:yl K e k x.md.O a w)(p:∀i d,H0 K k d x.md.O i w->ku K x.j x.next x.tk ⟨b,h,d,x.md.O,f⟩ i w)(q:(b<14↔x.md.s<14)∧(b<3↔x.md.s<3))(C:3<b)(r:deafBehind x.md.d0 #[mk e]=f)(s:Go.ConcN.Mode x.j (dj K x) (mG ⟨b,h,0,x.md.O,f⟩) x.st x.sm)(u:∀d,eX K.H (Vc x.j (dj K x)) ⟨b,h,d,x.md.O,f⟩<eX K.H (Vc x.j (dj K x)) x.md)(v:b≠14:=by decide)(y:b≠1:=by decide):nf K c x t (runT K.P (crowd g w sl) 0):=by
 have⟨_,i,z,d,A⟩:=o;exact gD (md':=⟨b,h,d,x.md.O,f⟩) (st':=x.st) (sm':=x.sm) m j n z (λ_ _=>rfl) X ⟨X,X,X⟩ j.cu.wg X (p i d A) q (Mu l).1 r (Mu l).2 (λB=>absurd B (by show ¬b<=3;omega)) s (I (u d)) v y
theorem iX{m:MD}{s r n d:Nat}{O:Nat->Prop}(a:m.s=s)(b:m.r=r):mG m=mG ⟨s,r,n,O,d⟩:=by
 subst a;subst b;rfl
theorem Tn(h:du K)(b:iI K x c g w t)(i:g[0]?=some a)(e:x.md.s=20∧x.md.d0=0∧x.j+x.md.r+1=K.H∧x.next=0∧x.tk=sU∧H0 K (AtKdS K (nZ K x.md.r)) x.md.fu x.md.O a w):nf K c x t (runT K.P (crowd g w sl) 0):=by
 have⟨f,d,k,l,n,o⟩:=e;rcases o.cases with p|⟨z,q,j,m,e,_,r,s,u⟩
 ·refine pW (sl:=sl) h b i 19 x.md.r 1 (I X) p (λq v y=>J (I ⟨X,X,k,l,n,y⟩)) ⟨E,E⟩ E (by rw[d];rfl) ?_ λv=>?_
  ·have:=b.cu.mode;rw[iX (s:=20) (r:=x.md.r) (n:=0) (d:=0) (O:=dU) f X]at this;exact this.reopen (tag':=.sp x.md.r 4) trivial trivial rfl oi
  ·simp[eX,f]
 ·exact dm h b i r s e E (I ⟨f,d,k,l,n,u⟩)
theorem Tm(f:du K)(e:iI K x c g w t)(i:g[0]?=some a)(k:x.md.s=19∧x.md.d0=1∧x.j+x.md.r+1=K.H∧x.next=0∧x.tk=sU∧H0 K (AtA1 K (nZ K x.md.r)) x.md.fu x.md.O a w):nf K c x t (runT K.P (crowd g w sl) 0):=by
 have⟨b,d,l,n,o,B⟩:=k;rcases B.cases with C|⟨U,D,j,m,k,_,h,F,G⟩
 ·have⟨_,M⟩:=C;have u:=e.cu.mode;rw[iX (s:=19) (r:=x.md.r) (n:=0) (d:=0) (O:=dU) b X]at u;have⟨N,O,P,_⟩:=u.open_inv (tag:=.sp x.md.r 4) trivial;have V:=Yv x.j (dj K x);have W:=f.cN;have v:=BD e (v:=Vc x.j (dj K x)) (by rw[O];simp[Go.ConcN.pend]) P;have⟨D,h,Q,R⟩:=M (Vc x.j (dj K x)) E v
  have y:WgAt K.ty K.Wg (w.setCell (stA K.Wg) (.int .u64 ((Vc x.j (dj K x)+1)*KK))) ((Vc x.j (dj K x)+1)*KK) 0:=by
   have:=v.setSt (((Vc x.j (dj K x):Nat)+1)*KK);simpa using this
  have z:Go.ConcN.Mode x.j (dj K x) (.sp x.md.r 3) ((Vc x.j (dj K x)+1)*KK) 0:=by
   have S:(((Vc x.j (dj K x):Nat):Int)+1)*KK=((Vc x.j (dj K x)+Go.ConcN.pend (.sp x.md.r 3):Nat):Int)*KK:=by simp[Go.ConcN.pend]
   rw[S];exact .opn trivial N oi
  by_cases A:Vc x.j (dj K x)=0
  ·have⟨p,q⟩:=Q A;exact gD (md':=⟨18,x.md.r,p,x.md.O,1⟩) f e i h (λT r=>heap_set w _ _ r) (size_setCell ..) ⟨X,X,X⟩ y X (J (J (I ⟨X,X,l,n,o,q⟩))) ⟨by simp[b],by simp[b]⟩ (jm bk_rw).1 (by rw[d];rfl) (jm bk_rw).2 (λs=>absurd s oi) z (I (by simp[eX,b]))
  ·have⟨p,q⟩:=R A;exact gD (md':=⟨17,x.md.r,p,x.md.O,1⟩) f e i h (λT r=>heap_set w _ _ r) (size_setCell ..) ⟨X,X,X⟩ y X (J (J (J (I ⟨X,X,l,n,o,q⟩)))) ⟨by simp[b],by simp[b]⟩ (jm bk_rw).1 (by rw[d];rfl) (jm bk_rw).2 (λs=>absurd s oi) z (I (by simp[eX,b]))
 ·exact dm f e i h F k E (J (I ⟨b,d,l,n,o,G⟩))
theorem Tl(h:du K)(b:iI K x c g w t)(i:g[0]?=some a)(e:x.md.s=18∧x.md.d0=1∧x.j+x.md.r+1=K.H∧x.next=0∧x.tk=sU∧H0 K (KZ K (nZ K x.md.r)) x.md.fu x.md.O a w):nf K c x t (runT K.P (crowd g w sl) 0):=by
 have⟨f,d,k,l,n,o⟩:=e;rcases o.cases with p|⟨z,q,j,m,e,_,r,s,u⟩
 ·refine pW (sl:=sl) h b i 17 x.md.r 1 (J (J (I X))) p (λq v y=>J (J (J (I ⟨X,X,k,l,n,y⟩)))) ⟨E,E⟩ E (by rw[d];rfl) ?_ λv=>?_
  ·have:=b.cu.mode;rw[iX (s:=18) (r:=x.md.r) (n:=0) (d:=0) (O:=dU) f X]at this;exact this
  ·simp[eX,f]
 ·exact dm h b i r s e E (J (J (I ⟨f,d,k,l,n,u⟩)))
theorem Tk(h:du K)(b:iI K x c g w t)(i:g[0]?=some a)(e:x.md.s=17∧x.md.d0=1∧x.j+x.md.r+1=K.H∧x.next=0∧x.tk=sU∧H0 K (AtKeS K (nZ K x.md.r)) x.md.fu x.md.O a w):nf K c x t (runT K.P (crowd g w sl) 0):=by
 have⟨f,d,k,l,n,o⟩:=e;rcases o.cases with p|⟨z,q,j,m,e,_,r,s,u⟩
 ·refine pW (sl:=sl) h b i 16 x.md.r 0 (J (I X)) p (λq v y=>J (J (J (J (I ⟨X,X,k,l,n,y⟩))))) ⟨E,E⟩ E (by rw[d];rfl) ?_ λv=>?_
  ·have:=b.cu.mode;rw[iX (s:=17) (r:=x.md.r) (n:=0) (d:=0) (O:=dU) f X]at this;exact this.reopen (tag':=.sp x.md.r 2) trivial trivial rfl oi
  ·simp[eX,f]
 ·exact dm h b i r s e E (J (J (J (I ⟨f,d,k,l,n,u⟩))))
theorem Th(h:du K)(b:iI K x c g w t)(i:g[0]?=some a)(e:x.md.s=13∧x.md.d0=0∧x.j=K.H∧x.next=K.N∧H0 K (AtKd K x.tk) x.md.fu x.md.O a w):nf K c x t (runT K.P (crowd g w sl) 0):=by
 have⟨f,d,k,l,n⟩:=e;rcases n.cases with o|⟨y,p,j,m,e,_,q,r,s⟩
 ·refine pW (sl:=sl) h b i 12 x.md.r 1 (I X) o (λp u v=>J (J (J (J (J (J (J (J (I ⟨X,X,k,l,v⟩))))))))) ⟨E,E⟩ E (by rw[d];rfl) ?_ λu=>?_
  ·have:=b.cu.mode;rw[iX (s:=13) (r:=x.md.r) (n:=0) (d:=0) (O:=dU) f X]at this;exact this.reopen (tag':=.anch) trivial trivial rfl oi
  ·have z:=Yv x.j (dj K x);simp[eX,f];omega
 ·exact dm h b i q r e E (J (J (J (J (J (J (J (I ⟨f,d,k,l,s⟩))))))))
theorem Hf(h:du K)(f:iI K x c g w t)(l:g[0]?=some a)(r:x.md.s=12∨(x.md.s=11∧x.md.fu=b))(d:x.md.d0=1)(n:x.j=K.H)(o:x.next=K.N)(D:H0 K (AtW1 K x.tk) b x.md.O a w):nf K c x t (runT K.P (crowd g w sl) 0):=by
 have p:=f.cu.mode;have T:=Yv x.j (dj K x);have U:=h.cN
 have s:Go.ConcN.Mode x.j (dj K x) .w1 x.st x.sm:=by
  rcases r with e|⟨e,_⟩
  ·rw[iX (s:=12) (r:=x.md.r) (n:=0) (d:=0) (O:=dU) e X]at p;exact p.reopen (tag:=.anch) trivial trivial rfl oi
  ·rw[iX (s:=11) (r:=x.md.r) (n:=0) (d:=0) (O:=dU) e X]at p;exact p
 have y:8*Vc x.j (dj K x)+105<=eX K.H (Vc x.j (dj K x)) x.md:=by
  rcases r with e|⟨e,_⟩<;>simp[eX,e]
 rcases D.cases with F|⟨G,M,j,m,V,_,i,z,A⟩
 ·have⟨_,N⟩:=F;have⟨O,B,C,_⟩:=s.open_inv trivial;have P:=BD f (v:=Vc x.j (dj K x)) (by rw[B];simp[Go.ConcN.pend]) C;have⟨M,i,Q,R⟩:=N (Vc x.j (dj K x)) E P;by_cases q:Vc x.j (dj K x)=0
  ·have⟨u,v⟩:=Q q;refine gD (md':=⟨5,0,u,x.md.O,1⟩) (st':=x.st) (sm':=x.sm) h f l i (λ_ _=>rfl) X ⟨X,X,X⟩ f.cu.wg X (J (J (J (J (J (J (J (J (J (J (J (J (J (J (J (I ⟨X,X,n,o,v⟩)))))))))))))))) ⟨x7,x7⟩ (jm bk_rd).1 (by rw[d];rfl) (jm bk_rd).2 (λk=>absurd k oi) ?_ (I ?_)
   ·rw[B,C,q];show Go.ConcN.Mode x.j (dj K x) .ke _ _;have:=Go.ConcN.Mode.fin (tag:=.ke) (j:=x.j) (D:=dj K x) trivial (Go.ConcN.allQuit_of O q);simpa [Go.ConcN.pend]using this
   ·refine aj ?_ y;simp[eX]
  ·have⟨u,v⟩:=R q;refine gD (md':=⟨10,Vc x.j (dj K x),u,x.md.O,1⟩) (st':=x.st) (sm':=x.sm) h f l i (λ_ _=>rfl) X ⟨X,X,X⟩ f.cu.wg X (J (J (J (J (J (J (J (J (J (J (I ⟨X,X,n,o,v⟩))))))))))) ⟨x7,x7⟩ (jm bk_rd).1 (by rw[d];rfl) (jm bk_rd).2 (λk=>absurd k oi) (s.reopen (tag':=.w2 (Vc x.j (dj K x))) trivial trivial rfl (λW e=>by injection e with e;subst e;exact⟨aa _,E⟩)) (I ?_);refine aj ?_ y;simp[eX]
 ·rcases r with e|⟨e,Y⟩
  ·refine Fz (md':=⟨11,x.md.r,G,nY x.md.O w j,1⟩) h f l i z (λ_ S=>S) d.symm (J (J (J (J (J (J (J (J (J (I ⟨X,X,n,o,A⟩)))))))))) ⟨x7,x7⟩ (λk=>absurd k oi) s (I ?_);simp[eX,e]
  ·exact dm h f l i z E E (J (J (J (J (J (J (J (J (J (I ⟨e,d,n,o,A⟩))))))))))
theorem Tg(b:du K)(f:iI K x c g w t)(h:g[0]?=some a)(e:x.md.s=12∧x.md.d0=1∧x.j=K.H∧x.next=K.N∧H0 K (K.ye x.tk) x.md.fu x.md.O a w):nf K c x t (runT K.P (crowd g w sl) 0):=by
 have⟨i,d,k,l,n⟩:=e;rcases n.cases with o|⟨u,v,j,m,e,_,p,q,r⟩
 ·have⟨_,y,s⟩:=b.main.VO _ _ _ _ o;exact Hf b f h (I i) d k l s
 ·exact dm b f h p q e E (J (J (J (J (J (J (J (J (I ⟨i,d,k,l,r⟩)))))))))
end
end
section
open Go.Conc
open Go.ConcR (KK WgAt stA smA rd wr mk Payload DC0 Bk ofEvent_mk g_of_ofEvents)
open Go.ConcN (WgLive CTag WD RelBy sumTo upd upd_same upd_ne sumTo_congr sumTo_upd cnt Vc bk_rd bk_rw bk_sem)
section
variable {K:m8}{c:Loc->Prop}{x B:pI K.P}{j:Array Goroutine}{w m:World}{t:Trace}{q:Array Event}{a u:Goroutine}{r:Option (Nat×Nat)}{y:MD}{A z:Int}
theorem HG.An{c:Bool}{h:World->Prop}{w:World}(d:HG i c p h k b l f w):(∀j,dW p h l w j->k l f j)∨∃e g m q,b=e+1∧f.status=.running∧stepG i c f w=.go g m q∧yU p l w m q∧HG i c p h k e (nY l w m) g m:=by
 cases b with
 |zero=>exact I d
 |succ e=>
  rcases d with d|⟨o,h⟩
  ·exact I d
  ·have a:=h w (dW.refl w);cases n:stepG i c f w with
   |go g m q=>
    rw[n]at a;exact J ⟨e,g,m,q,X,o,X,a.1,a.2⟩
   |_=>rw[n]at a;exact a.elim
theorem Qn{j:Nat}{c:Nat->WD}{d b:Int}(g:Go.ConcN.Mode j c .w3 d b):(b=0∧Go.ConcN.Mode j c .blk d b)∨(Go.ConcN.AllQuit j c∧d=0∧b=1):=by
 cases g with
 |opn e _ _=>exact e.elim
 |reg _ a f=>exact I ⟨X,.reg trivial a f⟩
 |last L _ a f h=>exact I ⟨X,.last L trivial a f h⟩
 |sema a=>exact J ⟨a,X,X⟩
 |fin e _=>exact e.elim
theorem Tf(g:du K)(e:iI K x c j w t)(h:j[0]?=some a)(i:x.md.s=10∧x.md.d0=1∧x.j=K.H∧x.next=K.N∧H0 K (AtW2 K x.tk x.md.r) x.md.fu x.md.O a w):nf K c x t (runT K.P (crowd j w r) 0):=by
 have⟨b,d,k,l,z⟩:=i;have n:=e.cu.mode;have S:=Yv x.j (dj K x);have T:=g.cN;rw[iX (s:=10) (r:=x.md.r) (n:=0) (d:=0) (O:=dU) b X]at n;rcases z.cases with A|⟨U,u,m,q,i,_,f,B,C⟩
 ·have⟨_,D⟩:=A;have⟨F,G,M,N⟩:=n.open_inv (tag:=.w2 x.md.r) trivial;have⟨V,W⟩:=N x.md.r X;have v:=BD e (v:=Vc x.j (dj K x)) (by rw[G];simp[Go.ConcN.pend]) M;have⟨O,P⟩:=D (Vc x.j (dj K x)) E v;by_cases y:Vc x.j (dj K x)=x.md.r
  ·have⟨u,f,o,p⟩:=O y;have Q:WgAt K.ty K.Wg (w.setCell (stA K.Wg) (.int .u64 (Vc x.j (dj K x)*KK+1))) (((Vc x.j (dj K x):Nat):Int)*KK+1) 0:=v.setSt _;refine gD (md':=⟨9,x.md.r,o,x.md.O,1⟩) g e h f (λY R=>heap_set w _ _ R) (size_setCell ..) ⟨X,X,X⟩ Q X (J (J (J (J (J (J (J (J (J (J (J (I ⟨X,X,k,l,p⟩)))))))))))) ⟨by simp[b],by simp[b]⟩ (jm bk_rw).1 (by rw[d];rfl) (jm bk_rw).2 (λs=>absurd s oi) (.reg (tag:=.w3) trivial F E) (I ?_);simp[eX,b]
  ·have⟨u,f,o,p⟩:=P y;refine gD (md':=⟨12,0,o,x.md.O,1⟩) (st':=x.st) (sm':=x.sm) g e h f (λ_ _=>rfl) X ⟨X,X,X⟩ e.cu.wg X (J (J (J (J (J (J (J (J (I ⟨X,X,k,l,p⟩))))))))) ⟨by simp[b],by simp[b]⟩ (jm bk_rd).1 (by rw[d];rfl) (jm bk_rd).2 (λs=>absurd s oi) (n.reopen (tag':=.anch) trivial trivial rfl oi) (I ?_);simp[eX,b];omega
 ·exact dm g e h f B i E (J (J (J (J (J (J (J (J (J (J (I ⟨b,d,k,l,C⟩)))))))))))
theorem UZ(g:du K)(b:iI K x c j w t)(h:j[0]?=some a)(e:x.md.s=9∧x.md.d0=1∧x.j=K.H∧x.next=K.N∧H0 K (K2 K x.tk) x.md.fu x.md.O a w):nf K c x t (runT K.P (crowd j w r) 0):=by
 have⟨f,d,i,k,l⟩:=e;rcases l.cases with n|⟨z,o,m,q,e,_,p,s,u⟩
 ·refine pW (sl:=r) g b h 8 x.md.r 1 (J (J (J (I X)))) n (λo v y=>J (J (J (J (J (J (J (J (J (J (J (J (I ⟨X,X,i,k,y⟩))))))))))))) ⟨E,E⟩ E (by rw[d];rfl) ?_ λv=>?_
  ·have:=b.cu.mode;rw[iX (s:=9) (r:=x.md.r) (n:=0) (d:=0) (O:=dU) f X]at this;exact this
  ·simp[eX,f]
 ·exact dm g b h p s e E (J (J (J (J (J (J (J (J (J (J (J (I ⟨f,d,i,k,u⟩))))))))))))
theorem UY(h:du K)(e:iI K x c j w t)(i:j[0]?=some a)(k:x.md.s=8∧x.md.d0=1∧x.j=K.H∧x.next=K.N∧H0 K (AtW3 K x.tk) x.md.fu x.md.O a w):nf K c x t (runT K.P (crowd j w r) 0):=by
 have⟨b,d,l,n,y⟩:=k;have g:=e.cu.mode;have f:=e.cu.wg;rw[iX (s:=8) (r:=x.md.r) (n:=0) (d:=0) (O:=dU) b X]at g;have g:Go.ConcN.Mode x.j (dj K x) .w3 x.st x.sm:=g;rcases HG.An y with v|⟨R,z,m,q,k,_,o,A,B⟩
 ·have⟨_,S,C,D⟩:=v w (dW.refl w)
  have F:x.sm=0->Go.ConcN.Mode x.j (dj K x) .blk x.st x.sm->nf K c x t (runT K.P (crowd j w r) 0):=by
   intro G p;rw[G]at f;refine gD (md':=⟨7,0,0,x.md.O,1⟩) (st':=x.st) (sm':=x.sm) h e i (C ⟨_,f⟩) (λ_ _=>rfl) X ⟨X,X,X⟩ e.cu.wg X (J (J (J (J (J (J (J (J (J (J (J (J (J (I ⟨X,X,l,n,a,X,v⟩)))))))))))))) ⟨by simp[b],by simp[b]⟩ oi (by rw[d];rfl) oi (λs=>absurd s oi) p (J ⟨by simp[eX,b],X,E⟩)
  rcases Qn g with⟨M,u⟩|⟨u,N,O⟩
  ·exact F M u
  ·rw[N,O]at f;have⟨z,o,P,Q⟩:=D f;refine gD (md':=⟨6,0,P,x.md.O,1⟩) (st':=0) (sm':=0) h e i o (λT p=>heap_set w _ _ p) (size_setCell ..) ⟨X,X,X⟩ (f.setSm 0) X (J (J (J (J (J (J (J (J (J (J (J (J (J (J (I ⟨X,X,l,n,Q⟩))))))))))))))) ⟨by simp[b],by simp[b]⟩ (jm bk_sem).1 (by rw[d];simp[deafBehind,semEvents]) (jm bk_sem).2 (λs=>absurd s oi) (.fin (tag:=.w4) trivial u) (I ?_);simp[eX,b]
 ·exact dm h e i o A k E (J (J (J (J (J (J (J (J (J (J (J (J (I ⟨b,d,l,n,B⟩)))))))))))))
theorem UX(i:du K)(e:iI K x c j w t)(k:j[0]?=some a)(f:x.md.s=6∧x.md.d0=1∧x.j=K.H∧x.next=K.N∧H0 K (AtW4 K x.tk) x.md.fu x.md.O a w):nf K c x t (runT K.P (crowd j w r) 0):=by
 have⟨b,d,l,n,p⟩:=f;have o:=e.cu.mode;have g:=e.cu.wg;rw[iX (s:=6) (r:=x.md.r) (n:=0) (d:=0) (O:=dU) b X]at o;rcases p.cases with⟨_,s⟩|⟨G,u,m,q,f,_,h,v,y⟩
 ·have⟨z,A,B⟩:=o.fin_inv (tag:=.w4) trivial;rw[A,B]at g;have⟨u,h,C,D⟩:=s g;refine gD (md':=⟨5,0,C,x.md.O,1⟩) i e k h (λ_ _=>rfl) X ⟨X,X,X⟩ g X (J (J (J (J (J (J (J (J (J (J (J (J (J (J (J (I ⟨X,X,l,n,D⟩)))))))))))))))) ⟨by simp[b],by simp[b]⟩ (jm bk_rd).1 (by rw[d];rfl) (jm bk_rd).2 (λF=>absurd F oi) (.fin (tag:=.ke) trivial z) (I ?_);simp[eX,b]
 ·exact dm i e k h v f E (J (J (J (J (J (J (J (J (J (J (J (J (J (J (I ⟨b,d,l,n,y⟩)))))))))))))))
theorem UW(g:du K)(b:iI K x c j w t)(h:j[0]?=some a)(e:x.md.s=5∧x.md.d0=1∧x.j=K.H∧x.next=K.N∧H0 K (AtKe K x.tk) x.md.fu x.md.O a w):nf K c x t (runT K.P (crowd j w r) 0):=by
 have⟨f,d,i,k,n⟩:=e;have l:=b.cu.mode;rw[iX (s:=5) (r:=x.md.r) (n:=0) (d:=0) (O:=dU) f X]at l;rcases n.cases with o|⟨D,p,m,q,e,_,s,u,v⟩
 ·have⟨y,z,A⟩:=l.fin_inv (tag:=.ke) trivial;refine pW (sl:=r) g b h 4 x.md.r 0 (J (I X)) o (λp B C=>J (J (J (J (J (J (J (J (J (J (J (J (J (J (J (J (I ⟨X,X,i,k,C⟩))))))))))))))))) ⟨E,E⟩ E (by rw[d];rfl) ?_ λB=>?_
  ·rw[z,A];exact .fin (tag:=.acq) trivial y
  ·simp[eX,f]
 ·exact dm g b h s u e E (J (J (J (J (J (J (J (J (J (J (J (J (J (J (J (I ⟨f,d,i,k,v⟩))))))))))))))))
theorem UU(l:du K)(b:iI K x c j w t)(n:j[0]?=some a)(h:x.md.s=4∧x.md.d0=0∧x.j=K.H∧x.next=K.N∧H0 K (AtAcq K x.tk) x.md.fu x.md.O a w):nf K c x t (runT K.P (crowd j w r) 0):=by
 have⟨f,d,o,p,B⟩:=h;have s:=b.cu.mode;rw[iX (s:=4) (r:=x.md.r) (n:=0) (d:=0) (O:=dU) f X]at s;rcases B.cases with C|⟨T,D,m,q,h,_,i,F,G⟩
 ·have⟨_,D,i,M,N⟩:=C;have⟨u,O,P⟩:=s.fin_inv (tag:=.acq) trivial;have v:=b.cu.wg;rw[O,P]at v;have y:=Mu (K:=K) (m:=.acquire (stA K.Wg)) (J (J (J (J X))));refine gD (md':=⟨3,0,M,x.md.O,0⟩) l b n i (λ_ _=>rfl) X ⟨X,X,X⟩ v X (J (J (J (J (J (J (J (J (J (J (J (J (J (J (J (J (J (I ⟨X,X,o,p,N⟩)))))))))))))))))) ⟨by simp[f],by simp[f]⟩ y.1 (by rw[d];rfl) y.2 (λ_=>J ?_) (.fin (tag:=.ret) trivial u) (I (by simp[eX,f]));have k:MemOp.ofEvents 0 a.frame.fn a.frame.place #[mk (.acquire (stA K.Wg))]= #[{ g:=0,fn:=a.frame.fn,pos:=a.frame.place,act:=.mark (.acquire (stA K.Wg))}]:=by rw[ofEvents_eq];simp[ofEvent_mk]
  have Q:(t ++ #[({ g:=0,fn:=a.frame.fn,pos:=a.frame.place,act:=.mark (.acquire (stA K.Wg))}:MemOp)])[t.size]?=some { g:=0,fn:=a.frame.fn,pos:=a.frame.place,act:=.mark (.acquire (stA K.Wg))}:=oi;refine⟨t.size,by rw[k,act?_of Q],by rw[k];simp[Trace.g?],by rw[k];exact⟨0,by simp[Trace.g?],by rw[deaf_old (aa _)];exact b.iG.deaf0.trans d⟩,λe z=>?_⟩
  have R:(x.hs e).st<=6:=by
   have:=u e z;have U:(dj K x e).stage=if 14<=(x.hs e).st then 7 else(x.hs e).st:=rfl
   grind
  have⟨S,A⟩:=b.iG.rel e z R;exact⟨S,A,lt_of_act? A.rel.act⟩
 ·exact dm l b n i F h E (J (J (J (J (J (J (J (J (J (J (J (J (J (J (J (J (I ⟨f,d,o,p,G⟩)))))))))))))))))
end
end
section
open Go.Conc
open Go.ConcR (KK WgAt stA smA rd wr mk Payload DC0 Bk)
open Go.ConcN (WgLive CTag WD RelBy sumTo upd upd_same upd_ne sumTo_congr sumTo_upd cnt Vc)
section
variable {K:m8}{g:Loc->Prop}{x x':pI K.P}{q:Array Goroutine}{w r:World}{t:Trace}{z:Array Event}{a y:Goroutine}{u:Option (Nat×Nat)}{A:MD}{C B:Int}{j next:Nat}{tk:Nat->Option Value}{m:MD}
theorem V0(b:m.s=13)(c:m.d0=0)(d:j=K.H)(e:next=K.N)(f:H0 K (AtKd K tk) m.fu m.O a w):ku K j next tk m a w:=J (J (J (J (J (J (J (I ⟨b,c,d,e,f⟩)))))))
theorem V4(b:m.s=2)(c:m.d0=0)(d:j=K.H)(e:next=K.N)(f:H0 K (qJ K tk) m.fu m.O a w):ku K j next tk m a w:=J (J (J (J (J (J (J (J (J (J (J (J (J (J (J (J (J (J (I ⟨b,c,d,e,f⟩))))))))))))))))))
theorem Wv(b:m.s=1)(c:m.d0=0)(d:j=K.H)(e:next=K.N)(f:H0 K (K.Fin tk) m.fu m.O a w):ku K j next tk m a w:=J (J (J (J (J (J (J (J (J (J (J (J (J (J (J (J (J (J (J ⟨b,c,d,e,f⟩))))))))))))))))))
theorem l9:∀a,a∈MemOp.ofEvents e n o (ui b)->∀y,a.act.touch?=some y->oL y.loc=some b∧y.kind≠.plain:=by
 intro a f y c;obtain⟨g,d,rfl⟩:=XP f;simp only[ui,aF,az,aD,bP]at d;rcases d with rfl|rfl
 ·have a:(MemAct.ofEvent ⟨.obj b,false,true⟩).touch?=some ⟨.obj b,false,.atomic⟩:=rfl;rw[a]at c;cases c;exact⟨X,oi⟩
 ·cases c
theorem uh(b d:Nat):deafBehind d (ui b)=d:=YL (λc a=>by
 simp only[ui,aF,az,aD,bP]at a;rcases a with rfl|rfl<;>simp) d
theorem Cd(c:Nat)(a:Addr):∀b∈ui c,b.loc≠.mark (.release a):=by
 intro b c;simp only[ui,aF,az,aD,bP]at c;grind
theorem GK(d:du K)(f:iI K x g q w t)(h:nW K b)(i:∀a,a≠b->r.heap[a]?=w.heap[a]?){c:Value}(j:∀a,K.Mv c a->x.Dn a)(k:K.GM e c w):K.GM e c r:=
 d.hand.gm _ _ _ _ (λa c=>i a λl=>(f.mem.pS a (j a c)).1 (l▸h)) k
theorem UT(e:du K)(b:iI K x g q w t)(M:q[0]?=some a)(v:x.md.s=3∧x.md.d0=0∧x.j=K.H∧x.next=K.N∧H0 K (BP K x.tk) x.md.fu x.md.O a w):nf K g x t (runT K.P (crowd q w u) 0):=by
 have⟨c,d,N,O,W⟩:=v;rcases W.cases with A|⟨m,Y,r,z,v,_,B,Z,ab⟩
 ·have⟨_,ad⟩:=A;have P:=b.cu.EI;rw[aq E]at P;have⟨Y,B,n,hg⟩:=ad _ _ _ _ _ P;have⟨n1,Q⟩:=b.cu.FG;have⟨l1,l2,l3,R⟩:=b.cu.C4;have h:∀f,f≠K.cB->(w.setChan K.cB K.N x.buf true x.sB x.rB x.rE).heap[f]?=w.heap[f]?:=λf i=>jU w i
  have S:(w.setChan K.cB K.N x.buf true x.sB x.rB x.rE).heap.size=w.heap.size:=jW w;have eW:=h _ λc=>Q (I c.symm)
  have eT:=h _ λc=>Q (J c.symm)
  have eO:=h _ e.ob;have o:nW K K.cB:=J (J (J X));have T:=eW.trans b.cu.wg
  have ao:iC K { x with md:=⟨2,0,n,x.md.O,0⟩} (w.setChan K.cB K.N x.buf true x.sB x.rB x.rE):=by
   refine⟨T,?_,?_,fa w R,?_,b.cu.nN,λ_=>b.cu.uO E,λy j=>?_,λC D hv=>?_,b.cu.hold,b.cu.two,b.cu.cover,b.cu.room,b.cu.ca,b.cu.cl,λF=>absurd F oi,λF=>absurd F oi⟩
   ·have:=b.cu.mode;rw[iX (s:=3) (r:=x.md.r) (n:=0) (d:=0) (O:=dU) c X]at this;exact this
   ·rw[eO];have:=b.cu.yZ;grind
   ·exact eT.trans b.cu.xQ
   ·have⟨C,D,b1,b2,G,k⟩:=b.cu.buf y j;exact⟨C,D,b1,b2,GK e b o h k G,k⟩
   ·have⟨G,k⟩:=b.cu.tk C D hv;exact⟨GK e b o h k G,k⟩
  have U:=X9 (P:=K.P) (sl:=u) (i:=0) M (by simpa using B);refine⟨_,_,u,{ x with md:=⟨2,0,n,x.md.O,0⟩},by rw[U],?_,?_⟩
  ·rw[U]
   refine nL (x':={ x with md:=⟨2,0,n,x.md.O,0⟩}) e.hand e.c1 e.c2 b X X X (by rw[S];exact aa _) ⟨X,X,X⟩ (λf _ _ A=>h f λc=>A (c▸o)) ⟨_,_,T⟩ (λ_ i=>I i) (V4 X X N O hg) (λl hk ar V=>?_) (λ_ _=>⟨X,X,id⟩)
    (λp s y j=>?_) (λp s y j f i=>by rw[(l9 p s y j).1]at i;cases i;rw[S];exact R) (by rw[d];exact uh _ _) (Cd _ _) (λ_=>I E) ao
   ·rw[V.xV (s:=0) (r:=0) (tm:=false) (J (b.cu.uO E l hk))];exact V
   ·exact I ⟨⟨_,(l9 p s y j).1,o⟩,(l9 p s y j).2⟩
  ·refine Prod.Lex.left _ _ ?_;simp[eX,c]
 ·exact dm e b M B Z v E (J (J (J (J (J (J (J (J (J (J (J (J (J (J (J (J (J (I ⟨c,d,N,O,ab⟩))))))))))))))))))
theorem pQ(n:du K)(e:iI K x g q w t){s:Trace}(u:x'.j=x.j)(B:x'.q=x.q)(o:x'.hs=x.hs)(C:x'.Dn=x.Dn)(v:r.heap.size=w.heap.size)(D:r.tape=w.tape∧r.os=w.os∧r.output=w.output)(p:∀b,b≠K.cO->b≠K.cB->r.heap[b]?=w.heap[b]?)(F:ku K x.j x'.next x'.tk x'.md f r)(y:x'.md.O=x.md.O)(G:x'.md.d0=x.md.d0)(M:x'.md.s<=3->x.md.s<=3)(N:∀l,l∈s->l.act.touch?=none∧(∀m,l.act≠.mark m)∧l.act.low w.heap.size)(O:iC K x' r):iI K x' g (q.setIfInBounds 0 f) r (t++s):=by
 have U:=e.iy.one;have P:=p _ (λh=>e.cu.FG.1 (I h.symm)) (λh=>e.cu.FG.2 (I h.symm));have Q:0<q.size:=by rw[e.iy.size];omega
 refine pR e u B v D p oi (λV W Y=>fg q _ E) (λi j=>?_) (λi j=>by rw[o];exact⟨λ_ d=>d,X,id⟩) ⟨f,aJ Q,F⟩ (λb d=>by rw[<-y];exact d) G M (λb d=>?_) N O
 ·have⟨R,S,T⟩:=e.iy.hand i j;refine⟨R,by rw[fg q _ E];exact S,?_⟩;rw[o];refine T.rely n.hand n.c1 n.c2 ⟨λb d=>?_,λ⟨a,b,c⟩=>⟨a,b,P.trans c⟩,by rw[v];exact aa _⟩
  have z:¬nW K b:=by
   rcases d with d|d
   ·exact(e.mem.Bb b d).1
   ·exact(e.mem.ld (K.nb+i) b (J ⟨i,j,X,d⟩)).1
  exact p b (λh=>z (J (J (I h)))) (λh=>z (J (J (J h))))
 ·rw[C]at d;refine⟨(e.mem.pS b d).1,(e.mem.pS b d).2,λA k=>?_⟩
  have:gv K x A b:=by
   rcases k with⟨h,k⟩|⟨i,j,h,k⟩
   ·exact I ⟨h,by rw[<-y];exact k⟩
   ·rw[o]at k;rw[u]at j;exact J ⟨i,j,h,k⟩
  exact(e.mem.ld A b this).2 d
theorem US(i:du K)(h:iI K x g q w t)(D:q[0]?=some a)(F:x.md.s=2∧x.md.d0=0∧x.j=K.H∧x.next=K.N∧H0 K (qJ K x.tk) x.md.fu x.md.O a w):nf K g x t (runT K.P (crowd q w u) 0):=by
 have⟨e,d,G,I,Z⟩:=F;rcases HG.An Z with R|⟨m,g',r,z,F,_,ab,hS,ad⟩
 ·obtain⟨o,p,rfl,M,hG⟩:=R w (dW.refl w);have S:=i.main.Wz x.md.O o p w M;have s:=h.cu.EI;rw[aU E]at s;have⟨l1,l2,l3,N⟩:=h.cu.C4;have T:partners (q.setIfInBounds 0 ph) K.cB true=[]:=YQ λj a5 hz=>oB i.main h (J X) hz (J (J X))
  by_cases O:0<x.buf.size
  ·have n:=crowd_recv_buf (P:=K.P) (sl:=u) (i:=0) D (by simpa using S) s O T;have v:∀c,c≠K.cB->(w.setChan K.cB K.N (x.buf.extract 1 x.buf.size) true x.sB (x.rB+1) x.rE).heap[c]?=w.heap[c]?:=λc f=>jU w f
   have U:(w.setChan K.cB K.N (x.buf.extract 1 x.buf.size) true x.sB (x.rB+1) x.rE).heap.size=w.heap.size:=jW w;have⟨ao,ar,av⟩:=Ab h (λc _ f=>v c f) U;have⟨ax,a0,V,a6,a1⟩:=R _ av;have e1:=cF Goroutine.frame V;have e2:=cF Goroutine.callers V;subst e1;subst e2
   have a2:∀A,A.s=2->mG A=mG x.md:=λA e'=>by
    rw[iX (s:=2) (r:=A.r) (n:=0) (d:=0) (O:=dU) e' X,iX (m:=x.md) (s:=2) (r:=x.md.r) (n:=0) (d:=0) (O:=dU) e X];rfl
   have W:(w.setChan K.cB K.N (x.buf.extract 1 x.buf.size) true x.sB (x.rB+1) x.rE).heap[K.cB]?=some (.chan K.N (x.buf.extract 1 x.buf.size) (decide (x.md.s<3)) x.sB (x.rB+1) x.rE):=by
    rw[aU E];exact fa w N
   have⟨B,C,Y,hi,hq⟩:=ss (m':=x.md) i h.cu (λc f=>(h.mem.pS c f).1) O X id id dt dt v W;have⟨k,P⟩:=i.main.got x.tk x.md.O o p _ B C M hi ⟨_,(hq.tk B C (ai X)).1⟩ a1 ao ar;have⟨i',v',a3,a7,Q⟩:=ss (m':=⟨2,0,k,x.md.O,0⟩) i h.cu (λc f=>(h.mem.pS c f).1) O (a2 _ X) oi oi (by simp[e]) (by simp[e]) v W;obtain⟨rfl,rfl⟩:=i.hand.Vz _ _ _ _ (Y.symm.trans a3);refine⟨_,_,u,{ x with md:=⟨2,0,k,x.md.O,0⟩,buf:=x.buf.extract 1 x.buf.size,nt:=x.nt+1,tk:=λy=>if y=B then some C else x.tk y,rB:=x.rB+1 },by rw[n],?_,?_⟩
   ·rw[n];refine pQ (x':={ x with md:=⟨2,0,k,x.md.O,0⟩,buf:=x.buf.extract 1 x.buf.size,nt:=x.nt+1,tk:=λy=>if y=B then some C else x.tk y,rB:=x.rB+1 }) i h X X X X U ⟨X,X,X⟩ (λc _ f=>v c f) (V4 X X G I ?_) X d.symm (λ_=>E) (λop b=>?_) Q
    ·rw[Y];exact P
    ·rcases cn.1 b with b|b
     ·simp[MemOp.ofEvents]at b
     ·simp only[aF,az,aD,bP]at b;rcases b with rfl|rfl<;>exact⟨X,λm=>oi,N⟩
   ·refine Prod.Lex.left _ _ ?_;have a8:=h.cu.room;have a9:=h.cu.nN;show 100*(K.N-x.next)+10*(K.N-(x.nt+1))+sumTo K.nb x.q+sumTo x.j (λl=>(x.hs l).st)+eX K.H (Vc x.j (dj K x)) ⟨2,0,k,x.md.O,0⟩<100*(K.N-x.next)+10*(K.N-x.nt)+sumTo K.nb x.q+sumTo x.j (λl=>(x.hs l).st)+eX K.H (Vc x.j (dj K x)) x.md;have r1:eX K.H (Vc x.j (dj K x)) ⟨2,0,k,x.md.O,0⟩=95:=XG;have r2:eX K.H (Vc x.j (dj K x)) x.md=95:=by simp[eX,e]
    omega
  ·have f:x.buf= #[]:=oH E;rw[f]at s;have n:=crowd_recv_closed (P:=K.P) (sl:=u) (i:=0) D (by simpa using S) s T;have⟨k,P⟩:=i.main.over x.tk x.md.O o p w M hG h.cu.lv h.mem.Ek
   have Q:iC K { x with md:=⟨1,0,k,x.md.O,0⟩} w:=by
    refine h.cu.Cf (x':={ x with md:=⟨1,0,k,x.md.O,0⟩}) i.hand X ⟨X,X,X,X,X,X,X⟩ ⟨X,X,X,X,X,X⟩ (λ_ _=>⟨dt,dt,dt,id,λ_=>rfl⟩) ⟨by simp[e],by simp[e]⟩ h.cu.wg ?_ X X X (λ_ _=>rfl) (λ_ _ _ a4=>a4) (λ_=>f);have:=h.cu.mode;rw[iX (s:=2) (r:=x.md.r) (n:=0) (d:=0) (O:=dU) e X]at this;exact this
   refine⟨_,_,u,{ x with md:=⟨1,0,k,x.md.O,0⟩},by rw[n],?_,?_⟩
   ·rw[n];refine pQ (x':={ x with md:=⟨1,0,k,x.md.O,0⟩}) i h X X X X X ⟨X,X,X⟩ (λ_ _ _=>rfl) (Wv X X G I P) X d.symm (λ_=>E) (λop b=>?_) Q;rcases cn.1 b with b|b
    ·simp[MemOp.ofEvents]at b
    ·simp only[aF,az,aD,bP]at b;subst b;exact⟨X,λm=>oi,N⟩
   ·refine Prod.Lex.left _ _ ?_;simp[eX,e]
 ·exact dm i h D ab hS F E (V4 e d G I ad)
end
theorem Ik{f g:Nat->Nat}:∀ {j:Nat},(∀a,a<j->f a<=g a+1)->sumTo j f<=sumTo j g+j
 |0,_=>by simp[sumTo]
 |j+1,b=>by
  have:=Ik (f:=f) (g:=g) (j:=j) λa c=>b a E
  have:=b j E;simp only[sumTo];omega
section
variable {K:m8}{c:Loc->Prop}{x u:pI K.P}{g:Array Goroutine}{w r:World}{t:Trace}{q:Array Event}{a m:Goroutine}{j:Option (Nat×Nat)}
def qV(d:HD i):HD i:=if d.st=20 then { d with st:=21,fu:=0 }else d
theorem fz(d:HD i):(46<=(qV d).st↔46<=d.st)∧(47<=(qV d).st↔47<=d.st)∧(48<=(qV d).st↔48<=d.st)∧(qV d).st≠20∧(qV d).i=d.i∧(qV d).O=d.O∧(qV d).dd=d.dd∧((qV d).st<=6->d.st<=6)∧(14<=(qV d).st↔14<=d.st)∧(qV d).st<=d.st+1∧(¬14<=d.st->(qV d).st=d.st):=by
 unfold qV;grind
theorem Fy(q:du K)(f:iI K x c g w t)(W:g[0]?=some a)(k:x.md.s=15)(d:x.md.d0=0)(Y:x.j=K.H)(Z:x.next=K.N)(hs:KY K x.tk x.md.O a w):nf K c x t (runT K.P (crowd g w j) 0):=by
 have⟨_,ab,ad⟩:=hs;have O:=f.cu.yZ;rw[aq E]at O;have⟨g',ao,ar,o,hg⟩:=ad _ _ _ O;have⟨P,n2⟩:=f.cu.FG;have⟨l1,l2,Q,l4⟩:=f.cu.C4;have r:∀p,p≠K.cO->(w.setChan K.cO 0 #[] true x.sO x.rO x.uS).heap[p]?=w.heap[p]?:=λp s=>jU w s
 have R:(w.setChan K.cO 0 #[] true x.sO x.rO x.uS).heap.size=w.heap.size:=jW w;have eW:=r _ λk=>P (I k.symm)
 have eT:=r _ λk=>P (J k.symm)
 have eB:=r _ λk=>q.ob k.symm
 have A:nW K K.cO:=J (J (I X));have S:(w.setChan K.cO 0 #[] true x.sO x.rO x.uS).heap[K.cO]?=some (.chan 0 #[] true x.sO x.rO x.uS):=fa w Q;have T:=eW.trans f.cu.wg
 have av:∀b,(dj K { x with md:=⟨13,0,o,x.md.O,0⟩,hs:=λb=>qV (x.hs b)} b).stage=(dj K x b).stage:=λb=>by
  show(if 14<=(qV (x.hs b)).st then 7 else(qV (x.hs b)).st)=if 14<=(x.hs b).st then 7 else(x.hs b).st
  have⟨_,_,_,_,_,_,_,_,q1,_,q2⟩:=fz (x.hs b);grind
 have ax:iC K { x with md:=⟨13,0,o,x.md.O,0⟩,hs:=λb=>qV (x.hs b)} (w.setChan K.cO 0 #[] true x.sO x.rO x.uS):=by
  refine⟨T,?_,S,?_,eT.trans f.cu.xQ,f.cu.nN,λ_ b _=>(fz (x.hs b)).2.2.2.1,λy u=>?_,λi l hv=>?_,λb h e=>?_,λb B h a0 e c' C=>?_,λi v=>?_,?_,λi v=>?_,λi v=>?_,λe=>absurd e oi,λe=>absurd e oi⟩
  ·have:=f.cu.mode;rw[iX (s:=15) (r:=x.md.r) (n:=0) (d:=0) (O:=dU) k X]at this;exact Yj (λb _=>av b) this
  ·rw[eB];have:=f.cu.EI;rw[aq E]at this;exact this
  ·have⟨i,l,m,n,G,z⟩:=f.cu.buf y u;exact⟨i,l,m,n,GK q f A r z G,z⟩
  ·have⟨G,z⟩:=f.cu.tk i l hv;exact⟨GK q f A r z G,z⟩
  ·show(qV (x.hs b)).i<x.next;rw[(fz (x.hs b)).2.2.2.2.1];exact f.cu.hold b h ((fz (x.hs b)).1.1 e)
  ·have C:(qV (x.hs b)).i=(qV (x.hs B)).i:=C;rw[(fz (x.hs b)).2.2.2.2.1,(fz (x.hs B)).2.2.2.2.1]at C;exact f.cu.two b B h a0 ((fz (x.hs b)).1.1 e) ((fz (x.hs B)).1.1 c') C
  ·rcases f.cu.cover i v with e|e|⟨b,h,c1,c2⟩
   ·exact I e
   ·grind
   ·exact J (J ⟨b,h,(fz (x.hs b)).1.2 c1,(fz (x.hs b)).2.2.2.2.1.trans c2⟩)
  ·refine Eq.trans ?_ f.cu.room
   congr 2
   refine Yd λb _=>?_
   show(if 46<=(qV (x.hs b)).st then 1 else 0)=if 46<=(x.hs b).st then 1 else 0
   by_cases e:46<=(x.hs b).st
   ·rw[ai e,ai ((fz (x.hs b)).1.2 e)]
   ·rw[af e,af λU=>e ((fz (x.hs b)).1.1 U)]
  ·refine(f.cu.ca i v).trans ⟨λ⟨m,n⟩=>⟨m,λb h e=>?_⟩,λ⟨m,n⟩=>⟨m,λb h e=>?_⟩⟩
   ·show(qV (x.hs b)).i≠i;rw[(fz (x.hs b)).2.2.2.2.1];exact n b h ((fz (x.hs b)).2.2.1.1 e)
   ·have:=n b h ((fz (x.hs b)).2.2.1.2 e);have this:(qV (x.hs b)).i≠i:=this;rw[(fz (x.hs b)).2.2.2.2.1]at this;exact this
  ·refine(f.cu.cl i v).trans ⟨λ⟨M,m,n⟩=>⟨M,m,λb h e=>?_⟩,λ⟨M,m,n⟩=>⟨M,m,λb h e=>?_⟩⟩
   ·show(qV (x.hs b)).i≠i;rw[(fz (x.hs b)).2.2.2.2.1];exact n b h ((fz (x.hs b)).2.1.1 e)
   ·have:=n b h ((fz (x.hs b)).2.1.2 e);have this:(qV (x.hs b)).i≠i:=this;rw[(fz (x.hs b)).2.2.2.2.1]at this;exact this
 have V:=X9 (P:=K.P) (sl:=j) (i:=0) W (by simpa using ao);refine⟨_,_,j,{ x with md:=⟨13,0,o,x.md.O,0⟩,hs:=λb=>qV (x.hs b)},by rw[V],?_,?_⟩
 ·rw[V]
  refine nL (x':={ x with md:=⟨13,0,o,x.md.O,0⟩,hs:=λb=>qV (x.hs b)}) q.hand q.c1 q.c2 f X X X (by rw[R];exact aa _) ⟨X,X,X⟩ (λp _ _ hs=>r p λk=>hs (k▸A)) ⟨_,_,T⟩ (λ_ s=>I s) (V0 X X Y Z hg) (λb h U N=>?_)
   (λb _=>⟨(fz (x.hs b)).2.2.2.2.2.1,(fz (x.hs b)).2.2.2.2.2.2.1,(fz (x.hs b)).2.2.2.2.2.2.2.1⟩) (λD F y u=>?_) (λD F y u p s=>by rw[(l9 D F y u).1]at s;cases s;rw[R];exact Q) (by rw[d];exact uh _ _) (Cd _ _) (λe=>absurd e oi) ax
  ·show je K (qV (x.hs b)) _ _;unfold qV;by_cases e:(x.hs b).st=20
   ·rw[ai e];exact N.Vd e S ab ar
   ·rw[af e,N.xV (s:=0) (r:=0) (tm:=false) (J e)];exact N
  ·exact I ⟨⟨_,(l9 D F y u).1,A⟩,(l9 D F y u).2⟩
 ·refine Prod.Lex.left _ _ ?_;have e1:sumTo x.j (λb=>(qV (x.hs b)).st)<=sumTo x.j (λb=>(x.hs b).st)+x.j:=Ik λb _=>(fz (x.hs b)).2.2.2.2.2.2.2.2.2.1
  show 100*(K.N-x.next)+10*(K.N-x.nt)+sumTo K.nb x.q+sumTo x.j (λb=>(qV (x.hs b)).st)+eX K.H (Vc x.j (dj K { x with md:=⟨13,0,o,x.md.O,0⟩,hs:=λb=>qV (x.hs b)})) ⟨13,0,o,x.md.O,0⟩<100*(K.N-x.next)+10*(K.N-x.nt)+sumTo K.nb x.q+sumTo x.j (λb=>(x.hs b).st)+eX K.H (Vc x.j (dj K x)) x.md;have r1:∀l,eX K.H l ⟨13,0,o,x.md.O,0⟩=8*K.H+107:=λl=>XG
  have r2:∀l,eX K.H l x.md=9*K.H+152:=λl=>by simp[eX,k]
  rw[r1,r2];omega
end
section
variable {K:m8}{g:Loc->Prop}{x u:pI K.P}{c:Array Goroutine}{w q:World}{t:Trace}{j:Array Event}{a r:Goroutine}{m:Option (Nat×Nat)}
theorem C5(r:du K)(e:iI K x g c w t)(ha:c[0]?=some a)(u:x.md.s=15)(d0:x.md.d0=0)(hj:x.j=K.H)(B:x.next<K.N)(a0:∀w1,dW K.rd (gz K) x.md.O w w1->yM K x.next x.tk x.md.O a w1):nf K g x t (runT K.P (crowd c w m) 0):=by
 obtain⟨Q,R,rfl,S,hG⟩:=a0 w (dW.refl w);have bz:=e.iy.one;have a4:=r.main.WA x.next x.md.O Q R w S;have ad:=e.cu.yZ;rw[aq E]at ad;have ao:=e.cu.EI;rw[aq E]at ao;have⟨l1,l2,l3,l4⟩:=e.cu.C4
 have ar:∀q,dW K.rd (gz K) x.md.O w q->K.vE x.tk x.md.O q:=λq hr=>by
  have⟨bA,bB,ef,_,a5⟩:=a0 q hr;exact a5
 have a6:∀j b,(j,b)∈partners (c.setIfInBounds 0 ph) K.cO false->b=0∧j≠0∧∃T D U,c[j]?=some (parked T #[rcase K.cO D] U):=by
  intro j b a7;have⟨a8,F,l⟩:=mem_partners.1 a7;rcases getElem?_stand c 0 j a8 F with⟨rfl,rfl⟩|⟨a9,F⟩
  ·rw[offersAt_ph]at l;cases l
  ·rcases Uu e F with⟨rfl,_⟩|⟨_,_,M⟩|⟨s,hl,rfl,hs⟩
   ·exact absurd X a9
   ·rw[vh M.status]at l;cases l
   ·by_cases v:(x.hs s).st=20
    ·obtain⟨_,_,V,W,rfl,_⟩:=hs.parked v;rw[Yy,ai X]at l;grind
    ·rw[De hs (I v)]at l;cases l
 have ba:partners (c.setIfInBounds 0 ph) K.cB true=[]:=YQ λj a1 C=>oB r.main e (J X) C (J (J X))
 have bb:0<c.size:=by rw[e.iy.size];omega
 have r2:∀n,eX K.H n x.md=9*K.H+152:=λn=>by simp[eX,u]
 have a2:=EW (P:=K.P) (sl:=m) (i:=0) ha (by simpa using a4) ad ao a6 ba;generalize runT K.P (crowd c w m) 0=bE at a2;rcases a2 with⟨av,bc,rfl⟩|⟨j,T,D,U,d,bd,Y,rfl⟩|⟨d,av,rfl⟩
 ·
  have bg:∀b,b<x.j->(x.hs b).st≠20:=by
   intro b l v;have⟨a1,C,hs⟩:=e.iy.hand b l;obtain⟨_,_,V,W,rfl,_⟩:=hs.parked v;have hm:(K.nb+b,0)∈partners (c.setIfInBounds 0 ph) K.cO false:=mem_partners.2 ⟨_,by rw[fg c _ E];exact C,by rw[Yy,ai X];simp⟩;rw[bc]at hm;cases hm
  have o:=e.cu
  have N:iC K { x with md:=⟨14,0,0,x.md.O,0⟩} w:=by
   refine⟨o.wg,?_,?_,?_,o.xQ,o.nN,λ_=>bg,o.buf,o.tk,o.hold,o.two,o.cover,o.room,o.ca,o.cl,λz=>absurd z oi,λ_=>o.busy E⟩
   ·have:=o.mode;rw[iX (s:=15) (r:=x.md.r) (n:=0) (d:=0) (O:=dU) u X]at this;exact this
   ·exact ad
   ·exact ao
  refine⟨_,_,m,{ x with md:=⟨14,0,0,x.md.O,0⟩},X,?_,?_⟩
  ·exact pQ (x':={ x with md:=⟨14,0,0,x.md.O,0⟩}) r e X X X X X ⟨X,X,X⟩ (λ_ _ _=>rfl) (J (J (J (J (J (J (I ⟨X,X,hj,B,Q,R,X,S,ar⟩))))))) X d0.symm (λz=>absurd z oi) (λop k=>by simp[MemOp.ofEvents]at k) N
  ·refine Prod.Lex.left _ _ ?_;rw[r2];simp[eX]
 ·
  have P:((w.at d).setChan K.cO 0 #[] false (x.sO+1) (x.rO+1) x.uS).heap.size=w.heap.size:=jW (w.at d);have A:∀f,f≠K.cO->((w.at d).setChan K.cO 0 #[] false (x.sO+1) (x.rO+1) x.uS).heap[f]?=w.heap[f]?:=λf h=>jU (w.at d) h
  have bk:((w.at d).setChan K.cO 0 #[] false (x.sO+1) (x.rO+1) x.uS).heap[K.cO]?=some (.chan 0 #[] false (x.sO+1) (x.rO+1) x.uS):=fa (w.at d) l3;have⟨Z,ab,ax⟩:=Ab e (λf h _=>A f h) P
  obtain⟨b,l,rfl,v⟩:∃b,b<x.j∧j=K.nb+b∧(x.hs b).st=20:=by
   have bM:(j,0)∈partners (c.setIfInBounds 0 ph) K.cO false:=mem_partners.2 ⟨_,by rw[fg c _ E];exact Y,by rw[Yy,ai X];simp⟩;rcases Uu e Y with⟨rfl,_⟩|⟨_,_,M⟩|⟨s,hl,rfl,hs⟩
   ·exact absurd X bd
   ·have:=M.status;simp[parked]at this
   ·by_cases v:(x.hs s).st=20
    ·exact⟨s,hl,X,v⟩
    ·rcases hs.stat v with z|z<;>simp[parked]at z
  have⟨a1,C,hs⟩:=e.iy.hand b l;obtain⟨bN,bl,V,W,rfl,hR⟩:=hs.parked v;rw[Y]at C;have ez:=cC C
  have bm:T.finishComm K.P #[rcase K.cO D] U 0 (K.sv x.next) true=G (V.finish (recvd true (K.sv x.next) true)) W:=by
   have e2:U=.recv true:=by
    have:=cF Goroutine.offers ez;simp only[parked,bt,cK]at this;exact this.2
   rw[e2, <-finishComm_parked K.P T #[rcase K.cO D] #[rcase K.cO D] (.recv true) (.recv true)];rw[e2]at ez;rw[ez];rfl
  rw[bm];have⟨p,bn⟩:=r.hand.word V W x.next _ hR B Z ab;have⟨n2,bo⟩:=r.main.TN x.next x.tk x.md.O Q R _ S B (ar _ ax) Z ab;have N:=Dr (m':=⟨15,0,n2,x.md.O,0⟩) (d':={ x.hs b with st:=50,i:=x.next,fu:=p,O:=dU }) r e.cu (λf h=>(e.mem.pS f h).1) l B (I v) X X (J u) X A bk;have bp:=(aL.1 Y).1;refine⟨_,_,m,{ x with hs:=upd x.hs b { x.hs b with st:=50,i:=x.next,fu:=p,O:=dU },md:=⟨15,0,n2,x.md.O,0⟩,next:=x.next+1,sO:=x.sO+1,rO:=x.rO+1 },X,?_,?_⟩
  ·refine rR (d':={ x.hs b with st:=50,i:=x.next,fu:=p,O:=dU }) r e l X X X E oi X (λ_ h=>h) P ⟨X,rfl,rfl⟩ (λf h _=>A f h) oi (λi h0 hi=>by rw[fg _ _ (λu=>h0 u.symm),fg _ _ (λu=>hi u.symm)])
    ⟨_,by rw[fg _ _ E];exact aJ bp,I ⟨X,bl,bn⟩⟩
    ⟨_,aJ (by simpa using bb),Jb X X hj bo⟩ X d0.symm (λz=>absurd z oi) (λf h=>I h) (λop k=>?_) N
   rcases cn.1 k with k|k
   ·simp[MemOp.ofEvents]at k
   ·simp only[aF,az,aD,bP]at k;rcases k with rfl|rfl|rfl|rfl<;>exact⟨X,λbs=>oi,l3⟩
  ·have e1:=Yf x.hs { x.hs b with st:=50,i:=x.next,fu:=p,O:=dU } (λd=>d.st) l;have e1:sumTo x.j (λs=>(upd x.hs b { x.hs b with st:=50,i:=x.next,fu:=p,O:=dU } s).st)+(x.hs b).st=sumTo x.j (λs=>(x.hs s).st)+50:=e1;refine Prod.Lex.left _ _ ?_;show 100*(K.N-(x.next+1))+10*(K.N-x.nt)+sumTo K.nb x.q+sumTo x.j (λs=>(upd x.hs b { x.hs b with st:=50,i:=x.next,fu:=p,O:=dU } s).st)+eX K.H _ ⟨15,0,n2,x.md.O,0⟩<100*(K.N-x.next)+10*(K.N-x.nt)+sumTo K.nb x.q+sumTo x.j (λs=>(x.hs s).st)+eX K.H (Vc x.j (dj K x)) x.md;have r1:∀n,eX K.H n ⟨15,0,n2,x.md.O,0⟩=9*K.H+152:=λn=>XG
   rw[r1,r2];omega
 ·
  have P:((w.at d).setChan K.cB K.N (x.buf.extract 1 x.buf.size) false x.sB (x.rB+1) x.rE).heap.size=w.heap.size:=jW (w.at d);have A:∀f,f≠K.cB->((w.at d).setChan K.cB K.N (x.buf.extract 1 x.buf.size) false x.sB (x.rB+1) x.rE).heap[f]?=w.heap[f]?:=λf h=>jU (w.at d) h
  have a3:((w.at d).setChan K.cB K.N (x.buf.extract 1 x.buf.size) false x.sB (x.rB+1) x.rE).heap[K.cB]?=some (.chan K.N (x.buf.extract 1 x.buf.size) (decide (x.md.s<3)) x.sB (x.rB+1) x.rE):=by
   rw[aq E];exact fa (w.at d) l4
  have⟨Z,ab,ax⟩:=Ab e (λf _ h=>A f h) P;have⟨i,n,hv,hi,M⟩:=ss (m':=x.md) r e.cu (λf h=>(e.mem.pS f h).1) av X id id dt dt A a3;have⟨p,F⟩:=r.main.T0 x.next x.tk x.md.O Q R _ i n S B hi ⟨_,(M.tk i n (ai X)).1⟩ (ar _ ax) Z ab
  have bw:mG ⟨15,0,p,x.md.O,0⟩=mG x.md:=by
   rw[iX (m:=x.md) (s:=15) (r:=x.md.r) (n:=0) (d:=0) (O:=dU) u X];rfl
  have⟨i',v',bx,bO,N⟩:=ss (m':=⟨15,0,p,x.md.O,0⟩) r e.cu (λf h=>(e.mem.pS f h).1) av bw oi oi (by simp[u]) (by simp[u]) A a3;obtain⟨rfl,rfl⟩:=r.hand.Vz _ _ _ _ (hv.symm.trans bx);refine⟨_,_,m,{ x with md:=⟨15,0,p,x.md.O,0⟩,buf:=x.buf.extract 1 x.buf.size,nt:=x.nt+1,tk:=λy=>if y=i then some n else x.tk y,rB:=x.rB+1 },X,?_,?_⟩
  ·refine pQ (x':={ x with md:=⟨15,0,p,x.md.O,0⟩,buf:=x.buf.extract 1 x.buf.size,nt:=x.nt+1,tk:=λy=>if y=i then some n else x.tk y,rB:=x.rB+1 }) r e X X X X P ⟨X,X,X⟩ (λf _ h=>A f h) (Jb X X hj ?_) X d0.symm (λz=>absurd z oi) (λop k=>?_) N
   ·rw[hv];exact F.mono λ_ _ _ y=>I ⟨B,y⟩
   ·rcases cn.1 k with k|k
    ·simp[MemOp.ofEvents]at k
    ·simp only[aF,az,aD,bP]at k;rcases k with rfl|rfl<;>exact⟨X,λbs=>oi,l4⟩
  ·refine Prod.Lex.left _ _ ?_;have bQ:=e.cu.room;have bS:=e.cu.nN;show 100*(K.N-x.next)+10*(K.N-(x.nt+1))+sumTo K.nb x.q+sumTo x.j (λb=>(x.hs b).st)+eX K.H (Vc x.j (dj K x)) ⟨15,0,p,x.md.O,0⟩<100*(K.N-x.next)+10*(K.N-x.nt)+sumTo K.nb x.q+sumTo x.j (λb=>(x.hs b).st)+eX K.H (Vc x.j (dj K x)) x.md;have r1:∀n,eX K.H n ⟨15,0,p,x.md.O,0⟩=9*K.H+152:=λn=>XG
   rw[r1,r2];omega
theorem Ti(b:du K)(e:iI K x g c w t)(f:c[0]?=some a)(h:x.md.s=15∧x.md.d0=0∧x.j=K.H∧H0 K (Ae K x.next x.tk) x.md.fu x.md.O a w):nf K g x t (runT K.P (crowd c w m) 0):=by
 have⟨i,d,k,p⟩:=h;rcases HG.An p with n|⟨A,B,q,j,h,_,r,s,u⟩
 ·rcases n w (dW.refl w)with⟨l,_⟩|⟨l,v⟩
  ·refine C5 b e f i d k l λy z=>?_
   rcases n y z with⟨_,o⟩|⟨o,_⟩
   ·exact o
   ·omega
  ·exact Fy b e f i d k l v
 ·exact dm b e f r s h E (Jb i d k u)
end
section
variable {K:m8}{c:Loc->Prop}{x y:pI K.P}{m:Array Goroutine}{w u:World}{t:Trace}{r:Array Event}{a j:Goroutine}{q:Option (Nat×Nat)}
def fO(a:Program)(b:Nat):HD a:=⟨21,0,b,none,dU,undef,0⟩
theorem xI(k:iI K x c m w t){md':MD}{B C:MemOp}(V:x.md.s=16)(er:x.md.r=b)(d:x.md.d0=0)(hj:x.j+b+1=K.H)(hO:md'.O=x.md.O)(hd:md'.d0=0)(hm:15<=md'.s)(ab:mG md'=.kd∨∃r',mG md'=.sp r' 5)(R:B.g=0∧B.act=.go (K.nb+x.j))(hq:C.g=K.nb+x.j∧C.act=.start)(a3:HH K (ub K) e dU s w)(bc:ku K (x.j+1) x.next x.tk md' f w):iI K { x with j:=x.j+1,hs:=upd x.hs x.j (fO K.P e),md:=md' } c ((m.setIfInBounds 0 f).push s) w (t ++ #[B,C]):=by
 have a4:=k.iy.one;have W:=k.iy.size;have Y:∀l,l∈#[B,C]->l=B∨l=C:=by intro l r;simpa using r
 have ad:∀l,l∈#[B,C]->l.act.touch?=none:=by
  intro l r;rcases Y l r with rfl|rfl
  ·rw[R.2];rfl
  ·rw[hq.2];rfl
 have S:∀l,l∈#[B,C]->l.act≠.mark .disable∧l.act≠.mark .enable:=by
  grind
 have y:∀a,a≠x.j->upd x.hs x.j (fO K.P e) a=x.hs a:=λa V=>upd_ne x.hs _ V
 have u:upd x.hs x.j (fO K.P e) x.j=fO K.P e:=XT ..
 have D:∀q n,gv K { x with j:=x.j+1,hs:=upd x.hs x.j (fO K.P e),md:=md' } q n->gv K x q n:=by
  intro q n o;rcases o with⟨rfl,z⟩|⟨a,h,rfl,z⟩
  ·exact I ⟨X,by rw[<-hO];exact z⟩
  ·have h:a<x.j+1:=h;have z:(upd x.hs x.j (fO K.P e) a).O n:=z;by_cases i:a=x.j
   ·subst i;rw[u]at z;exact z.elim
   ·rw[y a i]at z;exact J ⟨a,E,X,z⟩
 have ao:=k.iG.above _ (aa _);have ar:∀a,dj K { x with j:=x.j+1,hs:=upd x.hs x.j (fO K.P e),md:=md' } a=oZ (upd x.hs x.j (fO K.P e) a):=λ_=>rfl
 have hV:Vc (x.j+1) (dj K { x with j:=x.j+1,hs:=upd x.hs x.j (fO K.P e),md:=md' })=Vc x.j (dj K x)+1:=by
  show sumTo x.j _+cnt (dj K _ x.j)=_;rw[ar,u]
  have e1:sumTo x.j (λa=>cnt (dj K { x with j:=x.j+1,hs:=upd x.hs x.j (fO K.P e),md:=md' } a))=Vc x.j (dj K x):=Yd λa h=>by
   rw[ar,y a E];rfl
  rw[e1];rfl
 refine⟨⟨k.mem.Ek,λq n o=>k.mem.own q n (D q n o),⟨λZ T n h1 h2=>k.mem.nj.two Z T n (D _ _ h1) (D _ _ h2),λq n o=>k.mem.nj.ownRd q n (D _ _ o),λq n o=>k.mem.nj.ownSh q n (D _ _ o),k.mem.nj.rdSh⟩,λq n o=>k.mem.ld q n (D _ _ o),k.mem.Bb,k.mem.pS,k.mem.fix⟩,?_,?_,?_⟩
 ·have hf:=k.iG.T6.fork (I X) R hq (by rw[k.iG.deaf0,d]) ao (λn o=>by
   rcases o with⟨e0,_⟩|⟨a,h,i,_⟩
   ·omega
   ·omega)
  have av:=mA k.iG.seen (aa _) λl r=>j9.none (ad l r)
  refine⟨hf.Kz av (λax hg=>?_) (λq n _ o=>I (D q n o)) (λ_ _ _ o=>I o),av,?_,λa h=>?_,λv A=>?_,k.iG.norel.app λl r=>?_,λa h G=>?_,λg=>absurd g (by show ¬md'.s<=3;omega),k.iG.old.app λl r=>J (J (ad l r))⟩
  ·rcases hg with rfl|⟨Z,T⟩
   ·exact I (I X)
   ·have T:ax<K.nb+(x.j+1):=T;by_cases eg:ax=K.nb+x.j
    ·exact J eg
    ·exact I (J ⟨Z,E⟩)
  ·rw[Yi t 0 _ S,k.iG.deaf0,d];exact hd.symm
  ·rw[Yi t _ _ S];show _=(upd x.hs x.j (fO K.P e) a).dd;have h:a<x.j+1:=h;by_cases i:a=x.j
   ·subst i;rw[u];exact ao
   ·rw[y a i];exact k.iG.qK a E
  ·have A:K.nb+(x.j+1)<=v:=A;rw[Yi t _ _ S];exact k.iG.above v E
  ·rcases Y l r with rfl|rfl
   ·rw[R.2];simp
   grind
  ·have h:a<x.j+1:=h;have G:(upd x.hs x.j (fO K.P e) a).st<=6:=G;by_cases i:a=x.j
   ·subst i;rw[u]at G;simp[fO]at G
   ·rw[y a i]at G;have⟨b,hr⟩:=k.iG.rel a E G;refine⟨b,hr.appOther λl r=>?_⟩;rcases Y l r with rfl|rfl
    ·rw[R.1];omega
    omega
 ·refine⟨by simp[W];omega,a4,by show x.j+1<=K.H;omega,λv O h0 A U=>?_,λa h=>?_,?_⟩
  ·rw[Array.getElem?_push_lt (by simp[W];omega), <-au,ay E]at U;rw[Yi t _ _ S];exact k.iy.old v O h0 A U
  ·have h:a<x.j+1:=h;show ∃O,_∧je K (upd x.hs x.j (fO K.P e) a) O w;by_cases i:a=x.j
   ·subst i;refine⟨s,?_,?_⟩
    ·grind
    ·rw[u];exact J (J (J (J (J (I ⟨X,X,a3⟩)))))
   ·have⟨O,U,hs⟩:=k.iy.hand a E;refine⟨O,?_,by rw[y a i];exact hs⟩;rw[Array.getElem?_push_lt (by simp[W];omega), <-au,ay E];exact U
  grind
 ·have p:=k.cu;have a5:=p.yZ;rw[aq E]at a5;have a6:=p.EI;rw[aq E]at a6;refine⟨p.wg,?_,?_,?_,p.xQ,p.nN,λg=>absurd g (by show ¬md'.s<=14;omega),p.buf,p.tk,λa h g=>?_,λa M h a0 g N P=>?_,λv A=>?_,?_,λv A=>?_,λv A=>?_,λg=>absurd g (by show ¬md'.s=1;omega),λ_ a h=>?_⟩
  ·have a1:=p.mode;rw[iX (s:=16) (r:=b) (n:=0) (d:=0) (O:=dU) V er]at a1;have⟨z,a7,a8,_⟩:=a1.open_inv (tag:=.sp b 2) trivial;have r:Go.ConcN.isOpen (mG md'):=by rcases ab with g|⟨_,g⟩<;>rw[g]<;>trivial
   have a9:Go.ConcN.pend (mG md')=0:=by rcases ab with g|⟨_,g⟩<;>rw[g]<;>rfl
   have bd:∀Q:Nat->WD,(∀a,Q a=oZ (upd x.hs x.j (fO K.P e) a))->Vc (x.j+1) Q=Vc x.j (dj K x)+1->Go.ConcN.Mode (x.j+1) Q (mG md') x.st x.sm:=by
    intro Q hD ba
    have bb:x.st=((Vc (x.j+1) Q+Go.ConcN.pend (mG md'):Nat):Int)*KK:=by
     rw[ba,a9,a7];simp[Go.ConcN.pend]
    rw[bb,a8];refine .opn r (λa h=>?_) (λvs g=>?_)
    ·rw[hD];by_cases i:a=x.j
     ·subst i;rw[u];exact I X
     ·rw[y a i];exact z a E
    grind
   grind
  ·grind
  ·grind
  ·have h:a<x.j+1:=h;have g:46<=(upd x.hs x.j (fO K.P e) a).st:=g;show(upd x.hs x.j (fO K.P e) a).i<x.next;by_cases i:a=x.j
   ·subst i;rw[u]at g;simp[fO]at g
   ·rw[y a i]at g ⊢;exact p.hold a E g
  ·have h:a<x.j+1:=h;have a0:M<x.j+1:=a0;have g:46<=(upd x.hs x.j (fO K.P e) a).st:=g;have N:46<=(upd x.hs x.j (fO K.P e) M).st:=N;have P:(upd x.hs x.j (fO K.P e) a).i=(upd x.hs x.j (fO K.P e) M).i:=P;by_cases i:a=x.j
   ·subst i;rw[u]at g;simp[fO]at g
   ·by_cases a2:M=x.j
    ·subst a2;rw[u]at N;simp[fO]at N
    ·rw[y a i]at g P;rw[y M a2]at N P;exact p.two a M E E g N P
  ·rcases p.cover v A with g|g|⟨a,h,c1,c2⟩
   ·exact I g
   ·grind
   grind
  ·refine Eq.trans ?_ p.room;show x.buf.size+(sumTo x.j _+tx K _ x.j)+x.nt=_
   have e1:tx K { x with j:=x.j+1,hs:=upd x.hs x.j (fO K.P e),md:=md' } x.j=0:=by
    show(if 46<=(upd x.hs x.j (fO K.P e) x.j).st then 1 else 0)=0;rw[u];rfl
   have e2:sumTo x.j (tx K { x with j:=x.j+1,hs:=upd x.hs x.j (fO K.P e),md:=md' })=sumTo x.j (tx K x):=Yd λa h=>by
    show(if 46<=(upd x.hs x.j (fO K.P e) a).st then 1 else 0)=if 46<=(x.hs a).st then 1 else 0
    grind
   omega
  ·refine(p.ca v A).trans ⟨λ⟨F,b2⟩=>⟨F,λa h g=>?_⟩,λ⟨F,b2⟩=>⟨F,λa h g=>?_⟩⟩
   ·have h:a<x.j+1:=h;have g:48<=(upd x.hs x.j (fO K.P e) a).st:=g;by_cases i:a=x.j
    ·subst i;rw[u]at g;simp[fO]at g
    grind
   grind
  ·refine(p.cl v A).trans ⟨λ⟨b0,F,b2⟩=>⟨b0,F,λa h g=>?_⟩,λ⟨b0,F,b2⟩=>⟨b0,F,λa h g=>?_⟩⟩
   ·have h:a<x.j+1:=h;have g:47<=(upd x.hs x.j (fO K.P e) a).st:=g;by_cases i:a=x.j
    ·subst i;rw[u]at g;simp[fO]at g
    grind
   grind
  ·have h:a<x.j+1:=h;show 20<=(upd x.hs x.j (fO K.P e) a).st;by_cases i:a=x.j
   ·subst i;rw[u];simp[fO]
   ·rw[y a i];exact p.busy E a E
theorem Tj(F:du K)(n:iI K x c m w t)(B:m[0]?=some a)(v:x.md.s=16∧x.md.d0=0∧x.j+x.md.r+1=K.H∧x.next=0∧x.tk=sU∧H0 K (AtGo K (nZ K x.md.r)) x.md.fu x.md.O a w):nf K c x t (runT K.P (crowd m w q) 0):=by
 have⟨o,d,k,y,z,G⟩:=v;rcases G.cases with hs|⟨U,M,u,r,v,_,N,O,P⟩
 ·have⟨_,M,C,Q,⟨e,D⟩,f,p⟩:=hs;have l:=runT_crowd_spawn (P:=K.P) (sl:=q) (i:=0) B (by simpa using Q)
  have R:(((MemOp.ofEvents 0 a.frame.fn a.frame.place #[]).push { g:=0,fn:=a.frame.fn,pos:=a.frame.place,act:=.go m.size }).push { g:=m.size,fn:=C.frame.fn,pos:=a.frame.place,act:=.start })= #[({ g:=0,fn:=a.frame.fn,pos:=a.frame.place,act:=.go (K.nb+x.j)}:MemOp),{ g:=K.nb+x.j,fn:=C.frame.fn,pos:=a.frame.place,act:=.start }]:=by
   rw[n.iy.size];simp[MemOp.ofEvents]
  rw[R]at l;have S:sumTo x.j (λb=>(upd x.hs x.j (fO K.P e) b).st)=sumTo x.j (λb=>(x.hs b).st):=Yd λb V=>by rw[upd_ne x.hs _ E]
  have W:sumTo (x.j+1) (λb=>(upd x.hs x.j (fO K.P e) b).st)=sumTo x.j (λb=>(x.hs b).st)+21:=by
   show sumTo x.j (λb=>(upd x.hs x.j (fO K.P e) b).st)+(upd x.hs x.j (fO K.P e) x.j).st=_;rw[S,XT];rfl
  have Y:∀h,eX K.H h x.md=9*K.H+200+40*x.md.r+16:=λh=>by simp[eX,o]
  cases s:x.md.r with
  |zero=>
   rw[s]at p k;refine⟨_,_,q,{ x with j:=x.j+1,hs:=upd x.hs x.j (fO K.P e),md:=⟨15,0,f,x.md.O,0⟩},by rw[l],?_,?_⟩
   ·rw[l];refine xI (md':=⟨15,0,f,x.md.O,0⟩) n o s d k X X oi (I X) ⟨X,X⟩ ⟨X,X⟩ D (Jb X X E ?_);rw[y,z];exact p
   ·refine Prod.Lex.left _ _ ?_;have T:∀h,eX K.H h ⟨15,0,f,x.md.O,0⟩=9*K.H+152:=λh=>XG
    grind
  |succ i=>
   rw[s]at p k;refine⟨_,_,q,{ x with j:=x.j+1,hs:=upd x.hs x.j (fO K.P e),md:=⟨20,i,f,x.md.O,0⟩},by rw[l],?_,?_⟩
   ·rw[l];exact xI (md':=⟨20,i,f,x.md.O,0⟩) n o s d k X X oi (J ⟨i,X⟩) ⟨X,X⟩ ⟨X,X⟩ D (I ⟨X,X,by show x.j+1+i+1=K.H;omega,y,z,p⟩)
   ·refine Prod.Lex.left _ _ ?_;have T:∀h,eX K.H h ⟨20,i,f,x.md.O,0⟩=9*K.H+200+40*i+20:=λh=>XG
    grind
 ·exact dm F n B N O v E (J (J (J (J (I ⟨o,d,k,y,z,P⟩)))))
end
section
variable {K:m8}{c:Loc->Prop}{x m:pI K.P}{g:Array Goroutine}{w j:World}{t:Trace}{r:Array Event}{a u:Goroutine}{sl:Option (Nat×Nat)}
theorem iI.at(h:du K)(b:iI K x c g w t)(d:Nat):iI K x c g (w.at d) t:=by
 have e:∀f,dW K.rd (gz K) f w (w.at d):=λf=>⟨λ_ _=>rfl,id,aa _⟩
 refine⟨⟨b.mem.Ek,b.mem.own,b.mem.nj,b.mem.ld,b.mem.Bb,b.mem.pS,b.mem.fix⟩,⟨b.iG.T6,b.iG.seen,b.iG.deaf0,b.iG.qK,b.iG.above,b.iG.norel,b.iG.rel,b.iG.acq,b.iG.old⟩,⟨b.iy.size,b.iy.one,b.iy.jH,b.iy.old,λf j=>?_,?_⟩,?_⟩
 ·have⟨k,i,l⟩:=b.iy.hand f j;exact⟨k,i,l.rely h.hand h.c1 h.c2 (e _)⟩
 ·have⟨a,f,j⟩:=b.iy.main;exact⟨a,f,j.rely (e _)⟩
 ·have e:=b.cu;have j:∀b f,K.GM b f w->K.GM b f (w.at d):=λb f i=>h.hand.gm b f w (w.at d) (λ_ _=>rfl) i
  exact⟨e.wg,e.mode,e.yZ,e.EI,e.xQ,e.nN,e.uO,λy i=>let ⟨b,f,k,l,m,n⟩:=e.buf y i; ⟨b,f,k,l,j b f m,n⟩,λb f h=>⟨j b f (e.tk b f h).1,(e.tk b f h).2⟩,e.hold,e.two,e.cover,e.room,e.ca,e.cl,e.emp,e.busy⟩
theorem iI.awake(i:du K)(j:iI K x c g w t):∀a,a∈g->awake a:=by
 intro a k;have⟨a,l⟩:=Array.mem_iff_getElem?.1 k;rcases Uu j l with⟨rfl,b⟩|⟨_,_,m⟩|⟨n,q,rfl,d⟩
 ·by_cases e:x.md.s=7
  ·obtain⟨_,_,_,r,rfl,_⟩:=b.VP e;exact YK (J (I X))
  ·by_cases f:x.md.s=14
   ·obtain⟨_,_,_,o,p,rfl,_⟩:=b.Lc f;exact YK (J (I X))
   ·exact YK (I (b.run i.main e f))
 ·exact YK (m.status.elim I λy=>J (J y))
 ·by_cases h:(x.hs n).st=20
  ·obtain⟨_,_,o,p,rfl,_⟩:=d.parked h;exact YK (J (I X))
  ·exact YK ((d.stat h).elim I λy=>J (J y))
theorem iI.Oa(m:du K)(q:1<=K.H)(b:iI K x c g w t):∃(j:Nat) (e:Goroutine),g[j]?=some e∧e.status=.running:=by
 have⟨a,n,k⟩:=b.iy.main;by_cases l:x.md.s=7
 ·have f:=b.cu.mode;rw[iX (s:=7) (r:=x.md.r) (n:=0) (d:=0) (O:=dU) l X]at f;have f:Go.ConcN.Mode x.j (dj K x) .blk x.st x.sm:=f
  have o:∃d,d<x.j∧(dj K x d).stage≠1:=by
   generalize x.st=j at f;generalize x.sm=j at f;cases f with
   |opn h _ _=>exact h.elim
   |reg _ _ i=>
    have⟨d,f,j⟩:=Go.ConcN.exists_counted i;exact⟨d,f,E⟩
   |last L _ p i _=>exact⟨L,p,E⟩
   |fin h _=>exact h.elim
  have⟨d,f,h⟩:=o;have⟨e,i,j⟩:=b.iy.hand d f;refine⟨_,e,i,j.run (b.cu.uO E d f) λo=>h ?_⟩;simp[dj,o]
 ·by_cases d:x.md.s=14
  ·have⟨_,f,_,_⟩:=k.Lc d;have⟨e,i,j⟩:=b.iy.hand 0 E;have f:=b.cu.busy E 0 E;exact⟨_,e,i,j.run (b.cu.uO E 0 E) E⟩
  ·exact⟨0,a,n,k.run m.main l d⟩
theorem QG(n:du K)(h:iI K x c g w t)(o:0<b)(k:b<K.nb)(p:g[b]?=some f)(s:f.status=.running):nf K c x t (runT K.P (crowd g w sl) b):=by
 have i:=h.iy.old b f o k p;have A:(b==0)=false:=x7;cases u:x.q b with
 |zero=>rw[u]at i;rw[i.1]at s;cases s
 |succ a=>
  rw[u]at i;rcases i with⟨I,_⟩|⟨_,B,r,C,D,E⟩
  ·grind
  ·have v:=X9 (P:=K.P) (sl:=sl) (i:=b) p (by rw[A];exact D w);have⟨j,d,F⟩:=Np (g:=f) (g':=B) n.main h o k C E
   have G:iC K { x with md:=j,q:=upd x.q b a } w:=by
    refine h.cu.Cf (x':={ x with md:=j,q:=upd x.q b a }) n.hand X ⟨X,X,X,X,X,X,X⟩ ⟨X,X,X,X,X,X⟩ (λ_ _=>⟨dt,dt,dt,id,λ_=>rfl⟩) (AW d) h.cu.wg (h.cu.mode.retag (rm d)) X X X (λ_ _=>rfl) (λ_ _ _ l=>l) (λl=>h.cu.emp (Qh d l)) (Hg d)
   refine⟨_,w,sl,{ x with md:=j,q:=upd x.q b a },by rw[v],by rw[v];exact F (upd x.q b a) (λJ e=>upd_ne x.q _ e) (XT ..) G,?_⟩;refine Prod.Lex.left _ _ ?_;have z:=Yf x.q a (λy=>y) k;have z:sumTo K.nb (upd x.q b a)+x.q b=sumTo K.nb x.q+a:=z;have M:=NO (H:=K.H) d (aa (Vc x.j (dj K x)));show 100*(K.N-x.next)+10*(K.N-x.nt)+sumTo K.nb (upd x.q b a)+sumTo x.j (λm=>(x.hs m).st)+eX K.H (Vc x.j (dj K x)) j<100*(K.N-x.next)+10*(K.N-x.nt)+sumTo K.nb x.q+sumTo x.j (λm=>(x.hs m).st)+eX K.H (Vc x.j (dj K x)) x.md;omega
def ua(K:m8)(x:pI K.P)(g:Array Goroutine)(w:World):Prop:=x.md.s=1∧∃a,g[0]?=some a∧∀b,dW K.rd (gz K) x.md.O w b->K.Fin x.tk x.md.O a b
theorem Mp(h:du K)(f:iI K x c g w t)(e:g[0]?=some a)(p:a.status=.running):ua K x g w∨nf K c x t (runT K.P (crowd g w sl) 0):=by
 have⟨q,o,k⟩:=f.iy.main;rw[e]at o;cases o;rcases k with b|b|b|b|b|b|b|b|b|b|b|b|b|b|b|b|b|b|b|b
 ·exact J (Tn h f e b)
 ·exact J (Tm h f e b)
 ·exact J (Tl h f e b)
 ·exact J (Tk h f e b)
 ·exact J (Tj h f e b)
 ·exact J (Ti h f e b)
 ·obtain⟨_,_,_,_,s,u,rfl,_⟩:=b;cases p
 ·exact J (Th h f e b)
 ·exact J (Tg h f e b)
 ·have⟨i,d,l,m,n⟩:=b;exact J (Hf h f e (J ⟨i,X⟩) d l m n)
 ·exact J (Tf h f e b)
 ·exact J (UZ h f e b)
 ·exact J (UY h f e b)
 ·grind
 ·exact J (UX h f e b)
 ·exact J (UW h f e b)
 ·exact J (UU h f e b)
 ·exact J (UT h f e b)
 ·exact J (US h f e b)
 ·have⟨i,d,l,m,n⟩:=b;rcases HG.An n with b|⟨s,u,j,r,k,_,o,p,q⟩
  ·exact I ⟨i,a,e,b⟩
  ·exact J (dm h f e o p k E (Wv i d l m q))
theorem ua.U3{d:Nat}(b:ua K x g (w.at d)):ua K x g w:=by
 have⟨c,a,e,f⟩:=b;exact⟨c,a,e,λh b=>f h ⟨λi j=>b.qH i j,λk=>b.lv k,b.size⟩⟩
theorem Lr(a:du K)(i:1<=K.H)(b:iI K x c g w t):ua K x g w∨nf K c x t (stepT K.P (crowd g w sl)):=by
 have⟨n,o,d,p,e,f,j⟩:=crowd_pick (P:=K.P) (w:=w) (sl:=sl) (b.awake a) (b.Oa a i);rw[j];have h:=b.at a d;rcases Uu b e with⟨rfl,_⟩|⟨k,l,_⟩|⟨q,m,rfl,_⟩
 ·exact(Mp a h e f).imp ua.U3 id
 ·exact J (QG a h k l e f)
 ·exact J (LO a h m e f)
theorem Lq(i:du K)(k:1<=K.H):∀(x:pI K.P) (g:Array Goroutine) (w:World) (sl:Option (Nat×Nat)) (t:Trace),iI K x c g w t->∃d a j e m b,runNT K.P d (crowd g w sl) t=(.next (crowd a j e),b)∧iI K m c a j b∧ua K m a j:=by
 have l:=InvImage.wf (nM K) (Tq K.P K.H);intro x;induction x using l.induction with
 |_ x n=>
  intro g w sl t h;rcases Lr (sl:=sl) i k h with f|⟨o,p,q,r,s,u,v⟩
  ·exact⟨0,g,w,sl,x,t,X,h,f⟩
  ·have⟨d,a,j,e,m,b,y,z,f⟩:=n r v o p q _ u;refine⟨d+1,a,j,e,m,b,?_,z,f⟩;rw[runNT_succ_next (ops:=(stepT K.P (crowd g w sl)).2) (Prod.ext s X)];exact y
end
end
section
open Go.Conc
open Go.ConcN (sumTo upd sumTo_upd upd_ne upd_same)
structure kX(Shun:Nat->Prop)(B:Nat)(t:Trace):Prop where
 clean:∀said,¬Race said t
 known:∀i a,touchAt t i=some a->a.loc.isMemory=true->Knows t 0 i∨(ry Shun a.loc∧a.kind=.atomic)
 over:t.HandedOver
 hears:Deaf t 0=0
 seen:∀op,op∈t->j9 B op.act
def OU(b:Nat->Prop)(c:Nat)(d:Event):Prop:=
 match d.loc with
 |.cell a=>a.block<c∧b a.block
 |.obj r=>r<c∧b r
 |.mark m=>Iw m
 |_=>False
def La(b:Nat->Prop)(c:MemAct):Prop:=∀y,c.touch?=some y->∀a,oL y.loc=some a->b a
structure Ph(O O':Nat->Prop)(w w':World)(es:Array Event):Prop where
 tape:w'.tape=w.tape
 os:w'.os=w.os
 out:w'.output=w.output
 size:w.heap.size<=w'.heap.size
 other:∀b,b<w.heap.size->¬O b->w'.heap[b]?=w.heap[b]?
 mono:∀b,O b->O' b
 new:∀b,O' b->O b∨(w.heap.size<=b∧b<w'.heap.size)
 ev:∀e,e∈es->OU O' w'.heap.size e
def Wk(j:Program)(f:(Nat->Prop)->Goroutine->World->Prop)(c:Nat->Prop)(a:Goroutine)(b:World):Prop:=
 ∀e:(Nat->Prop)->Goroutine->World->Prop,(∀c a b,(∀d,f c a (b.at d))->e c a b)->
  (∀c a b,a.status=.running->∀(g:Nat->Goroutine) (f:Nat->World) (h:Nat->Array Event) (i:Nat->Nat->Prop),(∀d,stepG j true a (b.at d)=.go (g d) (f d) (h d)∧Ph c (i d) (b.at d) (f d) (h d))->(∀d,e (i d) (g d) (f d))->e c a b)->e c a b
section
variable {P:Program}{c j:(Nat->Prop)->Goroutine->World->Prop}{O O':Nat->Prop}{g q:Goroutine}{w w':World}{m:Array Event}{a:Nat->Prop}{B:Nat}{t u:Trace}
theorem Wk.stop(a:∀d,c O g (w.at d)):Wk P c O g w:=λ_ b _=>b O g w a
theorem Wk.step(b:g.status=.running)(q:Nat->Goroutine)(w':Nat->World)(m:Nat->Array Event)(O':Nat->Nat->Prop)(e:∀d,stepG P true g (w.at d)=.go (q d) (w' d) (m d)∧Ph O (O' d) (w.at d) (w' d) (m d))(f:∀d,Wk P c (O' d) (q d) (w' d)):Wk P c O g w:=
 λh i a=>a O g w b q w' m O' e λd=>f d h i a
theorem Wk.mk(b:g.status=.running)(a:∀d,∃q w' m O',stepG P true g (w.at d)=.go q w' m∧Ph O O' (w.at d) w' m∧Wk P c O' q w'):Wk P c O g w:=by
 have e:=λd=>dH (a d)
 have a:=λd=>dH (e d)
 have e:=λd=>dH (a d)
 have a:=λd=>dH (e d)
 exact Wk.step b _ _ _ _ (λd=>⟨(a d).1,(a d).2.1⟩) (λd=>(a d).2.2)
theorem Wk.at(a:Wk P c O g w)(d:Nat):Wk P c O g (w.at d):=
 (a (λO g w=>Wk P c O g w∧Wk P c O g (w.at d)) (λ_ _ _ a=>⟨Wk.stop a,Wk.stop λb=>a b⟩) λ_ _ _ e q w' m O' f h=>⟨Wk.step e q w' m O' f λd=>(h d).1,Wk.step e q w' m O' (λb=>f b) λd=>(h d).1⟩).2
theorem Wk.bind(a:Wk P c O g w)(b:∀O g w,(∀d,c O g (w.at d))->Wk P j O g w):Wk P j O g w:=
 a (Wk P j) b λ_ _ _ e q w' m O' f h=>Wk.step e q w' m O' f h
theorem tX{d:Event}(a:OU O B d){y:Touch}(b:(MemAct.ofEvent d).touch?=some y):∃e,oL y.loc=some e∧e<B∧O e:=by
 have⟨k,wr,c⟩:=d;cases k with
 |cell f=>
  have g:(MemAct.ofEvent ⟨.cell f,wr,c⟩).touch?=some ⟨.cell f,wr,if c then .atomic else .plain⟩:=rfl;rw[g]at b;cases b;exact⟨f.block,X,a.1,a.2⟩
 |obj h=>
  by_cases i:wr=true∧c=true
  ·obtain⟨rfl,rfl⟩:=i;cases b
  ·have g:(MemAct.ofEvent ⟨.obj h,wr,c⟩).touch?=some ⟨.obj h,wr,if c then .atomic else .plain⟩:=by
    cases wr<;>cases c<;>first|rfl|exact absurd ⟨rfl,rfl⟩ i
   rw[g]at b;cases b;exact⟨h,X,a.1,a.2⟩
 |mark j=>
  have a:Iw j:=a;cases j<;>simp[Iw]at a<;>cases b
 |output=>exact a.elim
 |goroutines=>exact a.elim
theorem IV(b:∀a,a∈m->OU O B a)(d:Nat):deafBehind d m=d:=YL (λa c=>by
 have:=b a c;refine⟨λa=>?_,λa=>?_⟩<;>(unfold OU at this;rw[a]at this;exact this)) d
theorem kX.own(e:kX a B t)(q:B<=w'.heap.size)(r:∀f,O f->¬a f){fn:FuncId}{pos:String}(g:∀b,b∈m->OU O w'.heap.size b):kX a w'.heap.size (t++MemOp.ofEvents 0 fn pos m):=by
 have l:∀c,c∈MemOp.ofEvents 0 fn pos m->c.g=0:=λc d=>by obtain⟨b,_,rfl⟩:=XP d;rfl
 refine⟨λr=>noRace_append (e.clean r) l λh i j c d f n o=>?_,λh i j s=>?_,handedOver_app e.over λc d=> .inl (l c d),?_,mA e.seen q λc d y u f n=>?_⟩
 ·rcases e.known h i j o.2.1 with c|⟨⟨v,w,f⟩,_⟩
  ·exact c
  ·obtain⟨b,k,rfl⟩:=XP d;have⟨c,p,_,f⟩:=tX (g b k) n;rw[o.1,p]at w;grind
 ·have⟨l,c,f⟩:=Yl j;rcases X1 c with⟨_,j⟩|⟨_,l⟩
  ·exact(e.known h i (by rw[YF j];exact f) s).imp (·.app _) id
  ·have:=knows_own c;grind
 ·rw[Deaf_own,IV g];exact e.hears
 ·obtain⟨b,k,rfl⟩:=XP d;have⟨v,p,c,_⟩:=tX (g b k) u;grind
theorem kX.appMute(e:kX a B t)(p:b≠0)(g:∀f,f∈m->Event.mute f=true):kX a B (t++MemOp.ofEvents b n o m):=by
 have i:∀c,c∈MemOp.ofEvents b n o m->c.g=b:=λc d=>by obtain⟨f,_,rfl⟩:=XP d;rfl
 have h:∀c,c∈MemOp.ofEvents b n o m->c.act.touch?=none:=λc d=>by obtain⟨f,q,rfl⟩:=XP d;exact touch_mute (g f q)
 refine⟨λr=>noRace_append (e.clean r) i λj k _ c d u l _=>(by rw[h c d]at l;cases l),λj k s g=>?_,handedOver_app e.over λc d=> .inr (h c d),(X4 t p _ i).trans e.hears,mA e.seen (aa _) λc d=>j9.none (h c d)⟩;have⟨f,c,d⟩:=Yl s;rcases X1 c with⟨_,f⟩|⟨_,h⟩
 ·exact(e.known j k (by rw[YF f];exact d) g).imp (·.app _) id
 grind
structure yr(O O':Nat->Prop)(w w':World)(t t':Trace):Prop where
 tape:w'.tape=w.tape
 os:w'.os=w.os
 out:w'.output=w.output
 size:w.heap.size<=w'.heap.size
 other:∀b,b<w.heap.size->¬O b->w'.heap[b]?=w.heap[b]?
 mono:∀b,O b->O' b
 new:∀b,O' b->O b∨(w.heap.size<=b∧b<w'.heap.size)
 Vy:∀S:Nat->Prop,(∀op,op∈t->La S op.act)->∀op,op∈t'->La (λb=>S b∨O' b) op.act
theorem yr.refl(O:Nat->Prop)(w:World)(t:Trace):yr O O w w t t:=⟨X,X,X,aa _,λ_ _ _=>rfl,λ_ a=>a,λ_ a=>I a,λ_ a b c y d e f=>I (a b c y d e f)⟩
theorem yr.trans{a b e:Nat->Prop}{f g h:World}{i j k:Trace}(c:yr a b f g i j)(d:yr b e g h j k):yr a e f h i k:=by
 refine⟨d.tape.trans c.tape,d.os.trans c.os,d.out.trans c.out,aK c.size d.size,λb e f=>?_,λb e=>d.mono b (c.mono b e),λb e=>?_,λg h i j y k b e=>?_⟩
 ·refine(d.other b (aj e c.size) λa=>?_).trans (c.other b e f);rcases c.new b a with a|a
  ·exact f a
  ·omega
 ·have:=c.size;have:=d.size;rcases d.new b e with a|a
  ·rcases c.new b a with a|a
   ·exact I a
   omega
  omega
 ·rcases d.Vy _ (c.Vy g h) i j y k b e with(a|a)|a
  ·exact I a
  ·exact J (d.mono b a)
  ·exact J a
theorem CY(c:Leavers P t d v)(h:d[0]?=some g):Leavers P (t++MemOp.ofEvents 0 n o m) ((d.map (woken P g q w')).setIfInBounds 0 q) v:=
 ⟨λj p a e=>by
  rw[ay E,df]at e;obtain⟨y,i,rfl⟩:=cE.1 e;have f:=c.old j y a i;rw[YD f,X4 t (g:=j) (g':=0) E _ (λk b=>by obtain⟨l,_,rfl⟩:=XP b;rfl)];exact f,λj a=>by
  have e:=(aL.1 h).1;rw[X4 t (g':=0) (by simp at a;omega) _ (λk b=>by obtain⟨l,_,rfl⟩:=XP b;rfl)];exact c.above j (by simpa using a)⟩
theorem mX(e:Leavers P t d v)(f:d[0]?=some g)(h:g.status=.running):∀a∈d,awake a:=by
 intro a i;obtain⟨b,c,rfl⟩:=gY.1 i;rcases cL b with rfl|j
 ·have:d[0]=g:=by simpa [Array.getElem?_eq_getElem c]using f
  rw[this];exact YK (.inl h)
 ·exact YK ((e.old b _ j (au c)).status.elim .inl λy=> .inr (.inr y))
def Gu(P:Program)(a:Nat->Prop)(c:(Nat->Prop)->Goroutine->World->Prop)(O:Nat->Prop)(f:Array Goroutine)(w:World)(g:Option (Nat×Nat))(t:Trace):Prop:=
 ∃(h:Nat) (b:Array Goroutine) (q:Goroutine) (w':World) (i:Option (Nat×Nat)) (e:Trace) (j:Nat->Nat) (O':Nat->Prop),
  runNT P h (crowd f w g) t=(.next (crowd b w' i),e)∧b.size=f.size∧b[0]?=some q∧(∀d,c O' q (w'.at d))∧Leavers P e b j∧kX a w'.heap.size e∧yr O O' w w' t e
theorem Ud(Y:Wk P c O g w):∀(e:Array Goroutine) (h:Option (Nat×Nat)) (t:Trace) (f:Nat->Nat),e[0]?=some g->Leavers P t e f->kX a w.heap.size t->(∀b,O b->b<w.heap.size∧¬a b)->(∀b,a b->b<w.heap.size)->Gu P a c O e w h t:=by
 refine Y (λO g w=>∀(e:Array Goroutine) (h:Option (Nat×Nat)) (t:Trace) (f:Nat->Nat),e[0]?=some g->Leavers P t e f->kX a w.heap.size t->(∀b,O b->b<w.heap.size∧¬a b)->(∀b,a b->b<w.heap.size)->Gu P a c O e w h t) (λO g w Y=>?_) (λO g w R q w' m O' h1 ih=>?_)
 ·exact λe h t f l n r _ _=>⟨0,e,g,w,h,t,f,O,X,X,l,Y,n,r,yr.refl O w t⟩
 ·
  have ax:∀(e:Array Goroutine) (p d:Nat) (h s:Option (Nat×Nat)) (t:Trace) (f:Nat->Nat),e[0]?=some g->Leavers P t e f->kX a w.heap.size t->(∀b,O b->b<w.heap.size∧¬a b)->(∀b,a b->b<w.heap.size)->
    stepT P (crowd e (w.at p) h)=runT P (crowd e (w.at d) s) 0->Gu P a c O e (w.at p) h t:=by
   intro e p d h s t f l n r x z G;have⟨Y,o⟩:=h1 d;have Z:=X9 (P:=P) (sl:=s) (i:=0) l (show stepG P (0==0) g (w.at d)=_ from Y)
   have Y:∀b,O' d b->¬a b:=λb A=>by
    rcases o.new b A with B|B
    ·exact(x b B).2
    ·intro hc;have:=z b hc;have c1:w.heap.size<=b:=B.1;omega
   have K:=(aL.1 l).1
   have⟨S,ab,g2,w2,ad,t2,q2,O2,r1,r2,r3,r4,r5,r6,u⟩:=ih d ((e.map (woken P g (q d) (w' d))).setIfInBounds 0 (q d)) s (t++MemOp.ofEvents 0 g.frame.fn g.frame.place (m d)) f (aJ (by simpa using K)) (CY n l) (r.own o.size Y o.ev)
    (λb A=>⟨(o.new b A).elim (λB=>aj (x b B).1 o.size) (λB=>B.2),Y b A⟩) (λb A=>aj (z b A) o.size)
   refine⟨S+1,ab,g2,w2,ad,t2,q2,O2,(runNT_succ_next (G.trans Z) S t).trans r1,by rw[r2];simp,r3,r4,r5,r6,yr.trans ?_ u⟩;refine⟨o.tape,o.os,o.out,o.size,o.other,o.mono,o.new,λa0 ao C k y v b A=>?_⟩;rcases cn.1 k with k|k
   ·exact I (ao C k y v b A)
   ·obtain⟨T,he,rfl⟩:=XP k;have⟨B,c1,_,c3⟩:=tX (o.ev T he) v;rw[A]at c1;cases c1;exact J c3
  have a2:∀(U:Nat) (e:Array Goroutine) (p:Nat) (h:Option (Nat×Nat)) (t:Trace) (f:Nat->Nat),sumTo e.size f<=U->e[0]?=some g->Leavers P t e f->kX a w.heap.size t->(∀b,O b->b<w.heap.size∧¬a b)->(∀b,a b->b<w.heap.size)->Gu P a c O e (w.at p) h t:=by
   intro U;induction U with
   |zero=>
    intro e p h t f hM l n r x z;have⟨i,M,d,s,N,D,G⟩:=crowd_pick (P:=P) (w:=w.at p) (sl:=h) (mX n l R) ⟨0,g,l,R⟩;rcases cL i with rfl|ar
    ·exact ax e p d h s t f l n r x z G
    ·have F:=n.old i M ar N;have K:=(aL.1 N).1;have:=Go.ConcN.le_sumTo (f:=f) K;have hz:f i=0:=E;rw[hz]at F;rw[F.1]at D;cases D
   |succ U a3=>
    intro e p h t f hM l n r x z;have⟨i,M,d,s,N,D,G⟩:=crowd_pick (P:=P) (w:=w.at p) (sl:=h) (mX n l R) ⟨0,g,l,R⟩;rcases cL i with rfl|ar
    ·exact ax e p d h s t f l n r x z G
    ·have F:=n.old i M ar N;have a4:(i==0)=false:=x7;have K:=(aL.1 N).1;cases av:f i with
     |zero=>rw[av]at F;rw[F.1]at D;cases D
     |succ Q=>
      rw[av]at F;rcases F with⟨hf,_⟩|⟨_,x',m,hm,a5,a6⟩
      ·rw[hf]at D;cases D
      have Z:=X9 (P:=P) (sl:=s) (i:=i) N (by rw[a4];exact a5 (w.at d))
      have b:sumTo e.size (upd f i Q)+(Q+1)=sumTo e.size f+Q:=by
       have:=Yf f Q id K;simpa [av]using this
      have⟨S,ab,g2,w2,ad,t2,q2,O2,r1,r2,r3,r4,r5,r6,u⟩:=a3 ((e.map (woken P M x' (w.at d))).setIfInBounds i x') d s (t++MemOp.ofEvents i M.frame.fn M.frame.place m) (upd f i Q) x7
       (by
        rw[ay E,df,l];simp[woken_run R])
       ⟨λj y V v=>by
        by_cases W:i=j
        ·subst W;rw[aJ (by simpa using K)]at v;obtain rfl:=cC v;rw[XT,Deaf_own];exact a6
        ·rw[ay W,df]at v;obtain⟨a7,hz,rfl⟩:=cE.1 v;have a1:=n.old j a7 V hz;rw[YD a1,upd_ne f Q (Ne.symm W),X4 t (g:=j) (g':=i) W _ (λC k=>by obtain⟨T,_,rfl⟩:=XP k;rfl)];exact a1,λj V=>by
        rw[X4 t (g:=j) (g':=i) (by simp at V;omega) _ (λC k=>by obtain⟨T,_,rfl⟩:=XP k;rfl)];exact n.above j (by simpa using V)⟩
       (r.appMute E hm) x z
      refine⟨S+1,ab,g2,w2,ad,t2,q2,O2,(runNT_succ_next (G.trans Z) S t).trans r1,by rw[r2];simp,r3,r4,r5,r6,u.tape,u.os,u.out,u.size,u.other,u.mono,u.new,λa0 ao C k=>u.Vy a0 (λC k=>?_) C k⟩;rcases cn.1 k with k|k
      ·exact ao C k
      ·obtain⟨T,he,rfl⟩:=XP k;intro y v;rw[touch_mute (hm T he)]at v;cases v
  intro e h t f l n r x z;exact a2 _ e w.drawn h t f (aa _) l n r x z
