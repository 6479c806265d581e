/- Texts of ours, one behind the other: ZC30 ZD1 ZD2 ZD3 ZD4 ZD5. -/
import Derived.Test.YtedifobeggabnaaGreatCbZC25
import Derived.Conc.Beside
namespace Go.Proofs.YtedifobeggabnaaGreat
section
open Go.Conc
open Go.ConcR (KK WgAt stA smA rd wr mk Payload DC0 Bk)
open Go.ConcN (WgLive CTag WD RelBy sumTo upd upd_same upd_ne sumTo_congr sumTo_upd cnt Vc)
section
variable {K:Cfg}{Shun:Loc→Prop}{x x':Gst K.P}{gs:Array Goroutine}{w w':World}{t:Trace}{es:Array Event}{a a':Goroutine}{sl:Option (Nat×Nat)}
theorem Cmp.at(hC:CfgOk K)(h:Cmp K x Shun gs w t)(d:Nat):Cmp K x Shun gs (w.at d) t:=by
 have r:∀O,Rly K.rd (Lvx K) O w (w.at d):=fun O=>⟨fun _ _=>rfl,id,Nat.le_refl _⟩
 refine⟨⟨h.mem.rdx,h.mem.own,h.mem.apt,h.mem.ownS,h.mem.rdS,h.mem.dnS,h.mem.fix⟩,⟨h.trs.trc,h.trs.seen,h.trs.deaf0,h.trs.deafH,h.trs.above,h.trs.norel,h.trs.rel,h.trs.acq,h.trs.old⟩,⟨h.sit.size,h.sit.one,h.sit.jH,h.sit.old,fun k hk=>?_,?_⟩,?_⟩
 ·obtain⟨g,hg,hs⟩:=h.sit.hand k hk
  exact⟨g,hg,hs.rely hC.hand hC.c1 hC.c2 (r _)⟩
 ·obtain⟨a,ha,hm⟩:=h.sit.main
  exact⟨a,ha,hm.rely (r _)⟩
 ·have p:=h.prt
  have gm:∀i v,K.GM i v w→K.GM i v (w.at d):=fun i v hg=>hC.hand.gm i v w (w.at d) (fun _ _=>rfl) hg
  exact⟨p.wg,p.mode,p.cho,p.chb,p.tal,p.nN,p.park,fun y hy=>let ⟨i,v,a1,a2,a3,a4⟩:=p.buf y hy; ⟨i,v,a1,a2,gm i v a3,a4⟩,fun i v hv=>⟨gm i v (p.tk i v hv).1,(p.tk i v hv).2⟩,p.hold,p.two,p.cover,p.room,p.ca,p.cl,p.emp,p.busy⟩
theorem Cmp.awake(hC:CfgOk K)(h:Cmp K x Shun gs w t):∀g,g∈gs→awake g:=by
 intro g hg
 obtain⟨i,hi⟩:=Array.mem_iff_getElem?.1 hg
 rcases who h hi with⟨rfl,hm⟩|⟨_,_,hq⟩|⟨k,hk,rfl,hs⟩
 ·by_cases h7:x.md.s=7
  ·obtain⟨_,_,_,g0,rfl,_⟩:=hm.at7 h7
   exact awake_of (Or.inr (Or.inl rfl))
  ·by_cases h14:x.md.s=14
   ·obtain⟨_,_,_,fr,cs,rfl,_⟩:=hm.at14 h14
    exact awake_of (Or.inr (Or.inl rfl))
   ·exact awake_of (Or.inl (hm.run hC.main h7 h14))
 ·exact awake_of (hq.status.elim Or.inl fun y=>Or.inr (Or.inr y))
 ·by_cases h20:(x.hs k).st=20
  ·obtain⟨_,_,fr,cs,rfl,_⟩:=hs.parked h20
   exact awake_of (Or.inr (Or.inl rfl))
  ·exact awake_of ((hs.stat h20).elim Or.inl fun y=>Or.inr (Or.inr y))
theorem Cmp.some_run(hC:CfgOk K)(hH:1≤K.H)(h:Cmp K x Shun gs w t):∃(i:Nat) (g:Goroutine),gs[i]?=some g∧g.status = .running:=by
 obtain⟨a,ha,hm⟩:=h.sit.main
 by_cases h7:x.md.s=7
 ·have hmo:=h.prt.mode
  rw[tg_of (s:=7) (r:=x.md.r) (n:=0) (d:=0) (O:=noB) h7 rfl]at hmo
  have hmo:Go.ConcN.Mode x.j (wdF K x) .blk x.st x.sm:=hmo
  have key:∃k,k<x.j∧(wdF K x k).stage≠1:=by
   generalize x.st=st at hmo
   generalize x.sm=sm at hmo
   cases hmo with
   | opn h1 _ _=>exact h1.elim
   | reg _ _ h3=>
    obtain⟨k,hk,h5⟩:=Go.ConcN.exists_counted h3
    exact⟨k,hk,by omega⟩
   | last L _ h2 h3 _=>exact⟨L,h2,by omega⟩
   | fin h1 _=>exact h1.elim
  obtain⟨k,hk,h1⟩:=key
  obtain⟨g,hg,hs⟩:=h.sit.hand k hk
  refine⟨_,g,hg,hs.run (h.prt.park (by omega) k hk) fun e=>h1 ?_⟩
  simp[wdF,e]
 ·by_cases h14:x.md.s=14
  ·obtain⟨_,hj,_,_⟩:=hm.at14 h14
   obtain⟨g,hg,hs⟩:=h.sit.hand 0 (by omega)
   have hb:=h.prt.busy (by omega) 0 (by omega)
   exact⟨_,g,hg,hs.run (h.prt.park (by omega) 0 (by omega)) (by omega)⟩
  ·exact⟨0,a,ha,hm.run hC.main h7 h14⟩
theorem old_any(hC:CfgOk K)(h:Cmp K x Shun gs w t){i:Nat}{g:Goroutine}(h0:0<i)(hi:i<K.nb)(hg:gs[i]?=some g)(hrun:g.status = .running):Res K Shun x t (runT K.P (crowd gs w sl) i):=by
 have hq:=h.sit.old i g h0 hi hg
 have hi0:(i == 0)=false:=by simp;omega
 cases hqi:x.q i with
 | zero=>rw[hqi]at hq;rw[hq.1]at hrun;cases hrun
 | succ n=>
  rw[hqi]at hq
  rcases hq with⟨hf,_⟩|⟨_,g',es,hmu,hstp,hq'⟩
  ·rw[hf]at hrun;cases hrun
  ·have hr:=runT_crowd_go (P:=K.P) (sl:=sl) (i:=i) hg (by rw[hi0];exact hstp w)
   obtain⟨m',hm',hcmp⟩:=old_step (g:=g) (g':=g') hC.main h h0 hi hmu hq'
   have hprt:CPrt K { x with md:=m',q:=upd x.q i n } w:=by
    refine h.prt.cong (x':={ x with md:=m',q:=upd x.q i n }) hC.hand rfl ⟨rfl,rfl,rfl,rfl,rfl,rfl,rfl⟩ ⟨rfl,rfl,rfl,rfl,rfl,rfl⟩ (fun _ _=>⟨Iff.rfl,Iff.rfl,Iff.rfl,id,fun _=>rfl⟩) (md_two hm') h.prt.wg (h.prt.mode.retag (tg_two hm')) rfl rfl rfl (fun _ _=>rfl) (fun _ _ _ c=>c) (fun c=>h.prt.emp (md_1 hm' c)) (md_14 hm')
   refine⟨_,w,sl,{ x with md:=m',q:=upd x.q i n },by rw[hr],by rw[hr];exact hcmp (upd x.q i n) (fun l e=>upd_ne x.q _ e) (upd_same ..) hprt,?_⟩
   refine Prod.Lex.left _ _ ?_
   have e1:=sumTo_upd x.q n (fun y=>y) hi
   have e1:sumTo K.nb (upd x.q i n)+x.q i=sumTo K.nb x.q+n:=e1
   have e2:=rk_two (H:=K.H) hm' (Nat.le_refl (Vc x.j (wdF K x)))
   show 100*(K.N-x.next)+10*(K.N-x.nt)+sumTo K.nb (upd x.q i n)+sumTo x.j (fun k=>(x.hs k).st)+rkF K.H (Vc x.j (wdF K x)) m'<100*(K.N-x.next)+10*(K.N-x.nt)+sumTo K.nb x.q+sumTo x.j (fun k=>(x.hs k).st)+rkF K.H (Vc x.j (wdF K x)) x.md
   omega
def AtFin(K:Cfg)(x:Gst K.P)(gs:Array Goroutine)(w:World):Prop:=x.md.s=1∧∃a,gs[0]?=some a∧∀w1,Rly K.rd (Lvx K) x.md.O w w1→K.Fin x.tk x.md.O a w1
theorem main_any(hC:CfgOk K)(h:Cmp K x Shun gs w t)(ha:gs[0]?=some a)(hrun:a.status = .running):AtFin K x gs w∨Res K Shun x t (runT K.P (crowd gs w sl) 0):=by
 obtain⟨z,hz,hm⟩:=h.sit.main
 rw[ha]at hz
 cases hz
 rcases hm with c|c|c|c|c|c|c|c|c|c|c|c|c|c|c|c|c|c|c|c
 ·exact Or.inr (main20 hC h ha c)
 ·exact Or.inr (main19 hC h ha c)
 ·exact Or.inr (main18 hC h ha c)
 ·exact Or.inr (main17 hC h ha c)
 ·exact Or.inr (main16 hC h ha c)
 ·exact Or.inr (main15 hC h ha c)
 ·obtain⟨_,_,_,_,fr,cs,rfl,_⟩:=c
  cases hrun
 ·exact Or.inr (main13 hC h ha c)
 ·exact Or.inr (main12 hC h ha c)
 ·obtain⟨e,d,hj,hn,hh⟩:=c
  exact Or.inr (main_w1 hC h ha (Or.inr ⟨e,rfl⟩) d hj hn hh)
 ·exact Or.inr (main10 hC h ha c)
 ·exact Or.inr (main9 hC h ha c)
 ·exact Or.inr (main8 hC h ha c)
 ·obtain⟨_,_,_,_,g,rfl,_⟩:=c
  cases hrun
 ·exact Or.inr (main6 hC h ha c)
 ·exact Or.inr (main5 hC h ha c)
 ·exact Or.inr (main4 hC h ha c)
 ·exact Or.inr (main3 hC h ha c)
 ·exact Or.inr (main2 hC h ha c)
 ·obtain⟨e,d,hj,hn,hh⟩:=c
  rcases HG.cases2 hh with hsr|⟨m,g',w',es,hm,_,hgo,hS,hn'⟩
  ·exact Or.inl ⟨e,a,ha,hsr⟩
  ·exact Or.inr (main_quiet hC h ha hgo hS hm (by omega) (in1 e d hj hn hn'))
theorem AtFin.of_at {d:Nat}(h:AtFin K x gs (w.at d)):AtFin K x gs w:=by
 obtain⟨e,a,ha,hs⟩:=h
 exact⟨e,a,ha,fun w1 hr=>hs w1 ⟨fun b hb=>hr.stb b hb,fun hl=>hr.lv hl,hr.size⟩⟩
theorem cmp_step(hC:CfgOk K)(hH:1≤K.H)(h:Cmp K x Shun gs w t):AtFin K x gs w∨Res K Shun x t (stepT K.P (crowd gs w sl)):=by
 obtain⟨i,g,d,sl',hg,hrun,hst⟩:=crowd_pick (P:=K.P) (w:=w) (sl:=sl) (h.awake hC) (h.some_run hC hH)
 rw[hst]
 have hd:=h.at hC d
 rcases who h hg with⟨rfl,_⟩|⟨h0,hi,_⟩|⟨k,hk,rfl,_⟩
 ·exact(main_any hC hd hg hrun).imp AtFin.of_at id
 ·exact Or.inr (old_any hC hd h0 hi hg hrun)
 ·exact Or.inr (hand_any hC hd hk hg hrun)
theorem cmp_runs(hC:CfgOk K)(hH:1≤K.H):∀(x:Gst K.P) (gs:Array Goroutine) (w:World) (sl:Option (Nat×Nat)) (t:Trace), Cmp K x Shun gs w t →
  ∃N gs' w' sl' x' t',runNT K.P N (crowd gs w sl) t=(.next (crowd gs' w' sl'),t')∧Cmp K x' Shun gs' w' t'∧AtFin K x' gs' w':=by
 have hwf:WellFounded fun x' x:Gst K.P=>meR K.P K.H (meaF K x') (meaF K x):=InvImage.wf (meaF K) (meR_wf K.P K.H)
 intro x
 induction x using hwf.induction with
 | _ x ih=>
  intro gs w sl t h
  rcases cmp_step (sl:=sl) hC hH h with hf|⟨gs1,w1,sl1,x1,e1,h1,hlt⟩
  ·exact⟨0,gs,w,sl,x,t,rfl,h,hf⟩
  ·obtain⟨N,gs',w',sl',x',t',hr,hc,hf⟩:=ih x1 hlt gs1 w1 sl1 _ h1
   refine⟨N+1,gs',w',sl',x',t',?_,hc,hf⟩
   rw[runNT_succ_next (ops:=(stepT K.P (crowd gs w sl)).2) (Prod.ext e1 rfl)]
   exact hr
end
end
section
open Go.Conc
open Go.ConcN (sumTo upd sumTo_upd upd_ne upd_same)
structure PastX(Shun:Nat→Prop)(B:Nat)(t:Trace):Prop where
 clean:∀said, ¬Race said t
 known:∀i a,touchAt t i=some a→a.loc.isMemory=true→Knows t 0 i∨(InB Shun a.loc∧a.kind = .atomic)
 over:t.HandedOver
 hears:Deaf t 0=0
 seen:∀op,op∈t→LowT B op.act
def EvO(O:Nat→Prop)(N:Nat)(e:Event):Prop:=
 match e.loc with
 | .cell a=>a.block<N∧O a.block
 | .obj r=>r<N∧O r
 | .mark m=>Bare m
 | _=>False
def TchS(S:Nat→Prop)(x:MemAct):Prop:=∀y,x.touch?=some y→∀b,blkOf y.loc=some b→S b
structure Sto1(O O':Nat→Prop)(w w':World)(es:Array Event):Prop where
 tape:w'.tape=w.tape
 os:w'.os=w.os
 out:w'.output=w.output
 size:w.heap.size≤w'.heap.size
 other:∀b,b<w.heap.size→¬O b→w'.heap[b]?=w.heap[b]?
 mono:∀b,O b→O' b
 new:∀b,O' b→O b∨(w.heap.size≤b∧b<w'.heap.size)
 ev:∀e,e∈es→EvO O' w'.heap.size e
def Wk(P:Program)(Stop:(Nat→Prop)→Goroutine→World→Prop)(O:Nat→Prop)(g:Goroutine)(w:World):Prop:=
 ∀X:(Nat→Prop)→Goroutine→World→Prop,(∀O g w,(∀d,Stop O g (w.at d))→X O g w)→
  (∀O g w,g.status = .running→∀(g':Nat→Goroutine) (w':Nat→World) (es:Nat→Array Event) (O':Nat→Nat→Prop),(∀d,stepG P true g (w.at d) = .go (g' d) (w' d) (es d)∧Sto1 O (O' d) (w.at d) (w' d) (es d))→(∀d,X (O' d) (g' d) (w' d))→X O g w)→X O g w
section
variable {P:Program}{Stop Stop':(Nat→Prop)→Goroutine→World→Prop}{O O':Nat→Prop}{g g':Goroutine}{w w':World}{es:Array Event}{Shun:Nat→Prop}{B:Nat}{t u:Trace}
theorem Wk.stop(h:∀d,Stop O g (w.at d)):Wk P Stop O g w:=fun _ h1 _=>h1 O g w h
theorem Wk.step(hs:g.status = .running)(g':Nat→Goroutine)(w':Nat→World)(es:Nat→Array Event)(O':Nat→Nat→Prop)(h1:∀d,stepG P true g (w.at d) = .go (g' d) (w' d) (es d)∧Sto1 O (O' d) (w.at d) (w' d) (es d))(h2:∀d,Wk P Stop (O' d) (g' d) (w' d)):Wk P Stop O g w:=
 fun X a b=>b O g w hs g' w' es O' h1 fun d=>h2 d X a b
theorem Wk.mk(hs:g.status = .running)(h:∀d, ∃g' w' es O',stepG P true g (w.at d) = .go g' w' es∧Sto1 O O' (w.at d) w' es∧Wk P Stop O' g' w'):Wk P Stop O g w:=by
 have h1:=fun d=>Classical.choose_spec (h d)
 have h2:=fun d=>Classical.choose_spec (h1 d)
 have h3:=fun d=>Classical.choose_spec (h2 d)
 have h4:=fun d=>Classical.choose_spec (h3 d)
 exact Wk.step hs _ _ _ _ (fun d=>⟨(h4 d).1,(h4 d).2.1⟩) (fun d=>(h4 d).2.2)
theorem Wk.at(h:Wk P Stop O g w)(d:Nat):Wk P Stop O g (w.at d):=
 (h (fun O g w=>Wk P Stop O g w∧Wk P Stop O g (w.at d)) (fun _ _ _ h=>⟨Wk.stop h,Wk.stop fun d'=>h d'⟩) fun _ _ _ hs g' w' es O' h1 h2=>⟨Wk.step hs g' w' es O' h1 fun d=>(h2 d).1,Wk.step hs g' w' es O' (fun d'=>h1 d') fun d=>(h2 d).1⟩).2
theorem Wk.bind(h:Wk P Stop O g w)(hb:∀O g w,(∀d,Stop O g (w.at d))→Wk P Stop' O g w):Wk P Stop' O g w:=
 h (Wk P Stop') hb fun _ _ _ hs g' w' es O' h1 ih=>Wk.step hs g' w' es O' h1 ih
theorem touch_evO {e:Event}(h:EvO O B e){y:Touch}(hy:(MemAct.ofEvent e).touch?=some y):∃b,blkOf y.loc=some b∧b<B∧O b:=by
 obtain⟨loc,wr,sy⟩:=e
 cases loc with
 | cell a=>
  have e1:(MemAct.ofEvent ⟨.cell a,wr,sy⟩).touch?=some ⟨.cell a,wr,if sy then .atomic else .plain⟩:=rfl
  rw[e1]at hy;cases hy
  exact⟨a.block,rfl,h.1,h.2⟩
 | obj r=>
  by_cases c:wr=true∧sy=true
  ·obtain⟨rfl,rfl⟩:=c
   cases hy
  ·have e1:(MemAct.ofEvent ⟨.obj r, wr, sy⟩).touch?=some ⟨.obj r, wr, if sy then .atomic else .plain⟩:=by
    cases wr<;>cases sy<;>first|rfl|exact absurd ⟨rfl,rfl⟩ c
   rw[e1]at hy;cases hy
   exact⟨r,rfl,h.1,h.2⟩
 | mark m=>
  have h:Bare m:=h
  cases m<;>simp[Bare]at h<;>cases hy
 | output=>exact h.elim
 | goroutines=>exact h.elim
theorem evO_still(h:∀e,e∈es→EvO O B e)(d:Nat):deafBehind d es=d:=deafBehind_still (fun e he=>by
 have:=h e he
 refine⟨fun c=>?_,fun c=>?_⟩<;>(unfold EvO at this;rw[c]at this;exact this)) d
theorem PastX.own(h:PastX Shun B t)(hB:B≤w'.heap.size)(hO:∀b,O b→¬Shun b){fn:FuncId}{pos:String}(hes:∀e,e∈es→EvO O w'.heap.size e):PastX Shun w'.heap.size (t++MemOp.ofEvents 0 fn pos es):=by
 have hu:∀op,op∈MemOp.ofEvents 0 fn pos es→op.g=0:=fun op hop=>by obtain⟨e,_,rfl⟩:=Go.Conc.mem_ofEvents hop;rfl
 refine⟨fun said=>noRace_append (h.clean said) hu fun i a ha op hop b hb hc=>?_,fun i a ha hm=>?_,handedOver_app h.over fun op hop=> .inl (hu op hop),?_,lowT_app h.seen hB fun op hop y hy b hb=>?_⟩
 ·rcases h.known i a ha hc.2.1 with hk|⟨⟨c,hc1,hc2⟩,_⟩
  ·exact hk
  ·obtain⟨e,he,rfl⟩:=Go.Conc.mem_ofEvents hop
   obtain⟨c',h1,_,h3⟩:=touch_evO (hes e he) hb
   rw[hc.1,h1]at hc1
   cases hc1
   exact absurd hc2 (hO _ h3)
 ·obtain⟨x,hx,hxa⟩:=touch_of ha
  rcases getElem?_append_cases hx with⟨_,hx'⟩|⟨_,hxu⟩
  ·exact(h.known i a (by rw[touchAt_of hx'];exact hxa) hm).imp (·.app _) id
  ·have:=knows_own hx
   rw[hu x hxu]at this
   exact .inl this
 ·rw[Deaf_own,evO_still hes]
  exact h.hears
 ·obtain⟨e,he,rfl⟩:=Go.Conc.mem_ofEvents hop
  obtain⟨c,h1,h2,_⟩:=touch_evO (hes e he) hy
  rw[hb]at h1
  cases h1
  exact h2
theorem PastX.appMute(h:PastX Shun B t){gi:Nat}(hg:gi≠0){fn:FuncId}{pos:String}(hm:∀e,e∈es→Event.mute e=true):PastX Shun B (t++MemOp.ofEvents gi fn pos es):=by
 have hu:∀op,op∈MemOp.ofEvents gi fn pos es→op.g=gi:=fun op hop=>by obtain⟨e,_,rfl⟩:=Go.Conc.mem_ofEvents hop;rfl
 have hn:∀op,op∈MemOp.ofEvents gi fn pos es→op.act.touch?=none:=fun op hop=>by obtain⟨e,he,rfl⟩:=Go.Conc.mem_ofEvents hop;exact touch_mute (hm e he)
 refine⟨fun said=>noRace_append (h.clean said) hu fun i a _ op hop b hb _=>(by rw[hn op hop]at hb;cases hb),fun i a ha hm=>?_,handedOver_app h.over fun op hop=> .inr (hn op hop),(Deaf_other t hg _ hu).trans h.hears,lowT_app h.seen (Nat.le_refl _) fun op hop=>LowT.none (hn op hop)⟩
 obtain⟨x,hx,hxa⟩:=touch_of ha
 rcases getElem?_append_cases hx with⟨_,hx'⟩|⟨_,hxu⟩
 ·exact(h.known i a (by rw[touchAt_of hx'];exact hxa) hm).imp (·.app _) id
 ·rw[hn x hxu]at hxa;cases hxa
structure Far0(O O':Nat→Prop)(w w':World)(t t':Trace):Prop where
 tape:w'.tape=w.tape
 os:w'.os=w.os
 out:w'.output=w.output
 size:w.heap.size≤w'.heap.size
 other:∀b,b<w.heap.size→¬O b→w'.heap[b]?=w.heap[b]?
 mono:∀b,O b→O' b
 new:∀b,O' b→O b∨(w.heap.size≤b∧b<w'.heap.size)
 tch:∀S:Nat→Prop,(∀op,op∈t→TchS S op.act)→∀op,op∈t'→TchS (fun b=>S b∨O' b) op.act
theorem Far0.refl(O:Nat→Prop)(w:World)(t:Trace):Far0 O O w w t t:=⟨rfl,rfl,rfl,Nat.le_refl _,fun _ _ _=>rfl,fun _ h=>h,fun _ h=>Or.inl h,fun _ h op hop y hy b hb=>Or.inl (h op hop y hy b hb)⟩
theorem Far0.trans {O1 O2 O3:Nat→Prop}{w1 w2 w3:World}{t1 t2 t3:Trace}(h:Far0 O1 O2 w1 w2 t1 t2)(k:Far0 O2 O3 w2 w3 t2 t3):Far0 O1 O3 w1 w3 t1 t3:=by
 refine⟨k.tape.trans h.tape,k.os.trans h.os,k.out.trans h.out,Nat.le_trans h.size k.size,fun b hb ho=>?_,fun b hb=>k.mono b (h.mono b hb),fun b hb=>?_,fun S hS op hop y hy b hb=>?_⟩
 ·refine(k.other b (Nat.lt_of_lt_of_le hb h.size) fun c=>?_).trans (h.other b hb ho)
  rcases h.new b c with c|c
  ·exact ho c
  ·omega
 ·have:=h.size
  have:=k.size
  rcases k.new b hb with c|c
  ·rcases h.new b c with c|c
   ·exact Or.inl c
   ·exact Or.inr ⟨c.1,by omega⟩
  ·exact Or.inr ⟨by omega,c.2⟩
 ·rcases k.tch _ (h.tch S hS) op hop y hy b hb with(c|c)|c
  ·exact Or.inl c
  ·exact Or.inr (k.mono b c)
  ·exact Or.inr c
theorem leavers_own {gs:Array Goroutine}{q:Nat→Nat}(hL:Leavers P t gs q){fn:FuncId}{pos:String}(h0:gs[0]?=some g):Leavers P (t++MemOp.ofEvents 0 fn pos es) ((gs.map (woken P g g' w')).setIfInBounds 0 g') q:=
 ⟨fun j x hj hx=>by
  rw[Array.getElem?_setIfInBounds_ne (by omega),Array.getElem?_map]at hx
  obtain⟨y,hy,rfl⟩:=Option.map_eq_some_iff.1 hx
  have hq:=hL.old j y hj hy
  rw[woken_quitsD hq,Deaf_other t (g:=j) (g':=0) (by omega) _ (fun op hop=>by obtain⟨e,_,rfl⟩:=Go.Conc.mem_ofEvents hop;rfl)]
  exact hq,fun j hj=>by
  have hlt:=(Array.getElem?_eq_some_iff.1 h0).1
  rw[Deaf_other t (g':=0) (by simp at hj;omega) _ (fun op hop=>by obtain⟨e,_,rfl⟩:=Go.Conc.mem_ofEvents hop;rfl)]
  exact hL.above j (by simpa using hj)⟩
theorem leavers_awake {gs:Array Goroutine}{q:Nat→Nat}(hL:Leavers P t gs q)(h0:gs[0]?=some g)(hs:g.status = .running):∀x∈gs,awake x:=by
 intro x hx
 obtain⟨i,hi,rfl⟩:=Array.mem_iff_getElem.1 hx
 rcases Nat.eq_zero_or_pos i with rfl|hpos
 ·have:gs[0]=g:=by simpa [Array.getElem?_eq_getElem hi]using h0
  rw[this];exact awake_of (.inl hs)
 ·exact awake_of ((hL.old i _ hpos (Array.getElem?_eq_getElem hi)).status.elim .inl fun y=> .inr (.inr y))
def Came0(P:Program)(Shun:Nat→Prop)(Stop:(Nat→Prop)→Goroutine→World→Prop)(O:Nat→Prop)(gs:Array Goroutine)(w:World)(sl:Option (Nat×Nat))(t:Trace):Prop:=
 ∃(N:Nat) (gs':Array Goroutine) (g':Goroutine) (w':World) (sl':Option (Nat×Nat)) (t':Trace) (q':Nat→Nat) (O':Nat→Prop),
  runNT P N (crowd gs w sl) t=(.next (crowd gs' w' sl'),t')∧gs'.size=gs.size∧gs'[0]?=some g'∧(∀d,Stop O' g' (w'.at d))∧Leavers P t' gs' q'∧PastX Shun w'.heap.size t'∧Far0 O O' w w' t t'
theorem wk_run(h:Wk P Stop O g w):∀(gs:Array Goroutine) (sl:Option (Nat×Nat)) (t:Trace) (q:Nat→Nat),gs[0]?=some g→Leavers P t gs q→PastX Shun w.heap.size t→(∀b,O b→b<w.heap.size∧¬Shun b)→(∀b,Shun b→b<w.heap.size)→Came0 P Shun Stop O gs w sl t:=by
 refine h (fun O g w=>∀(gs:Array Goroutine) (sl:Option (Nat×Nat)) (t:Trace) (q:Nat→Nat),gs[0]?=some g→Leavers P t gs q→PastX Shun w.heap.size t→(∀b,O b→b<w.heap.size∧¬Shun b)→(∀b,Shun b→b<w.heap.size)→Came0 P Shun Stop O gs w sl t) (fun O g w h=>?_) (fun O g w hs g' w' es O' h1 ih=>?_)
 ·exact fun gs sl t q h0 hL hP _ _=>⟨0,gs,g,w,sl,t,q,O,rfl,rfl,h0,h,hL,hP,Far0.refl O w t⟩
 ·
  have mine:∀(gs:Array Goroutine) (dd d:Nat) (sl sl':Option (Nat×Nat)) (t:Trace) (q:Nat→Nat), gs[0]?=some g→Leavers P t gs q→PastX Shun w.heap.size t→(∀b, O b→b<w.heap.size∧¬Shun b)→(∀b, Shun b→b<w.heap.size)→
    stepT P (crowd gs (w.at dd) sl)=runT P (crowd gs (w.at d) sl') 0→Came0 P Shun Stop O gs (w.at dd) sl t:=by
   intro gs dd d sl sl' t q h0 hL hP hO hSh hst
   obtain⟨hgo,hS⟩:=h1 d
   have hrunT:=runT_crowd_go (P:=P) (sl:=sl') (i:=0) h0 (show stepG P (0 == 0) g (w.at d)=_ from hgo)
   have hnSh:∀b,O' d b→¬Shun b:=fun b hb=>by
    rcases hS.new b hb with c|c
    ·exact(hO b c).2
    ·intro hc
     have:=hSh b hc
     have c1:w.heap.size≤b:=c.1
     omega
   have hlt:=(Array.getElem?_eq_some_iff.1 h0).1
   obtain⟨N,gs',g2,w2,sl2,t2,q2,O2,r1,r2,r3,r4,r5,r6,r7⟩:=ih d ((gs.map (woken P g (g' d) (w' d))).setIfInBounds 0 (g' d)) sl' (t++MemOp.ofEvents 0 g.frame.fn g.frame.place (es d)) q (Array.getElem?_setIfInBounds_self_of_lt (by simpa using hlt)) (leavers_own hL h0) (hP.own hS.size hnSh hS.ev)
    (fun b hb=>⟨(hS.new b hb).elim (fun c=>Nat.lt_of_lt_of_le (hO b c).1 hS.size) (fun c=>c.2),hnSh b hb⟩) (fun b hb=>Nat.lt_of_lt_of_le (hSh b hb) hS.size)
   refine⟨N+1,gs',g2,w2,sl2,t2,q2,O2,(runNT_succ_next (hst.trans hrunT) N t).trans r1,by rw[r2];simp,r3,r4,r5,r6,Far0.trans ?_ r7⟩
   refine⟨hS.tape,hS.os,hS.out,hS.size,hS.other,hS.mono,hS.new,fun S hSS op hop y hy b hb=>?_⟩
   rcases Array.mem_append.1 hop with hop|hop
   ·exact Or.inl (hSS op hop y hy b hb)
   ·obtain⟨e,he,rfl⟩:=Go.Conc.mem_ofEvents hop
    obtain⟨c,c1,_,c3⟩:=touch_evO (hS.ev e he) hy
    rw[hb]at c1;cases c1
    exact Or.inr c3
  have key:∀(M:Nat) (gs:Array Goroutine) (dd:Nat) (sl:Option (Nat×Nat)) (t:Trace) (q:Nat→Nat),sumTo gs.size q≤M→gs[0]?=some g→Leavers P t gs q→PastX Shun w.heap.size t→(∀b,O b→b<w.heap.size∧¬Shun b)→(∀b,Shun b→b<w.heap.size)→Came0 P Shun Stop O gs (w.at dd) sl t:=by
   intro M
   induction M with
   | zero=>
    intro gs dd sl t q hM h0 hL hP hO hSh
    obtain⟨i,x,d,sl',hi,hg,hst⟩:=crowd_pick (P:=P) (w:=w.at dd) (sl:=sl) (leavers_awake hL h0 hs) ⟨0,g,h0,hs⟩
    rcases Nat.eq_zero_or_pos i with rfl|hpos
    ·exact mine gs dd d sl sl' t q h0 hL hP hO hSh hst
    ·have hq:=hL.old i x hpos hi
     have hlt:i<gs.size:=(Array.getElem?_eq_some_iff.1 hi).1
     have:=Go.ConcN.le_sumTo (f:=q) hlt
     have hz:q i=0:=by omega
     rw[hz]at hq
     rw[hq.1]at hg;cases hg
   | succ M ihM=>
    intro gs dd sl t q hM h0 hL hP hO hSh
    obtain⟨i,x,d,sl',hi,hg,hst⟩:=crowd_pick (P:=P) (w:=w.at dd) (sl:=sl) (leavers_awake hL h0 hs) ⟨0,g,h0,hs⟩
    rcases Nat.eq_zero_or_pos i with rfl|hpos
    ·exact mine gs dd d sl sl' t q h0 hL hP hO hSh hst
    ·have hq:=hL.old i x hpos hi
     have hi0:(i == 0)=false:=by simp;omega
     have hlt:i<gs.size:=(Array.getElem?_eq_some_iff.1 hi).1
     cases hqi:q i with
     | zero=>rw[hqi]at hq;rw[hq.1]at hg;cases hg
     | succ k=>
      rw[hqi]at hq
      rcases hq with⟨hf,_⟩|⟨_,x',es,hm,hstp,hq'⟩
      ·rw[hf]at hg;cases hg
      have hrunT:=runT_crowd_go (P:=P) (sl:=sl') (i:=i) hi (by rw[hi0];exact hstp (w.at d))
      have hsum:sumTo gs.size (upd q i k)+(k+1)=sumTo gs.size q+k:=by
       have:=sumTo_upd q k id hlt
       simpa [hqi]using this
      obtain⟨N,gs',g2,w2,sl2,t2,q2,O2,r1,r2,r3,r4,r5,r6,r7⟩:=ihM ((gs.map (woken P x x' (w.at d))).setIfInBounds i x') d sl' (t++MemOp.ofEvents i x.frame.fn x.frame.place es) (upd q i k) (by simp;omega)
       (by
        rw[Array.getElem?_setIfInBounds_ne (by omega),Array.getElem?_map,h0]
        simp[woken_run hs])
       ⟨fun j y hj hy=>by
        by_cases hji:i=j
        ·subst hji
         rw[Array.getElem?_setIfInBounds_self_of_lt (by simpa using hlt)]at hy
         obtain rfl:=Option.some.inj hy
         rw[upd_same,Deaf_own]
         exact hq'
        ·rw[Array.getElem?_setIfInBounds_ne hji,Array.getElem?_map]at hy
         obtain⟨z,hz,rfl⟩:=Option.map_eq_some_iff.1 hy
         have hqj:=hL.old j z hj hz
         rw[woken_quitsD hqj,upd_ne q k (Ne.symm hji),Deaf_other t (g:=j) (g':=i) hji _ (fun op hop=>by obtain⟨e,_,rfl⟩:=Go.Conc.mem_ofEvents hop;rfl)]
         exact hqj,fun j hj=>by
        rw[Deaf_other t (g:=j) (g':=i) (by simp at hj;omega) _ (fun op hop=>by obtain⟨e,_,rfl⟩:=Go.Conc.mem_ofEvents hop;rfl)]
        exact hL.above j (by simpa using hj)⟩
       (hP.appMute (by omega) hm) hO hSh
      refine⟨N+1,gs',g2,w2,sl2,t2,q2,O2,(runNT_succ_next (hst.trans hrunT) N t).trans r1,by rw[r2];simp,r3,r4,r5,r6,r7.tape,r7.os,r7.out,r7.size,r7.other,r7.mono,r7.new,fun S hSS op hop=>r7.tch S (fun op hop=>?_) op hop⟩
      rcases Array.mem_append.1 hop with hop|hop
      ·exact hSS op hop
      ·obtain⟨e,he,rfl⟩:=Go.Conc.mem_ofEvents hop
       intro y hy
       rw[touch_mute (hm e he)]at hy;cases hy
  intro gs sl t q h0 hL hP hO hSh
  exact key _ gs w.drawn sl t q (Nat.le_refl _) h0 hL hP hO hSh
end
end
section
open Go.Conc (G)
def addK(k:List Item):List Frame→List Frame
 |[]=>[]
 |[f]=>[{ f with todo:=f.todo++k }]
 |f::g::l=>f::addK k (g::l)
def GL:List Frame→Goroutine
 |[]=>default
 |f::l=>G f l
def Stands(P:Program)(t1:List Item)(fr:Frame)(V V1:World)(es:Array Event)(A:List Frame)(g1:Goroutine):Prop:=
 (∃fr1:Frame,g1=G { fr1 with todo:=fr1.todo++t1 } A∧∀k B,stepG P true (G { fr with todo:=fr.todo++k } B) V = .go (G { fr1 with todo:=fr1.todo++k } B) V1 es)∨
 (∃fe:Frame,g1=G fe ({ fr with todo:=fr.todo++t1 }::A)∧fr.todo≠[]∧∀k B,stepG P true (G { fr with todo:=fr.todo++k } B) V = .go (G fe ({ fr with todo:=fr.todo++k }::B)) V1 es)
def Shut(t1:List Item):Prop:=∀id l k',exitTo id (l++t1)=some k'→∃k'',exitTo id l=some k''∧k'=k''++t1
theorem shut_nil:Shut []:=fun id l k' h=>⟨k',by simpa using h,by simp⟩
theorem shut_code(c:Code):Shut [.code c]:=by
 intro id l
 induction l with
 | nil=>intro k' h;simp[exitTo]at h
 | cons x l ih=>
  intro k' h
  cases x with
  | inBlock b=>
   simp only[exitTo,List.cons_append]at h ⊢
   split at h
   ·rename_i q
    cases h
    exact⟨l,by rw[if_pos q],rfl⟩
   ·rename_i q
    obtain⟨k'',h1,h2⟩:=ih k' h
    exact⟨k'',by rw[if_neg q];exact h1,h2⟩
  | _=>
   obtain⟨k'',h1,h2⟩:=ih k' (by simpa [exitTo]using h)
   exact⟨k'',by simpa [exitTo]using h1,h2⟩
section
variable {P:Program}{S:Nat→Prop}{F:Fx}{V V1:World}
theorem exit_app(id:Nat)(k:List Item):∀(l l':List Item),exitTo id l=some l'→exitTo id (l++k)=some (l'++k)
 |[],_,h=>by simp[exitTo]at h
 |x::l,l',h=>by
  cases x<;>simp only[exitTo,List.cons_append]at h ⊢ <;> try exact exit_app id k l l' h
  split at h
  ·rename_i c
   rw[if_pos c]
   cases h
   rfl
  ·rename_i c
   rw[if_neg c]
   exact exit_app id k l l' h
theorem finish_more {c:Frame}(h:c.todo≠[])(v:Value)(k:List Item):({ c with todo:=c.todo++k }:Frame).finish v={ c.finish v with todo:=(c.finish v).todo++k }:=by
 obtain⟨fn,tmps,todo,defers,mode,kind,round⟩:=c
 have h:todo≠[]:=h
 cases todo with
 | nil=>exact absurd rfl h
 | cons x l=>
  cases x with
  | inRegion ops r=>cases r<;>rfl
  | code c=>rfl
  | _=>rfl
def FineR:Result Next→Prop
 | .halt x _=>Hk x
 |.ok (.value _) _ | .ok .skip _ | .ok (.enter _ _) _=>True
 | .ok _ _=>False
def FineO(P:Program)(V:World)(fr:Frame):Prop:=∀ops i rest k0 o,fr.todo = .inRegion ops (i::rest)::k0→ops[i]?=some o→Region.wanted o (yielded ops fr.tmps)=true→∀r E,(execOp fr.eval o).runT P V #[]=(r,E)→FineR r
theorem nr_fine {f:Nat→Nat}{n n':Next}(h:NR S F f n n')(w w':World):FineR (.ok n w)∧FineR (.ok n' w'):=by
 cases n<;>first|exact h.elim|(obtain⟨_,rfl⟩:=h;exact⟨trivial,trivial⟩)|(obtain⟨_,_,rfl⟩:=h;exact⟨trivial,trivial⟩)|(cases h;exact⟨trivial,trivial⟩)
theorem fine_sim {W:World}(hG:GOk P S F)(hP:Fns P F){fr:Frame}{A:List Frame}(h0:FOk P S F fr)(hm:fr.mode = .run)(hV:Sim S F id V W){g1:Goroutine}{es:Array Event}(hs:stepG P true (G fr A) V = .go g1 V1 es)(hnp:∀ch, g1.frame.mode ≠ .panicking ch)
  (ha:∀j q,V.drawn≤j→j<V1.drawn→V.tape j q=W.tape (W.drawn+(j-V.drawn)) q):FineO P W fr:=by
 intro ops i rest k0 o ht ho hw1 r E hr
 obtain⟨fn,tmps,todo,defers,mode,kind,round⟩:=fr
 have e1:mode = .run:=hm
 have e2:defers=[]:=h0.defers
 have e3:kind = .normal:=h0.kind
 have e4:round=none:=h0.round
 have e5:todo = .inRegion ops (i::rest)::k0:=ht
 subst e1 e2 e3 e4 e5
 have hst:stepG P true (G ⟨fn,tmps,.inRegion ops (i::rest)::k0,[],.run,.normal,none⟩ A) V=stepG.apply P true ⟨fn,tmps,.inRegion ops (i::rest)::k0,[],.run,.normal,none⟩ A none (execOp (Frame.eval ⟨fn,tmps,.inRegion ops (i::rest)::k0,[],.run,.normal,none⟩) o) V:=by
  simp[G,stepG,stepG.exec,stepG.oper,Frame.oper?,ho,hw1]
 rw[hst]at hs
 have hop:TOp P F o.op:=h0.todo (.inRegion ops (i::rest)) (by simp) o (Array.mem_of_getElem? ho)
 have hev:∀x,TOd F x→VOk S F (Frame.eval ⟨fn,tmps,.inRegion ops (i::rest)::k0,[],.run,.normal,none⟩ x)∧Frame.eval ⟨fn,tmps,.inRegion ops (i::rest)::k0,[],.run,.normal,none⟩ x=rnV id (Frame.eval ⟨fn,tmps,.inRegion ops (i::rest)::k0,[],.run,.normal,none⟩ x):=fun x hx=>by
  have h:=(eval_ok (f:=id) h0.tmps x hx).1
  exact⟨h,(rnV_id h).symm⟩
 have hsr:=sr_exec (P:=P) (S:=S) (F:=F) (f:=id) hG hP.enter hev (fun v=>rfl) (o:=o) hop
 unfold stepG.apply at hs
 cases hr0:(execOp (Frame.eval ⟨fn,tmps,.inRegion ops (i::rest)::k0,[],.run,.normal,none⟩) o).runT P V #[]with
 | mk r0 E0=>
  rw[hr0]at hs
  cases r0 with
  | halt x V'=>
   exfalso
   have hk:=hsr.halts hV.cl hr0
   cases x with
   | panic v=>
    simp[GStep.after]at hs
    obtain⟨rfl,_,_⟩:=hs
    exact absurd rfl (hnp _)
   | stuck m=>simp[GStep.after]at hs
   | unsupported u=>cases u<;>first|(simp[GStep.after]at hs;done)|exact absurd rfl (hk _)
   | _=>exact hk.elim
  | ok n V'=>
   have hV1:V'.drawn≤V1.drawn∨V'=V1:=by
    have h0:=hsr.run (V':=V') (W:=V) (Sim.refl hV.cl) hr0 (fun j q h1 h2=>by congr 1;omega)
    obtain⟨n',W',E',e1,h2,h3,h4,h5,h6⟩:=h0
    refine Or.inr ?_
    cases n with
    | value v=>simp[GStep.after]at hs;exact hs.2.1
    | skip=>simp[GStep.after]at hs;exact hs.2.1
    | enter g args=>simp[GStep.after]at hs;exact hs.2.1
    | _=>exact h3.elim
   obtain⟨n',W',E',e1,h2,h3,h4,h5,h6⟩:=hsr.run (V':=V') (W:=W) hV hr0 (fun j q h1 h2=>ha j q h1 (by rcases hV1 with c|c;omega;rw[←c];exact h2))
   have h2':=h2 #[]
   have e:(execOp (Frame.eval ⟨fn,tmps,.inRegion ops (i::rest)::k0,[],.run,.normal,none⟩) o).runT P W #[]=(r,E):=hr
   rw[h2']at e
   cases e
   exact(nr_fine h3 V' W').2
theorem und_run {t1:List Item}(hsh:Shut t1){fr:Frame}{A:List Frame}(h0:FOk P S F fr)(hX:FineO P V fr)(hm:fr.mode = .run)(hne:fr.todo≠[])
  {g1:Goroutine} {es:Array Event} (hs:stepG P true (G { fr with todo:=fr.todo++t1 } A) V = .go g1 V1 es) (hnp:∀ch,g1.frame.mode ≠ .panicking ch):Stands P t1 fr V V1 es A g1:=by
 obtain⟨fn,tmps,todo,defers,mode,kind,round⟩:=fr
 have e1:mode = .run:=hm
 have e2:defers=[]:=h0.defers
 have e3:kind = .normal:=h0.kind
 have e4:round=none:=h0.round
 subst e1 e2 e3 e4
 have ht:=h0.todo
 have hne:todo≠[]:=hne
 dsimp only at hs
 cases todo with
 | nil=>exact absurd rfl hne
 | cons x k0=>
  have hx:=ht x (by simp)
  rw[List.cons_append]at hs
  cases x with
  | code c=>
   cases c with
   | ret=>
    simp only[G,stepG,stepG.exec]at hs
    obtain⟨rfl,rfl,rfl⟩:=hs
    exact Or.inl ⟨⟨fn,tmps,.code .ret::k0,[],.returning,.normal,none⟩,rfl,fun k B=>by simp[G,stepG,stepG.exec]⟩
   | skip=>
    simp only[G,stepG,stepG.exec,GStep.go.injEq]at hs
    obtain⟨rfl,rfl,rfl⟩:=hs
    exact Or.inl ⟨⟨fn,tmps,k0,[],.run,.normal,none⟩,rfl,fun k B=>by simp[G,stepG,stepG.exec]⟩
   | seq a b=>
    simp only[G,stepG,stepG.exec,GStep.go.injEq]at hs
    obtain⟨rfl,rfl,rfl⟩:=hs
    exact Or.inl ⟨⟨fn,tmps,.code a :: .code b::k0,[],.run,.normal,none⟩,rfl,fun k B=>by simp[G,stepG,stepG.exec]⟩
   | block id b=>
    simp only[G,stepG,stepG.exec,GStep.go.injEq]at hs
    obtain⟨rfl,rfl,rfl⟩:=hs
    exact Or.inl ⟨⟨fn,tmps,.code b :: .inBlock id::k0,[],.run,.normal,none⟩,rfl,fun k B=>by simp[G,stepG,stepG.exec]⟩
   | loop b=>
    simp only[G,stepG,stepG.exec,GStep.go.injEq]at hs
    obtain⟨rfl,rfl,rfl⟩:=hs
    exact Or.inl ⟨⟨fn,tmps,.code b :: .inLoop b::k0,[],.run,.normal,none⟩,rfl,fun k B=>by simp[G,stepG,stepG.exec]⟩
   | region id ops d=>
    cases d with
    | true=>
     simp[G,stepG,stepG.exec,choose,Sem.run,Question.forced,Question.cut]at hs
     obtain⟨rfl,rfl,rfl⟩:=hs
     exact Or.inl ⟨⟨fn,tmps,.inRegion ops _::k0,[],.run,.normal,none⟩,rfl,fun k B=>by simp[G,stepG,stepG.exec,choose,Sem.run,Question.forced,Question.cut]⟩
    | false=>
     simp only[G,stepG,stepG.exec,Bool.not_false,if_true,GStep.go.injEq]at hs
     obtain⟨rfl,rfl,rfl⟩:=hs
     exact Or.inl ⟨⟨fn,tmps,.inRegion ops (List.range ops.size)::k0,[],.run,.normal,none⟩,rfl,fun k B=>by simp[G,stepG,stepG.exec]⟩
   | cond c a b=>
    simp only[G,stepG,stepG.exec]at hs
    cases hb:(Frame.eval ⟨fn,tmps,.code (.cond c a b)::(k0++t1),[],.run,.normal,none⟩ c)with
    | bool t=>
     rw[hb]at hs
     simp only[GStep.go.injEq]at hs
     obtain⟨rfl,rfl,rfl⟩:=hs
     refine Or.inl ⟨⟨fn,tmps,.code (if t then a else b)::k0,[],.run,.normal,none⟩,rfl,fun k B=>?_⟩
     have hb':(Frame.eval ⟨fn,tmps,.code (.cond c a b)::(k0++k),[],.run,.normal,none⟩ c) = .bool t:=hb
     simp[G,stepG,stepG.exec,hb']
    | _=>rw[hb]at hs;cases hs
   | exit id=>
    simp only[G,stepG,stepG.exec]at hs
    cases he:exitTo id (k0++t1)with
    | none=>rw[he]at hs;cases hs
    | some k'=>
     rw[he]at hs
     simp only[Option.elim_some,GStep.go.injEq]at hs
     obtain⟨rfl,rfl,rfl⟩:=hs
     obtain⟨k2,he2,rfl⟩:=hsh id k0 k' he
     exact Or.inl ⟨⟨fn,tmps,k2,[],.run,.normal,none⟩,rfl,fun k B=>by simp[G,stepG,stepG.exec,exit_app id k k0 k2 he2]⟩
   | _=>exact hx.elim
  | inBlock id=>
   simp only[G,stepG,stepG.exec,GStep.go.injEq]at hs
   obtain⟨rfl,rfl,rfl⟩:=hs
   exact Or.inl ⟨⟨fn,tmps,k0,[],.run,.normal,none⟩,rfl,fun k B=>by simp[G,stepG,stepG.exec]⟩
  | inLoop b=>
   simp only[G,stepG,stepG.exec,GStep.go.injEq]at hs
   obtain⟨rfl,rfl,rfl⟩:=hs
   exact Or.inl ⟨⟨fn,tmps,.code b :: .inLoop b::k0,[],.run,.normal,none⟩,rfl,fun k B=>by simp[G,stepG,stepG.exec]⟩
  | inRegion ops l=>
   cases l with
   | nil=>
    simp only[G,stepG,stepG.exec,GStep.go.injEq]at hs
    obtain⟨rfl,rfl,rfl⟩:=hs
    exact Or.inl ⟨⟨fn,tmps,k0,[],.run,.normal,none⟩,rfl,fun k B=>by simp[G,stepG,stepG.exec]⟩
   | cons i rest=>
    by_cases hw:(Option.map (fun x=>Region.wanted x (yielded ops tmps)) ops[i]?).getD false=true
    ·cases ho:ops[i]? with
     | none=>rw[ho]at hw;cases hw
     | some o=>
      have hw1:Region.wanted o (yielded ops tmps)=true:=by rw[ho]at hw;exact hw
      have hst:∀(k:List Item) (B:List Frame),stepG P true (G ⟨fn,tmps,.inRegion ops (i::rest)::(k0++k),[],.run,.normal,none⟩ B) V=stepG.apply P true ⟨fn,tmps,.inRegion ops (i::rest)::(k0++k),[],.run,.normal,none⟩ B none (execOp (Frame.eval ⟨fn,tmps,.inRegion ops (i::rest)::k0,[],.run,.normal,none⟩) o) V:=by
       intro k B
       have ev:Frame.eval ⟨fn,tmps,.inRegion ops (i::rest)::(k0++k),[],.run,.normal,none⟩=Frame.eval ⟨fn,tmps,.inRegion ops (i::rest)::k0,[],.run,.normal,none⟩:=by
        funext x;cases x<;>rfl
       simp[G,stepG,stepG.exec,stepG.oper,Frame.oper?,ho,hw1,ev]
      have hs0:=hst t1 A
      rw[hs0]at hs
      unfold stepG.apply at hs
      cases hr:(execOp (Frame.eval ⟨fn,tmps,.inRegion ops (i::rest)::k0,[],.run,.normal,none⟩) o).runT P V #[]with
      | mk r E=>
       rw[hr]at hs
       have hfine:=hX ops i rest k0 o rfl ho hw1 r E hr
       cases r with
       | halt x V'=>
        have hk:Hk x:=hfine
        cases x with
        | panic v=>
         simp[GStep.after]at hs
         obtain⟨rfl,_,_⟩:=hs
         exact absurd rfl (hnp _)
        | stuck m=>simp[GStep.after]at hs
        | unsupported u=>cases u<;>first|(simp[GStep.after]at hs;done)|exact absurd rfl (hk _)
        | _=>exact hk.elim
       | ok n V'=>
        cases n with
        | value v=>
         simp[GStep.after]at hs
         obtain⟨rfl,rfl,rfl⟩:=hs
         refine Or.inl ⟨Frame.finish ⟨fn,tmps,.inRegion ops (i::rest)::k0,[],.run,.normal,none⟩ v,congrArg (fun f=>G f A) (finish_more (c:=⟨fn,tmps,.inRegion ops (i::rest)::k0,[],.run,.normal,none⟩) (by simp) v t1),fun k B=>?_⟩
         show stepG P true (G ⟨fn,tmps,.inRegion ops (i::rest)::(k0++k),[],.run,.normal,none⟩ B) V=_
         rw[hst]
         unfold stepG.apply
         rw[hr]
         simp[GStep.after,Frame.finish,G]
        | skip=>
         simp[GStep.after]at hs
         obtain⟨rfl,rfl,rfl⟩:=hs
         refine Or.inl ⟨Frame.finish ⟨fn,tmps,.inRegion ops (i::rest)::k0,[],.run,.normal,none⟩ undef,congrArg (fun f=>G f A) (finish_more (c:=⟨fn,tmps,.inRegion ops (i::rest)::k0,[],.run,.normal,none⟩) (by simp) undef t1),fun k B=>?_⟩
         show stepG P true (G ⟨fn,tmps,.inRegion ops (i::rest)::(k0++k),[],.run,.normal,none⟩ B) V=_
         rw[hst]
         unfold stepG.apply
         rw[hr]
         simp[GStep.after,Frame.finish,G]
        | enter g args=>
         simp[GStep.after]at hs
         obtain⟨rfl,rfl,rfl⟩:=hs
         refine Or.inr ⟨_,rfl,by simp,fun k B=>?_⟩
         show stepG P true (G ⟨fn,tmps,.inRegion ops (i::rest)::(k0++k),[],.run,.normal,none⟩ B) V=_
         rw[hst]
         unfold stepG.apply
         rw[hr]
         simp[GStep.after,G]
        | _=>exact hfine.elim
    ·have hw1:(Option.map (fun x=>Region.wanted x (yielded ops tmps)) ops[i]?).getD false=false:=by simpa using hw
     simp[G,stepG,stepG.exec,hw1]at hs
     obtain⟨rfl,rfl,rfl⟩:=hs
     exact Or.inl ⟨Frame.finish ⟨fn,tmps,.inRegion ops (i::rest)::k0,[],.run,.normal,none⟩ undef,congrArg (fun f=>G f A) (finish_more (c:=⟨fn,tmps,.inRegion ops (i::rest)::k0,[],.run,.normal,none⟩) (by simp) undef t1),fun k B=>by simp[G,stepG,stepG.exec,hw1,Frame.finish]⟩
  | _=>exact hx.elim
theorem und_ret(hP:Fns P F){fr c:Frame}{A:List Frame}(h0:FOk P S F fr)(hm:fr.mode = .returning){g1:Goroutine}{es:Array Event}(hs:stepG P true (G fr (c::A)) V = .go g1 V1 es) :
  ∃v,g1=G (c.finish v) A∧∀c' B,stepG P true (G fr (c'::B)) V = .go (G (c'.finish v) B) V1 es:=by
 have _e:=hP
 obtain⟨fn,tmps,todo,defers,mode,kind,round⟩:=fr
 have e1:mode = .returning:=hm
 have e2:defers=[]:=h0.defers
 have e3:kind = .normal:=h0.kind
 subst e1 e2 e3
 obtain⟨fv,h1,h2,h3⟩:=h0.fn.1
 cases hr:(results fv tmps).runT P V #[]with
 | mk r E=>
  cases r with
  | halt x V'=>
   exfalso
   simp only[G,stepG,unwind,h1,hr]at hs
   cases x<;>simp[GStep.after]at hs
  | ok v V'=>
   simp only[G,stepG,unwind,h1,hr]at hs
   simp[GStep.after,doReturn]at hs
   obtain⟨rfl,rfl,rfl⟩:=hs
   refine⟨v,rfl,fun c' B=>?_⟩
   simp only[G,stepG,unwind,h1,hr]
   simp[GStep.after,doReturn]
def Busy:List Frame→Prop
 |[]=>True
 |[_]=>True
 |_::g::l=>g.todo≠[]∧Busy (g::l)
theorem und_all(hP:Fns P F){fr fr1:Frame}{cs cs1 cb bs:List Frame}(h0:FOk P S F fr)(hX:fr.mode = .run→FineO P V fr)(hr:fr.mode = .returning→cs≠[])(hb:Busy (fr::cs)){k:List Item}(hn:cs=[]→fr.todo≠[]∨k=[])
  {es:Array Event} (hs:stepG P true (G fr (cs++cb)) V = .go (G fr1 (cs1++cb)) V1 es) (hnp:∀ch,fr1.mode ≠ .panicking ch) :
  stepG P true (GL (addK k (fr::cs)++bs)) V = .go (GL (addK k (fr1::cs1)++bs)) V1 es∧Busy (fr1::cs1):=by
 rcases h0.mode with hm|hm
 ·by_cases hne:fr.todo=[]
  ·
   cases cs with
   | nil=>
    rcases hn rfl with c|rfl
    ·exact absurd hne c
    ·obtain⟨fn,tmps,todo,defers,mode,kind,round⟩:=fr
     have e1:mode = .run:=hm
     have e2:defers=[]:=h0.defers
     have e3:kind = .normal:=h0.kind
     have e4:round=none:=h0.round
     have e5:todo=[]:=hne
     subst e1 e2 e3 e4 e5
     simp only[G,stepG,stepG.exec]at hs
     injection hs with hg hv he
     injection hg with hf hc
     subst hf hv he
     have:cs1=[]:=(List.append_cancel_right hc).symm
     subst this
     exact⟨by simp[addK,GL,G,stepG,stepG.exec],trivial⟩
   | cons c cs=>
    obtain⟨fn,tmps,todo,defers,mode,kind,round⟩:=fr
    have e1:mode = .run:=hm
    have e2:defers=[]:=h0.defers
    have e3:kind = .normal:=h0.kind
    have e4:round=none:=h0.round
    have e5:todo=[]:=hne
    subst e1 e2 e3 e4 e5
    simp only[G,stepG,stepG.exec]at hs
    injection hs with hg hv he
    injection hg with hf hc
    subst hf hv he
    have hc:c::(cs++cb)=cs1++cb:=hc
    have:cs1=c::cs:=(List.append_cancel_right (as:=c::cs) (by simpa using hc)).symm
    subst this
    refine⟨?_,hb⟩
    cases cs<;>simp[addK,GL,G,stepG,stepG.exec]
  ·rcases und_run shut_nil h0 (hX hm) hm hne (by rw[List.append_nil];exact hs) hnp with⟨f1,e,hk⟩|⟨fe,e,hne2,hk⟩
   ·rw[List.append_nil]at e
    have e1:fr1=f1:=congrArg Goroutine.frame e
    have e2:cs1++cb=cs++cb:=congrArg Goroutine.callers e
    have e2:=List.append_cancel_right e2
    subst e1 e2
    cases cs1 with
    | nil=>exact⟨hk k bs,trivial⟩
    | cons c cs=>
     refine⟨?_,hb⟩
     have:=hk [] (addK k (c::cs)++bs)
     simpa [addK,GL]using this
   ·rw[List.append_nil]at e
    have e1:fr1=fe:=congrArg Goroutine.frame e
    have e2:cs1++cb=(fr::cs)++cb:=congrArg Goroutine.callers e
    have e2:=List.append_cancel_right e2
    subst e1 e2
    refine⟨?_,hne2,hb⟩
    cases cs with
    | nil=>exact hk k bs
    | cons c cs=>
     have:=hk [] (addK k (c::cs)++bs)
     simpa [addK,GL]using this
 ·cases cs with
  | nil=>exact absurd rfl (hr hm)
  | cons c cs=>
   obtain⟨v,e,hk⟩:=und_ret hP h0 hm hs
   have e1:fr1=c.finish v:=congrArg Goroutine.frame e
   have e2:cs1++cb=cs++cb:=congrArg Goroutine.callers e
   have e2:=List.append_cancel_right e2
   subst e1 e2
   have hcb:c.todo≠[]:=hb.1
   cases cs1 with
   | nil=>
    refine⟨?_,trivial⟩
    have:=hk { c with todo:=c.todo++k } bs
    rw[finish_more hcb]at this
    exact this
   | cons c2 cs=>
    refine⟨?_,hb.2.1,hb.2.2⟩
    exact hk c (addK k (c2::cs)++bs)
end
end
section
open Go.Conc (G solo)
section
variable {P:Program}{Q:Nat→Prop}{F:Fx}{B:Nat}{fr fr1:Frame}{cs cs1:List Frame}{V V1:World}{Stop:Frame→List Frame→World→Prop}
theorem panic_end:∀(n:Nat) (l:List Frame) (fr:Frame) (V:World) (ch:List PanicEntry), fr.mode = .panicking ch→fr.defers=[]→(∃fn, P.funcs[fr.fn]?=some fn)→(∀c, c∈l→c.defers=[]∧(∃fn, P.funcs[c.fn]?=some fn))→
  ∀fr' cs' V',runN P n (lone fr (l++[cDead P]) V) = .next (lone fr' cs' V')→∃ch',fr'.mode = .panicking ch':=by
 intro n
 induction n with
 | zero=>
  intro l fr V ch hm _ _ _ fr' cs' V' hr
  simp only[runN,Stepped.next.injEq]at hr
  have e:fr=fr':=by
   have:=congrArg (fun m=>m.gs) hr
   simp only[lone,Array.mk.injEq,List.cons.injEq,Goroutine.mk.injEq]at this
   exact this.1.1
  rw[←e]
  exact⟨ch,hm⟩
 | succ n ih=>
  intro l fr V ch hm hd hf hl fr' cs' V' hr
  obtain⟨fv,hfv⟩:=hf
  cases l with
  | nil=>
   have hs:stepG P true (G fr ([]++[cDead P])) V = .go (G ((cDead P).raise ch) []) V #[]:=by
    simp[G,stepG,unwind,hm,hd,Frame.catches,hfv]
   simp only[runN,step_lone hs]at hr
   obtain⟨o,w',es,he⟩:=dead_end (P:=P) (chain:=ch++[]) (l:=[]) V
   have e:(cDead P).raise ch={ cDead P with mode:= .panicking (ch++[])}:=rfl
   rw[e]at hr
   have hn:=runN_ended (P:=P) (step_lone_end he) n _ hr
   subst hn
   simp only[runN,Stepped.next.injEq]at hr
   have e:fr'={ cDead P with mode:= .panicking (ch++[])}:=by
    have:=congrArg (fun m=>m.gs) hr
    simp only[lone,solo,G,Array.mk.injEq,List.cons.injEq,Goroutine.mk.injEq]at this
    exact this.1.1.symm
   rw[e]
   exact⟨_,rfl⟩
  | cons c l=>
   have hs:stepG P true (G fr (c::l++[cDead P])) V = .go (G (c.raise ch) (l++[cDead P])) V #[]:=by
    simp[G,stepG,unwind,hm,hd,Frame.catches,hfv]
   simp only[runN,step_lone hs]at hr
   have hc:=hl c (by simp)
   have hr1:∃ch',(c.raise ch).mode = .panicking ch':=by
    unfold Frame.raise
    split<;>exact⟨_,rfl⟩
   have hr2:(c.raise ch).defers=c.defers∧(c.raise ch).fn=c.fn:=by
    unfold Frame.raise
    split<;>exact⟨rfl,rfl⟩
   obtain⟨ch',hch⟩:=hr1
   exact ih l (c.raise ch) V ch' hch (hr2.1.trans hc.1) (by rw[hr2.2];exact hc.2) (fun x hx=>hl x (by simp[hx])) fr' cs' V' hr
theorem bottom_not(hP:Prg P Q F B)(h:LOk P Q F B fr [] V)(hm:fr.mode = .returning){n:Nat}{fr':Frame}{V':World}(hr:runN P (n+1) (lone fr ([]++[cDead P]) V) = .next (lone fr' [cDead P] V')):False:=by
 have _e:=hP
 obtain⟨fn,tmps,todo,defers,mode,kind,round⟩:=fr
 have e1:mode = .returning:=hm
 have e2:defers=[]:=h.fr.defers
 have e3:kind = .normal:=h.fr.kind
 subst e1 e2 e3
 obtain⟨fv,h1,h2,h3⟩:=h.fr.fn.1
 cases hrr:(results fv tmps).runT P V #[]with
 | mk r E=>
  cases r with
  | halt x V2=>
   have hs:∃o w es,stepG P true (G (⟨fn,tmps,todo,[],.returning,.normal,round⟩:Frame) ([]++[cDead P])) V = .ended o w es:=by
    simp only[G,stepG,unwind,h1,hrr]
    cases x<;>simp[GStep.after]
   obtain⟨o,w,es,hs⟩:=hs
   simp only[runN,step_lone_end hs]at hr
   cases hr
  | ok v2 V2=>
   have hs:∃es,stepG P true (G (⟨fn,tmps,todo,[],.returning,.normal,round⟩:Frame) ([]++[cDead P])) V = .go (G (cDead P) []) V2 es:=by
    simp only[G,stepG,unwind,h1,hrr]
    simp[GStep.after,doReturn,cDead,Frame.finish]
   obtain⟨es,hs⟩:=hs
   simp only[runN,step_lone hs]at hr
   obtain⟨o,w',es',he⟩:=dead_end (P:=P) (chain:=[]) (l:=[]) V2
   have hn:=runN_ended (P:=P) (step_lone_end (fr:=cDead P) he) n _ hr
   subst hn
   simp only[runN,Stepped.next.injEq,lone,solo,G,Machine.mk.injEq,Array.mk.injEq,List.cons.injEq,Goroutine.mk.injEq,and_true]at hr
   have:=hr.2.2
   simp at this
theorem lto_end(hP:Prg P Q F B):∀(n:Nat) (fr:Frame) (cs:List Frame) (V:World), LOk P Q F B fr cs V→∀fr' V', runN P n (lone fr (cs++[cDead P]) V) = .next (lone fr' [cDead P] V')→(∀ch, fr'.mode ≠ .panicking ch)→Stop fr' [] V' →
  Lto P [cDead P] Stop n fr cs V:=by
 intro n
 induction n with
 | zero=>
  intro fr cs V _ fr' V' hr _ hp
  simp only[runN,Stepped.next.injEq,lone,Machine.mk.injEq,Array.mk.injEq,List.cons.injEq,Goroutine.mk.injEq,and_true]at hr
  obtain⟨rfl,rfl,hc⟩:=hr
  have hc:cs=[]:=by
   cases cs with
   | nil=>rfl
   | cons c l=>have:=congrArg List.length hc;simp at this
  subst hc
  exact hp
 | succ n ih=>
  intro fr cs V h fr' V' hr hl hp
  rcases kin_all (cb:=[cDead P]) hP h with hk|⟨hm,rfl⟩
  ·cases hs:stepG P true (G fr (cs++[cDead P])) V with
   | go g1 V1 es=>
    rw[hs]at hk
    rcases hk with⟨ch,rfl⟩|hn
    ·exfalso
     simp only[runN,step_lone hs]at hr
     have hfr:=h.fr
     obtain⟨fv,h1,_,_⟩:=hfr.fn.1
     obtain⟨ch',e⟩:=panic_end n cs { fr with mode:= .panicking ch } V1 ch rfl hfr.defers ⟨fv,h1⟩ (fun c hc=>by
      have:=h.cs c hc
      obtain⟨fc,h2,_,_⟩:=this.fn.1
      exact⟨this.defers,fc,h2⟩) fr' [cDead P] V' hr
     exact hl ch' e
    ·have hret:fr.mode = .returning→cs≠[]:=by
      rintro hm rfl
      exact bottom_not hP h hm hr
     obtain⟨hle,fr1,cs1,e,a,b,c⟩:=keep_all hP.glob hP.fns h.le h.cf h.fr h.cs h.blk hret hs hn
     subst e
     simp only[runN,step_lone hs]at hr
     exact Or.inr ⟨fr1,cs1,V1,es,hs,hn,ih fr1 cs1 V1 ⟨a,b,c,Nat.le_trans h.le hle.1,hle.2⟩ fr' V' hr hl hp⟩
   | ended o w es=>
    exfalso
    have:=step_lone_end hs
    simp[runN,this]at hr
   | _=>rw[hs]at hk;exact hk.elim
  ·exact(bottom_not hP h hm hr).elim
def SegR(f:FuncId)(R:Act→World→Prop)(fr:Frame)(cs:List Frame)(V:World):Prop:=cs=[]∧fr.mode = .returning∧fr.fn=f∧R ⟨fr.tmps,fr.defers⟩ V
theorem tot_fin {R:Act→World→Prop}{c:Code}{b:Frame}{a:Act}(hP:Prg P Q F B)(h:LOk P Q F B (b.at a [.code c]) [] V)(hw:∀T d,c.wp P (fun e a w=>(e = .normal∨e = .ret)∧R a w) a (rtp V T d)):Tot P [cDead P] (SegR b.fn R) (b.at a [.code c]) [] V:=by
 intro T d
 obtain⟨e,a',w',⟨he,hR⟩,hA⟩:=hw T d b [] [cDead P]
 rcases he with rfl|rfl
 ·obtain⟨n,hn⟩:=hA
  refine⟨n+1,lto_end hP (n+1) _ [] _ (h.rtp T d) { b.at a' []with mode:= .returning } w' ?_ (fun ch=>by simp) ⟨rfl,rfl,rfl,hR⟩⟩
  rw[runN_add]
  have e1:runN P n (lone (b.at a [.code c]) ([]++[cDead P]) (rtp V T d)) = .next (lone (b.at a' []) [cDead P] w'):=hn
  rw[e1]
  simp only[runN,step_end]
 ·obtain⟨todo,n,hn⟩:=hA
  exact⟨n,lto_end hP n _ [] _ (h.rtp T d) { b.at a' todo with mode:= .returning } w' hn (fun ch=>by simp) ⟨rfl,rfl,rfl,hR⟩⟩
end
end
section
open Go.Conc (G)
section
variable {P:Program}{Q O0:Nat→Prop}{F:Fx}{B:Nat}{fr:Frame}{cs bs:List Frame}{V:World}{StopL:Frame→List Frame→World→Prop}{Stop:(Nat→Prop)→Goroutine→World→Prop}{k:List Item}
def OwnB(O0:Nat→Prop)(B:Nat)(V:World)(b:Nat):Prop:=O0 b∨(B≤b∧b<V.heap.size)
theorem evS_evO {V V1:World}(hQ:∀b,Q b→O0 b){e:Event}(h:EvS (Sup Q B) V V1 e):EvO (OwnB O0 B V1) V1.heap.size e:=by
 obtain⟨loc,wr,sy⟩:=e
 have own:∀b,Sup Q B b→b<V1.heap.size→OwnB O0 B V1 b:=fun b hb hl=>hb.imp (hQ b) fun c=>⟨c,hl⟩
 cases loc with
 | cell a=>exact⟨h.2.1,own _ h.1 h.2.1⟩
 | obj r=>exact⟨h.2.1,own _ h.1 h.2.1⟩
 | mark m=>exact h
 | output=>exact h.elim
 | goroutines=>exact h.elim
theorem rnE_id(e:Event):rnE id e=e:=by
 obtain⟨loc,wr,sy⟩:=e
 cases loc<;>simp[rnE,rnA]
end
end
section
open Go.Conc
open Go.ConcN (sumTo upd sumTo_upd upd_ne upd_same)
section
variable {P:Program}{Q O0 O O':Nat→Prop}{F:Fx}{B:Nat}{fr:Frame}{cs bs:List Frame}{V V1 w:World}{Stop:(Nat→Prop)→Goroutine→World→Prop}{k:List Item}{Post:Value→World→Prop}{g g':Goroutine}
theorem OwnB.self(O0:Nat→Prop)(V:World):OwnB O0 V.heap.size V=O0:=by
 funext b
 refine propext ⟨fun h=>h.resolve_right (by omega),Or.inl⟩
def AtEndX(P:Program)(O1:Nat→Prop)(Post:Value→World→Prop)(_:Nat→Prop)(g:Goroutine)(w:World):Prop:=g.status = .running∧∃v es,stepG P true g w = .ended (.done v) w es∧(∀e,e∈es→EvO O1 w.heap.size e)∧Post v w
end
end
end Go.Proofs.YtedifobeggabnaaGreat
