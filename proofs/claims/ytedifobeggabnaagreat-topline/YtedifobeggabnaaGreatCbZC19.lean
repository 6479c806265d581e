/- Texts of ours, one behind the other: ZC19 ZC20 ZC21 ZC22 ZC23 ZC24. -/
import Derived.Test.YtedifobeggabnaaGreatCbZC14
namespace Go.Proofs.YtedifobeggabnaaGreat
section
open Go.Conc
open Go.ConcR (KK WgAt stA smA rd wr mk Payload DC0 Bk)
open Go.ConcN (WgLive CTag WD RelBy sumTo upd upd_same upd_ne sumTo_congr sumTo_upd cnt Vc)
section
variable {K:Cfg}{Shun:Loc→Prop}{x:Gst K.P}{gs:Array Goroutine}{w w':World}{t:Trace}{es:Array Event}{k:Nat}{g g':Goroutine}{sl:Option (Nat×Nat)}{d':HD K.P}{st' sm':Int}
theorem wd_upd {m:MD}{ca cl:Nat→Bool}{st sm:Int}:wdF K (x.put k d' m ca cl st sm)=upd (wdF K x) k (wdD d'):=by
 funext l
 rw[wd_put]
 by_cases e:l=k
 ·subst e;rw[upd_same,upd_same]
 ·rw[upd_ne x.hs _ e,upd_ne _ _ e];rfl
theorem hand_bk(hC:CfgOk K)(h:Cmp K x Shun gs w t)(hk:k<x.j)(hg:gs[K.nb+k]?=some g)(hgo:stepG K.P false g w = .go g' w' es)(hAs:∀b, b≠K.Wg→w'.heap[b]?=w.heap[b]?)(hsz:w'.heap.size=w.heap.size)(hfix:w'.tape=w.tape∧w'.os=w.os∧w'.output=w.output)
  (hwg:WgAt K.ty K.Wg w' st' sm') (hst:(x.hs k).st<46∧d'.st<46∧d'.st≠20) (hO:∀b, ¬d'.O b) (hsit:HSit K d' g' w')
  (hev:∀e∈es, ∀y,(MemAct.ofEvent e).touch?=some y→InB (ShF K) y.loc∧y.kind ≠ .plain∧y.kind ≠ .said) (hdeaf:deafBehind (x.hs k).dd es=d'.dd) (hnr:∀e∈es,e.loc ≠ .mark (.release (stA K.Wg)))
  (hrel1:(x.hs k).st≤6→d'.st≤6∧∀r,RelX K t k r→RelX K (t++MemOp.ofEvents (K.nb+k) g.frame.fn g.frame.place es) k r)
  (hrel2:6<(x.hs k).st→d'.st≤6→∃r,RelX K (t++MemOp.ofEvents (K.nb+k) g.frame.fn g.frame.place es) k r) (hs3:x.md.s≤3→(x.hs k).st≤6)
  (hmode:∀m',(m'=x.md∨(x.md.s=7∧m'={ x.md with s:=8,fu:=0 }))→(mayWake K.P g=true→g'.status = .running→m'.s≠7)→Go.ConcN.Mode x.j (upd (wdF K x) k (wdD d')) (tgF m') st' sm')
  (hlt:(d'.st=(x.hs k).st∧hmR K.P (d'.la,d'.fu) ((x.hs k).la,(x.hs k).fu))∨(d'.st<(x.hs k).st∧cnt (wdD d')≤cnt (wdD (x.hs k)))) (hge:20≤(x.hs k).st→20≤d'.st):Res K Shun x t (runT K.P (crowd gs w sl) (K.nb+k)):=by
 have hone:=h.sit.one
 obtain⟨l1,l2,l3,l4⟩:=h.prt.lts
 obtain⟨n1,n2⟩:=h.prt.nsh
 have hTW:K.T≠K.Wg:=by
  intro e
  have h1:w.heap[K.Wg]?=some (.cells #[.int .u64 x.st,.int .u32 x.sm] K.ty):=h.prt.wg
  have h2:w.heap[K.T]?=some _:=h.prt.tal
  rw[e,h1]at h2
  simp at h2
 obtain⟨m',hm',hmw,hres⟩:=hand_step (es:=es) (g:=g) (g':=g') (d':=d') hC.hand hC.main hC.c1 hC.c2 h hk hg (by rw[hsz];exact Nat.le_refl _) hfix (fun b _ _ hs=>hAs b fun e=>hs (Or.inl e)) ⟨_,_,hwg⟩ (fun b hb=>absurd hb (hO b)) hsit
  (fun op hop y hy=>by
   obtain⟨e,he,rfl⟩:=Go.Conc.mem_ofEvents hop
   exact Or.inl (hev e he y hy))
  (fun op hop y hy b hb=>by
   obtain⟨e,he,rfl⟩:=Go.Conc.mem_ofEvents hop
   obtain⟨⟨c,e1,e2⟩,_⟩:=hev e he y hy
   rw[hb]at e1
   cases e1
   rw[hsz]
   rcases e2 with rfl|rfl
   ·exact l1
   ·exact l2) hdeaf hnr hrel1 hrel2 hs3
 have hprt:CPrt K (x.put k d' m' x.ca x.cl st' sm') w':=by
  refine h.prt.cong (x':=x.put k d' m' x.ca x.cl st' sm') hC.hand rfl ⟨rfl,rfl,rfl,rfl,rfl,rfl,rfl⟩ ⟨rfl,rfl,rfl,rfl,rfl,rfl⟩ (fun l hl=>?_) (md_two hm') hwg (by rw[wd_upd];exact hmode m' hm' hmw) (hAs _ fun e=>n1 (Or.inl e)) (hAs _ fun e=>n2 (Or.inl e)) (hAs _ hTW) (fun b hb=>hAs b fun e=>(h.mem.dnS b hb).1 (Or.inl e)) (fun _ l _ c=>by
   show 20≤(upd x.hs k d' l).st
   by_cases e:l=k
   ·subst e;rw[upd_same];exact hge c
   ·rw[upd_ne x.hs d' e];exact c) (fun c=>h.prt.emp (md_1 hm' c)) (md_14 hm')
  show(46≤(upd x.hs k d' l).st↔_)∧(47≤(upd x.hs k d' l).st↔_)∧(48≤(upd x.hs k d' l).st↔_)∧((upd x.hs k d' l).st=20→_)∧(_→(upd x.hs k d' l).i=_)
  by_cases e:l=k
  ·subst e
   rw[upd_same]
   exact⟨by omega,by omega,by omega,fun c=>absurd c hst.2.2,fun c=>by omega⟩
  ·rw[upd_ne x.hs d' e]
   exact⟨Iff.rfl,Iff.rfl,Iff.rfl,id,fun _=>rfl⟩
 have hrun:=runT_crowd_go (P:=K.P) (sl:=sl) (i:=K.nb+k) hg (by rw[show((K.nb+k == 0)=false) by simp;omega];exact hgo)
 refine⟨_,w',sl,_,by rw[hrun],by rw[hrun];exact hres _ _ _ _ hprt,?_⟩
 rcases hlt with⟨e,hl⟩|⟨hl,hc⟩
 ·exact mea_fuel hk h.sit.jH hm' e hl
 ·exact mea_stage hk hm' hl hc
theorem rls_step {m : Nat} (hC : CfgOk K) (hr : Rls K m g w) : (∃ m' g' w' es, m = m' + 1 ∧ stepG K.P false g w = .go g' w' es ∧ (∀ b : Nat, w'.heap[b]? = w.heap[b]?) ∧ w'.heap.size = w.heap.size ∧ (w'.tape = w.tape ∧ w'.os = w.os ∧ w'.output = w.output) ∧
     (∀e∈es,(∀y,(MemAct.ofEvent e).touch?=some y→InB (ShF K) y.loc∧y.kind ≠ .plain∧y.kind ≠ .said)∧e.loc ≠ .mark .disable∧e.loc ≠ .mark .enable∧e.loc ≠ .mark (.release (stA K.Wg)))∧Rls K m' g' w')∨
   ∃g' m2,stepG K.P false g w = .go g' w #[mk (.releaseMerge (stA K.Wg))]∧Wsx K 6 m2 0 g' w:=by
 letI:Payload:=⟨K.et⟩
 obtain⟨r1,r2⟩:=hr
 rcases Goes.cases r1 with hstop|⟨m1,e1,hstep⟩
 · obtain⟨_,_,g',hgo,m2,hk⟩:=hstop w (Go.ConcN.RW.refl w)
   exact Or.inr ⟨g',m2,hgo,Or.inl (.k1 hk)⟩
 · rcases Goes.cases r2 with hstop|⟨m2,e2,hstep2⟩
   · obtain⟨_,_,g',hgo,m2,hk⟩:=hstop w (Go.ConcN.RW.refl w)
     exact Or.inr ⟨g',m2,hgo,Or.inr (.k1 hk)⟩
   · obtain⟨g',w',es,hgo,⟨hac,hev⟩,hg'⟩:=hstep w (Go.ConcN.RW.refl w)
     obtain⟨g2,w2,es2,hgo2,⟨hac2,_⟩,hg2⟩:=hstep2 w (Go.ConcN.RW.refl w)
     rw[hgo]at hgo2
     simp only[GStep.go.injEq]at hgo2
     obtain⟨rfl,rfl,rfl⟩:=hgo2
     have em:m1=m2:=by omega
     subst em
     refine Or.inl ⟨m1,g',w',es,e1,hgo,fun b=>?_,hac.size,⟨hac.tape,hac.os,hac.output⟩,fun e he=>⟨fun y hy=>?_,(hev e he).2⟩,hg',hg2⟩
     · by_cases e:b=K.C1
       · subst e;exact hac2.block _ hC.c12
       · exact hac.block b e
     · have := (hev e he).1 0 ""
       rcases this.2 y hy with⟨⟨a,ea,eb⟩,c1,c2⟩|c|⟨c,_⟩
       · exact⟨⟨a.block,by rw[ea];rfl,Or.inl eb⟩,c1,c2⟩
       · exact c.elim
       · exact c.elim
end
end
section
open Go.Conc
open Go.ConcR (KK WgAt stA smA rd wr mk Payload DC0 Bk ofEvent_loc_mark)
open Go.ConcN (WgLive CTag WD RelBy sumTo upd upd_same upd_ne sumTo_congr sumTo_upd cnt Vc le_sumTo Vc_upd others_uncounted)
theorem tg_blk {m:MD}(h:tgF m = .blk):m.s=7:=by
 unfold tgF at h
 by_cases a:20≤m.s
 ·rw[if_pos a]at h;cases h
 rw[if_neg a]at h
 clear a
 by_cases a:m.s=19
 ·rw[if_pos a]at h;cases h
 rw[if_neg a]at h
 clear a
 by_cases a:17≤m.s
 ·rw[if_pos a]at h;cases h
 rw[if_neg a]at h
 clear a
 by_cases a:m.s=16
 ·rw[if_pos a]at h;cases h
 rw[if_neg a]at h
 clear a
 by_cases a:13≤m.s
 ·rw[if_pos a]at h;cases h
 rw[if_neg a]at h
 clear a
 by_cases a:m.s=12
 ·rw[if_pos a]at h;cases h
 rw[if_neg a]at h
 clear a
 by_cases a:m.s=11
 ·rw[if_pos a]at h;cases h
 rw[if_neg a]at h
 clear a
 by_cases a:m.s=10
 ·rw[if_pos a]at h;cases h
 rw[if_neg a]at h
 clear a
 by_cases a:8≤m.s
 ·rw[if_pos a]at h;cases h
 rw[if_neg a]at h
 clear a
 by_cases a:m.s=7
 ·exact a
 rw[if_neg a]at h
 clear a
 by_cases a:m.s=6
 ·rw[if_pos a]at h;cases h
 rw[if_neg a]at h
 clear a
 by_cases a:m.s=5
 ·rw[if_pos a]at h;cases h
 rw[if_neg a]at h
 clear a
 by_cases a:m.s=4
 ·rw[if_pos a]at h;cases h
 rw[if_neg a]at h
 clear a
 cases h
section
variable {K:Cfg}{t:Trace}{k r d:Nat}{es:Array Event}
theorem RelX.own(h:RelX K t k r)(hd:Deaf t (K.nb+k)=d)(fn:FuncId)(pos:String)(hes:∀e∈es, Bk K.Wg e)(hdf:∀j e, es[j]?=some e→(MemAct.ofEvent e).touch?=none∨0<deafBehind d (es.extract 0 j)) :
  RelX K (t++MemOp.ofEvents (K.nb+k) fn pos es) k r:=by
 refine⟨h.ge,h.rel.book hd fn pos hes hdf,fun i a hi hg ha=>?_⟩
 obtain⟨z,hz,hza⟩:=touch_of ha
 have hgz:z.g=K.nb+k:=by simpa [Trace.g?,hz]using hg
 rcases getElem?_append_cases hz with⟨hlt,hz'⟩|⟨_,hzu⟩
 ·exact h.wg i a hi (by simpa [Trace.g?,hz']using hgz) (by rw[touchAt_of hz'];exact hza)
 ·obtain⟨e,he,rfl⟩:=Go.Conc.mem_ofEvents hzu
  rcases hes e he with c|c|⟨ad,b,rfl,c⟩
  ·simp only[ofEvent_loc_mark c]at hza;cases hza
  ·simp only[ofEvent_loc_mark c]at hza;cases hza
  ·simp only[ofEvent_cell0,MemAct.touch?,Option.some.injEq]at hza
   subst hza
   exact⟨⟨ad.block,rfl,c⟩,rfl⟩
theorem RelX.new(hp:K.p0≤t.size)(hd:Deaf t (K.nb+k)=0)(fn:FuncId)(pos:String):RelX K (t++MemOp.ofEvents (K.nb+k) fn pos #[Go.ConcR.mk (.releaseMerge (stA K.Wg))]) k t.size:=by
 refine⟨hp,RelBy.new hd fn pos,fun i a hi hg ha=>?_⟩
 obtain⟨z,hz,_⟩:=touch_of ha
 have:=lt_size_of_getElem? hz
 rw[ofEvents_eq]at this
 simp at this
 omega
theorem bk_ev(hes:∀e∈es,Bk K.Wg e):(∀e∈es, ∀y,(MemAct.ofEvent e).touch?=some y→InB (ShF K) y.loc∧y.kind ≠ .plain∧y.kind ≠ .said)∧∀e∈es,e.loc ≠ .mark (.release (stA K.Wg)):=by
 refine⟨fun e he y hy=>?_,Go.ConcN.norel_of_Bk hes⟩
 rcases hes e he with c|c|⟨ad,b,rfl,c⟩
 ·simp only[ofEvent_loc_mark c]at hy;cases hy
 ·simp only[ofEvent_loc_mark c]at hy;cases hy
 ·simp only[ofEvent_cell0,MemAct.touch?,Option.some.injEq]at hy
  subst hy
  exact⟨⟨ad.block,rfl,Or.inl c⟩,by simp,by simp⟩
end
section
variable {K:Cfg}{Shun:Loc→Prop}{x:Gst K.P}{gs:Array Goroutine}{w w':World}{t:Trace}{es:Array Event}{k:Nat}{g g':Goroutine}{sl:Option (Nat×Nat)}{C:Nat}{v:Value}
theorem hand_ws(hC:CfgOk K)(h:Cmp K x Shun gs w t)(hk:k<x.j)(hg:gs[K.nb+k]?=some g){s m dd:Nat}(hs:(x.hs k).st=s)(hm:(x.hs k).fu=m)(hd:(x.hs k).dd=dd)(hs6:s≤6)(hO:∀b, ¬(x.hs k).O b)(hrun:g.status = .running)
  (hw : @Go.ConcN.WSit ⟨K.et⟩ K.P K.ty K.Wg C 1 ffL ffL 0 1 v s m dd g w) (mkW:∀s m d g w, @Go.ConcN.WSit ⟨K.et⟩ K.P K.ty K.Wg C 1 ffL ffL 0 1 v s m d g w→Wsx K s m d g w):Res K Shun x t (runT K.P (crowd gs w sl) (K.nb+k)):=by
 letI:Payload:=⟨K.et⟩
 have hdk:Deaf t (K.nb+k)=dd:=by rw[h.trs.deafH k hk,hd]
 have hstg:(wdF K x k).stage=s:=by simp[wdF,hs,show ¬14≤s by omega]
 have hmode:=h.prt.mode
 have hwg:=h.prt.wg
 have hH:=hC.hands
 have hjH:=h.sit.jH
 have hVj:=Go.ConcN.Vc_le x.j (wdF K x)
 have bookG:∀ {g':Goroutine} {w':World} {es:Array Event} {s' m' dd':Nat} {st' sm':Int}, stepG K.P false g w = .go g' w' es→(∀b, b≠K.Wg→w'.heap[b]?=w.heap[b]?)→w'.heap.size=w.heap.size→(w'.tape=w.tape∧w'.os=w.os∧w'.output=w.output)→WgAt K.ty K.Wg w' st' sm'→(∀e∈es, Bk K.Wg e)→
   (∀jx e,es[jx]?=some e→(MemAct.ofEvent e).touch?=none∨0<deafBehind dd (es.extract 0 jx))→Go.ConcN.WSit K.P K.ty K.Wg C 1 ffL ffL 0 1 v s' m' dd' g' w'→deafBehind dd es=dd'→s'≤6 →
   (∀m1,(m1=x.md∨(x.md.s=7∧m1={ x.md with s:=8,fu:=0 }))→(mayWake K.P g=true→g'.status = .running→m1.s≠7)→Go.ConcN.Mode x.j (upd (wdF K x) k ⟨s',m',dd'⟩) (tgF m1) st' sm')→((s'<s∧cnt ⟨s',m',dd'⟩≤cnt (wdF K x k))∨(s'=s∧m'+1=m))→
   Res K Shun x t (runT K.P (crowd gs w sl) (K.nb+k)):=by
  intro g' w' es s' m' dd' st' sm' hgo hAs hsz hfix hwg' hbk hdf hw' hdd h6 hmode' hlt
  have ewd:wdD ({ x.hs k with st:=s',fu:=m',dd:=dd' }:HD K.P)=⟨s',m',dd'⟩:=by simp[wdD,show ¬14≤s' by omega]
  obtain⟨b1,b2⟩:=bk_ev (K:=K) hbk
  refine hand_bk (d':={ x.hs k with st:=s',fu:=m',dd:=dd' }) hC h hk hg hgo hAs hsz hfix hwg' ⟨by omega,by show s'<46;omega,by show s'≠20;omega⟩ hO (Or.inr (Or.inr (Or.inr (Or.inr (Or.inr (Or.inr (Or.inr (Or.inr (Or.inr ⟨h6,hO,mkW _ _ _ _ _ hw'⟩))))))))) b1 (by rw[hd];exact hdd) b2 (fun _=>⟨h6,fun r hr=>hr.own hdk _ _ hbk hdf⟩) (fun c=>by omega) (fun _=>by omega) (fun m1 c1 c2=>by rw[ewd];exact hmode' m1 c1 c2) ?_ (fun c=>absurd c (by omega))
  rcases hlt with⟨c1,c2⟩|⟨c1,c2⟩
  ·exact Or.inr ⟨by show s'<_;omega,by rw[ewd];exact c2⟩
  ·exact Or.inl ⟨by show s'=_;omega,Prod.Lex.right _ (by show m'<_;omega)⟩
 have book:∀ {g':Goroutine} {w':World} {es:Array Event} {s' m' dd':Nat} {st' sm':Int}, stepG K.P false g w = .go g' w' es→(∀b, b≠K.Wg→w'.heap[b]?=w.heap[b]?)→w'.heap.size=w.heap.size→(w'.tape=w.tape∧w'.os=w.os∧w'.output=w.output)→WgAt K.ty K.Wg w' st' sm'→(∀e∈es, Bk K.Wg e)→
   (∀jx e,es[jx]?=some e→(MemAct.ofEvent e).touch?=none∨0<deafBehind dd (es.extract 0 jx))→Go.ConcN.WSit K.P K.ty K.Wg C 1 ffL ffL 0 1 v s' m' dd' g' w'→deafBehind dd es=dd'→s'≤6 →
   Go.ConcN.Mode x.j (upd (wdF K x) k ⟨s',m',dd'⟩) (tgF x.md) st' sm'→((s'<s∧cnt ⟨s',m',dd'⟩≤cnt (wdF K x k))∨(s'=s∧m'+1=m))→
   Res K Shun x t (runT K.P (crowd gs w sl) (K.nb+k)):=
  fun a1 a2 a3 a4 a5 a6 a7 a8 a9 a10 a11 a12=>bookG a1 a2 a3 a4 a5 a6 a7 a8 a9 a10 (fun m1 c1 _=>a11.retag (tg_two c1)) a12
 have idle:∀ {g':Goroutine} {m':Nat},stepG K.P false g w = .go g' w #[]→Go.ConcN.WSit K.P K.ty K.Wg C 1 ffL ffL 0 1 v s m' dd g' w→m'+1=m→Res K Shun x t (runT K.P (crowd gs w sl) (K.nb+k)):=by
  intro g' m' hgo hw' hmm
  exact book hgo (fun _ _=>rfl) rfl ⟨rfl,rfl,rfl⟩ hwg (by simp) (by simp) hw' rfl hs6 (by have:=hmode.same (i:=k) m' dd;rwa [hstg]at this) (Or.inr ⟨rfl,hmm⟩)
 have setA:∀(a:Addr) (z:Value),a.block=K.Wg→∀b,b≠K.Wg→(w.setCell a z).heap[b]?=w.heap[b]?:=fun a z ha b hb=>heap_set w a z (by rw[ha];exact hb)
 cases hw with
 | r0 h=>omega
 | k1 hh=>
  rcases Goes.cases hh with hstop|⟨m',rfl,hstep⟩
  ·obtain⟨_,g',hgo,m₂,hk1⟩:=hstop w (Go.ConcN.RW.refl w)
   exact book hgo (fun _ _=>rfl) rfl ⟨rfl,rfl,rfl⟩ hwg (by intro e he;simp at he;subst he;exact .inl rfl) (by intro jx e he;exact .inl (by have:=Array.mem_of_getElem? he;simp at this;subst this;rfl)) (.d1 hk1) rfl (by omega) (hmode.counted hk (by omega) (.inr rfl) _ _) (.inl ⟨by omega,by simp[cnt,hstg]⟩)
  ·obtain⟨g',w',es,hgo,⟨rfl,rfl⟩,hg'⟩:=hstep w (Go.ConcN.RW.refl w)
   exact idle hgo (.k1 hg') rfl
 | d1 hh=>
  rcases Goes.cases hh with hstop|⟨m',rfl,hstep⟩
  ·obtain⟨_,hall⟩:=hstop w (Go.ConcN.RW.refl w)
   have hc1:cnt (wdF K x k)=1:=by simp[cnt,hstg]
   have hV1:1≤Vc x.j (wdF K x):=by have:=le_sumTo (f:=fun l=>cnt (wdF K x l)) hk;simp only[Vc];omega
   have bk2:∀e ∈ #[rd (stA K.Wg),wr (stA K.Wg)],Bk K.Wg e:=by intro e he;simp at he;rcases he with rfl|rfl<;>exact Go.ConcN.bk_cell _ _ rfl
   have df2:∀jx e,(#[rd (stA K.Wg),wr (stA K.Wg)]:Array Event)[jx]?=some e→(MemAct.ofEvent e).touch?=none∨0<deafBehind 1 ((#[rd (stA K.Wg),wr (stA K.Wg)]:Array Event).extract 0 jx):=by
    intro jx e he
    match jx,he with
    | 0,_=>exact .inr (by simp[deafBehind])
    | 1,_=>exact .inr (by simp[deafBehind,rd])
    |jx+2,he=>simp at he
   have hq0:∀q,cnt (⟨1,q,1⟩:WD)=0:=fun _=>rfl
   have opq:∀q,Go.ConcN.OpenSt x.j (wdF K x)→Go.ConcN.OpenSt x.j (upd (wdF K x) k ⟨1,q,1⟩):=fun q h a ha=>by
    by_cases e:a=k
    ·subst e;rw[upd_same];simp
    ·rw[upd_ne _ _ e];exact h a ha
   generalize htg:tgF x.md=tag at hmode
   generalize hst:x.st=st at hmode hwg
   generalize hsm:x.sm=sm at hmode hwg
   cases hmode with
   | opn h1 h2 h3=>
    have hp:Go.ConcN.pend tag≤1:=by cases tag<;>simp[Go.ConcN.pend];split<;>omega
    obtain⟨u,hu⟩:∃u,Vc x.j (wdF K x)+Go.ConcN.pend tag=u+1:=⟨Vc x.j (wdF K x)+Go.ConcN.pend tag-1,by omega⟩
    rw[hu]at hwg
    have hw1:WgAt K.ty K.Wg w (((u:Nat)+1)*KK+((0:Nat):Int)) 0:=by simpa using hwg
    obtain⟨g',hgo,_,hq⟩:=hall u 0 (by omega) (by omega) hw1
    obtain⟨q,hq⟩:=hq (by omega)
    have hv':Vc x.j (upd (wdF K x) k ⟨1,q,1⟩)+Go.ConcN.pend tag=u:=by have:=Vc_upd (wdF K x) (⟨1,q,1⟩:WD) hk;have:=hq0 q;omega
    refine book hgo (setA _ _ rfl) (size_setCell ..) ⟨rfl,rfl,rfl⟩ (hwg.setSt _) bk2 df2 (.quit hq) rfl (by omega) ?_ (.inl ⟨by omega,by simp[cnt]⟩)
    have e:((u:Nat):Int)*KK+((0:Nat):Int)=((Vc x.j (upd (wdF K x) k ⟨1,q,1⟩)+Go.ConcN.pend tag:Nat):Int)*KK:=by rw[hv'];simp
    rw[e,htg]
    exact .opn h1 (opq q h2) (fun vs ev=>by have:=h3 vs ev;omega)
   | reg h1 h2 h3=>
    obtain⟨u,hu⟩:∃u,Vc x.j (wdF K x)=u+1:=⟨Vc x.j (wdF K x)-1,by omega⟩
    rw[hu]at hwg
    have hw1:WgAt K.ty K.Wg w (((u:Nat)+1)*KK+((1:Nat):Int)) 0:=by simpa using hwg
    obtain⟨g',hgo,hl,hq⟩:=hall u 1 (by omega) (by omega) hw1
    by_cases hv0:u=0
    ·subst hv0
     obtain⟨m₂,hk2⟩:=hl ⟨rfl,rfl⟩
     refine book hgo (setA _ _ rfl) (size_setCell ..) ⟨rfl,rfl,rfl⟩ (hwg.setSt _) bk2 df2 (.d2 hk2) rfl (by omega) ?_ (.inl ⟨by omega,by simp[cnt]⟩)
     have hoth:∀a,a<x.j→a≠k→(wdF K x a).stage=1:=fun a ha e=>by
      have c0:=others_uncounted hk hu hc1 a ha e
      have:=h2 a ha
      simp only[cnt]at c0
      split at c0<;>omega
     have:=Go.ConcN.Mode.last (j:=x.j) (D:=upd (wdF K x) k ⟨4,m₂,1⟩) (tag:=tag) k h1 hk (by rw[upd_same];simp) (fun a ha e=>by rw[upd_ne _ _ e];exact hoth a ha e)
     rw[upd_same]at this
     rw[htg]
     simpa using this
    ·obtain⟨q,hq⟩:=hq (by omega)
     have hv':Vc x.j (upd (wdF K x) k ⟨1,q,1⟩)=u:=by have:=Vc_upd (wdF K x) (⟨1,q,1⟩:WD) hk;have:=hq0 q;omega
     refine book hgo (setA _ _ rfl) (size_setCell ..) ⟨rfl,rfl,rfl⟩ (hwg.setSt _) bk2 df2 (.quit hq) rfl (by omega) ?_ (.inl ⟨by omega,by simp[cnt]⟩)
     have e:((u:Nat):Int)*KK+((1:Nat):Int)=((Vc x.j (upd (wdF K x) k ⟨1,q,1⟩):Nat):Int)*KK+1:=by rw[hv'];simp
     rw[e,htg]
     exact .reg h1 (opq q h2) (by omega)
   | last L _ h2 h3 h4=>
    by_cases e:k=L
    ·subst e;omega
    ·have:=h4 k hk e;omega
   | sema h2=>have:=h2 k hk;omega
   | fin _ h2=>have:=h2 k hk;omega
  ·obtain⟨g',w',es,hgo,⟨rfl,rfl⟩,hg'⟩:=hstep w (Go.ConcN.RW.refl w)
   exact idle hgo (.d1 hg') rfl
 | d2 hh=>
  rcases Goes.cases hh with hstop|⟨m',rfl,hstep⟩
  ·obtain⟨_,hx⟩:=hstop w (Go.ConcN.RW.refl w)
   obtain⟨hW3,hoth,hst,hsm⟩:=hmode.isLast hk (by omega)
   rw[hst,hsm,hstg]at hwg
   obtain⟨g',hgo,m₂,hk2⟩:=hx (by simpa using hwg)
   refine book hgo (fun _ _=>rfl) rfl ⟨rfl,rfl,rfl⟩ hwg (by intro e he;simp at he;subst he;exact Go.ConcN.bk_cell _ _ rfl) (by intro jx e he;match jx,he with|0,_=>exact .inr (by simp[deafBehind])|jx+1,he=>simp at he) (.d3 hk2) rfl (by omega) ?_ (.inl ⟨by omega,by simp[cnt]⟩)
   have:=Go.ConcN.Mode.last (j:=x.j) (D:=upd (wdF K x) k ⟨3,m₂,1⟩) (tag:=tgF x.md) k hW3 hk (by rw[upd_same];simp) (fun a ha e=>by rw[upd_ne _ _ e];exact hoth a ha e)
   rw[upd_same]at this
   simpa using this
  ·obtain⟨g',w',es,hgo,⟨rfl,rfl⟩,hg'⟩:=hstep w (Go.ConcN.RW.refl w)
   exact idle hgo (.d2 hg') rfl
 | d3 hh=>
  rcases Goes.cases hh with hstop|⟨m',rfl,hstep⟩
  ·obtain⟨_,hx⟩:=hstop w (Go.ConcN.RW.refl w)
   obtain⟨hW3,hoth,hst,hsm⟩:=hmode.isLast hk (by omega)
   rw[hst,hsm,hstg]at hwg
   obtain⟨g',hgo,m₂,hk2⟩:=hx (by simpa using hwg)
   refine book hgo (setA _ _ rfl) (size_setCell ..) ⟨rfl,rfl,rfl⟩ (hwg.setSt 0) (by intro e he;simp at he;subst he;exact Go.ConcN.bk_cell _ _ rfl) (by intro jx e he;match jx,he with|0,_=>exact .inr (by simp[deafBehind])|jx+1,he=>simp at he) (.d4 hk2) rfl (by omega) ?_ (.inl ⟨by omega,by simp[cnt]⟩)
   have:=Go.ConcN.Mode.last (j:=x.j) (D:=upd (wdF K x) k ⟨2,m₂,1⟩) (tag:=tgF x.md) k hW3 hk (by rw[upd_same];simp) (fun a ha e=>by rw[upd_ne _ _ e];exact hoth a ha e)
   rw[upd_same]at this
   simpa using this
  ·obtain⟨g',w',es,hgo,⟨rfl,rfl⟩,hg'⟩:=hstep w (Go.ConcN.RW.refl w)
   exact idle hgo (.d3 hg') rfl
 | d4 hh=>
  rcases Goes.cases hh with hstop|⟨m',rfl,hstep⟩
  ·obtain⟨_,hmw,hx⟩:=hstop w (Go.ConcN.RW.refl w)
   obtain⟨hW3,hoth,hst,hsm⟩:=hmode.isLast hk (by omega)
   rw[hst,hsm,hstg]at hwg
   obtain⟨g',hgo,q,hq⟩:=hx (by simpa using hwg)
   have hrun':g'.status = .running:=by
    cases q with
    | zero=>exact absurd hq.2 (by decide)
    | succ q=>exact hq.elim (fun x=>absurd x.2 (by decide)) (fun x=>x.1)
   refine bookG hgo (setA _ _ rfl) (size_setCell ..) ⟨rfl,rfl,rfl⟩ (hwg.setSm 1) (es:=semEvents (smA K.Wg)) ?_ ?_ (.quit hq) (by simp[deafBehind,semEvents]) (by omega) ?_ (.inl ⟨by omega,by simp[cnt]⟩)
   ·exact Go.ConcN.bk_sem
   ·intro jx e he
    match jx,he with
    | 0,he=>simp[semEvents]at he;subst he;exact .inl rfl
    | 1,_=>exact .inr (by simp[deafBehind,semEvents])
    | 2,_=>exact .inr (by simp[deafBehind,semEvents])
    | 3,he=>simp[semEvents]at he;subst he;exact .inl rfl
    |jx+4,he=>simp[semEvents]at he
   ·intro m1 c1 c2
    have hnb:=c2 hmw hrun'
    have e3:tgF m1 = .w3:=by
     rcases tg_two c1 with e|⟨_,e⟩
     ·cases ht:tgF x.md with
      | w3=>exact e.trans ht
      | blk=>
       exact absurd (tg_blk (e.trans ht)) hnb
      | _=>rw[ht]at hW3;exact hW3.elim
     ·exact e
    rw[e3]
    simp only[if_true]
    exact .sema fun a ha=>by
     by_cases e:a=k
     ·subst e;rw[upd_same]
     ·rw[upd_ne _ _ e];exact hoth a ha e
  ·obtain⟨g',w',es,hgo,⟨rfl,rfl⟩,hg'⟩:=hstep w (Go.ConcN.RW.refl w)
   exact idle hgo (.d4 hg') rfl
 | quit hh=>
  cases m with
  | zero=>rw[hh.1]at hrun;cases hrun
  | succ q=>
   rcases hh with⟨hf,_⟩|⟨_,g',es,hmute,hstep,hq⟩
   ·rw[hf]at hrun;cases hrun
   ·have hbk:∀e∈es,Bk K.Wg e:=fun e he=>Go.ConcR.bk_of_mute (hmute e he)
    exact book (hstep w) (fun _ _=>rfl) rfl ⟨rfl,rfl,rfl⟩ hwg hbk (fun jx e he=> .inl (touch_mute (hmute e (Array.mem_of_getElem? he)))) (.quit hq) rfl (by omega) (by have:=hmode.same (i:=k) q (deafBehind dd es);rwa [hstg]at this) (.inr ⟨rfl,rfl⟩)
end
end
section
open Go.Conc
open Go.ConcR (KK WgAt stA smA rd wr mk Payload DC0 Bk)
open Go.ConcN (WgLive CTag WD RelBy sumTo upd upd_same upd_ne sumTo_congr sumTo_upd cnt Vc)
section
variable {K:Cfg}{Shun:Loc→Prop}{x:Gst K.P}{gs:Array Goroutine}{w w':World}{t:Trace}{es:Array Event}{k:Nat}{g g':Goroutine}{sl:Option (Nat×Nat)}
theorem hand_rls(hC:CfgOk K)(h:Cmp K x Shun gs w t)(hk:k<x.j)(hg:gs[K.nb+k]?=some g)(hst:(x.hs k).st=15∨(x.hs k).st=14)(hdd:(x.hs k).dd=0){m:Nat}(hr:Rls K m g w)(hfu:(x.hs k).st=14→(x.hs k).fu=m):Res K Shun x t (runT K.P (crowd gs w sl) (K.nb+k)):=by
 have h3:=not_ret3 h hk (by omega)
 have hstg:(wdF K x k).stage=7:=by simp[wdF,show 14≤(x.hs k).st by omega]
 have hmode:=h.prt.mode
 have hcnt:cnt (wdD (x.hs k))=1:=by simp[cnt,wdD,show 14≤(x.hs k).st by omega]
 rcases rls_step hC hr with⟨m',g',w',es,e,hgo,hhp,hsz,hfix,hev,hr'⟩|⟨g',m2,hgo,hw⟩
 ·have ewd:wdD ({ x.hs k with st:=14,fu:=m',O:=noB }:HD K.P)=⟨7,m',0⟩:=by simp[wdD,hdd]
  refine hand_bk (d':={ x.hs k with st:=14,fu:=m',O:=noB }) (st':=x.st) (sm':=x.sm) hC h hk hg hgo (fun b _=>hhp b) hsz hfix ((hhp _).trans h.prt.wg) ⟨by omega,by simp,by simp⟩ (fun _ hb=>hb) (Or.inr (Or.inr (Or.inr (Or.inr (Or.inr (Or.inr (Or.inr (Or.inr (Or.inl ⟨rfl,hdd,fun _ hb=>hb,hr'⟩))))))))) (fun e he=>(hev e he).1) ?_ (fun e he=>(hev e he).2.2.2) (fun c=>by omega) (fun _ c=>by simp at c) (fun c=>by omega) (fun m1 c1 _=>?_) ?_ (fun c=>absurd c (by omega))
  ·exact(deafBehind_still (fun e he=>⟨(hev e he).2.1,(hev e he).2.2.1⟩) _)
  ·rw[ewd]
   have:=hmode.same (i:=k) m' 0
   rw[hstg]at this
   exact this.retag (tg_two c1)
  ·rcases hst with c|c
   ·exact Or.inr ⟨by show 14<_;omega,by rw[ewd,hcnt];simp[cnt]⟩
   ·exact Or.inl ⟨c.symm,Prod.Lex.right _ (by show m'<_;have:=hfu c;omega)⟩
 ·have ewd:wdD ({ x.hs k with st:=6,fu:=m2,O:=noB }:HD K.P)=⟨6,m2,0⟩:=by simp[wdD,hdd]
  have hdk:Deaf t (K.nb+k)=0:=by rw[h.trs.deafH k hk,hdd]
  refine hand_bk (d':={ x.hs k with st:=6,fu:=m2,O:=noB }) (st':=x.st) (sm':=x.sm) hC h hk hg hgo (fun _ _=>rfl) rfl ⟨rfl,rfl,rfl⟩ h.prt.wg ⟨by omega,by simp,by simp⟩ (fun _ hb=>hb) (Or.inr (Or.inr (Or.inr (Or.inr (Or.inr (Or.inr (Or.inr (Or.inr (Or.inr ⟨by simp,fun _ hb=>hb,by show Wsx K 6 m2 (x.hs k).dd g' w;rw[hdd];exact hw⟩))))))))) (fun e he y hy=>?_) ?_ (fun e he=>?_) (fun c=>by omega) (fun _ _=>⟨_,RelX.new h.trs.norel.1 hdk _ _⟩) (fun c=>by omega) (fun m1 c1 _=>?_) (Or.inr ⟨by show 6<_;omega,by rw[ewd,hcnt];simp[cnt]⟩) (fun c=>absurd c (by omega))
  ·simp only[List.mem_toArray,List.mem_cons,List.not_mem_nil,or_false]at he
   subst he
   cases hy
  ·show deafBehind (x.hs k).dd _=(x.hs k).dd
   rfl
  ·simp only[List.mem_toArray,List.mem_cons,List.not_mem_nil,or_false]at he
   subst he
   simp[mk]
  ·rw[ewd]
   exact(hmode.counted hk (by omega) (.inl rfl) _ _).retag (tg_two c1)
theorem hand_any(hC:CfgOk K)(h:Cmp K x Shun gs w t)(hk:k<x.j)(hg:gs[K.nb+k]?=some g)(hrun:g.status = .running):Res K Shun x t (runT K.P (crowd gs w sl) (K.nb+k)):=by
 obtain⟨z,hz,hh⟩:=h.sit.hand k hk
 rw[hg]at hz;cases hz
 by_cases h46:46≤(x.hs k).st
 ·rcases hand_work (sl:=sl) hC h hk hg hh h46 with hr|⟨e,dd,hs⟩
  ·exact hr
  ·exact hand_tells hC h hk hg e dd hs
 ·rcases hh with⟨e,_⟩|⟨e,_⟩|⟨e,_⟩|⟨e,_⟩|⟨e,_⟩|⟨e,dd,hh⟩|⟨e,_,_,fr,cs,rfl,_⟩|⟨e,dd,hh⟩|⟨e,dd,hO,hh⟩|⟨e,hO,hh⟩
  ·omega
  ·omega
  ·omega
  ·omega
  ·omega
  ·rcases hh.cases with hs|⟨m,g',w',es,hm,_,hgo,hS,hn⟩
   ·rcases Nat.lt_trichotomy x.md.s 14 with c|c|c
    ·exact hand_closed hC h hk hg e dd hs c
    ·exact hand_gets hC h hk hg e dd hs c
    ·exact hand_park hC h hk hg e dd hs c
   ·exact hand_quiet hC.hand hC.main hC.c1 hC.c2 h hk hg hm hgo hS (Or.inr (Or.inr (Or.inr (Or.inr (Or.inr (Or.inl ⟨e,dd,hn⟩)))))) (by omega)
  ·cases hrun
  ·rcases hh.cases with⟨m,hs⟩|⟨m,g',w',es,hm,_,hgo,hS,hn⟩
   ·exact hand_rls hC h hk hg (Or.inl e) dd hs (fun c=>by omega)
   ·exact hand_quiet hC.hand hC.main hC.c1 hC.c2 h hk hg hm hgo hS (Or.inr (Or.inr (Or.inr (Or.inr (Or.inr (Or.inr (Or.inr (Or.inl ⟨e,dd,hn⟩)))))))) (by omega)
  ·exact hand_rls hC h hk hg (Or.inr e) dd hh (fun _=>rfl)
  ·rcases hh with hh|hh
   ·exact hand_ws hC h hk hg rfl rfl rfl e hO hrun hh (fun _ _ _ _ _ y=>Or.inl y)
   ·exact hand_ws hC h hk hg rfl rfl rfl e hO hrun hh (fun _ _ _ _ _ y=>Or.inr y)
end
end
section
open Go.Conc
open Go.ConcR (KK WgAt stA smA rd wr mk Payload DC0 Bk)
open Go.ConcN (WgLive CTag WD RelBy sumTo upd upd_same upd_ne sumTo_congr sumTo_upd cnt Vc)
section
variable {K:Cfg}{Shun:Loc→Prop}{x x':Gst K.P}{gs:Array Goroutine}{w w':World}{t:Trace}{es:Array Event}{a a':Goroutine}{sl:Option (Nat×Nat)}{md':MD}{st' sm':Int}
theorem hands_same(h:Cmp K x Shun gs w t)(hO:w'.heap[K.cO]?=w.heap[K.cO]?):∀k,k<x.j→∀z,HSit K (x.hs k) z w'→HSit K (x.hs k) (woken K.P a a' w' z) w':=by
 intro k hk z hs
 have hw:woken K.P a a' w' z=z:=by
  have e1:=hO.trans h.prt.cho
  by_cases h14:x.md.s<14
  ·exact hs.wake (s:=0) (r:=0) (tm:=false) (Or.inr (h.prt.park (Nat.le_of_lt h14) k hk))
  ·rw[decide_eq_false h14]at e1
   exact hs.wake (Or.inl e1)
 rw[hw]
 exact hs
theorem main_quiet(hC:CfgOk K)(h:Cmp K x Shun gs w t)(ha:gs[0]?=some a)(hgo:stepG K.P true a w = .go a' w' es)(hS:Stp K.rd x.md.O w w' es){m:Nat}(hfu:x.md.fu=m+1)(h7:x.md.s≠7)
  (hsit:MSit K x.j x.next x.tk { x.md with fu:=m,O:=Grw x.md.O w w' } a' w'):Res K Shun x t (runT K.P (crowd gs w sl) 0):=by
 obtain⟨a1,a2,a3,a4⟩:=evT_ok (gi:=0) (fn:=a.frame.fn) (pos:=a.frame.place) hS.ev
 have own0:∀b,x.md.O b→ownF K x 0 b:=fun b hb=>Or.inl ⟨rfl,hb⟩
 have nsp:∀b,SpF K b→¬x.md.O b:=fun b hb ho=>(h.mem.ownS _ b (own0 b ho)).1 hb
 obtain⟨l1,l2,l3,l4⟩:=h.prt.lts
 have eW:w'.heap[K.Wg]?=w.heap[K.Wg]?:=hS.other _ l1 (nsp _ (Or.inl rfl))
 have eT:w'.heap[K.T]?=w.heap[K.T]?:=hS.other _ l2 (nsp _ (Or.inr (Or.inl rfl)))
 have eO:w'.heap[K.cO]?=w.heap[K.cO]?:=hS.other _ l3 (nsp _ (Or.inr (Or.inr (Or.inl rfl))))
 have eB:w'.heap[K.cB]?=w.heap[K.cB]?:=hS.other _ l4 (nsp _ (Or.inr (Or.inr (Or.inr rfl))))
 have eD:∀b,x.Dn b→w'.heap[b]?=w.heap[b]?:=fun b hb=>hS.other b (h.mem.dnS b hb).2 fun ho=>(h.mem.ownS _ b (own0 b ho)).2 hb
 have hwg:WgAt K.ty K.Wg w' x.st x.sm:=eW.trans h.prt.wg
 have hprt:CPrt K { x with md:={ x.md with fu:=m,O:=Grw x.md.O w w' }} w':=h.prt.cong (x':={ x with md:={ x.md with fu:=m,O:=Grw x.md.O w w' }}) hC.hand rfl ⟨rfl,rfl,rfl,rfl,rfl,rfl,rfl⟩ ⟨rfl,rfl,rfl,rfl,rfl,rfl⟩ (fun _ _=>⟨Iff.rfl,Iff.rfl,Iff.rfl,id,fun _=>rfl⟩) ⟨Iff.rfl,Iff.rfl⟩ hwg h.prt.mode eO eB eT eD
 have hrun:=runT_crowd_go (P:=K.P) (sl:=sl) (i:=0) ha (by simpa using hgo)
 refine⟨_,w',sl,{ x with md:={ x.md with fu:=m,O:=Grw x.md.O w w' }},by rw[hrun],?_,?_⟩
 ·rw[hrun]
  exact main_step (x':={ x with md:={ x.md with fu:=m,O:=Grw x.md.O w w' }}) hC.hand hC.c1 hC.c2 h rfl rfl rfl hS.size ⟨hS.tape,hS.os,hS.out⟩ (fun b hb ho _=>hS.other b hb ho) ⟨_,_,hwg⟩ (fun _ hb=>hb) hsit (hands_same h eO) (fun _ _=>⟨rfl,rfl,id⟩)
   (fun op hop y hy=>Or.inr (a1 op hop y hy)) (fun op hop=>LowT.of_low (a2 op hop)) (a3 _) (fun e he=>a4 e he _) (fun c=>Or.inl c) hprt
 ·refine Prod.Lex.right _ (Prod.Lex.right _ ?_)
  show(if x.md.s=7 then 0 else m+1)<if x.md.s=7 then 0 else x.md.fu+1
  rw[if_neg h7,if_neg h7]
  omega
theorem main_book(hC:CfgOk K)(h:Cmp K x Shun gs w t)(ha:gs[0]?=some a)(hgo:stepG K.P true a w = .go a' w' es)(hAs:∀b, b≠K.Wg→w'.heap[b]?=w.heap[b]?)(hsz:w'.heap.size=w.heap.size)(hfix:w'.tape=w.tape∧w'.os=w.os∧w'.output=w.output)(hwg:WgAt K.ty K.Wg w' st' sm')
  (hO:md'.O=x.md.O) (hsit:MSit K x.j x.next x.tk md' a' w') (hm:(md'.s<14↔x.md.s<14)∧(md'.s<3↔x.md.s<3))
  (hev:∀e∈es, ∀y,(MemAct.ofEvent e).touch?=some y→InB (ShF K) y.loc∧y.kind ≠ .plain) (hdeaf:deafBehind x.md.d0 es=md'.d0) (hnr:∀e∈es,e.loc ≠ .mark (.release (stA K.Wg)))
  (hacq:md'.s≤3→x.md.s≤3∨∃q,(t++MemOp.ofEvents 0 a.frame.fn a.frame.place es).act? q=some (.mark (.acquire (stA K.Wg)))∧(t++MemOp.ofEvents 0 a.frame.fn a.frame.place es).g? q=some 0∧(t++MemOp.ofEvents 0 a.frame.fn a.frame.place es).heard q∧∀k,k<x.j→∃r,RelX K t k r∧r<q)
  (hmode:Go.ConcN.Mode x.j (wdF K x) (tgF md') st' sm')
  (hlt:rkF K.H (Vc x.j (wdF K x)) md'<rkF K.H (Vc x.j (wdF K x)) x.md∨(rkF K.H (Vc x.j (wdF K x)) md'=rkF K.H (Vc x.j (wdF K x)) x.md∧md'.s=7∧x.md.s≠7)) (h14:md'.s≠14:=by simp) (h1:md'.s≠1:=by simp):Res K Shun x t (runT K.P (crowd gs w sl) 0):=by
 obtain⟨l1,l2,l3,l4⟩:=h.prt.lts
 obtain⟨n1,n2⟩:=h.prt.nsh
 have hTW:K.T≠K.Wg:=by
  intro e
  have h1:w.heap[K.Wg]?=some (.cells #[.int .u64 x.st,.int .u32 x.sm] K.ty):=h.prt.wg
  have h2:w.heap[K.T]?=some _:=h.prt.tal
  rw[e,h1]at h2
  simp at h2
 have hprt:CPrt K { x with md:=md',st:=st',sm:=sm' } w':=h.prt.cong (x':={ x with md:=md',st:=st',sm:=sm' }) hC.hand rfl ⟨rfl,rfl,rfl,rfl,rfl,rfl,rfl⟩ ⟨rfl,rfl,rfl,rfl,rfl,rfl⟩ (fun _ _=>⟨Iff.rfl,Iff.rfl,Iff.rfl,id,fun _=>rfl⟩) hm hwg hmode (hAs _ fun e=>n1 (Or.inl e)) (hAs _ fun e=>n2 (Or.inl e)) (hAs _ hTW) (fun b hb=>hAs b fun e=>(h.mem.dnS b hb).1 (Or.inl e)) (fun _ _ _ c=>c) (fun e=>absurd e h1) (fun e=>absurd e h14)
 have hrun:=runT_crowd_go (P:=K.P) (sl:=sl) (i:=0) ha (by simpa using hgo)
 refine⟨_,w',sl,{ x with md:=md',st:=st',sm:=sm' },by rw[hrun],?_,?_⟩
 ·rw[hrun]
  refine main_step (x':={ x with md:=md',st:=st',sm:=sm' }) hC.hand hC.c1 hC.c2 h rfl rfl rfl (by rw[hsz];exact Nat.le_refl _) hfix (fun b _ _ hs=>hAs b fun e=>hs (Or.inl e)) ⟨_,_,hwg⟩ (fun b hb=>Or.inl (hO▸hb)) hsit (hands_same h (hAs _ fun e=>n1 (Or.inl e))) (fun _ _=>⟨rfl,rfl,id⟩)
   (fun op hop y hy=>?_) (fun op hop y hy b hb=>?_) hdeaf hnr hacq hprt
  ·obtain⟨e,he,rfl⟩:=Go.Conc.mem_ofEvents hop
   exact Or.inl ⟨(hev e he y hy).1.mono fun _=>sh_sp K,(hev e he y hy).2⟩
  ·obtain⟨e,he,rfl⟩:=Go.Conc.mem_ofEvents hop
   obtain⟨⟨c,e1,e2⟩,_⟩:=hev e he y hy
   rw[hb]at e1
   cases e1
   rw[hsz]
   rcases e2 with rfl|rfl
   ·exact l1
   ·exact l2
 ·rcases hlt with hl|⟨hl,h7,h7'⟩
  ·refine Prod.Lex.left _ _ ?_
   show 100*(K.N-x.next)+10*(K.N-x.nt)+sumTo K.nb x.q+sumTo x.j (fun k=>(x.hs k).st)+rkF K.H (Vc x.j (wdF K x)) md'<100*(K.N-x.next)+10*(K.N-x.nt)+sumTo K.nb x.q+sumTo x.j (fun k=>(x.hs k).st)+rkF K.H (Vc x.j (wdF K x)) x.md
   omega
  ·have e:(meaF K { x with md:=md', st:=st', sm:=sm' })=((meaF K x).1, (meaF K { x with md:=md', st:=st', sm:=sm' }).2):=Prod.ext (by
    show 100*(K.N-x.next)+10*(K.N-x.nt)+sumTo K.nb x.q+sumTo x.j (fun k=>(x.hs k).st)+rkF K.H (Vc x.j (wdF K x)) md'=100*(K.N-x.next)+10*(K.N-x.nt)+sumTo K.nb x.q+sumTo x.j (fun k=>(x.hs k).st)+rkF K.H (Vc x.j (wdF K x)) x.md
    omega) rfl
   unfold meR
   rw[e]
   refine Prod.Lex.right _ (Prod.Lex.right _ ?_)
   show(if md'.s=7 then 0 else md'.fu+1)<if x.md.s=7 then 0 else x.md.fu+1
   rw[if_pos h7,if_neg h7']
   omega
end
end
section
open Go.Conc
open Go.ConcR (KK WgAt stA smA rd wr mk Payload DC0 Bk)
open Go.ConcN (WgLive CTag WD RelBy sumTo upd upd_same upd_ne sumTo_congr sumTo_upd cnt Vc)
section
variable {K:Cfg}{Shun:Loc→Prop}{x x':Gst K.P}{gs:Array Goroutine}{w w':World}{t:Trace}{es:Array Event}{a a':Goroutine}{sl:Option (Nat×Nat)}{md':MD}{st' sm':Int}
theorem main_plain(hC:CfgOk K)(h:Cmp K x Shun gs w t)(ha:gs[0]?=some a)(hgo:stepG K.P true a w = .go a' w' es)(hS:Stp K.rd x.md.O w w' es)(hO:∀b, md'.O b→Grw x.md.O w w' b)(hd0:md'.d0=x.md.d0)
  (hsit:MSit K x.j x.next x.tk md' a' w') (hm:(md'.s<14↔x.md.s<14)∧(md'.s<3↔x.md.s<3)) (h3:md'.s≤3→x.md.s≤3) (hmode:Go.ConcN.Mode x.j (wdF K x) (tgF md') x.st x.sm)
  (hlt:rkF K.H (Vc x.j (wdF K x)) md'<rkF K.H (Vc x.j (wdF K x)) x.md∨(rkF K.H (Vc x.j (wdF K x)) md'=rkF K.H (Vc x.j (wdF K x)) x.md∧md'.s≠7∧x.md.s≠7∧md'.fu<x.md.fu)) (h14:md'.s≠14:=by simp) (h1:md'.s≠1:=by simp):Res K Shun x t (runT K.P (crowd gs w sl) 0):=by
 obtain⟨a1,a2,a3,a4⟩:=evT_ok (gi:=0) (fn:=a.frame.fn) (pos:=a.frame.place) hS.ev
 have own0:∀b,x.md.O b→ownF K x 0 b:=fun b hb=>Or.inl ⟨rfl,hb⟩
 have nsp:∀b,SpF K b→¬x.md.O b:=fun b hb ho=>(h.mem.ownS _ b (own0 b ho)).1 hb
 obtain⟨l1,l2,l3,l4⟩:=h.prt.lts
 have eW:w'.heap[K.Wg]?=w.heap[K.Wg]?:=hS.other _ l1 (nsp _ (Or.inl rfl))
 have eT:w'.heap[K.T]?=w.heap[K.T]?:=hS.other _ l2 (nsp _ (Or.inr (Or.inl rfl)))
 have eO:w'.heap[K.cO]?=w.heap[K.cO]?:=hS.other _ l3 (nsp _ (Or.inr (Or.inr (Or.inl rfl))))
 have eB:w'.heap[K.cB]?=w.heap[K.cB]?:=hS.other _ l4 (nsp _ (Or.inr (Or.inr (Or.inr rfl))))
 have eD:∀b,x.Dn b→w'.heap[b]?=w.heap[b]?:=fun b hb=>hS.other b (h.mem.dnS b hb).2 fun ho=>(h.mem.ownS _ b (own0 b ho)).2 hb
 have hwg:WgAt K.ty K.Wg w' x.st x.sm:=eW.trans h.prt.wg
 have hprt:CPrt K { x with md:=md' } w':=h.prt.cong (x':={ x with md:=md' }) hC.hand rfl ⟨rfl,rfl,rfl,rfl,rfl,rfl,rfl⟩ ⟨rfl,rfl,rfl,rfl,rfl,rfl⟩ (fun _ _=>⟨Iff.rfl,Iff.rfl,Iff.rfl,id,fun _=>rfl⟩) hm hwg hmode eO eB eT eD (fun _ _ _ c=>c) (fun e=>absurd e h1) (fun e=>absurd e h14)
 have hrun:=runT_crowd_go (P:=K.P) (sl:=sl) (i:=0) ha (by simpa using hgo)
 refine⟨_,w',sl,{ x with md:=md' },by rw[hrun],?_,?_⟩
 ·rw[hrun]
  exact main_step (x':={ x with md:=md' }) hC.hand hC.c1 hC.c2 h rfl rfl rfl hS.size ⟨hS.tape,hS.os,hS.out⟩ (fun b hb ho _=>hS.other b hb ho) ⟨_,_,hwg⟩ hO hsit (hands_same h eO) (fun _ _=>⟨rfl,rfl,id⟩)
   (fun op hop y hy=>Or.inr (a1 op hop y hy)) (fun op hop=>LowT.of_low (a2 op hop)) (by show _=md'.d0;rw[hd0];exact a3 _) (fun e he=>a4 e he _) (fun c=>Or.inl (h3 c)) hprt
 ·rcases hlt with hl|⟨hl,h7,h7',hf⟩
  ·refine Prod.Lex.left _ _ ?_
   show 100*(K.N-x.next)+10*(K.N-x.nt)+sumTo K.nb x.q+sumTo x.j (fun k=>(x.hs k).st)+rkF K.H (Vc x.j (wdF K x)) md'<100*(K.N-x.next)+10*(K.N-x.nt)+sumTo K.nb x.q+sumTo x.j (fun k=>(x.hs k).st)+rkF K.H (Vc x.j (wdF K x)) x.md
   omega
  ·have e:(meaF K { x with md:=md' })=((meaF K x).1, (meaF K { x with md:=md' }).2):=Prod.ext (by
    show 100*(K.N-x.next)+10*(K.N-x.nt)+sumTo K.nb x.q+sumTo x.j (fun k=>(x.hs k).st)+rkF K.H (Vc x.j (wdF K x)) md'=100*(K.N-x.next)+10*(K.N-x.nt)+sumTo K.nb x.q+sumTo x.j (fun k=>(x.hs k).st)+rkF K.H (Vc x.j (wdF K x)) x.md
    omega) rfl
   unfold meR
   rw[e]
   refine Prod.Lex.right _ (Prod.Lex.right _ ?_)
   show(if md'.s=7 then 0 else md'.fu+1)<if x.md.s=7 then 0 else x.md.fu+1
   rw[if_neg h7,if_neg h7']
   omega
theorem mk_ev {m:Mark}(hm:m = .disable∨m = .enable∨m = .read (smA K.Wg)∨m = .write (smA K.Wg)∨m = .acquire (stA K.Wg)):(∀e ∈ #[mk m], ∀y,(MemAct.ofEvent e).touch?=some y→InB (ShF K) y.loc∧y.kind ≠ .plain)∧∀e ∈ #[mk m],e.loc ≠ .mark (.release (stA K.Wg)):=by
 refine⟨fun e he y hy=>?_,fun e he=>?_⟩
 ·simp only[List.mem_toArray,List.mem_cons,List.not_mem_nil,or_false]at he
  subst he
  rcases hm with rfl|rfl|rfl|rfl|rfl
  ·cases hy
  ·cases hy
  ·simp only[mk,MemAct.ofEvent,MemAct.touch?,Option.some.injEq]at hy
   subst hy
   exact⟨⟨_,rfl,Or.inl rfl⟩,by simp⟩
  ·simp only[mk,MemAct.ofEvent,MemAct.touch?,Option.some.injEq]at hy
   subst hy
   exact⟨⟨_,rfl,Or.inl rfl⟩,by simp⟩
  ·cases hy
 ·simp only[List.mem_toArray,List.mem_cons,List.not_mem_nil,or_false]at he
  subst he
  rcases hm with rfl|rfl|rfl|rfl|rfl<;>simp[mk]
theorem bk_ev0(hes:∀e∈es,Bk K.Wg e):(∀e∈es, ∀y,(MemAct.ofEvent e).touch?=some y→InB (ShF K) y.loc∧y.kind ≠ .plain)∧∀e∈es,e.loc ≠ .mark (.release (stA K.Wg)):=⟨fun e he y hy=>⟨((bk_ev hes).1 e he y hy).1,((bk_ev hes).1 e he y hy).2.1⟩,(bk_ev hes).2⟩
theorem wg_mode(h:Cmp K x Shun gs w t){v:Nat}(hst:x.st=(v:Int)*KK)(hsm:x.sm=0):WgAt K.ty K.Wg w (v*KK) 0:=by
 have:=h.prt.wg
 rw[hst,hsm]at this
 exact this
end
end
section
open Go.Conc
open Go.ConcR (KK WgAt stA smA rd wr mk Payload DC0 Bk)
open Go.ConcN (WgLive CTag WD RelBy sumTo upd upd_same upd_ne sumTo_congr sumTo_upd cnt Vc bk_rd bk_rw bk_sem)
section
variable {K:Cfg}{Shun:Loc→Prop}{x x':Gst K.P}{gs:Array Goroutine}{w w':World}{t:Trace}{es:Array Event}{a a':Goroutine}{sl:Option (Nat×Nat)}{md':MD}{st' sm':Int}
theorem main_mk(hC:CfgOk K)(h:Cmp K x Shun gs w t)(ha:gs[0]?=some a){m:Mark}{Next:(Nat→Prop)→Goroutine→World→Prop}(s' r' d':Nat)(hmk:m = .disable∨m = .enable∨m = .read (smA K.Wg)∨m = .write (smA K.Wg)∨m = .acquire (stA K.Wg))
  (hs:AtMk K m Next x.md.O a w) (hsit:∀g' n,H0 K Next n x.md.O g' w→MSit K x.j x.next x.tk ⟨s',r',n,x.md.O,d'⟩ g' w) (hm:(s'<14↔x.md.s<14)∧(s'<3↔x.md.s<3)) (h3:3<s') (hd:deafBehind x.md.d0 #[mk m]=d')
  (hmode:Go.ConcN.Mode x.j (wdF K x) (tgF ⟨s',r',0,x.md.O,d'⟩) x.st x.sm) (hlt:∀n,rkF K.H (Vc x.j (wdF K x)) ⟨s',r',n,x.md.O,d'⟩<rkF K.H (Vc x.j (wdF K x)) x.md) (h14:s'≠14:=by decide) (h1:s'≠1:=by decide):Res K Shun x t (runT K.P (crowd gs w sl) 0):=by
 obtain⟨_,g',hgo,n,hn⟩:=hs
 exact main_book (md':=⟨s',r',n,x.md.O,d'⟩) (st':=x.st) (sm':=x.sm) hC h ha hgo (fun _ _=>rfl) rfl ⟨rfl,rfl,rfl⟩ h.prt.wg rfl (hsit g' n hn) hm (mk_ev hmk).1 hd (mk_ev hmk).2 (fun c=>absurd c (by show ¬s'≤3;omega)) hmode (Or.inl (hlt n)) h14 h1
theorem tg_of {m:MD}{s r n d:Nat}{O:Nat→Prop}(e:m.s=s)(e2:m.r=r):tgF m=tgF ⟨s,r,n,O,d⟩:=by
 subst e;subst e2;rfl
theorem main20(hC:CfgOk K)(h:Cmp K x Shun gs w t)(ha:gs[0]?=some a)(hm:x.md.s=20∧x.md.d0=0∧x.j+x.md.r+1=K.H∧x.next=0∧x.tk=tk0∧H0 K (AtKdS K (SpnZ K x.md.r)) x.md.fu x.md.O a w):Res K Shun x t (runT K.P (crowd gs w sl) 0):=by
 obtain⟨e,d,hj,hn,htk,hh⟩:=hm
 rcases hh.cases with hs|⟨m,g',w',es,hm,_,hgo,hS,hn'⟩
 ·refine main_mk (sl:=sl) hC h ha 19 x.md.r 1 (Or.inl rfl) hs (fun g' n hg=>Or.inr (Or.inl ⟨rfl,rfl,hj,hn,htk,hg⟩)) ⟨by omega,by omega⟩ (by omega) (by rw[d];rfl) ?_ fun n=>?_
  ·have:=h.prt.mode
   rw[tg_of (s:=20) (r:=x.md.r) (n:=0) (d:=0) (O:=noB) e rfl]at this
   exact this.reopen (tag':= .sp x.md.r 4) trivial trivial rfl (by simp)
  ·simp[rkF,e]
 ·exact main_quiet hC h ha hgo hS hm (by omega) (Or.inl ⟨e,d,hj,hn,htk,hn'⟩)
theorem main19(hC:CfgOk K)(h:Cmp K x Shun gs w t)(ha:gs[0]?=some a)(hm:x.md.s=19∧x.md.d0=1∧x.j+x.md.r+1=K.H∧x.next=0∧x.tk=tk0∧H0 K (AtA1 K (SpnZ K x.md.r)) x.md.fu x.md.O a w):Res K Shun x t (runT K.P (crowd gs w sl) 0):=by
 obtain⟨e,d,hj,hn,htk,hh⟩:=hm
 rcases hh.cases with hs|⟨m,g',w',es,hm,_,hgo,hS,hn'⟩
 ·obtain⟨_,hall⟩:=hs
  have hm0:=h.prt.mode
  rw[tg_of (s:=19) (r:=x.md.r) (n:=0) (d:=0) (O:=noB) e rfl]at hm0
  obtain⟨ho,hst,hsm,_⟩:=hm0.open_inv (tag:= .sp x.md.r 4) trivial
  have hV:=Go.ConcN.Vc_le x.j (wdF K x)
  have hH:=hC.hands
  have hwg:=wg_mode h (v:=Vc x.j (wdF K x)) (by rw[hst];simp[Go.ConcN.pend]) hsm
  obtain⟨g',hgo,h0,h1⟩:=hall (Vc x.j (wdF K x)) (by omega) hwg
  have hw':WgAt K.ty K.Wg (w.setCell (stA K.Wg) (.int .u64 ((Vc x.j (wdF K x)+1)*KK))) ((Vc x.j (wdF K x)+1)*KK) 0:=by
   have:=hwg.setSt (((Vc x.j (wdF K x):Nat)+1)*KK)
   simpa using this
  have hmode:Go.ConcN.Mode x.j (wdF K x) (.sp x.md.r 3) ((Vc x.j (wdF K x)+1)*KK) 0:=by
   have e2:(((Vc x.j (wdF K x):Nat):Int)+1)*KK=((Vc x.j (wdF K x)+Go.ConcN.pend (.sp x.md.r 3):Nat):Int)*KK:=by simp[Go.ConcN.pend]
   rw[e2]
   exact .opn trivial ho (by simp)
  by_cases hv:Vc x.j (wdF K x)=0
  ·obtain⟨n,hg⟩:=h0 hv
   exact main_book (md':=⟨18,x.md.r,n,x.md.O,1⟩) hC h ha hgo (fun b hb=>heap_set w _ _ hb) (size_setCell ..) ⟨rfl,rfl,rfl⟩ hw' rfl (Or.inr (Or.inr (Or.inl ⟨rfl,rfl,hj,hn,htk,hg⟩))) ⟨by simp[e],by simp[e]⟩ (bk_ev0 bk_rw).1 (by rw[d];rfl) (bk_ev0 bk_rw).2 (fun c=>absurd c (by simp)) hmode (Or.inl (by simp[rkF,e]))
  ·obtain⟨n,hg⟩:=h1 hv
   exact main_book (md':=⟨17,x.md.r,n,x.md.O,1⟩) hC h ha hgo (fun b hb=>heap_set w _ _ hb) (size_setCell ..) ⟨rfl,rfl,rfl⟩ hw' rfl (Or.inr (Or.inr (Or.inr (Or.inl ⟨rfl,rfl,hj,hn,htk,hg⟩)))) ⟨by simp[e],by simp[e]⟩ (bk_ev0 bk_rw).1 (by rw[d];rfl) (bk_ev0 bk_rw).2 (fun c=>absurd c (by simp)) hmode (Or.inl (by simp[rkF,e]))
 ·exact main_quiet hC h ha hgo hS hm (by omega) (Or.inr (Or.inl ⟨e,d,hj,hn,htk,hn'⟩))
theorem main18(hC:CfgOk K)(h:Cmp K x Shun gs w t)(ha:gs[0]?=some a)(hm:x.md.s=18∧x.md.d0=1∧x.j+x.md.r+1=K.H∧x.next=0∧x.tk=tk0∧H0 K (AtMkR K (SpnZ K x.md.r)) x.md.fu x.md.O a w):Res K Shun x t (runT K.P (crowd gs w sl) 0):=by
 obtain⟨e,d,hj,hn,htk,hh⟩:=hm
 rcases hh.cases with hs|⟨m,g',w',es,hm,_,hgo,hS,hn'⟩
 ·refine main_mk (sl:=sl) hC h ha 17 x.md.r 1 (Or.inr (Or.inr (Or.inl rfl))) hs (fun g' n hg=>Or.inr (Or.inr (Or.inr (Or.inl ⟨rfl,rfl,hj,hn,htk,hg⟩)))) ⟨by omega,by omega⟩ (by omega) (by rw[d];rfl) ?_ fun n=>?_
  ·have:=h.prt.mode
   rw[tg_of (s:=18) (r:=x.md.r) (n:=0) (d:=0) (O:=noB) e rfl]at this
   exact this
  ·simp[rkF,e]
 ·exact main_quiet hC h ha hgo hS hm (by omega) (Or.inr (Or.inr (Or.inl ⟨e,d,hj,hn,htk,hn'⟩)))
theorem main17(hC:CfgOk K)(h:Cmp K x Shun gs w t)(ha:gs[0]?=some a)(hm:x.md.s=17∧x.md.d0=1∧x.j+x.md.r+1=K.H∧x.next=0∧x.tk=tk0∧H0 K (AtKeS K (SpnZ K x.md.r)) x.md.fu x.md.O a w):Res K Shun x t (runT K.P (crowd gs w sl) 0):=by
 obtain⟨e,d,hj,hn,htk,hh⟩:=hm
 rcases hh.cases with hs|⟨m,g',w',es,hm,_,hgo,hS,hn'⟩
 ·refine main_mk (sl:=sl) hC h ha 16 x.md.r 0 (Or.inr (Or.inl rfl)) hs (fun g' n hg=>Or.inr (Or.inr (Or.inr (Or.inr (Or.inl ⟨rfl,rfl,hj,hn,htk,hg⟩))))) ⟨by omega,by omega⟩ (by omega) (by rw[d];rfl) ?_ fun n=>?_
  ·have:=h.prt.mode
   rw[tg_of (s:=17) (r:=x.md.r) (n:=0) (d:=0) (O:=noB) e rfl]at this
   exact this.reopen (tag':= .sp x.md.r 2) trivial trivial rfl (by simp)
  ·simp[rkF,e]
 ·exact main_quiet hC h ha hgo hS hm (by omega) (Or.inr (Or.inr (Or.inr (Or.inl ⟨e,d,hj,hn,htk,hn'⟩))))
theorem main13(hC:CfgOk K)(h:Cmp K x Shun gs w t)(ha:gs[0]?=some a)(hm:x.md.s=13∧x.md.d0=0∧x.j=K.H∧x.next=K.N∧H0 K (AtKd K x.tk) x.md.fu x.md.O a w):Res K Shun x t (runT K.P (crowd gs w sl) 0):=by
 obtain⟨e,d,hj,hn,hh⟩:=hm
 rcases hh.cases with hs|⟨m,g',w',es,hm,_,hgo,hS,hn'⟩
 ·refine main_mk (sl:=sl) hC h ha 12 x.md.r 1 (Or.inl rfl) hs (fun g' n hg=>Or.inr (Or.inr (Or.inr (Or.inr (Or.inr (Or.inr (Or.inr (Or.inr (Or.inl ⟨rfl,rfl,hj,hn,hg⟩))))))))) ⟨by omega,by omega⟩ (by omega) (by rw[d];rfl) ?_ fun n=>?_
  ·have:=h.prt.mode
   rw[tg_of (s:=13) (r:=x.md.r) (n:=0) (d:=0) (O:=noB) e rfl]at this
   exact this.reopen (tag':= .anch) trivial trivial rfl (by simp)
  ·have hV:=Go.ConcN.Vc_le x.j (wdF K x)
   simp[rkF,e]
   omega
 ·exact main_quiet hC h ha hgo hS hm (by omega) (Or.inr (Or.inr (Or.inr (Or.inr (Or.inr (Or.inr (Or.inr (Or.inl ⟨e,d,hj,hn,hn'⟩))))))))
theorem main_w1(hC:CfgOk K)(h:Cmp K x Shun gs w t)(ha:gs[0]?=some a){n:Nat}(hs:x.md.s=12∨(x.md.s=11∧x.md.fu=n))(d:x.md.d0=1)(hj:x.j=K.H)(hn:x.next=K.N)(hh:H0 K (AtW1 K x.tk) n x.md.O a w):Res K Shun x t (runT K.P (crowd gs w sl) 0):=by
 have hm0:=h.prt.mode
 have hV:=Go.ConcN.Vc_le x.j (wdF K x)
 have hH:=hC.hands
 have hmw:Go.ConcN.Mode x.j (wdF K x) .w1 x.st x.sm:=by
  rcases hs with e|⟨e,_⟩
  ·rw[tg_of (s:=12) (r:=x.md.r) (n:=0) (d:=0) (O:=noB) e rfl]at hm0
   exact hm0.reopen (tag:= .anch) trivial trivial rfl (by simp)
  ·rw[tg_of (s:=11) (r:=x.md.r) (n:=0) (d:=0) (O:=noB) e rfl]at hm0
   exact hm0
 have hrk:8*Vc x.j (wdF K x)+105≤rkF K.H (Vc x.j (wdF K x)) x.md:=by
  rcases hs with e|⟨e,_⟩<;>simp[rkF,e]
 rcases hh.cases with hs1|⟨m,g',w',es,hm,_,hgo,hS,hn'⟩
 ·obtain⟨_,hall⟩:=hs1
  obtain⟨ho,hst,hsm,_⟩:=hmw.open_inv trivial
  have hwg:=wg_mode h (v:=Vc x.j (wdF K x)) (by rw[hst];simp[Go.ConcN.pend]) hsm
  obtain⟨g',hgo,h0,h1⟩:=hall (Vc x.j (wdF K x)) (by omega) hwg
  by_cases hv:Vc x.j (wdF K x)=0
  ·obtain⟨n2,hg⟩:=h0 hv
   refine main_book (md':=⟨5,0,n2,x.md.O,1⟩) (st':=x.st) (sm':=x.sm) hC h ha hgo (fun _ _=>rfl) rfl ⟨rfl,rfl,rfl⟩ h.prt.wg rfl (Or.inr (Or.inr (Or.inr (Or.inr (Or.inr (Or.inr (Or.inr (Or.inr (Or.inr (Or.inr (Or.inr (Or.inr (Or.inr (Or.inr (Or.inr (Or.inl ⟨rfl,rfl,hj,hn,hg⟩)))))))))))))))) ⟨by simp;omega,by simp;omega⟩ (bk_ev0 bk_rd).1 (by rw[d];rfl) (bk_ev0 bk_rd).2 (fun c=>absurd c (by simp)) ?_ (Or.inl ?_)
   ·rw[hst,hsm,hv]
    show Go.ConcN.Mode x.j (wdF K x) .ke _ _
    have:=Go.ConcN.Mode.fin (tag:= .ke) (j:=x.j) (D:=wdF K x) trivial (Go.ConcN.allQuit_of ho hv)
    simpa [Go.ConcN.pend]using this
   ·refine Nat.lt_of_lt_of_le ?_ hrk
    simp[rkF]
  ·obtain⟨n2,hg⟩:=h1 hv
   refine main_book (md':=⟨10,Vc x.j (wdF K x),n2,x.md.O,1⟩) (st':=x.st) (sm':=x.sm) hC h ha hgo (fun _ _=>rfl) rfl ⟨rfl,rfl,rfl⟩ h.prt.wg rfl (Or.inr (Or.inr (Or.inr (Or.inr (Or.inr (Or.inr (Or.inr (Or.inr (Or.inr (Or.inr (Or.inl ⟨rfl,rfl,hj,hn,hg⟩))))))))))) ⟨by simp;omega,by simp;omega⟩ (bk_ev0 bk_rd).1 (by rw[d];rfl) (bk_ev0 bk_rd).2 (fun c=>absurd c (by simp)) (hmw.reopen (tag':= .w2 (Vc x.j (wdF K x))) trivial trivial rfl (fun vs e=>by injection e with e;subst e;exact⟨Nat.le_refl _,by omega⟩)) (Or.inl ?_)
   refine Nat.lt_of_lt_of_le ?_ hrk
   simp[rkF]
 ·rcases hs with e|⟨e,e2⟩
  ·refine main_plain (md':=⟨11,x.md.r,m,Grw x.md.O w w',1⟩) hC h ha hgo hS (fun _ hb=>hb) d.symm (Or.inr (Or.inr (Or.inr (Or.inr (Or.inr (Or.inr (Or.inr (Or.inr (Or.inr (Or.inl ⟨rfl,rfl,hj,hn,hn'⟩)))))))))) ⟨by simp;omega,by simp;omega⟩ (fun c=>absurd c (by simp)) hmw (Or.inl ?_)
   simp[rkF,e]
  ·exact main_quiet hC h ha hgo hS (by omega) (by omega) (Or.inr (Or.inr (Or.inr (Or.inr (Or.inr (Or.inr (Or.inr (Or.inr (Or.inr (Or.inl ⟨e,d,hj,hn,hn'⟩))))))))))
theorem main12(hC:CfgOk K)(h:Cmp K x Shun gs w t)(ha:gs[0]?=some a)(hm:x.md.s=12∧x.md.d0=1∧x.j=K.H∧x.next=K.N∧H0 K (K.Anc x.tk) x.md.fu x.md.O a w):Res K Shun x t (runT K.P (crowd gs w sl) 0):=by
 obtain⟨e,d,hj,hn,hh⟩:=hm
 rcases hh.cases with hs|⟨m,g',w',es,hm,_,hgo,hS,hn'⟩
 ·obtain⟨_,n,hg⟩:=hC.main.anc _ _ _ _ hs
  exact main_w1 hC h ha (Or.inl e) d hj hn hg
 ·exact main_quiet hC h ha hgo hS hm (by omega) (Or.inr (Or.inr (Or.inr (Or.inr (Or.inr (Or.inr (Or.inr (Or.inr (Or.inl ⟨e,d,hj,hn,hn'⟩)))))))))
end
end
end Go.Proofs.YtedifobeggabnaaGreat
