/- Texts of ours, one behind the other: ZC25 ZC26 ZC27 ZC28 ZC29. -/
import Derived.Test.YtedifobeggabnaaGreatCbZC19
namespace Go.Proofs.YtedifobeggabnaaGreat
section
open Go.Conc
open Go.ConcR (KK WgAt stA smA rd wr mk Payload DC0 Bk ofEvent_mk g_of_ofEvents)
open Go.ConcN (WgLive CTag WD RelBy sumTo upd upd_same upd_ne sumTo_congr sumTo_upd cnt Vc bk_rd bk_rw bk_sem)
section
variable {K:Cfg}{Shun:Loc→Prop}{x x':Gst K.P}{gs:Array Goroutine}{w w':World}{t:Trace}{es:Array Event}{a a':Goroutine}{sl:Option (Nat×Nat)}{md':MD}{st' sm':Int}
theorem HG.cases2 {P:Program}{main:Bool}{rd:Nat→Prop}{Lv:World→Prop}{Stop:(Nat→Prop)→Goroutine→World→Prop}{O:Nat→Prop}{n:Nat}{g:Goroutine}{w:World}(h:HG P main rd Lv Stop n O g w) :
  (∀w1,Rly rd Lv O w w1→Stop O g w1)∨∃m g' w' es,n=m+1∧g.status = .running∧stepG P main g w = .go g' w' es∧Stp rd O w w' es∧HG P main rd Lv Stop m (Grw O w w') g' w':=by
 cases n with
 | zero=>exact Or.inl h
 | succ m=>
  rcases h with h|⟨h1,h2⟩
  ·exact Or.inl h
  ·have h3:=h2 w (Rly.refl w)
   cases hgo:stepG P main g w with
   | go g' w' es=>
    rw[hgo]at h3
    exact Or.inr ⟨m,g',w',es,rfl,h1,rfl,h3.1,h3.2⟩
   | _=>rw[hgo]at h3;exact h3.elim
theorem mode_w3 {j:Nat}{D:Nat→WD}{st sm:Int}(h:Go.ConcN.Mode j D .w3 st sm):(sm=0∧Go.ConcN.Mode j D .blk st sm)∨(Go.ConcN.AllQuit j D∧st=0∧sm=1):=by
 cases h with
 | opn h1 _ _=>exact h1.elim
 | reg _ h2 h3=>exact Or.inl ⟨rfl,.reg trivial h2 h3⟩
 | last L _ h2 h3 h4=>exact Or.inl ⟨rfl,.last L trivial h2 h3 h4⟩
 | sema h2=>exact Or.inr ⟨h2,rfl,rfl⟩
 | fin h1 _=>exact h1.elim
theorem main10(hC:CfgOk K)(h:Cmp K x Shun gs w t)(ha:gs[0]?=some a)(hm:x.md.s=10∧x.md.d0=1∧x.j=K.H∧x.next=K.N∧H0 K (AtW2 K x.tk x.md.r) x.md.fu x.md.O a w):Res K Shun x t (runT K.P (crowd gs w sl) 0):=by
 obtain⟨e,d,hj,hn,hh⟩:=hm
 have hm0:=h.prt.mode
 have hV:=Go.ConcN.Vc_le x.j (wdF K x)
 have hH:=hC.hands
 rw[tg_of (s:=10) (r:=x.md.r) (n:=0) (d:=0) (O:=noB) e rfl]at hm0
 rcases hh.cases with hs|⟨m,g',w',es,hm,_,hgo,hS,hn'⟩
 ·obtain⟨_,hall⟩:=hs
  obtain⟨ho,hst,hsm,hw2⟩:=hm0.open_inv (tag:= .w2 x.md.r) trivial
  obtain⟨hle,h1⟩:=hw2 x.md.r rfl
  have hwg:=wg_mode h (v:=Vc x.j (wdF K x)) (by rw[hst];simp[Go.ConcN.pend]) hsm
  obtain⟨hhit,hmiss⟩:=hall (Vc x.j (wdF K x)) (by omega) hwg
  by_cases hv:Vc x.j (wdF K x)=x.md.r
  ·obtain⟨g',hgo,n,hg⟩:=hhit hv
   have hw':WgAt K.ty K.Wg (w.setCell (stA K.Wg) (.int .u64 (Vc x.j (wdF K x)*KK+1))) (((Vc x.j (wdF K x):Nat):Int)*KK+1) 0:=hwg.setSt _
   refine main_book (md':=⟨9,x.md.r,n,x.md.O,1⟩) hC h ha hgo (fun b hb=>heap_set w _ _ hb) (size_setCell ..) ⟨rfl,rfl,rfl⟩ hw' rfl (Or.inr (Or.inr (Or.inr (Or.inr (Or.inr (Or.inr (Or.inr (Or.inr (Or.inr (Or.inr (Or.inr (Or.inl ⟨rfl,rfl,hj,hn,hg⟩)))))))))))) ⟨by simp[e],by simp[e]⟩ (bk_ev0 bk_rw).1 (by rw[d];rfl) (bk_ev0 bk_rw).2 (fun c=>absurd c (by simp)) (.reg (tag:= .w3) trivial ho (by omega)) (Or.inl ?_)
   simp[rkF,e]
  ·obtain⟨g',hgo,n,hg⟩:=hmiss hv
   refine main_book (md':=⟨12,0,n,x.md.O,1⟩) (st':=x.st) (sm':=x.sm) hC h ha hgo (fun _ _=>rfl) rfl ⟨rfl,rfl,rfl⟩ h.prt.wg rfl (Or.inr (Or.inr (Or.inr (Or.inr (Or.inr (Or.inr (Or.inr (Or.inr (Or.inl ⟨rfl,rfl,hj,hn,hg⟩))))))))) ⟨by simp[e],by simp[e]⟩ (bk_ev0 bk_rd).1 (by rw[d];rfl) (bk_ev0 bk_rd).2 (fun c=>absurd c (by simp)) (hm0.reopen (tag':= .anch) trivial trivial rfl (by simp)) (Or.inl ?_)
   simp[rkF,e]
   omega
 ·exact main_quiet hC h ha hgo hS hm (by omega) (Or.inr (Or.inr (Or.inr (Or.inr (Or.inr (Or.inr (Or.inr (Or.inr (Or.inr (Or.inr (Or.inl ⟨e,d,hj,hn,hn'⟩)))))))))))
theorem main9(hC:CfgOk K)(h:Cmp K x Shun gs w t)(ha:gs[0]?=some a)(hm:x.md.s=9∧x.md.d0=1∧x.j=K.H∧x.next=K.N∧H0 K (AtMkW K x.tk) x.md.fu x.md.O a w):Res K Shun x t (runT K.P (crowd gs w sl) 0):=by
 obtain⟨e,d,hj,hn,hh⟩:=hm
 rcases hh.cases with hs|⟨m,g',w',es,hm,_,hgo,hS,hn'⟩
 ·refine main_mk (sl:=sl) hC h ha 8 x.md.r 1 (Or.inr (Or.inr (Or.inr (Or.inl rfl)))) hs (fun g' n hg=>Or.inr (Or.inr (Or.inr (Or.inr (Or.inr (Or.inr (Or.inr (Or.inr (Or.inr (Or.inr (Or.inr (Or.inr (Or.inl ⟨rfl,rfl,hj,hn,hg⟩))))))))))))) ⟨by omega,by omega⟩ (by omega) (by rw[d];rfl) ?_ fun n=>?_
  ·have:=h.prt.mode
   rw[tg_of (s:=9) (r:=x.md.r) (n:=0) (d:=0) (O:=noB) e rfl]at this
   exact this
  ·simp[rkF,e]
 ·exact main_quiet hC h ha hgo hS hm (by omega) (Or.inr (Or.inr (Or.inr (Or.inr (Or.inr (Or.inr (Or.inr (Or.inr (Or.inr (Or.inr (Or.inr (Or.inl ⟨e,d,hj,hn,hn'⟩))))))))))))
theorem main8(hC:CfgOk K)(h:Cmp K x Shun gs w t)(ha:gs[0]?=some a)(hm:x.md.s=8∧x.md.d0=1∧x.j=K.H∧x.next=K.N∧H0 K (AtW3 K x.tk) x.md.fu x.md.O a w):Res K Shun x t (runT K.P (crowd gs w sl) 0):=by
 obtain⟨e,d,hj,hn,hh⟩:=hm
 have hm0:=h.prt.mode
 have hwg:=h.prt.wg
 rw[tg_of (s:=8) (r:=x.md.r) (n:=0) (d:=0) (O:=noB) e rfl]at hm0
 have hm0:Go.ConcN.Mode x.j (wdF K x) .w3 x.st x.sm:=hm0
 rcases HG.cases2 hh with hsr|⟨m,g',w',es,hm,_,hgo,hS,hn'⟩
 ·obtain⟨_,hoff,hblk,htake⟩:=hsr w (Rly.refl w)
  have block:x.sm=0→Go.ConcN.Mode x.j (wdF K x) .blk x.st x.sm→Res K Shun x t (runT K.P (crowd gs w sl) 0):=by
   intro hsm hb
   rw[hsm]at hwg
   refine main_book (md':=⟨7,0,0,x.md.O,1⟩) (st':=x.st) (sm':=x.sm) hC h ha (hblk ⟨_,hwg⟩) (fun _ _=>rfl) rfl ⟨rfl,rfl,rfl⟩ h.prt.wg rfl (Or.inr (Or.inr (Or.inr (Or.inr (Or.inr (Or.inr (Or.inr (Or.inr (Or.inr (Or.inr (Or.inr (Or.inr (Or.inr (Or.inl ⟨rfl,rfl,hj,hn,a,rfl,hsr⟩)))))))))))))) ⟨by simp[e],by simp[e]⟩ (by simp) (by rw[d];rfl) (by simp) (fun c=>absurd c (by simp)) hb (Or.inr ⟨by simp[rkF,e],rfl,by omega⟩)
  rcases mode_w3 hm0 with⟨h1,h2⟩|⟨h2,h3,h4⟩
  ·exact block h1 h2
  ·rw[h3,h4]at hwg
   obtain⟨g',hgo,n,hg⟩:=htake hwg
   refine main_book (md':=⟨6,0,n,x.md.O,1⟩) (st':=0) (sm':=0) hC h ha hgo (fun b hb=>heap_set w _ _ hb) (size_setCell ..) ⟨rfl,rfl,rfl⟩ (hwg.setSm 0) rfl (Or.inr (Or.inr (Or.inr (Or.inr (Or.inr (Or.inr (Or.inr (Or.inr (Or.inr (Or.inr (Or.inr (Or.inr (Or.inr (Or.inr (Or.inl ⟨rfl,rfl,hj,hn,hg⟩))))))))))))))) ⟨by simp[e],by simp[e]⟩ (bk_ev0 bk_sem).1 (by rw[d];simp[deafBehind,semEvents]) (bk_ev0 bk_sem).2 (fun c=>absurd c (by simp)) (.fin (tag:= .w4) trivial h2) (Or.inl ?_)
   simp[rkF,e]
 ·exact main_quiet hC h ha hgo hS hm (by omega) (Or.inr (Or.inr (Or.inr (Or.inr (Or.inr (Or.inr (Or.inr (Or.inr (Or.inr (Or.inr (Or.inr (Or.inr (Or.inl ⟨e,d,hj,hn,hn'⟩)))))))))))))
theorem main6(hC:CfgOk K)(h:Cmp K x Shun gs w t)(ha:gs[0]?=some a)(hm:x.md.s=6∧x.md.d0=1∧x.j=K.H∧x.next=K.N∧H0 K (AtW4 K x.tk) x.md.fu x.md.O a w):Res K Shun x t (runT K.P (crowd gs w sl) 0):=by
 obtain⟨e,d,hj,hn,hh⟩:=hm
 have hm0:=h.prt.mode
 have hwg:=h.prt.wg
 rw[tg_of (s:=6) (r:=x.md.r) (n:=0) (d:=0) (O:=noB) e rfl]at hm0
 rcases hh.cases with⟨_,hx⟩|⟨m,g',w',es,hm,_,hgo,hS,hn'⟩
 ·obtain⟨hq,hst,hsm⟩:=hm0.fin_inv (tag:= .w4) trivial
  rw[hst,hsm]at hwg
  obtain⟨g',hgo,n,hg⟩:=hx hwg
  refine main_book (md':=⟨5,0,n,x.md.O,1⟩) hC h ha hgo (fun _ _=>rfl) rfl ⟨rfl,rfl,rfl⟩ hwg rfl (Or.inr (Or.inr (Or.inr (Or.inr (Or.inr (Or.inr (Or.inr (Or.inr (Or.inr (Or.inr (Or.inr (Or.inr (Or.inr (Or.inr (Or.inr (Or.inl ⟨rfl,rfl,hj,hn,hg⟩)))))))))))))))) ⟨by simp[e],by simp[e]⟩ (bk_ev0 bk_rd).1 (by rw[d];rfl) (bk_ev0 bk_rd).2 (fun c=>absurd c (by simp)) (.fin (tag:= .ke) trivial hq) (Or.inl ?_)
  simp[rkF,e]
 ·exact main_quiet hC h ha hgo hS hm (by omega) (Or.inr (Or.inr (Or.inr (Or.inr (Or.inr (Or.inr (Or.inr (Or.inr (Or.inr (Or.inr (Or.inr (Or.inr (Or.inr (Or.inr (Or.inl ⟨e,d,hj,hn,hn'⟩)))))))))))))))
theorem main5(hC:CfgOk K)(h:Cmp K x Shun gs w t)(ha:gs[0]?=some a)(hm:x.md.s=5∧x.md.d0=1∧x.j=K.H∧x.next=K.N∧H0 K (AtKe K x.tk) x.md.fu x.md.O a w):Res K Shun x t (runT K.P (crowd gs w sl) 0):=by
 obtain⟨e,d,hj,hn,hh⟩:=hm
 have hm0:=h.prt.mode
 rw[tg_of (s:=5) (r:=x.md.r) (n:=0) (d:=0) (O:=noB) e rfl]at hm0
 rcases hh.cases with hs|⟨m,g',w',es,hm,_,hgo,hS,hn'⟩
 ·obtain⟨hq,hst,hsm⟩:=hm0.fin_inv (tag:= .ke) trivial
  refine main_mk (sl:=sl) hC h ha 4 x.md.r 0 (Or.inr (Or.inl rfl)) hs (fun g' n hg=>Or.inr (Or.inr (Or.inr (Or.inr (Or.inr (Or.inr (Or.inr (Or.inr (Or.inr (Or.inr (Or.inr (Or.inr (Or.inr (Or.inr (Or.inr (Or.inr (Or.inl ⟨rfl,rfl,hj,hn,hg⟩))))))))))))))))) ⟨by omega,by omega⟩ (by omega) (by rw[d];rfl) ?_ fun n=>?_
  ·rw[hst,hsm]
   exact .fin (tag:= .acq) trivial hq
  ·simp[rkF,e]
 ·exact main_quiet hC h ha hgo hS hm (by omega) (Or.inr (Or.inr (Or.inr (Or.inr (Or.inr (Or.inr (Or.inr (Or.inr (Or.inr (Or.inr (Or.inr (Or.inr (Or.inr (Or.inr (Or.inr (Or.inl ⟨e,d,hj,hn,hn'⟩))))))))))))))))
theorem main4(hC:CfgOk K)(h:Cmp K x Shun gs w t)(ha:gs[0]?=some a)(hm:x.md.s=4∧x.md.d0=0∧x.j=K.H∧x.next=K.N∧H0 K (AtAcq K x.tk) x.md.fu x.md.O a w):Res K Shun x t (runT K.P (crowd gs w sl) 0):=by
 obtain⟨e,d,hj,hn,hh⟩:=hm
 have hm0:=h.prt.mode
 rw[tg_of (s:=4) (r:=x.md.r) (n:=0) (d:=0) (O:=noB) e rfl]at hm0
 rcases hh.cases with hs|⟨m,g',w',es,hm,_,hgo,hS,hn'⟩
 ·obtain⟨_,g',hgo,n,hg⟩:=hs
  obtain⟨hq,hst,hsm⟩:=hm0.fin_inv (tag:= .acq) trivial
  have hwg:=h.prt.wg
  rw[hst,hsm]at hwg
  have hmk:=mk_ev (K:=K) (m:= .acquire (stA K.Wg)) (Or.inr (Or.inr (Or.inr (Or.inr rfl))))
  refine main_book (md':=⟨3,0,n,x.md.O,0⟩) hC h ha hgo (fun _ _=>rfl) rfl ⟨rfl,rfl,rfl⟩ hwg rfl (Or.inr (Or.inr (Or.inr (Or.inr (Or.inr (Or.inr (Or.inr (Or.inr (Or.inr (Or.inr (Or.inr (Or.inr (Or.inr (Or.inr (Or.inr (Or.inr (Or.inr (Or.inl ⟨rfl,rfl,hj,hn,hg⟩)))))))))))))))))) ⟨by simp[e],by simp[e]⟩ hmk.1 (by rw[d];rfl) hmk.2 (fun _=>Or.inr ?_) (.fin (tag:= .ret) trivial hq) (Or.inl (by simp[rkF,e]))
  have e1:MemOp.ofEvents 0 a.frame.fn a.frame.place #[mk (.acquire (stA K.Wg))] = #[{ g:=0,fn:=a.frame.fn,pos:=a.frame.place,act:= .mark (.acquire (stA K.Wg))}]:=by rw[ofEvents_eq];simp[ofEvent_mk]
  have hy:(t ++ #[({ g:=0,fn:=a.frame.fn,pos:=a.frame.place,act:= .mark (.acquire (stA K.Wg))}:MemOp)])[t.size]?=some { g:=0,fn:=a.frame.fn,pos:=a.frame.place,act:= .mark (.acquire (stA K.Wg))}:=by simp
  refine⟨t.size,by rw[e1,act?_of hy],by rw[e1];simp[Trace.g?],by rw[e1];exact⟨0,by simp[Trace.g?],by rw[deaf_old (Nat.le_refl _)];exact h.trs.deaf0.trans d⟩,fun k hk=>?_⟩
  have hk6:(x.hs k).st≤6:=by
   have:=hq k hk
   have e2:(wdF K x k).stage=if 14≤(x.hs k).st then 7 else(x.hs k).st:=rfl
   rw[e2]at this
   split at this<;>omega
  obtain⟨r,hr⟩:=h.trs.rel k hk hk6
  exact⟨r,hr,lt_of_act? hr.rel.act⟩
 ·exact main_quiet hC h ha hgo hS hm (by omega) (Or.inr (Or.inr (Or.inr (Or.inr (Or.inr (Or.inr (Or.inr (Or.inr (Or.inr (Or.inr (Or.inr (Or.inr (Or.inr (Or.inr (Or.inr (Or.inr (Or.inl ⟨e,d,hj,hn,hn'⟩)))))))))))))))))
end
end
section
open Go.Conc
open Go.ConcR (KK WgAt stA smA rd wr mk Payload DC0 Bk)
open Go.ConcN (WgLive CTag WD RelBy sumTo upd upd_same upd_ne sumTo_congr sumTo_upd cnt Vc)
section
variable {K:Cfg}{Shun:Loc→Prop}{x x':Gst K.P}{gs:Array Goroutine}{w w':World}{t:Trace}{es:Array Event}{a a':Goroutine}{sl:Option (Nat×Nat)}{md':MD}{st' sm':Int}{j next:Nat}{tk:Nat→Option Value}{m:MD}
theorem in13(h1:m.s=13)(h2:m.d0=0)(h3:j=K.H)(h4:next=K.N)(h5:H0 K (AtKd K tk) m.fu m.O a w):MSit K j next tk m a w:=Or.inr (Or.inr (Or.inr (Or.inr (Or.inr (Or.inr (Or.inr (Or.inl ⟨h1,h2,h3,h4,h5⟩)))))))
theorem in2(h1:m.s=2)(h2:m.d0=0)(h3:j=K.H)(h4:next=K.N)(h5:H0 K (AtRng K tk) m.fu m.O a w):MSit K j next tk m a w:=Or.inr (Or.inr (Or.inr (Or.inr (Or.inr (Or.inr (Or.inr (Or.inr (Or.inr (Or.inr (Or.inr (Or.inr (Or.inr (Or.inr (Or.inr (Or.inr (Or.inr (Or.inr (Or.inl ⟨h1,h2,h3,h4,h5⟩))))))))))))))))))
theorem in1(h1:m.s=1)(h2:m.d0=0)(h3:j=K.H)(h4:next=K.N)(h5:H0 K (K.Fin tk) m.fu m.O a w):MSit K j next tk m a w:=Or.inr (Or.inr (Or.inr (Or.inr (Or.inr (Or.inr (Or.inr (Or.inr (Or.inr (Or.inr (Or.inr (Or.inr (Or.inr (Or.inr (Or.inr (Or.inr (Or.inr (Or.inr (Or.inr ⟨h1,h2,h3,h4,h5⟩))))))))))))))))))
theorem close_ops {c gi:Nat}{fn:FuncId}{pos:String}:∀op,op∈MemOp.ofEvents gi fn pos (clsEv c)→∀y,op.act.touch?=some y→blkOf y.loc=some c∧y.kind ≠ .plain:=by
 intro op hop y hy
 obtain⟨e,he,rfl⟩:=Go.Conc.mem_ofEvents hop
 simp only[clsEv,List.mem_toArray,List.mem_cons,List.not_mem_nil,or_false]at he
 rcases he with rfl|rfl
 ·have e1:(MemAct.ofEvent ⟨.obj c,false,true⟩).touch?=some ⟨.obj c,false,.atomic⟩:=rfl
  rw[e1]at hy
  cases hy
  exact⟨rfl,by simp⟩
 ·cases hy
theorem close_still(c d:Nat):deafBehind d (clsEv c)=d:=deafBehind_still (fun e he=>by
 simp only[clsEv,List.mem_toArray,List.mem_cons,List.not_mem_nil,or_false]at he
 rcases he with rfl|rfl<;>simp) d
theorem close_nr(c:Nat)(a:Addr):∀e∈clsEv c,e.loc ≠ .mark (.release a):=by
 intro e he
 simp only[clsEv,List.mem_toArray,List.mem_cons,List.not_mem_nil,or_false]at he
 rcases he with rfl|rfl<;>simp
theorem dn_gm(hC:CfgOk K)(h:Cmp K x Shun gs w t){c:Nat}(hc:SpF K c)(hoth:∀b,b≠c→w'.heap[b]?=w.heap[b]?){i:Nat}{v:Value}(hd:∀b,K.Mv v b→x.Dn b)(hg:K.GM i v w):K.GM i v w':=
 hC.hand.gm _ _ _ _ (fun b hb=>hoth b fun e=>(h.mem.dnS b (hd b hb)).1 (e▸hc)) hg
theorem main3(hC:CfgOk K)(h:Cmp K x Shun gs w t)(ha:gs[0]?=some a)(hm:x.md.s=3∧x.md.d0=0∧x.j=K.H∧x.next=K.N∧H0 K (AtCl2 K x.tk) x.md.fu x.md.O a w):Res K Shun x t (runT K.P (crowd gs w sl) 0):=by
 obtain⟨e,d,hj,hn,hh⟩:=hm
 rcases hh.cases with hs|⟨m,g',w',es,hm,_,hgo,hS,hn'⟩
 ·obtain⟨_,hall⟩:=hs
  have hcB:=h.prt.chb
  rw[decide_eq_false (by omega)]at hcB
  obtain⟨g',hgo,n,hg⟩:=hall _ _ _ _ _ hcB
  obtain⟨n1,n2⟩:=h.prt.nsh
  obtain⟨l1,l2,l3,l4⟩:=h.prt.lts
  have hoth:∀b,b≠K.cB→(w.setChan K.cB K.N x.buf true x.sB x.rB x.tmB).heap[b]?=w.heap[b]?:=fun b hb=>heap_chan w hb
  have hsz:(w.setChan K.cB K.N x.buf true x.sB x.rB x.tmB).heap.size=w.heap.size:=size_chan w
  have eW:=hoth _ fun e=>n2 (Or.inl e.symm)
  have eT:=hoth _ fun e=>n2 (Or.inr e.symm)
  have eO:=hoth _ hC.ob
  have hsp:SpF K K.cB:=Or.inr (Or.inr (Or.inr rfl))
  have hwg:WgAt K.ty K.Wg (w.setChan K.cB K.N x.buf true x.sB x.rB x.tmB) x.st x.sm:=eW.trans h.prt.wg
  have hprt:CPrt K { x with md:=⟨2,0,n,x.md.O,0⟩} (w.setChan K.cB K.N x.buf true x.sB x.rB x.tmB):=by
   refine⟨hwg,?_,?_,heap_chan_self w l4,?_,h.prt.nN,fun _=>h.prt.park (by omega),fun y hy=>?_,fun i v hv=>?_,h.prt.hold,h.prt.two,h.prt.cover,h.prt.room,h.prt.ca,h.prt.cl,fun c=>absurd c (by simp),fun c=>absurd c (by simp)⟩
   ·have:=h.prt.mode
    rw[tg_of (s:=3) (r:=x.md.r) (n:=0) (d:=0) (O:=noB) e rfl]at this
    exact this
   ·rw[eO]
    have:=h.prt.cho
    rw[decide_eq_true (by omega)]at this
    exact this
   ·exact eT.trans h.prt.tal
   ·obtain⟨i,v,b1,b2,b3,b4⟩:=h.prt.buf y hy
    exact⟨i,v,b1,b2,dn_gm hC h hsp hoth b4 b3,b4⟩
   ·obtain⟨b3,b4⟩:=h.prt.tk i v hv
    exact⟨dn_gm hC h hsp hoth b4 b3,b4⟩
  have hrun:=runT_crowd_go (P:=K.P) (sl:=sl) (i:=0) ha (by simpa using hgo)
  refine⟨_,_,sl,{ x with md:=⟨2,0,n,x.md.O,0⟩},by rw[hrun],?_,?_⟩
  ·rw[hrun]
   refine main_step (x':={ x with md:=⟨2,0,n,x.md.O,0⟩}) hC.hand hC.c1 hC.c2 h rfl rfl rfl (by rw[hsz];exact Nat.le_refl _) ⟨rfl,rfl,rfl⟩ (fun b _ _ hs=>hoth b fun e=>hs (e▸hsp)) ⟨_,_,hwg⟩ (fun _ hb=>Or.inl hb) (in2 rfl rfl hj hn hg) (fun k hk z hz=>?_) (fun _ _=>⟨rfl,rfl,id⟩)
    (fun op hop y hy=>?_) (fun op hop y hy b hb=>by rw[(close_ops op hop y hy).1]at hb;cases hb;rw[hsz];exact l4) (by rw[d];exact close_still _ _) (close_nr _ _) (fun _=>Or.inl (by omega)) hprt
   ·rw[hz.wake (s:=0) (r:=0) (tm:=false) (Or.inr (h.prt.park (by omega) k hk))]
    exact hz
   ·exact Or.inl ⟨⟨_,(close_ops op hop y hy).1,hsp⟩,(close_ops op hop y hy).2⟩
  ·refine Prod.Lex.left _ _ ?_
   show 100*(K.N-x.next)+10*(K.N-x.nt)+sumTo K.nb x.q+sumTo x.j (fun k=>(x.hs k).st)+rkF K.H (Vc x.j (wdF K x)) ⟨2,0,n,x.md.O,0⟩<100*(K.N-x.next)+10*(K.N-x.nt)+sumTo K.nb x.q+sumTo x.j (fun k=>(x.hs k).st)+rkF K.H (Vc x.j (wdF K x)) x.md
   simp[rkF,e]
 ·exact main_quiet hC h ha hgo hS hm (by omega) (Or.inr (Or.inr (Or.inr (Or.inr (Or.inr (Or.inr (Or.inr (Or.inr (Or.inr (Or.inr (Or.inr (Or.inr (Or.inr (Or.inr (Or.inr (Or.inr (Or.inr (Or.inl ⟨e,d,hj,hn,hn'⟩))))))))))))))))))
theorem comm_main(hC:CfgOk K)(h:Cmp K x Shun gs w t){ops:Trace}{g':Goroutine}(hj:x'.j=x.j)(hq:x'.q=x.q)(hhs:x'.hs=x.hs)(hDn:x'.Dn=x.Dn)
  (hsz:w'.heap.size=w.heap.size) (hfix:w'.tape=w.tape∧w'.os=w.os∧w'.output=w.output) (hoth:∀b,b≠K.cO→b≠K.cB→w'.heap[b]?=w.heap[b]?)
  (hmain:MSit K x.j x'.next x'.tk x'.md g' w') (hmO:x'.md.O=x.md.O) (hmd:x'.md.d0=x.md.d0) (hm3:x'.md.s≤3→x.md.s≤3)
  (hops:∀op,op∈ops→op.act.touch?=none∧(∀m,op.act ≠ .mark m)∧op.act.low w.heap.size) (hprt:CPrt K x' w'):Cmp K x' Shun (gs.setIfInBounds 0 g') w' (t++ops):=by
 have hone:=h.sit.one
 have hWg:w'.heap[K.Wg]?=w.heap[K.Wg]?:=hoth _ (fun e=>h.prt.nsh.1 (Or.inl e.symm)) (fun e=>h.prt.nsh.2 (Or.inl e.symm))
 have hlt:0<gs.size:=by rw[h.sit.size];omega
 refine comm_step h hj hq hsz hfix hoth (by simp) (fun i h0 hi=>set_get gs _ (by omega)) (fun l hl=>?_) (fun l hl=>by rw[hhs];exact⟨fun _ hb=>hb,rfl,id⟩) ⟨g',Array.getElem?_setIfInBounds_self_of_lt hlt,hmain⟩ (fun b hb=>by rw[←hmO];exact hb) hmd hm3 (fun b hb=>?_) hops hprt
 ·obtain⟨z,hz,hs⟩:=h.sit.hand l hl
  refine⟨z,by rw[set_get gs _ (by omega)];exact hz,?_⟩
  rw[hhs]
  refine hs.rely hC.hand hC.c1 hC.c2 ⟨fun b hb=>?_,fun⟨a,b,c⟩=>⟨a,b,hWg.trans c⟩,by rw[hsz];exact Nat.le_refl _⟩
  have nsp:¬SpF K b:=by
   rcases hb with hb|hb
   ·exact(h.mem.rdS b hb).1
   ·exact(h.mem.ownS (K.nb+l) b (Or.inr ⟨l,hl,rfl,hb⟩)).1
  exact hoth b (fun e=>nsp (Or.inr (Or.inr (Or.inl e)))) (fun e=>nsp (Or.inr (Or.inr (Or.inr e))))
 ·rw[hDn]at hb
  refine⟨(h.mem.dnS b hb).1,(h.mem.dnS b hb).2,fun gi ho=>?_⟩
  have:ownF K x gi b:=by
   rcases ho with⟨e,ho⟩|⟨l,hl,e,ho⟩
   ·exact Or.inl ⟨e,by rw[←hmO];exact ho⟩
   ·rw[hhs]at ho;rw[hj]at hl;exact Or.inr ⟨l,hl,e,ho⟩
  exact(h.mem.ownS gi b this).2 hb
theorem main2(hC:CfgOk K)(h:Cmp K x Shun gs w t)(ha:gs[0]?=some a)(hm:x.md.s=2∧x.md.d0=0∧x.j=K.H∧x.next=K.N∧H0 K (AtRng K x.tk) x.md.fu x.md.O a w):Res K Shun x t (runT K.P (crowd gs w sl) 0):=by
 obtain⟨e,d,hj,hn,hh⟩:=hm
 rcases HG.cases2 hh with hsr|⟨m,g',w',es,hm,_,hgo,hS,hn'⟩
 ·obtain⟨fr,cs,rfl,hR,hG⟩:=hsr w (Rly.refl w)
  have hst:=hC.main.rng x.md.O fr cs w hR
  have hcB:=h.prt.chb
  rw[decide_eq_true (by omega)]at hcB
  obtain⟨l1,l2,l3,l4⟩:=h.prt.lts
  have hp:partners (gs.setIfInBounds 0 ph) K.cB true=[]:=partners_nil fun j z hz=>off_all hC.main h (Or.inr rfl) hz (Or.inr (Or.inr rfl))
  by_cases hb0:0<x.buf.size
  ·have hrun:=crowd_recv_buf (P:=K.P) (sl:=sl) (i:=0) ha (by simpa using hst) hcB hb0 hp
   have hoth:∀b,b≠K.cB→(w.setChan K.cB K.N (x.buf.extract 1 x.buf.size) true x.sB (x.rB+1) x.tmB).heap[b]?=w.heap[b]?:=fun b hb=>heap_chan w hb
   have hsz:(w.setChan K.cB K.N (x.buf.extract 1 x.buf.size) true x.sB (x.rB+1) x.tmB).heap.size=w.heap.size:=size_chan w
   obtain⟨lv',rd',rl'⟩:=wsame h (fun b _ hb=>hoth b hb) hsz
   obtain⟨fr2,cs2,ef,hR2,hG2⟩:=hsr _ rl'
   have e1:fr=fr2:=congrArg Goroutine.frame ef
   have e2:cs=cs2:=congrArg Goroutine.callers ef
   subst e1
   subst e2
   have hpt:∀m',m'.s=2→tgF m'=tgF x.md:=fun m' e'=>by
    rw[tg_of (s:=2) (r:=m'.r) (n:=0) (d:=0) (O:=noB) e' rfl,tg_of (m:=x.md) (s:=2) (r:=x.md.r) (n:=0) (d:=0) (O:=noB) e rfl]
    rfl
   have hcB':(w.setChan K.cB K.N (x.buf.extract 1 x.buf.size) true x.sB (x.rB+1) x.tmB).heap[K.cB]?=some (.chan K.N (x.buf.extract 1 x.buf.size) (decide (x.md.s<3)) x.sB (x.rB+1) x.tmB):=by
    rw[decide_eq_true (by omega)];exact heap_chan_self w l4
   obtain⟨i,v,hv,hi,hq⟩:=prt_take (m':=x.md) hC h.prt (fun b hb=>(h.mem.dnS b hb).1) hb0 rfl id id Iff.rfl Iff.rfl hoth hcB'
   obtain⟨n,hg⟩:=hC.main.got x.tk x.md.O fr cs _ i v hR hi ⟨_,(hq.tk i v (if_pos rfl)).1⟩ hG2 lv' rd'
   obtain⟨i',v',hv',hi',hprt⟩:=prt_take (m':=⟨2,0,n,x.md.O,0⟩) hC h.prt (fun b hb=>(h.mem.dnS b hb).1) hb0 (hpt _ rfl) (by simp) (by simp) (by simp[e]) (by simp[e]) hoth hcB'
   obtain⟨rfl,rfl⟩:=hC.hand.tvi _ _ _ _ (hv.symm.trans hv')
   refine⟨_,_,sl,{ x with md:=⟨2,0,n,x.md.O,0⟩,buf:=x.buf.extract 1 x.buf.size,nt:=x.nt+1,tk:=fun y=>if y=i then some v else x.tk y,rB:=x.rB+1 },by rw[hrun],?_,?_⟩
   ·rw[hrun]
    refine comm_main (x':={ x with md:=⟨2,0,n,x.md.O,0⟩,buf:=x.buf.extract 1 x.buf.size,nt:=x.nt+1,tk:=fun y=>if y=i then some v else x.tk y,rB:=x.rB+1 }) hC h rfl rfl rfl rfl hsz ⟨rfl,rfl,rfl⟩ (fun b _ hb=>hoth b hb) (in2 rfl rfl hj hn ?_) rfl d.symm (fun _=>by omega) (fun op hop=>?_) hprt
    ·rw[hv];exact hg
    ·rcases Array.mem_append.1 hop with hop|hop
     ·simp[MemOp.ofEvents]at hop
     ·simp only[List.mem_toArray,List.mem_cons,List.not_mem_nil,or_false]at hop
      rcases hop with rfl|rfl<;>exact⟨rfl,fun m=>by simp,l4⟩
   ·refine Prod.Lex.left _ _ ?_
    have hroom:=h.prt.room
    have hnN:=h.prt.nN
    show 100*(K.N-x.next)+10*(K.N-(x.nt+1))+sumTo K.nb x.q+sumTo x.j (fun k=>(x.hs k).st)+rkF K.H (Vc x.j (wdF K x)) ⟨2,0,n,x.md.O,0⟩<100*(K.N-x.next)+10*(K.N-x.nt)+sumTo K.nb x.q+sumTo x.j (fun k=>(x.hs k).st)+rkF K.H (Vc x.j (wdF K x)) x.md
    have r1:rkF K.H (Vc x.j (wdF K x)) ⟨2,0,n,x.md.O,0⟩=95:=by simp[rkF]
    have r2:rkF K.H (Vc x.j (wdF K x)) x.md=95:=by simp[rkF,e]
    rw[r1,r2]
    omega
  ·have hb:x.buf = #[]:=Array.eq_empty_of_size_eq_zero (by omega)
   rw[hb]at hcB
   have hrun:=crowd_recv_closed (P:=K.P) (sl:=sl) (i:=0) ha (by simpa using hst) hcB hp
   obtain⟨n,hg⟩:=hC.main.over x.tk x.md.O fr cs w hR hG h.prt.lv h.mem.rdx
   have hprt:CPrt K { x with md:=⟨1,0,n,x.md.O,0⟩} w:=by
    refine h.prt.cong (x':={ x with md:=⟨1,0,n,x.md.O,0⟩}) hC.hand rfl ⟨rfl,rfl,rfl,rfl,rfl,rfl,rfl⟩ ⟨rfl,rfl,rfl,rfl,rfl,rfl⟩ (fun _ _=>⟨Iff.rfl,Iff.rfl,Iff.rfl,id,fun _=>rfl⟩) ⟨by simp[e],by simp[e]⟩ h.prt.wg ?_ rfl rfl rfl (fun _ _=>rfl) (fun _ _ _ c=>c) (fun _=>hb)
    have:=h.prt.mode
    rw[tg_of (s:=2) (r:=x.md.r) (n:=0) (d:=0) (O:=noB) e rfl]at this
    exact this
   refine⟨_,_,sl,{ x with md:=⟨1,0,n,x.md.O,0⟩},by rw[hrun],?_,?_⟩
   ·rw[hrun]
    refine comm_main (x':={ x with md:=⟨1,0,n,x.md.O,0⟩}) hC h rfl rfl rfl rfl rfl ⟨rfl,rfl,rfl⟩ (fun _ _ _=>rfl) (in1 rfl rfl hj hn hg) rfl d.symm (fun _=>by omega) (fun op hop=>?_) hprt
    rcases Array.mem_append.1 hop with hop|hop
    ·simp[MemOp.ofEvents]at hop
    ·simp only[List.mem_toArray,List.mem_cons,List.not_mem_nil,or_false]at hop
     subst hop
     exact⟨rfl,fun m=>by simp,l4⟩
   ·refine Prod.Lex.left _ _ ?_
    show 100*(K.N-x.next)+10*(K.N-x.nt)+sumTo K.nb x.q+sumTo x.j (fun k=>(x.hs k).st)+rkF K.H (Vc x.j (wdF K x)) ⟨1,0,n,x.md.O,0⟩<100*(K.N-x.next)+10*(K.N-x.nt)+sumTo K.nb x.q+sumTo x.j (fun k=>(x.hs k).st)+rkF K.H (Vc x.j (wdF K x)) x.md
    simp[rkF,e]
 ·exact main_quiet hC h ha hgo hS hm (by omega) (in2 e d hj hn hn')
end
end
section
open Go.Conc
open Go.ConcR (KK WgAt stA smA rd wr mk Payload DC0 Bk)
open Go.ConcN (WgLive CTag WD RelBy sumTo upd upd_same upd_ne sumTo_congr sumTo_upd cnt Vc)
theorem sum_one {f g:Nat→Nat}:∀ {j:Nat},(∀k,k<j→f k≤g k+1)→sumTo j f≤sumTo j g+j
 | 0,_=>by simp[sumTo]
 |j+1,h=>by
  have:=sum_one (f:=f) (g:=g) (j:=j) fun k hk=>h k (by omega)
  have:=h j (by omega)
  simp only[sumTo]
  omega
section
variable {K:Cfg}{Shun:Loc→Prop}{x x':Gst K.P}{gs:Array Goroutine}{w w':World}{t:Trace}{es:Array Event}{a a':Goroutine}{sl:Option (Nat×Nat)}
def hsC {P:Program}(d:HD P):HD P:=if d.st=20 then { d with st:=21,fu:=0 }else d
theorem hsC_eq {P:Program}(d:HD P):(46≤(hsC d).st↔46≤d.st)∧(47≤(hsC d).st↔47≤d.st)∧(48≤(hsC d).st↔48≤d.st)∧(hsC d).st≠20∧(hsC d).i=d.i∧(hsC d).O=d.O∧(hsC d).dd=d.dd∧((hsC d).st≤6→d.st≤6)∧(14≤(hsC d).st↔14≤d.st)∧(hsC d).st≤d.st+1∧(¬14≤d.st→(hsC d).st=d.st):=by
 unfold hsC
 by_cases h:d.st=20
 ·rw[if_pos h]
  simp[h]
 ·rw[if_neg h]
  refine⟨Iff.rfl,Iff.rfl,Iff.rfl,h,rfl,rfl,rfl,id,Iff.rfl,by omega,fun _=>rfl⟩
theorem main_close(hC:CfgOk K)(h:Cmp K x Shun gs w t)(ha:gs[0]?=some a)(e:x.md.s=15)(d:x.md.d0=0)(hj:x.j=K.H)(hn:x.next=K.N)(hs:AtCls K x.tk x.md.O a w):Res K Shun x t (runT K.P (crowd gs w sl) 0):=by
 obtain⟨_,hmw,hall⟩:=hs
 have hcO:=h.prt.cho
 rw[decide_eq_false (by omega)]at hcO
 obtain⟨g',hgo,hrun',n,hg⟩:=hall _ _ _ hcO
 obtain⟨n1,n2⟩:=h.prt.nsh
 obtain⟨l1,l2,l3,l4⟩:=h.prt.lts
 have hoth:∀b,b≠K.cO→(w.setChan K.cO 0 #[] true x.sO x.rO x.tmO).heap[b]?=w.heap[b]?:=fun b hb=>heap_chan w hb
 have hsz:(w.setChan K.cO 0 #[] true x.sO x.rO x.tmO).heap.size=w.heap.size:=size_chan w
 have eW:=hoth _ fun e=>n1 (Or.inl e.symm)
 have eT:=hoth _ fun e=>n1 (Or.inr e.symm)
 have eB:=hoth _ fun e=>hC.ob e.symm
 have hsp:SpF K K.cO:=Or.inr (Or.inr (Or.inl rfl))
 have hcl:(w.setChan K.cO 0 #[] true x.sO x.rO x.tmO).heap[K.cO]?=some (.chan 0 #[] true x.sO x.rO x.tmO):=heap_chan_self w l3
 have hwg:WgAt K.ty K.Wg (w.setChan K.cO 0 #[] true x.sO x.rO x.tmO) x.st x.sm:=eW.trans h.prt.wg
 have hstg:∀k,(wdF K { x with md:=⟨13,0,n,x.md.O,0⟩,hs:=fun k=>hsC (x.hs k)} k).stage=(wdF K x k).stage:=fun k=>by
  show(if 14≤(hsC (x.hs k)).st then 7 else(hsC (x.hs k)).st)=if 14≤(x.hs k).st then 7 else(x.hs k).st
  obtain⟨_,_,_,_,_,_,_,_,q1,_,q2⟩:=hsC_eq (x.hs k)
  by_cases c:14≤(x.hs k).st
  ·rw[if_pos c,if_pos (q1.2 c)]
  ·rw[if_neg c,if_neg (fun z=>c (q1.1 z)),q2 c]
 have hprt:CPrt K { x with md:=⟨13,0,n,x.md.O,0⟩,hs:=fun k=>hsC (x.hs k)} (w.setChan K.cO 0 #[] true x.sO x.rO x.tmO):=by
  refine⟨hwg,?_,hcl,?_,eT.trans h.prt.tal,h.prt.nN,fun _ k _=>(hsC_eq (x.hs k)).2.2.2.1,fun y hy=>?_,fun i v hv=>?_,fun k hk c=>?_,fun k k' hk hk' c c' ee=>?_,fun i hi=>?_,?_,fun i hi=>?_,fun i hi=>?_,fun c=>absurd c (by simp),fun c=>absurd c (by simp)⟩
  ·have:=h.prt.mode
   rw[tg_of (s:=15) (r:=x.md.r) (n:=0) (d:=0) (O:=noB) e rfl]at this
   exact Go.ConcN.Mode.congr (fun k _=>hstg k) this
  ·rw[eB]
   have:=h.prt.chb
   rw[decide_eq_false (by omega)]at this
   exact this
  ·obtain⟨i,v,b1,b2,b3,b4⟩:=h.prt.buf y hy
   exact⟨i,v,b1,b2,dn_gm hC h hsp hoth b4 b3,b4⟩
  ·obtain⟨b3,b4⟩:=h.prt.tk i v hv
   exact⟨dn_gm hC h hsp hoth b4 b3,b4⟩
  ·show(hsC (x.hs k)).i<x.next
   rw[(hsC_eq (x.hs k)).2.2.2.2.1]
   exact h.prt.hold k hk ((hsC_eq (x.hs k)).1.1 c)
  ·have ee:(hsC (x.hs k)).i=(hsC (x.hs k')).i:=ee
   rw[(hsC_eq (x.hs k)).2.2.2.2.1,(hsC_eq (x.hs k')).2.2.2.2.1]at ee
   exact h.prt.two k k' hk hk' ((hsC_eq (x.hs k)).1.1 c) ((hsC_eq (x.hs k')).1.1 c') ee
  ·rcases h.prt.cover i hi with c|c|⟨k,hk,c1,c2⟩
   ·exact Or.inl c
   ·exact Or.inr (Or.inl c)
   ·exact Or.inr (Or.inr ⟨k,hk,(hsC_eq (x.hs k)).1.2 c1,(hsC_eq (x.hs k)).2.2.2.2.1.trans c2⟩)
  ·refine Eq.trans ?_ h.prt.room
   show x.buf.size+sumTo x.j _+x.nt=_
   congr 2
   refine sumTo_congr fun k _=>?_
   show(if 46≤(hsC (x.hs k)).st then 1 else 0)=if 46≤(x.hs k).st then 1 else 0
   by_cases c:46≤(x.hs k).st
   ·rw[if_pos c,if_pos ((hsC_eq (x.hs k)).1.2 c)]
   ·rw[if_neg c,if_neg fun z=>c ((hsC_eq (x.hs k)).1.1 z)]
  ·refine(h.prt.ca i hi).trans ⟨fun⟨b1,b2⟩=>⟨b1,fun k hk c=>?_⟩,fun⟨b1,b2⟩=>⟨b1,fun k hk c=>?_⟩⟩
   ·show(hsC (x.hs k)).i≠i
    rw[(hsC_eq (x.hs k)).2.2.2.2.1]
    exact b2 k hk ((hsC_eq (x.hs k)).2.2.1.1 c)
   ·have:=b2 k hk ((hsC_eq (x.hs k)).2.2.1.2 c)
    have this:(hsC (x.hs k)).i≠i:=this
    rw[(hsC_eq (x.hs k)).2.2.2.2.1]at this
    exact this
  ·refine(h.prt.cl i hi).trans ⟨fun⟨b0,b1,b2⟩=>⟨b0,b1,fun k hk c=>?_⟩,fun⟨b0,b1,b2⟩=>⟨b0,b1,fun k hk c=>?_⟩⟩
   ·show(hsC (x.hs k)).i≠i
    rw[(hsC_eq (x.hs k)).2.2.2.2.1]
    exact b2 k hk ((hsC_eq (x.hs k)).2.1.1 c)
   ·have:=b2 k hk ((hsC_eq (x.hs k)).2.1.2 c)
    have this:(hsC (x.hs k)).i≠i:=this
    rw[(hsC_eq (x.hs k)).2.2.2.2.1]at this
    exact this
 have hrun:=runT_crowd_go (P:=K.P) (sl:=sl) (i:=0) ha (by simpa using hgo)
 refine⟨_,_,sl,{ x with md:=⟨13,0,n,x.md.O,0⟩,hs:=fun k=>hsC (x.hs k)},by rw[hrun],?_,?_⟩
 ·rw[hrun]
  refine main_step (x':={ x with md:=⟨13,0,n,x.md.O,0⟩,hs:=fun k=>hsC (x.hs k)}) hC.hand hC.c1 hC.c2 h rfl rfl rfl (by rw[hsz];exact Nat.le_refl _) ⟨rfl,rfl,rfl⟩ (fun b _ _ hs=>hoth b fun e=>hs (e▸hsp)) ⟨_,_,hwg⟩ (fun _ hb=>Or.inl hb) (in13 rfl rfl hj hn hg) (fun k hk z hz=>?_)
   (fun k _=>⟨(hsC_eq (x.hs k)).2.2.2.2.2.1,(hsC_eq (x.hs k)).2.2.2.2.2.2.1,(hsC_eq (x.hs k)).2.2.2.2.2.2.2.1⟩) (fun op hop y hy=>?_) (fun op hop y hy b hb=>by rw[(close_ops op hop y hy).1]at hb;cases hb;rw[hsz];exact l3) (by rw[d];exact close_still _ _) (close_nr _ _) (fun c=>absurd c (by simp)) hprt
  ·show HSit K (hsC (x.hs k)) _ _
   unfold hsC
   by_cases c:(x.hs k).st=20
   ·rw[if_pos c]
    exact hz.wake2 c hcl hmw hrun'
   ·rw[if_neg c,hz.wake (s:=0) (r:=0) (tm:=false) (Or.inr c)]
    exact hz
  ·exact Or.inl ⟨⟨_,(close_ops op hop y hy).1,hsp⟩,(close_ops op hop y hy).2⟩
 ·refine Prod.Lex.left _ _ ?_
  have e1:sumTo x.j (fun k=>(hsC (x.hs k)).st)≤sumTo x.j (fun k=>(x.hs k).st)+x.j:=sum_one fun k _=>(hsC_eq (x.hs k)).2.2.2.2.2.2.2.2.2.1
  show 100*(K.N-x.next)+10*(K.N-x.nt)+sumTo K.nb x.q+sumTo x.j (fun k=>(hsC (x.hs k)).st)+rkF K.H (Vc x.j (wdF K { x with md:=⟨13,0,n,x.md.O,0⟩,hs:=fun k=>hsC (x.hs k)})) ⟨13,0,n,x.md.O,0⟩<100*(K.N-x.next)+10*(K.N-x.nt)+sumTo K.nb x.q+sumTo x.j (fun k=>(x.hs k).st)+rkF K.H (Vc x.j (wdF K x)) x.md
  have r1:∀v,rkF K.H v ⟨13,0,n,x.md.O,0⟩=8*K.H+107:=fun v=>by simp[rkF]
  have r2:∀v,rkF K.H v x.md=9*K.H+152:=fun v=>by simp[rkF,e]
  rw[r1,r2]
  omega
end
end
section
open Go.Conc
open Go.ConcR (KK WgAt stA smA rd wr mk Payload DC0 Bk)
open Go.ConcN (WgLive CTag WD RelBy sumTo upd upd_same upd_ne sumTo_congr sumTo_upd cnt Vc)
section
variable {K:Cfg}{Shun:Loc→Prop}{x x':Gst K.P}{gs:Array Goroutine}{w w':World}{t:Trace}{es:Array Event}{a a':Goroutine}{sl:Option (Nat×Nat)}
theorem main_select(hC:CfgOk K)(h:Cmp K x Shun gs w t)(ha:gs[0]?=some a)(e:x.md.s=15)(d0:x.md.d0=0)(hj:x.j=K.H)(hn:x.next<K.N)(hsr:∀w1,Rly K.rd (Lvx K) x.md.O w w1→AtSel K x.next x.tk x.md.O a w1):Res K Shun x t (runT K.P (crowd gs w sl) 0):=by
 obtain⟨fr,cs,rfl,hS,hG⟩:=hsr w (Rly.refl w)
 have hone:=h.sit.one
 have hst:=hC.main.sel x.next x.md.O fr cs w hS
 have hcO:=h.prt.cho
 rw[decide_eq_false (by omega)]at hcO
 have hcB:=h.prt.chb
 rw[decide_eq_false (by omega)]at hcB
 obtain⟨l1,l2,l3,l4⟩:=h.prt.lts
 have gotr:∀w',Rly K.rd (Lvx K) x.md.O w w'→K.Got x.tk x.md.O w':=fun w' hr=>by
  obtain⟨fr2,cs2,ef,_,hG2⟩:=hsr w' hr
  exact hG2
 have hall:∀j k,(j,k)∈partners (gs.setIfInBounds 0 ph) K.cO false→k=0∧j≠0∧∃gj zj shj,gs[j]?=some (parked gj #[rcase K.cO zj] shj):=by
  intro j k hjk
  obtain⟨g,hg,hk⟩:=mem_partners.1 hjk
  rcases getElem?_stand gs 0 j g hg with⟨rfl,rfl⟩|⟨hne,hg⟩
  ·rw[offersAt_ph]at hk;cases hk
  ·rcases who h hg with⟨rfl,_⟩|⟨_,_,hq⟩|⟨l,hl,rfl,hs⟩
   ·exact absurd rfl hne
   ·rw[off_run hq.status]at hk;cases hk
   ·by_cases h20:(x.hs l).st=20
    ·obtain⟨_,_,fr',cs',rfl,_⟩:=hs.parked h20
     rw[offersAt_parked_recv,if_pos rfl]at hk
     exact⟨by simpa using hk,hne,_,_,_,hg⟩
    ·rw[off_hand hs (Or.inl h20)]at hk;cases hk
 have hp':partners (gs.setIfInBounds 0 ph) K.cB true=[]:=partners_nil fun j z hz=>off_all hC.main h (Or.inr rfl) hz (Or.inr (Or.inr rfl))
 have hlt:0<gs.size:=by rw[h.sit.size];omega
 have r2:∀v,rkF K.H v x.md=9*K.H+152:=fun v=>by simp[rkF,e]
 have hres:=crowd_sel2 (P:=K.P) (sl:=sl) (i:=0) ha (by simpa using hst) hcO hcB hall hp'
 generalize runT K.P (crowd gs w sl) 0=res at hres
 rcases hres with⟨hb0,hp0,rfl⟩|⟨j,gj,zj,shj,d,hj0,hgj,rfl⟩|⟨d,hb0,rfl⟩
 ·
  have hno:∀k,k<x.j→(x.hs k).st≠20:=by
   intro k hk h20
   obtain⟨z,hz,hs⟩:=h.sit.hand k hk
   obtain⟨_,_,fr',cs',rfl,_⟩:=hs.parked h20
   have hm:(K.nb+k,0)∈partners (gs.setIfInBounds 0 ph) K.cO false:=mem_partners.2 ⟨_,by rw[set_get gs _ (by omega)];exact hz,by rw[offersAt_parked_recv,if_pos rfl];simp⟩
   rw[hp0]at hm
   cases hm
  have hp1:=h.prt
  have hprt:CPrt K { x with md:=⟨14,0,0,x.md.O,0⟩} w:=by
   refine⟨hp1.wg,?_,?_,?_,hp1.tal,hp1.nN,fun _=>hno,hp1.buf,hp1.tk,hp1.hold,hp1.two,hp1.cover,hp1.room,hp1.ca,hp1.cl,fun c=>absurd c (by simp),fun _=>hp1.busy (by omega)⟩
   ·have:=hp1.mode
    rw[tg_of (s:=15) (r:=x.md.r) (n:=0) (d:=0) (O:=noB) e rfl]at this
    exact this
   ·exact hcO
   ·exact hcB
  refine⟨_,_,sl,{ x with md:=⟨14,0,0,x.md.O,0⟩},rfl,?_,?_⟩
  ·exact comm_main (x':={ x with md:=⟨14,0,0,x.md.O,0⟩}) hC h rfl rfl rfl rfl rfl ⟨rfl,rfl,rfl⟩ (fun _ _ _=>rfl) (Or.inr (Or.inr (Or.inr (Or.inr (Or.inr (Or.inr (Or.inl ⟨rfl,rfl,hj,hn,fr,cs,rfl,hS,gotr⟩))))))) rfl d0.symm (fun c=>absurd c (by simp)) (fun op hop=>by simp[MemOp.ofEvents]at hop) hprt
  ·refine Prod.Lex.left _ _ ?_
   show 100*(K.N-x.next)+10*(K.N-x.nt)+sumTo K.nb x.q+sumTo x.j (fun k=>(x.hs k).st)+rkF K.H (Vc x.j (wdF K x)) ⟨14,0,0,x.md.O,0⟩<100*(K.N-x.next)+10*(K.N-x.nt)+sumTo K.nb x.q+sumTo x.j (fun k=>(x.hs k).st)+rkF K.H (Vc x.j (wdF K x)) x.md
   rw[r2]
   simp[rkF]
 ·
  have hsz:((w.at d).setChan K.cO 0 #[] false (x.sO+1) (x.rO+1) x.tmO).heap.size=w.heap.size:=size_chan (w.at d)
  have hoth:∀b,b≠K.cO→((w.at d).setChan K.cO 0 #[] false (x.sO+1) (x.rO+1) x.tmO).heap[b]?=w.heap[b]?:=fun b hb=>heap_chan (w.at d) hb
  have hcO':((w.at d).setChan K.cO 0 #[] false (x.sO+1) (x.rO+1) x.tmO).heap[K.cO]?=some (.chan 0 #[] false (x.sO+1) (x.rO+1) x.tmO):=heap_chan_self (w.at d) l3
  obtain⟨lv',rd',rl'⟩:=wsame h (fun b hb _=>hoth b hb) hsz
  obtain⟨k,hk,rfl,h20⟩:∃k,k<x.j∧j=K.nb+k∧(x.hs k).st=20:=by
   have hmem:(j,0)∈partners (gs.setIfInBounds 0 ph) K.cO false:=mem_partners.2 ⟨_,by rw[set_get gs _ (by omega)];exact hgj,by rw[offersAt_parked_recv,if_pos rfl];simp⟩
   rcases who h hgj with⟨rfl,_⟩|⟨_,_,hq⟩|⟨l,hl,rfl,hs⟩
   ·exact absurd rfl hj0
   ·have:=hq.status
    simp[parked]at this
   ·by_cases h20:(x.hs l).st=20
    ·exact⟨l,hl,rfl,h20⟩
    ·rcases hs.stat h20 with c|c<;>simp[parked]at c
  obtain⟨z,hz,hs⟩:=h.sit.hand k hk
  obtain⟨hO0,hdd,fr',cs',rfl,hR⟩:=hs.parked h20
  rw[hgj]at hz
  have ez:=Option.some.inj hz
  have efin:gj.finishComm K.P #[rcase K.cO zj] shj 0 (K.sv x.next) true=G (fr'.finish (recvd true (K.sv x.next) true)) cs':=by
   have e2:shj = .recv true:=by
    have:=congrArg Goroutine.offers ez
    simp only[parked,Option.some.injEq,Prod.mk.injEq]at this
    exact this.2
   rw[e2, ←finishComm_parked K.P gj #[rcase K.cO zj] #[rcase K.cO zj] (.recv true) (.recv true)]
   rw[e2]at ez
   rw[ez]
   rfl
  rw[efin]
  obtain⟨n,hn1⟩:=hC.hand.word fr' cs' x.next _ hR hn lv' rd'
  obtain⟨n2,hn2⟩:=hC.main.sent x.next x.tk x.md.O fr cs _ hS hn (gotr _ rl') lv' rd'
  have hprt:=prt_give (m':=⟨15,0,n2,x.md.O,0⟩) (d':={ x.hs k with st:=50,i:=x.next,fu:=n,O:=noB }) hC h.prt (fun b hb=>(h.mem.dnS b hb).1) hk hn (Or.inl h20) rfl rfl (Or.inr e) rfl hoth hcO'
  have hltk:K.nb+k<gs.size:=(Array.getElem?_eq_some_iff.1 hgj).1
  refine⟨_,_,sl,{ x with hs:=upd x.hs k { x.hs k with st:=50,i:=x.next,fu:=n,O:=noB },md:=⟨15,0,n2,x.md.O,0⟩,next:=x.next+1,sO:=x.sO+1,rO:=x.rO+1 },rfl,?_,?_⟩
  ·refine comm_res (d':={ x.hs k with st:=50, i:=x.next, fu:=n, O:=noB }) hC h hk rfl rfl rfl (by omega) (by simp) rfl (fun _ hb=>hb) hsz ⟨rfl, rfl, rfl⟩ (fun b hb _=>hoth b hb) (by simp) (fun i h0 hi=>by rw[set_get _ _ (fun e=>h0 e.symm), set_get _ _ (fun e=>hi e.symm)])
    ⟨_,by rw[set_get _ _ (by omega)];exact Array.getElem?_setIfInBounds_self_of_lt hltk,Or.inl ⟨rfl,hdd,hn1⟩⟩
    ⟨_,Array.getElem?_setIfInBounds_self_of_lt (by simpa using hlt),in15 rfl rfl hj hn2⟩ rfl d0.symm (fun c=>absurd c (by simp)) (fun b hb=>Or.inl hb) (fun op hop=>?_) hprt
   rcases Array.mem_append.1 hop with hop|hop
   ·simp[MemOp.ofEvents]at hop
   ·simp only[List.mem_toArray,List.mem_cons,List.not_mem_nil,or_false]at hop
    rcases hop with rfl|rfl|rfl|rfl<;>exact⟨rfl,fun m=>by simp,l3⟩
  ·have e1:=sumTo_upd x.hs { x.hs k with st:=50,i:=x.next,fu:=n,O:=noB } (fun d=>d.st) hk
   have e1:sumTo x.j (fun l=>(upd x.hs k { x.hs k with st:=50,i:=x.next,fu:=n,O:=noB } l).st)+(x.hs k).st=sumTo x.j (fun l=>(x.hs l).st)+50:=e1
   refine Prod.Lex.left _ _ ?_
   show 100*(K.N-(x.next+1))+10*(K.N-x.nt)+sumTo K.nb x.q+sumTo x.j (fun l=>(upd x.hs k { x.hs k with st:=50,i:=x.next,fu:=n,O:=noB } l).st)+rkF K.H _ ⟨15,0,n2,x.md.O,0⟩<100*(K.N-x.next)+10*(K.N-x.nt)+sumTo K.nb x.q+sumTo x.j (fun l=>(x.hs l).st)+rkF K.H (Vc x.j (wdF K x)) x.md
   have r1:∀v,rkF K.H v ⟨15,0,n2,x.md.O,0⟩=9*K.H+152:=fun v=>by simp[rkF]
   rw[r1,r2]
   omega
 ·
  have hsz:((w.at d).setChan K.cB K.N (x.buf.extract 1 x.buf.size) false x.sB (x.rB+1) x.tmB).heap.size=w.heap.size:=size_chan (w.at d)
  have hoth:∀b,b≠K.cB→((w.at d).setChan K.cB K.N (x.buf.extract 1 x.buf.size) false x.sB (x.rB+1) x.tmB).heap[b]?=w.heap[b]?:=fun b hb=>heap_chan (w.at d) hb
  have hcB':((w.at d).setChan K.cB K.N (x.buf.extract 1 x.buf.size) false x.sB (x.rB+1) x.tmB).heap[K.cB]?=some (.chan K.N (x.buf.extract 1 x.buf.size) (decide (x.md.s<3)) x.sB (x.rB+1) x.tmB):=by
   rw[decide_eq_false (by omega)];exact heap_chan_self (w.at d) l4
  obtain⟨lv',rd',rl'⟩:=wsame h (fun b _ hb=>hoth b hb) hsz
  obtain⟨i,v,hv,hi,hq⟩:=prt_take (m':=x.md) hC h.prt (fun b hb=>(h.mem.dnS b hb).1) hb0 rfl id id Iff.rfl Iff.rfl hoth hcB'
  obtain⟨n,hg⟩:=hC.main.took x.next x.tk x.md.O fr cs _ i v hS hn hi ⟨_,(hq.tk i v (if_pos rfl)).1⟩ (gotr _ rl') lv' rd'
  have htg:tgF ⟨15,0,n,x.md.O,0⟩=tgF x.md:=by
   rw[tg_of (m:=x.md) (s:=15) (r:=x.md.r) (n:=0) (d:=0) (O:=noB) e rfl]
   rfl
  obtain⟨i',v',hv',hi',hprt⟩:=prt_take (m':=⟨15,0,n,x.md.O,0⟩) hC h.prt (fun b hb=>(h.mem.dnS b hb).1) hb0 htg (by simp) (by simp) (by simp[e]) (by simp[e]) hoth hcB'
  obtain⟨rfl,rfl⟩:=hC.hand.tvi _ _ _ _ (hv.symm.trans hv')
  refine⟨_,_,sl,{ x with md:=⟨15,0,n,x.md.O,0⟩,buf:=x.buf.extract 1 x.buf.size,nt:=x.nt+1,tk:=fun y=>if y=i then some v else x.tk y,rB:=x.rB+1 },rfl,?_,?_⟩
  ·refine comm_main (x':={ x with md:=⟨15,0,n,x.md.O,0⟩,buf:=x.buf.extract 1 x.buf.size,nt:=x.nt+1,tk:=fun y=>if y=i then some v else x.tk y,rB:=x.rB+1 }) hC h rfl rfl rfl rfl hsz ⟨rfl,rfl,rfl⟩ (fun b _ hb=>hoth b hb) (in15 rfl rfl hj ?_) rfl d0.symm (fun c=>absurd c (by simp)) (fun op hop=>?_) hprt
   ·rw[hv]
    exact hg.mono fun _ _ _ y=>Or.inl ⟨hn,y⟩
   ·rcases Array.mem_append.1 hop with hop|hop
    ·simp[MemOp.ofEvents]at hop
    ·simp only[List.mem_toArray,List.mem_cons,List.not_mem_nil,or_false]at hop
     rcases hop with rfl|rfl<;>exact⟨rfl,fun m=>by simp,l4⟩
  ·refine Prod.Lex.left _ _ ?_
   have hroom:=h.prt.room
   have hnN:=h.prt.nN
   show 100*(K.N-x.next)+10*(K.N-(x.nt+1))+sumTo K.nb x.q+sumTo x.j (fun k=>(x.hs k).st)+rkF K.H (Vc x.j (wdF K x)) ⟨15,0,n,x.md.O,0⟩<100*(K.N-x.next)+10*(K.N-x.nt)+sumTo K.nb x.q+sumTo x.j (fun k=>(x.hs k).st)+rkF K.H (Vc x.j (wdF K x)) x.md
   have r1:∀v,rkF K.H v ⟨15,0,n,x.md.O,0⟩=9*K.H+152:=fun v=>by simp[rkF]
   rw[r1,r2]
   omega
theorem main15(hC:CfgOk K)(h:Cmp K x Shun gs w t)(ha:gs[0]?=some a)(hm:x.md.s=15∧x.md.d0=0∧x.j=K.H∧H0 K (AftZ K x.next x.tk) x.md.fu x.md.O a w):Res K Shun x t (runT K.P (crowd gs w sl) 0):=by
 obtain⟨e,d,hj,hh⟩:=hm
 rcases HG.cases2 hh with hsr|⟨m,g',w',es,hm,_,hgo,hS,hn'⟩
 ·rcases hsr w (Rly.refl w)with⟨hn,_⟩|⟨hn,hs⟩
  ·refine main_select hC h ha e d hj hn fun w1 hr=>?_
   rcases hsr w1 hr with⟨_,c⟩|⟨c,_⟩
   ·exact c
   ·omega
  ·exact main_close hC h ha e d hj hn hs
 ·exact main_quiet hC h ha hgo hS hm (by omega) (in15 e d hj hn')
end
end
section
open Go.Conc
open Go.ConcR (KK WgAt stA smA rd wr mk Payload DC0 Bk)
open Go.ConcN (WgLive CTag WD RelBy sumTo upd upd_same upd_ne sumTo_congr sumTo_upd cnt Vc)
section
variable {K:Cfg}{Shun:Loc→Prop}{x x':Gst K.P}{gs:Array Goroutine}{w w':World}{t:Trace}{es:Array Event}{a a':Goroutine}{sl:Option (Nat×Nat)}
def newD(P:Program)(n:Nat):HD P:=⟨21,0,n,none,noB,undef,0⟩
theorem spawn_step(h:Cmp K x Shun gs w t){r n:Nat}{md':MD}{g' child:Goroutine}{p q:MemOp}(e:x.md.s=16)(er:x.md.r=r)(d:x.md.d0=0)(hj:x.j+r+1=K.H)(hO:md'.O=x.md.O)(hd:md'.d0=0)(hm:15≤md'.s)(htg:tgF md' = .kd∨∃r', tgF md' = .sp r' 5)
  (hp:p.g=0∧p.act = .go (K.nb+x.j)) (hq:q.g=K.nb+x.j∧q.act = .start) (hch:HH K (AtRcv K) n noB child w) (hms:MSit K (x.j+1) x.next x.tk md' g' w) :
  Cmp K { x with j:=x.j+1,hs:=upd x.hs x.j (newD K.P n),md:=md' } Shun ((gs.setIfInBounds 0 g').push child) w (t ++ #[p,q]):=by
 have hone:=h.sit.one
 have hsz:=h.sit.size
 have hop2:∀op,op ∈ #[p,q]→op=p∨op=q:=by intro op hop;simpa using hop
 have hnt:∀op,op ∈ #[p,q]→op.act.touch?=none:=by
  intro op hop
  rcases hop2 op hop with rfl|rfl
  ·rw[hp.2];rfl
  ·rw[hq.2];rfl
 have hst:∀op,op ∈ #[p,q]→op.act ≠ .mark .disable∧op.act ≠ .mark .enable:=by
  intro op hop
  rcases hop2 op hop with rfl|rfl
  ·rw[hp.2];exact⟨by simp,by simp⟩
  ·rw[hq.2];exact⟨by simp,by simp⟩
 have up:∀l,l≠x.j→upd x.hs x.j (newD K.P n) l=x.hs l:=fun l e=>upd_ne x.hs _ e
 have upj:upd x.hs x.j (newD K.P n) x.j=newD K.P n:=upd_same ..
 have hown:∀gi b,ownF K { x with j:=x.j+1,hs:=upd x.hs x.j (newD K.P n),md:=md' } gi b→ownF K x gi b:=by
  intro gi b hb
  rcases hb with⟨rfl,ho⟩|⟨l,hl,rfl,ho⟩
  ·exact Or.inl ⟨rfl,by rw[←hO];exact ho⟩
  ·have hl:l<x.j+1:=hl
   have ho:(upd x.hs x.j (newD K.P n) l).O b:=ho
   by_cases el:l=x.j
   ·subst el;rw[upj]at ho;exact ho.elim
   ·rw[up l el]at ho
    exact Or.inr ⟨l,by omega,rfl,ho⟩
 have hdj:Deaf t (K.nb+x.j)=0:=h.trs.above _ (Nat.le_refl _)
 have hwd:∀l,wdF K { x with j:=x.j+1,hs:=upd x.hs x.j (newD K.P n),md:=md' } l=wdD (upd x.hs x.j (newD K.P n) l):=fun _=>rfl
 have hV:Vc (x.j+1) (wdF K { x with j:=x.j+1,hs:=upd x.hs x.j (newD K.P n),md:=md' })=Vc x.j (wdF K x)+1:=by
  show sumTo x.j _+cnt (wdF K _ x.j)=_
  rw[hwd,upj]
  have e1:sumTo x.j (fun l=>cnt (wdF K { x with j:=x.j+1,hs:=upd x.hs x.j (newD K.P n),md:=md' } l))=Vc x.j (wdF K x):=sumTo_congr fun l hl=>by
   rw[hwd,up l (by omega)]
   rfl
  rw[e1]
  rfl
 refine⟨⟨h.mem.rdx,fun gi b hb=>h.mem.own gi b (hown gi b hb),⟨fun g1 g2 b h1 h2=>h.mem.apt.two g1 g2 b (hown _ _ h1) (hown _ _ h2),fun gi b hb=>h.mem.apt.ownRd gi b (hown _ _ hb),fun gi b hb=>h.mem.apt.ownSh gi b (hown _ _ hb),h.mem.apt.rdSh⟩,fun gi b hb=>h.mem.ownS gi b (hown _ _ hb),h.mem.rdS,h.mem.dnS,h.mem.fix⟩,?_,?_,?_⟩
 ·have hf:=h.trs.trc.fork (Or.inl rfl) hp hq (by rw[h.trs.deaf0, d]) hdj (fun b hb=>by
   rcases hb with⟨e0,_⟩|⟨l,hl,el,_⟩
   ·omega
   ·omega)
  have hseen:∀op,op∈t ++ #[p,q]→LowT w.heap.size op.act:=lowT_app h.trs.seen (Nat.le_refl _) fun op hop=>LowT.none (hnt op hop)
  refine⟨hf.turn hseen (fun g hg=>?_) (fun gi b _ hb=>Or.inl (hown gi b hb)) (fun _ _ _ hb=>Or.inl hb),hseen,?_,fun l hl=>?_,fun i hi=>?_,h.trs.norel.app fun op hop=>?_,fun l hl h6=>?_,fun c=>absurd c (by show ¬md'.s≤3;omega),h.trs.old.app fun op hop=>Or.inr (Or.inr (hnt op hop))⟩
  ·rcases hg with rfl|⟨g1,g2⟩
   ·exact Or.inl (Or.inl rfl)
   ·have g2:g<K.nb+(x.j+1):=g2
    by_cases eg:g=K.nb+x.j
    ·exact Or.inr eg
    ·exact Or.inl (Or.inr ⟨g1,by omega⟩)
  ·rw[Go.ConcN.Deaf_still t 0 _ hst,h.trs.deaf0,d]
   exact hd.symm
  ·rw[Go.ConcN.Deaf_still t _ _ hst]
   show _=(upd x.hs x.j (newD K.P n) l).dd
   have hl:l<x.j+1:=hl
   by_cases el:l=x.j
   ·subst el;rw[upj];exact hdj
   ·rw[up l el];exact h.trs.deafH l (by omega)
  ·have hi:K.nb+(x.j+1)≤i:=hi
   rw[Go.ConcN.Deaf_still t _ _ hst]
   exact h.trs.above i (by omega)
  ·rcases hop2 op hop with rfl|rfl
   ·rw[hp.2];simp
   ·rw[hq.2];simp
  ·have hl:l<x.j+1:=hl
   have h6:(upd x.hs x.j (newD K.P n) l).st≤6:=h6
   by_cases el:l=x.j
   ·subst el;rw[upj]at h6;simp[newD]at h6
   ·rw[up l el]at h6
    obtain⟨r,hr⟩:=h.trs.rel l (by omega) h6
    refine⟨r,hr.appOther fun op hop=>?_⟩
    rcases hop2 op hop with rfl|rfl
    ·rw[hp.1];omega
    ·rw[hq.1];omega
 ·refine⟨by simp[hsz];omega,hone,by show x.j+1≤K.H;omega,fun i z h0 hi hz=>?_,fun l hl=>?_,?_⟩
  ·rw[Array.getElem?_push_lt (by simp[hsz];omega), ←Array.getElem?_eq_getElem,Array.getElem?_setIfInBounds_ne (by omega)]at hz
   rw[Go.ConcN.Deaf_still t _ _ hst]
   exact h.sit.old i z h0 hi hz
  ·have hl:l<x.j+1:=hl
   show ∃z,_∧HSit K (upd x.hs x.j (newD K.P n) l) z w
   by_cases el:l=x.j
   ·subst el
    refine⟨child,?_,?_⟩
    ·rw[show K.nb+x.j=(gs.setIfInBounds 0 g').size by simp[hsz],Array.getElem?_push_size]
    ·rw[upj]
     exact Or.inr (Or.inr (Or.inr (Or.inr (Or.inr (Or.inl ⟨rfl,rfl,hch⟩)))))
   ·obtain⟨z,hz,hs⟩:=h.sit.hand l (by omega)
    refine⟨z,?_,by rw[up l el];exact hs⟩
    rw[Array.getElem?_push_lt (by simp[hsz];omega), ←Array.getElem?_eq_getElem,Array.getElem?_setIfInBounds_ne (by omega)]
    exact hz
  ·refine⟨g',?_,hms⟩
   rw[Array.getElem?_push_lt (by simp[hsz];omega), ←Array.getElem?_eq_getElem]
   exact Array.getElem?_setIfInBounds_self_of_lt (by rw[hsz];omega)
 ·have hp1:=h.prt
  have hcO:=hp1.cho
  rw[decide_eq_false (by omega)]at hcO
  have hcB:=hp1.chb
  rw[decide_eq_false (by omega)]at hcB
  refine⟨hp1.wg,?_,?_,?_,hp1.tal,hp1.nN,fun c=>absurd c (by show ¬md'.s≤14;omega),hp1.buf,hp1.tk,fun l hl c=>?_,fun l l' hl hl' c c' ee=>?_,fun i hi=>?_,?_,fun i hi=>?_,fun i hi=>?_,fun c=>absurd c (by show ¬md'.s=1;omega),fun _ l hl=>?_⟩
  ·have hm0:=hp1.mode
   rw[tg_of (s:=16) (r:=r) (n:=0) (d:=0) (O:=noB) e er]at hm0
   obtain⟨ho,hst0,hsm0,_⟩:=hm0.open_inv (tag:= .sp r 2) trivial
   have hop:Go.ConcN.isOpen (tgF md'):=by rcases htg with c|⟨_,c⟩<;>rw[c]<;>trivial
   have hpd:Go.ConcN.pend (tgF md')=0:=by rcases htg with c|⟨_,c⟩<;>rw[c]<;>rfl
   have key:∀D:Nat→WD,(∀l,D l=wdD (upd x.hs x.j (newD K.P n) l))→Vc (x.j+1) D=Vc x.j (wdF K x)+1→Go.ConcN.Mode (x.j+1) D (tgF md') x.st x.sm:=by
    intro D hD hVD
    have est:x.st=((Vc (x.j+1) D+Go.ConcN.pend (tgF md'):Nat):Int)*KK:=by
     rw[hVD,hpd,hst0];simp[Go.ConcN.pend]
    rw[est,hsm0]
    refine .opn hop (fun l hl=>?_) (fun vs c=>?_)
    ·rw[hD]
     by_cases el:l=x.j
     ·subst el;rw[upj];exact Or.inl rfl
     ·rw[up l el];exact ho l (by omega)
    ·rcases htg with c'|⟨_,c'⟩<;>rw[c']at c<;>cases c
   exact key _ hwd hV
  ·show _=some (Obj.chan 0 #[] (decide (md'.s<14)) x.sO x.rO x.tmO)
   rw[decide_eq_false (by omega)];exact hcO
  ·show _=some (Obj.chan K.N x.buf (decide (md'.s<3)) x.sB x.rB x.tmB)
   rw[decide_eq_false (by omega)];exact hcB
  ·have hl:l<x.j+1:=hl
   have c:46≤(upd x.hs x.j (newD K.P n) l).st:=c
   show(upd x.hs x.j (newD K.P n) l).i<x.next
   by_cases el:l=x.j
   ·subst el;rw[upj]at c;simp[newD]at c
   ·rw[up l el]at c ⊢;exact hp1.hold l (by omega) c
  ·have hl:l<x.j+1:=hl
   have hl':l'<x.j+1:=hl'
   have c:46≤(upd x.hs x.j (newD K.P n) l).st:=c
   have c':46≤(upd x.hs x.j (newD K.P n) l').st:=c'
   have ee:(upd x.hs x.j (newD K.P n) l).i=(upd x.hs x.j (newD K.P n) l').i:=ee
   by_cases el:l=x.j
   ·subst el;rw[upj]at c;simp[newD]at c
   ·by_cases el':l'=x.j
    ·subst el';rw[upj]at c';simp[newD]at c'
    ·rw[up l el]at c ee;rw[up l' el']at c' ee;exact hp1.two l l' (by omega) (by omega) c c' ee
  ·rcases hp1.cover i hi with c|c|⟨l,hl,c1,c2⟩
   ·exact Or.inl c
   ·exact Or.inr (Or.inl c)
   ·refine Or.inr (Or.inr ⟨l,by show l<x.j+1;omega,?_,?_⟩)
    ·show 46≤(upd x.hs x.j (newD K.P n) l).st
     rw[up l (by omega)];exact c1
    ·show(upd x.hs x.j (newD K.P n) l).i=i
     rw[up l (by omega)];exact c2
  ·refine Eq.trans ?_ hp1.room
   show x.buf.size+(sumTo x.j _+hldF K _ x.j)+x.nt=_
   have e1:hldF K { x with j:=x.j+1,hs:=upd x.hs x.j (newD K.P n),md:=md' } x.j=0:=by
    show(if 46≤(upd x.hs x.j (newD K.P n) x.j).st then 1 else 0)=0
    rw[upj];rfl
   have e2:sumTo x.j (hldF K { x with j:=x.j+1,hs:=upd x.hs x.j (newD K.P n),md:=md' })=sumTo x.j (hldF K x):=sumTo_congr fun l hl=>by
    show(if 46≤(upd x.hs x.j (newD K.P n) l).st then 1 else 0)=if 46≤(x.hs l).st then 1 else 0
    rw[up l (by omega)]
   rw[e1,e2,Nat.add_zero]
  ·refine(hp1.ca i hi).trans ⟨fun⟨b1,b2⟩=>⟨b1,fun l hl c=>?_⟩,fun⟨b1,b2⟩=>⟨b1,fun l hl c=>?_⟩⟩
   ·have hl:l<x.j+1:=hl
    have c:48≤(upd x.hs x.j (newD K.P n) l).st:=c
    show(upd x.hs x.j (newD K.P n) l).i≠i
    by_cases el:l=x.j
    ·subst el;rw[upj]at c;simp[newD]at c
    ·rw[up l el]at c ⊢;exact b2 l (by omega) c
   ·have:=b2 l (by show l<x.j+1;omega) (by show 48≤(upd x.hs x.j (newD K.P n) l).st;rw[up l (by omega)];exact c)
    have this:(upd x.hs x.j (newD K.P n) l).i≠i:=this
    rw[up l (by omega)]at this;exact this
  ·refine(hp1.cl i hi).trans ⟨fun⟨b0,b1,b2⟩=>⟨b0,b1,fun l hl c=>?_⟩,fun⟨b0,b1,b2⟩=>⟨b0,b1,fun l hl c=>?_⟩⟩
   ·have hl:l<x.j+1:=hl
    have c:47≤(upd x.hs x.j (newD K.P n) l).st:=c
    show(upd x.hs x.j (newD K.P n) l).i≠i
    by_cases el:l=x.j
    ·subst el;rw[upj]at c;simp[newD]at c
    ·rw[up l el]at c ⊢;exact b2 l (by omega) c
   ·have:=b2 l (by show l<x.j+1;omega) (by show 47≤(upd x.hs x.j (newD K.P n) l).st;rw[up l (by omega)];exact c)
    have this:(upd x.hs x.j (newD K.P n) l).i≠i:=this
    rw[up l (by omega)]at this;exact this
  ·have hl:l<x.j+1:=hl
   show 20≤(upd x.hs x.j (newD K.P n) l).st
   by_cases el:l=x.j
   ·subst el;rw[upj];simp[newD]
   ·rw[up l el];exact hp1.busy (by omega) l (by omega)
theorem main16(hC:CfgOk K)(h:Cmp K x Shun gs w t)(ha:gs[0]?=some a)(hm:x.md.s=16∧x.md.d0=0∧x.j+x.md.r+1=K.H∧x.next=0∧x.tk=tk0∧H0 K (AtGo K (SpnZ K x.md.r)) x.md.fu x.md.O a w):Res K Shun x t (runT K.P (crowd gs w sl) 0):=by
 obtain⟨e,d,hj,hn,htk,hh⟩:=hm
 rcases hh.cases with hs|⟨m,g',w',es,hm,_,hgo,hS,hn'⟩
 ·obtain⟨_,g',child,hsp,⟨n,hch⟩,n2,hg⟩:=hs
  have hrun:=runT_crowd_spawn (P:=K.P) (sl:=sl) (i:=0) ha (by simpa using hsp)
  have hops:(((MemOp.ofEvents 0 a.frame.fn a.frame.place #[]).push { g:=0,fn:=a.frame.fn,pos:=a.frame.place,act:= .go gs.size }).push { g:=gs.size,fn:=child.frame.fn,pos:=a.frame.place,act:= .start }) = #[({ g:=0,fn:=a.frame.fn,pos:=a.frame.place,act:= .go (K.nb+x.j)}:MemOp),{ g:=K.nb+x.j,fn:=child.frame.fn,pos:=a.frame.place,act:= .start }]:=by
   rw[h.sit.size];simp[MemOp.ofEvents]
  rw[hops]at hrun
  have e0:sumTo x.j (fun l=>(upd x.hs x.j (newD K.P n) l).st)=sumTo x.j (fun l=>(x.hs l).st):=sumTo_congr fun l hl=>by rw[upd_ne x.hs _ (by omega)]
  have e1:sumTo (x.j+1) (fun l=>(upd x.hs x.j (newD K.P n) l).st)=sumTo x.j (fun l=>(x.hs l).st)+21:=by
   show sumTo x.j (fun l=>(upd x.hs x.j (newD K.P n) l).st)+(upd x.hs x.j (newD K.P n) x.j).st=_
   rw[e0,upd_same]
   rfl
  have r2:∀v,rkF K.H v x.md=9*K.H+200+40*x.md.r+16:=fun v=>by simp[rkF,e]
  cases hr:x.md.r with
  | zero=>
   rw[hr]at hg hj
   refine⟨_,_,sl,{ x with j:=x.j+1,hs:=upd x.hs x.j (newD K.P n),md:=⟨15,0,n2,x.md.O,0⟩},by rw[hrun],?_,?_⟩
   ·rw[hrun]
    refine spawn_step (md':=⟨15,0,n2,x.md.O,0⟩) h e hr d hj rfl rfl (by simp) (Or.inl rfl) ⟨rfl,rfl⟩ ⟨rfl,rfl⟩ hch (in15 rfl rfl (by omega) ?_)
    rw[hn,htk]
    exact hg
   ·refine Prod.Lex.left _ _ ?_
    show 100*(K.N-x.next)+10*(K.N-x.nt)+sumTo K.nb x.q+sumTo (x.j+1) (fun l=>(upd x.hs x.j (newD K.P n) l).st)+rkF K.H _ ⟨15,0,n2,x.md.O,0⟩<100*(K.N-x.next)+10*(K.N-x.nt)+sumTo K.nb x.q+sumTo x.j (fun k=>(x.hs k).st)+rkF K.H (Vc x.j (wdF K x)) x.md
    have r1:∀v,rkF K.H v ⟨15,0,n2,x.md.O,0⟩=9*K.H+152:=fun v=>by simp[rkF]
    rw[r1,r2,e1]
    omega
  | succ r=>
   rw[hr]at hg hj
   refine⟨_,_,sl,{ x with j:=x.j+1,hs:=upd x.hs x.j (newD K.P n),md:=⟨20,r,n2,x.md.O,0⟩},by rw[hrun],?_,?_⟩
   ·rw[hrun]
    exact spawn_step (md':=⟨20,r,n2,x.md.O,0⟩) h e hr d hj rfl rfl (by simp) (Or.inr ⟨r,rfl⟩) ⟨rfl,rfl⟩ ⟨rfl,rfl⟩ hch (Or.inl ⟨rfl,rfl,by show x.j+1+r+1=K.H;omega,hn,htk,hg⟩)
   ·refine Prod.Lex.left _ _ ?_
    show 100*(K.N-x.next)+10*(K.N-x.nt)+sumTo K.nb x.q+sumTo (x.j+1) (fun l=>(upd x.hs x.j (newD K.P n) l).st)+rkF K.H _ ⟨20,r,n2,x.md.O,0⟩<100*(K.N-x.next)+10*(K.N-x.nt)+sumTo K.nb x.q+sumTo x.j (fun k=>(x.hs k).st)+rkF K.H (Vc x.j (wdF K x)) x.md
    have r1:∀v,rkF K.H v ⟨20,r,n2,x.md.O,0⟩=9*K.H+200+40*r+20:=fun v=>by simp[rkF]
    rw[r1,r2,e1]
    omega
 ·exact main_quiet hC h ha hgo hS hm (by omega) (Or.inr (Or.inr (Or.inr (Or.inr (Or.inl ⟨e,d,hj,hn,htk,hn'⟩)))))
end
end
end Go.Proofs.YtedifobeggabnaaGreat
