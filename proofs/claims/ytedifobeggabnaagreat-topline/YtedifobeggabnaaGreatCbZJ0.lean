/- Texts of ours, one behind the other: ZJ0. -/
import Derived.Test.YtedifobeggabnaaGreatCbZD8
import Derived.Test.YtedifobeggabnaaGreatCbZE22
import Derived.Test.YtedifobeggabnaaGreatCbZL0
import Derived.Conc.TokenWalk
namespace Go.Proofs.YtedifobeggabnaaGreat
open Go.Conc
def LvZ(z:Nat→Option Obj)(w:World):Prop:=∀b o,z b=some o→w.heap[b]?=some o
structure Kp(B:Nat)(h z:Nat→Option Obj)(O:Nat→Prop)(w:World):Prop where
 mem:∀b o,h b=some o→w.heap[b]?=some o
 own:∀b o,h b=some o→O b
 size:B≤w.heap.size
 spec:LvZ z w
 off:∀b o,z b=some o→¬O b
 lt:∀b,O b→b<w.heap.size
def putB(h:Nat→Option Obj)(x:Nat)(X:Obj):Nat→Option Obj:=fun b=>if b=x then some X else h b
theorem putB_self(h:Nat→Option Obj)(x:Nat)(X:Obj):putB h x X x=some X:=if_pos rfl
theorem putB_ne(h:Nat→Option Obj){x b:Nat}(X:Obj)(e:b≠x):putB h x X b=h b:=if_neg e
section
variable {P:Program}{Stop:(Nat→Prop)→Goroutine→World→Prop}{O:Nat→Prop}{n:Nat}{g:Goroutine}{w w1:World}{h z:Nat→Option Obj}{B:Nat}{b:Frame}{a:Act}{ops:Array Oper}{i:Nat}{rest:List Nat}{k:List Item}{cs:List Frame}{o:Oper}
theorem Kp.rely(hK:Kp B h z O w)(r:Rly noB (LvZ z) O w w1):Kp B h z O w1:=⟨fun b o e=>(r.stb b (Or.inr (hK.own b o e))).trans (hK.mem b o e),hK.own,Nat.le_trans hK.size r.size,r.lv hK.spec,hK.off,fun b hb=>Nat.lt_of_lt_of_le (hK.lt b hb) r.size⟩
theorem Kp.ltH(hK:Kp B h z O w){b:Nat}{o:Obj}(e:h b=some o):b<w.heap.size:=lt_of_some (hK.mem b o e)
theorem Kp.cell(hK:Kp B h z O w){b off:Nat}{cs:Array Value}{t:TypeId}{v:Value}(e:h b=some (.cells cs t))(hv:cs[off]?=some v):w.cell? ⟨b,off,none⟩=some v:=cell_of (hK.mem b _ e) hv
theorem hg_then(_hK:Kp B h z O w)(h:HG P true noB (LvZ z) (fun O g w=>Wk P Stop O g w) n O g w):Wk P Stop O g w:=
 (hg_wk (fun _ _ h=>h) h).bind fun _ _ w hs=>hs w.drawn
theorem wk_newv(X:Obj)(val:Nat→Value)(ho:ops[i]?=some o)(hw:Region.wanted o (yielded ops a.tmps)=true)(hk:b.kind ≠ .early)(hr:∀w1:World, (execOp a.eval o).run P w1 = .ok (.value (val w1.heap.size)) { w1 with heap:=w1.heap.push X })(he:∀w1:World, (execOp a.eval o).events P w1 #[] = #[])
  (hn:∀d,Wk P Stop O (G (b.at (a.put o.dst (val w.heap.size)) (.inRegion ops rest::k)) cs) { w.at d with heap:=w.heap.push X }):Wk P Stop O (G (b.at a (.inRegion ops (i::rest)::k)) cs) w:=
 Wk.mk rfl fun d=>⟨G (b.at (a.put o.dst (val w.heap.size)) (.inRegion ops rest::k)) cs,{ w.at d with heap:=w.heap.push X }, #[],O,(stepG_value ho hw hk (hr (w.at d))).trans (by unfold listed;rw[he,seen_none];rfl),⟨rfl,rfl,rfl,by show w.heap.size≤(w.heap.push X).size;rw[Array.size_push];omega,fun b hb _=>by show(w.heap.push X)[b]?=_;rw[Array.getElem?_push,if_neg (by have:b<w.heap.size:=hb;omega)];rfl,fun b hb=>hb,fun b hb=>Or.inl hb,fun e hm=>by simp at hm⟩,hn d⟩
theorem Kp.push(hK:Kp B h z O w)(X:Obj)(d:Nat):Kp B h (putB z w.heap.size X) O { w.at d with heap:=w.heap.push X }:=by
 have old:∀b,b<w.heap.size→(w.heap.push X)[b]?=w.heap[b]?:=fun b hb=>by rw[Array.getElem?_push,if_neg (by omega)]
 refine⟨fun b o e=>(old b (hK.ltH e)).trans (hK.mem b o e),hK.own,by show B≤(w.heap.push X).size;rw[Array.size_push];have:=hK.size;omega,fun b o e=>?_,fun b o e=>?_,fun b hb=>by show b<(w.heap.push X).size;rw[Array.size_push];have:=hK.lt b hb;omega⟩
 ·show(w.heap.push X)[b]?=_
  by_cases e1:b=w.heap.size
  ·subst e1
   rw[putB_self]at e
   simpa using e
  ·rw[putB_ne _ _ e1]at e
   exact(old b (lt_of_some (hK.spec b o e))).trans (hK.spec b o e)
 ·by_cases e1:b=w.heap.size
  ·intro ho
   have:=hK.lt b ho
   omega
  ·rw[putB_ne _ _ e1]at e
   exact hK.off b o e
theorem hk_alloc(hK:Kp B h z O w)(X:Obj)(val:Nat→Value)(ho:ops[i]?=some o)(hw:Region.wanted o (yielded ops a.tmps)=true)(hk:b.kind ≠ .early)(hr:∀w1:World, (execOp a.eval o).run P w1 = .ok (.value (val w1.heap.size)) { w1 with heap:=w1.heap.push X })(he:∀w1:World, (execOp a.eval o).events P w1 #[] = #[])
  (hn:∀x w2,B≤x→(∀b o,h b=some o→b<x)→(∀b o,z b=some o→b<x)→Kp B (putB h x X) z (fun y=>O y∨y=x) w2→HG P true noB (LvZ z) Stop n (fun y=>O y∨y=x) (G (b.at (a.put o.dst (val x)) (.inRegion ops rest::k)) cs) w2):HG P true noB (LvZ z) Stop (n+1) O (G (b.at a (.inRegion ops (i::rest)::k)) cs) w:=by
 refine HG.step rfl fun w1 h1=>?_
 rw[stepG_value ho hw hk (hr w1)]
 have hK1:=hK.rely h1
 have eg:Grw O w1 { w1 with heap:=w1.heap.push X }=fun x=>O x∨x=w1.heap.size:=by
  funext x
  have es:({ w1 with heap:=w1.heap.push X }:World).heap.size=w1.heap.size+1:=Array.size_push ..
  refine propext ⟨fun h=>?_,fun h=>?_⟩
  ·rcases h with h|⟨c1,c2⟩
   ·exact Or.inl h
   ·exact Or.inr (by omega)
  ·rcases h with h|h
   ·exact Or.inl h
   ·exact Or.inr ⟨by omega,by omega⟩
 have hK2:Kp B (putB h w1.heap.size X) z (fun y=>O y∨y=w1.heap.size) { w1 with heap:=w1.heap.push X }:=by
  refine⟨fun b o e=>?_,fun b o e=>?_,by show B≤(w1.heap.push X).size;rw[Array.size_push];have:=hK1.size;omega,fun b o e=>?_,fun b o e=>?_,fun b hb=>?_⟩
  ·show(w1.heap.push X)[b]?=_
   by_cases e1:b=w1.heap.size
   ·subst e1
    rw[putB_self]at e
    simpa using e
   ·rw[putB_ne _ _ e1]at e
    rw[Array.getElem?_push,if_neg e1]
    exact hK1.mem b o e
  ·by_cases e1:b=w1.heap.size
   ·exact Or.inr e1
   ·rw[putB_ne _ _ e1]at e
    exact Or.inl (hK1.own b o e)
  ·have:=lt_of_some (hK1.spec b o e)
   show(w1.heap.push X)[b]?=_
   rw[Array.getElem?_push,if_neg (by omega)]
   exact hK1.spec b o e
  ·have:=lt_of_some (hK1.spec b o e)
   exact fun c=>c.elim (hK1.off b o e) (fun c=>by omega)
  ·show b<(w1.heap.push X).size
   rw[Array.size_push]
   exact hb.elim (fun c=>by have:=hK1.lt b c;omega) (fun c=>by omega)
 refine⟨⟨rfl,rfl,rfl,by show w1.heap.size≤(w1.heap.push X).size;rw[Array.size_push];omega,fun x hx _=>?_,fun e hm=>?_⟩,by rw[eg];exact hn _ _ hK1.size (fun b o e=>hK1.ltH e) (fun b o e=>lt_of_some (hK1.spec b o e)) hK2⟩
 ·show(w1.heap.push X)[x]?=_
  rw[Array.getElem?_push,if_neg (by omega)]
 ·have:=mem_listed hm
  rw[he w1]at this
  simp at this
theorem hk_store {x off:Nat}{C:Array Value}{t:TypeId}{v:Value}(hK:Kp B h z O w)(hx:h x=some (.cells C t))(ho:ops[i]?=some o)(hw:Region.wanted o (yielded ops a.tmps)=true)(hk:b.kind ≠ .early)
  (hr:∀w1:World,w1.heap[x]?=some (.cells C t)→(execOp a.eval o).run P w1 = .ok .skip (w1.setCell ⟨x,off,none⟩ v))
  (he:∀w1:World,w1.heap[x]?=some (.cells C t)→(execOp a.eval o).events P w1 #[] = #[⟨.cell ⟨x,off,none⟩,true,false⟩])
  (hn:∀w2,Kp B (putB h x (.cells (C.setIfInBounds off v) t)) z O w2→HG P true noB (LvZ z) Stop n O (G (b.at (a.put o.dst undef) (.inRegion ops rest::k)) cs) w2):HG P true noB (LvZ z) Stop (n+1) O (G (b.at a (.inRegion ops (i::rest)::k)) cs) w:=by
 refine hg_stores (F:=Kp B h z O) (x:=x) (C:=C) (C':=C.setIfInBounds off v) (f:=fun w=>w.setCell ⟨x,off,none⟩ v) (es := #[⟨.cell ⟨x,off,none⟩,true,false⟩]) (fun h r=>h.rely r) hK (hK.own x _ hx) (fun w hw=>hw.mem x _ hx) ho hw hk (fun w1 h1=>⟨set_of h1 off v,size_setCell _ _ _,⟨rfl,rfl,rfl⟩,fun y hy=>by rw[heap_setCell,if_neg hy]⟩) hr he (fun e he=>⟨off,by simpa using he⟩) (fun w1 w2 hw1 hk2 hz hx2=>hn w2 ⟨fun b o e=>?_,fun b o e=>?_,by rw[hz];exact hw1.size,fun b o e=>(hk2 b fun c=>hw1.off b o e (c▸hw1.own x _ hx)).trans (hw1.spec b o e),hw1.off,fun b hb=>by rw[hz];exact hw1.lt b hb⟩)
 ·by_cases e1:b=x
  ·subst e1
   rw[putB_self]at e
   cases e
   exact hx2
  ·rw[putB_ne _ _ e1]at e
   exact(hk2 b e1).trans (hw1.mem b o e)
 ·by_cases e1:b=x
  ·subst e1
   exact hw1.own b _ hx
  ·rw[putB_ne _ _ e1]at e
   exact hw1.own b o e
theorem hk_load {x off:Nat}{C:Array Value}{t:TypeId}(v:Value)(hK:Kp B h z O w)(hx:h x=some (.cells C t))(hv:C[off]?=some v)(ho:ops[i]?=some o)(hw:Region.wanted o (yielded ops a.tmps)=true)(hk:b.kind ≠ .early)
  (hr:∀w1:World,w1.cell? ⟨x,off,none⟩=some v→(execOp a.eval o).run P w1 = .ok (.value v) w1) (he:∀w1:World,w1.cell? ⟨x,off,none⟩=some v→(execOp a.eval o).events P w1 #[] = #[⟨.cell ⟨x,off,none⟩,false,false⟩])
  (hn:HG P true noB (LvZ z) Stop n O (G (b.at (a.put o.dst v) (.inRegion ops rest::k)) cs) w):HG P true noB (LvZ z) Stop (n+1) O (G (b.at a (.inRegion ops (i::rest)::k)) cs) w:=
 hg_load (bk:=x) (off:=off) v ho hw hk (Or.inr (hK.own _ _ hx)) (hK.cell hx hv) hr he hn
theorem Kp.weak {h':Nat→Option Obj}(hK:Kp B h z O w)(hh:∀b o,h' b=some o→h b=some o):Kp B h' z O w:=⟨fun b o e=>hK.mem b o (hh b o e),fun b o e=>hK.own b o (hh b o e),hK.size,hK.spec,hK.off,hK.lt⟩
def extB(h:Nat→Option Obj)(N:Nat)(V:World)(b:Nat):Option Obj:=match h b with
 | some o=>some o
 | none=>if N≤b then V.heap[b]? else none
theorem extB_old {N:Nat}{V:World}{b:Nat}{o:Obj}(e:h b=some o):extB h N V b=some o:=by unfold extB;rw[e]
theorem extB_new {N:Nat}{V:World}{b:Nat}{o:Obj}(hN:∀b o,h b=some o→b<N)(e:N≤b)(ho:V.heap[b]?=some o):extB h N V b=some o:=by
 unfold extB
 cases hb:h b with
 | some o=>have:=hN b o hb;omega
 | none=>show(if N≤b then V.heap[b]? else none)=_;rw[if_pos e];exact ho
structure SeeR(P:Program)(h:Nat→Option Obj)(vs:List Value)(W:World)(F:Fx)(Q:Nat→Prop)(V:World):Prop where
 fns:Fns P F
 ncl:∀b,F.cl b→P.info? F.wt=none
 own:∀b,Q b→(∃o,h b=some o)∧F.cl b
 vw:VW Q F W.heap.size W V W
 blk:Blk (Sto Q W.heap.size V.heap.size) F V
 cf:ClF F W.heap.size V
 vals:∀v,v∈vs→VOk (Sto Q W.heap.size V.heap.size) F v
theorem VW.new {Q:Nat→Prop}{F:Fx}{W0 V W:World}(hv:VW Q F B W0 V W)(hB:Blk (Sto Q B V.heap.size) F V){x:Nat}{c:Array Value}{t:TypeId}(hs:Sto Q B V.heap.size x)(hn:¬F.cl x)(e:V.heap[x]?=some (.cells c t)):W.heap[x]?=some (.cells c t):=by
 obtain⟨o',ho',hal⟩:=hv.sim.blk x _ (hs.imp id And.left) e
 obtain⟨c',t',z',rfl,hw,ht,hz⟩:=hal
 obtain rfl:=hw.1 hn
 obtain rfl:=ht hn
 have hz:z'=(0,0):=(hz.resolve_left hn).elim id id
 subst hz
 obtain⟨o2,ho2,hk⟩:=hB x hs (lt_of_some e)
 rw[e]at ho2;cases ho2
 have em:c.map (rnV id)=c:=(Array.map_congr_left fun v hv=>rnV_id (hk v hv)).trans (Array.map_id' _)
 rw[em]at ho'
 exact ho'
theorem call_kpV {Q:Nat→Prop}{F:Fx}{V W:World}{f:FuncId}{args:Array Value}{c:Frame}{R:Value→World→Prop}{h0:Nat→Option Obj}{vs:List Value}(hK:Kp B h z O W)(hS:SeeR P h0 vs W F Q V)(hh:∀b o, h0 b=some o→h b=some o)(hg:P.globals.size=0)(hf:F.fn f)(ha:∀v, v∈args→v∈vs∨∃k n, v = .int k n)
  (hc:∀T d,Calls P f args (rtp V T d) fun e u=>∃v,e = .returned v∧R v u) (hR:∀v V T d,R v V→R v (rtp V T d))
  (hcont:∀v V1 W1,R v V1→(∀x c t,W.heap.size≤x→V1.heap[x]?=some (.cells c t)→W1.heap[x]?=some (.cells c t))→Kp B (extB h W.heap.size W1) z (OwnB O W.heap.size W1) W1→Wk P Stop (OwnB O W.heap.size W1) (G (c.finish v) cs) W1):Wk P Stop O (G (Frame.enter P f args .normal) (c::cs)) W:=by
 have hQO:∀b,Q b→O b:=fun b hb=>by
  obtain⟨⟨o,e⟩,_⟩:=hS.own b hb
  exact hK.own b o (hh b o e)
 refine call_wkV (Q:=Q) (F:=F) (Post:=R) (W0:=W) ⟨⟨fun b _=>by rw[hg];omega,hS.ncl⟩,hS.fns⟩ hQO hS.vw hS.blk hS.cf hf (fun v hv=>?_) hc hR (fun v V1 W1 hp hv1 hvv hb=>?_)
 ·rcases ha v hv with c|⟨k,n,rfl⟩
  ·exact hS.vals v c
  ·exact ok_int k n
 ·have hsz:=hv1.size
  have hle:=hv1.le
  have hold:∀b,b<W.heap.size→W1.heap[b]?=W.heap[b]?:=fun b hb=>by
   by_cases hq:Q b
   ·exact(hv1.frz b (hS.own b hq).2).2.2.2
   ·exact hv1.old b hb hq
  refine hcont v V1 W1 hp (fun x c t hx e=>hv1.new hb (Or.inr ⟨hx,lt_of_some e⟩) (hS.cf.nw x hx) e) ⟨fun b o e=>?_,fun b o e=>?_,Nat.le_trans hK.size hle,fun b o e=>(hold b (lt_of_some (hK.spec b o e))).trans (hK.spec b o e),fun b o e c=>c.elim (hK.off b o e) (fun c=>by have:=lt_of_some (hK.spec b o e);omega),fun b hb=>hb.elim (fun c=>Nat.lt_of_lt_of_le (hK.lt b c) hle) (fun c=>c.2)⟩
  ·unfold extB at e
   cases hb:h b with
   | some o'=>
    rw[hb]at e
    cases e
    exact(hold b (hK.ltH hb)).trans (hK.mem b _ hb)
   | none=>
    rw[hb]at e
    simp only at e
    split at e
    ·exact e
    ·cases e
  ·unfold extB at e
   cases hb:h b with
   | some o'=>exact Or.inl (hK.own b o' hb)
   | none=>
    rw[hb]at e
    simp only at e
    split at e
    ·exact Or.inr ⟨by assumption,lt_of_some e⟩
    ·cases e
end
end Go.Proofs.YtedifobeggabnaaGreat
