/- Texts of ours, one behind the other: ZB10 ZB11 ZB12 ZB13. -/
import Derived.Test.YtedifobeggabnaaGreatCbZB2
import Derived.Conc.Fork
namespace Go.Proofs.YtedifobeggabnaaGreat
section
open Go.Conc (G)
def Blk(S:Nat→Prop)(F:Fx)(V:World):Prop:=∀b,S b→b<V.heap.size→∃o,V.heap[b]?=some o∧OOk S F o
def Sto(Q:Nat→Prop)(B N:Nat)(b:Nat):Prop:=Q b∨(B≤b∧b<N)
def Sup(Q:Nat→Prop)(B:Nat)(b:Nat):Prop:=Q b∨B≤b
section
variable {P:Program}{S S1:Nat→Prop}{F:Fx}{f:Nat→Nat}{α:Type}{R R1:α→α→Prop}{V V' V1 W:World}
theorem OOk.mono(h:∀b,S b→S1 b){o:Obj}(x:OOk S F o):OOk S1 F o:=by
 cases o with
 | cells c t z=>exact fun v hv=>VOk.mono h (x v hv)
 | number a l=>exact⟨h _ x.1,x.2⟩
 | _=>exact x.elim
theorem Blk.setCell(h:Blk S F V){a:Addr}{v:Value}(hv:VOk S F v):Blk S F (V.setCell a v):=by
 intro b hb hl
 rw[size_setCell]at hl
 obtain⟨o,ho,hk⟩:=h b hb hl
 rw[heap_setCell]
 by_cases e:b=a.block
 ·rw[if_pos e,ho]
  refine⟨_,rfl,?_⟩
  cases o with
  | cells c t z=>
   intro x hx
   split at hx
   ·exact hk x hx
   ·rcases Array.mem_or_eq_of_mem_setIfInBounds hx with hx|rfl
    ·exact hk x hx
    ·exact hv
  | number a l=>exact hk
  | _=>exact hk.elim
 ·rw[if_neg e]
  exact⟨o,ho,hk⟩
theorem Blk.push(h:Blk S F V){o:Obj}(ho:OOk S F o):Blk S F { V with heap:=V.heap.push o }:=by
 intro b hb hl
 show ∃x,(V.heap.push o)[b]?=some x∧_
 rw[Array.getElem?_push]
 split
 ·exact⟨o,rfl,ho⟩
 ·have hl:b<(V.heap.push o).size:=hl
  rw[Array.size_push]at hl
  exact h b hb (by omega)
theorem Blk.cell(h:Blk S F V){a:Addr}{v:Value}(hs:S a.block)(hc:V.cell? a=some v):VOk S F v:=by
 obtain⟨c,t,z,e,_,hv⟩:=load_cell hc
 obtain⟨o,ho,hk⟩:=h _ hs (lt_of_some e)
 rw[e]at ho;cases ho
 exact hk v (Array.mem_of_getElem? hv)
theorem SR.grows {s s':Sem α}(h:SR P S F id R s s')(hV:Cl S F V){es es1:Array Event}{a:α}(hr:s.runT P V es=(.ok a V',es1)):V.heap.size≤V'.heap.size:=by
 obtain⟨_,_,_,_,_,_,_,h5,_⟩:=h.run (Sim.refl hV) hr (fun j q h1 h2=>by congr 1;omega)
 exact h5.le
theorem SR.tight {s s' s1:Sem α}(h1:SR P S1 F id R1 s s1)(hV:Cl S1 F V)(h:SR P S F f R s s')(hb:Blk S F V){es es1:Array Event}{a:α}(hr:s.runT P V es=(.ok a V', es1))(hn:∀b, V.heap.size≤b→b<V'.heap.size→S b) :
  (∃a',R a a')∧Blk S F V':=by
 induction s generalizing s' s1 V es with
 | pure x=>
  obtain⟨a',rfl,hR⟩:=h
  simp only[Sem.runT,Prod.mk.injEq,Result.ok.injEq]at hr
  obtain⟨⟨rfl,rfl⟩,_⟩:=hr
  exact⟨⟨a',hR⟩,hb⟩
 | load m x c ih=>
  rcases h1 with h1|⟨c1,rfl,_,hs1,hc1⟩
  ·exact(h1.no hr).elim
  ·rcases h with h|⟨c',rfl,hm,hs,hc⟩
   ·exact(h.no hr).elim
   ·obtain⟨v,hv,hr⟩:=runT_load_ok (hV.noView hs1.1) hr
    exact ih v (hc1 v (hV.ok_cell hs1.1 hv)) hV (hc v (hb.cell hs.1 hv)) hb hr hn
 | store m x v c ih=>
  rcases h1 with h1|⟨c1,rfl,_,hs1,hv1,hc1⟩
  ·exact(h1.no hr).elim
  ·rcases h with h|⟨c',rfl,hm,hs,hv,hc⟩
   ·exact(h.no hr).elim
   ·obtain⟨_,old,_,_,hr⟩:=runT_store_ok (hV.noView hs1.1) hr
    exact ih hc1 (hV.setCell hv1) hc (hb.setCell hv) hr (fun b h1 h2=>hn b (by rw[size_setCell]at h1;exact h1) h2)
 | new o c ih=>
  rcases h1 with h1|⟨c1,rfl,ho1,hc1⟩
  ·exact(h1.no hr).elim
  ·rcases h with h|⟨c',rfl,ho,hc⟩
   ·exact(h.no hr).elim
   ·simp only[Sem.runT]at hr
    have hn1:=hV.nxt _ (Nat.le_refl _)
    have k1:=hc1 _ hn1.1 hn1.2
    have hg:=k1.grows (hV.push ho1) hr
    have hg:V.heap.size+1≤V'.heap.size:=by
     have e:({ V with heap:=V.heap.push o }:World).heap.size=V.heap.size+1:=Array.size_push ..
     rwa [e]at hg
    exact ih _ k1 (hV.push ho1) (hc _ (hn _ (Nat.le_refl _) hg) hn1.2) (hb.push ho) hr (fun b h1 h2=>hn b (by have h1:(V.heap.push o).size≤b:=h1;rw[Array.size_push]at h1;omega) h2)
 | shape r c ih=>
  rcases h1 with h1|⟨c1,rfl,_,hc1⟩
  ·exact(h1.no hr).elim
  ·rcases h with h|⟨c',rfl,hs,hc⟩
   ·exact(h.no hr).elim
   ·simp only[Sem.runT]at hr
    exact ih _ (hc1 _ _ (hV.shr r)) hV (hc _ _ (hV.shr r)) hb hr hn
 | getObj r c ih=>
  rcases h1 with h1|⟨c1,rfl,hs1,hc1⟩
  ·exact(h1.no hr).elim
  ·rcases h with h|⟨c',rfl,hs,hc⟩
   ·exact(h.no hr).elim
   ·obtain⟨o,ho,_,hr⟩:=runT_get_ok hr
    obtain⟨o1,ho1,hk1⟩:=hV.blk r hs1 (lt_of_some ho)
    obtain⟨o2,ho2,hk2⟩:=hb r hs (lt_of_some ho)
    rw[ho]at ho1 ho2;cases ho1;cases ho2
    exact ih _ (hc1 _ hk1) hV (hc _ hk2) hb hr hn
 | choose q c ih=>
  rcases h1 with h1|⟨c1,rfl,hc1⟩
  ·exact(h1.no hr).elim
  ·rcases h with h|⟨c',rfl,hc⟩
   ·exact(h.no hr).elim
   ·simp only[Sem.runT]at hr
    split at hr
    ·exact ih _ (hc1 _) hV (hc _) hb hr hn
    ·exact ih (V:={ V with drawn:=V.drawn+1 }) _ (hc1 _) (hV.drew _) (hc _) hb hr hn
 | program c ih=>
  rcases h1 with h1|⟨c1,rfl,hc1⟩
  ·exact(h1.no hr).elim
  ·rcases h with h|⟨c',rfl,hc⟩
   ·exact(h.no hr).elim
   ·simp only[Sem.runT]at hr
    exact ih _ hc1 hV hc hb hr hn
 | mark m c ih=>
  rcases h1 with h1|⟨c1,rfl,_,hc1⟩
  ·exact(h1.no hr).elim
  ·rcases h with h|⟨c',rfl,_,hc⟩
   ·exact(h.no hr).elim
   ·simp only[Sem.runT]at hr
    exact ih hc1 hV hc hb hr hn
 | freeze a n c _=>exact(Dead.no (s:= .freeze a n c) h hr).elim
 | frozen a c _=>exact(Dead.no (s:= .frozen a c) h hr).elim
 | setObj r o c _=>exact(Dead.no (s:= .setObj r o c) h hr).elim
 | sys c k2 _=>exact(Dead.no (s:= .sys c k2) h hr).elim
 | halt x=>simp[Sem.runT]at hr
theorem FOk.mono(h:∀b,S b→S1 b){fr:Frame}(x:FOk P S F fr):FOk P S1 F fr:=⟨x.fn,fun v hv=>VOk.mono h (x.tmps v hv),x.todo,x.defers,x.kind,x.round,x.mode⟩
def Kep1(P:Program)(S:Nat→Prop)(F:Fx)(cb:List Frame)(V1:World)(g1:Goroutine):Prop:=∃(fr1:Frame) (cs1:List Frame),g1=G fr1 (cs1++cb)∧FOk P S F fr1∧(∀c,c∈cs1→FOk P S F c)∧Blk S F V1
theorem keep_control {fr:Frame}{cs cb:List Frame}(h0:FOk P S F fr)(hm:fr.mode = .run){g1:Goroutine}{es:Array Event}
  (hs:stepG P true (G fr (cs++cb)) V = .go g1 V1 es) (hno2:∀ops i l k,fr.todo ≠ .inRegion ops (i::l)::k):∃fr1,g1=G fr1 (cs++cb)∧FOk P S F fr1∧V1.heap=V.heap:=by
 obtain⟨fn,tmps,todo,defers,mode,kind,round⟩:=fr
 have e1:mode = .run:=hm
 have e2:defers=[]:=h0.defers
 have e3:kind = .normal:=h0.kind
 have e4:round=none:=h0.round
 subst e1 e2 e3 e4
 have ht:=h0.todo
 cases todo with
 | nil=>
  simp only[G,stepG,stepG.exec]at hs
  obtain⟨rfl,rfl,rfl⟩:=hs
  exact⟨_,rfl,⟨h0.fn,h0.tmps,h0.todo,rfl,rfl,rfl,Or.inr rfl⟩,rfl⟩
 | cons x k=>
  have hx:=ht x (by simp)
  have hk:∀i,i∈k→IOk P F i:=fun i hi=>ht i (by simp[hi])
  have two:∀ {a b:Item},IOk P F a→IOk P F b→∀i,i∈a::b::k→IOk P F i:=by
   intro a b ha hb i hi
   rcases List.mem_cons.1 hi with rfl|hi
   ·exact ha
   ·rcases List.mem_cons.1 hi with rfl|hi
    ·exact hb
    ·exact hk i hi
  have one:∀ {a:Item},IOk P F a→∀i,i∈a::k→IOk P F i:=by
   intro a ha i hi
   rcases List.mem_cons.1 hi with rfl|hi
   ·exact ha
   ·exact hk i hi
  cases x with
  | code c=>
   cases c with
   | ret=>
    simp only[G,stepG,stepG.exec]at hs
    obtain⟨rfl,rfl,rfl⟩:=hs
    exact⟨_,rfl,⟨h0.fn,h0.tmps,h0.todo,rfl,rfl,rfl,Or.inr rfl⟩,rfl⟩
   | skip=>
    simp only[G,stepG,stepG.exec,GStep.go.injEq]at hs
    obtain⟨rfl,rfl,rfl⟩:=hs
    exact⟨_,rfl,⟨h0.fn,h0.tmps,hk,rfl,rfl,rfl,Or.inl rfl⟩,rfl⟩
   | seq a b=>
    simp only[G,stepG,stepG.exec,GStep.go.injEq]at hs
    obtain⟨rfl,rfl,rfl⟩:=hs
    exact⟨_,rfl,⟨h0.fn,h0.tmps,two (a:= .code a) (b:= .code b) hx.1 hx.2,rfl,rfl,rfl,Or.inl rfl⟩,rfl⟩
   | block id b=>
    simp only[G,stepG,stepG.exec,GStep.go.injEq]at hs
    obtain⟨rfl,rfl,rfl⟩:=hs
    exact⟨_,rfl,⟨h0.fn,h0.tmps,two (a:= .code b) (b:= .inBlock id) hx trivial,rfl,rfl,rfl,Or.inl rfl⟩,rfl⟩
   | loop b=>
    simp only[G,stepG,stepG.exec,GStep.go.injEq]at hs
    obtain⟨rfl,rfl,rfl⟩:=hs
    exact⟨_,rfl,⟨h0.fn,h0.tmps,two (a:= .code b) (b:= .inLoop b) hx hx,rfl,rfl,rfl,Or.inl rfl⟩,rfl⟩
   | region id ops d=>
    cases d with
    | false=>
     simp only[G,stepG,stepG.exec,Bool.not_false,if_true,GStep.go.injEq]at hs
     obtain⟨rfl,rfl,rfl⟩:=hs
     exact⟨_,rfl,⟨h0.fn,h0.tmps,one (a:= .inRegion ops (List.range ops.size)) hx,rfl,rfl,rfl,Or.inl rfl⟩,rfl⟩
    | true=>
     simp[G,stepG,stepG.exec,choose,Sem.run,Question.forced,Question.cut]at hs
     obtain⟨rfl,rfl,rfl⟩:=hs
     exact⟨_,rfl,⟨h0.fn,h0.tmps,one (a:= .inRegion ops _) hx,rfl,rfl,rfl,Or.inl rfl⟩,rfl⟩
   | cond c a b=>
    have hh:TOd F c∧COk P F a∧COk P F b:=hx
    simp only[G,stepG,stepG.exec]at hs
    cases hb:(Frame.eval ⟨fn,tmps,.code (.cond c a b)::k,[],.run,.normal,none⟩ c)with
    | bool t=>
     rw[hb]at hs
     simp only[GStep.go.injEq]at hs
     obtain⟨rfl,rfl,rfl⟩:=hs
     refine⟨_,rfl,⟨h0.fn,h0.tmps,one (a:= .code (if t then a else b)) ?_,rfl,rfl,rfl,Or.inl rfl⟩,rfl⟩
     cases t
     ·exact hh.2.2
     ·exact hh.2.1
    | _=>rw[hb]at hs;cases hs
   | exit id=>
    simp only[G,stepG,stepG.exec]at hs
    cases he:exitTo id k with
    | none=>rw[he]at hs;cases hs
    | some k'=>
     rw[he]at hs
     simp only[Option.elim_some,GStep.go.injEq]at hs
     obtain⟨rfl,rfl,rfl⟩:=hs
     exact⟨_,rfl,⟨h0.fn,h0.tmps,exit_ok id k k' hk he,rfl,rfl,rfl,Or.inl rfl⟩,rfl⟩
   | _=>exact hx.elim
  | inBlock id=>
   simp only[G,stepG,stepG.exec,GStep.go.injEq]at hs
   obtain⟨rfl,rfl,rfl⟩:=hs
   exact⟨_,rfl,⟨h0.fn,h0.tmps,hk,rfl,rfl,rfl,Or.inl rfl⟩,rfl⟩
  | inLoop b=>
   simp only[G,stepG,stepG.exec,GStep.go.injEq]at hs
   obtain⟨rfl,rfl,rfl⟩:=hs
   exact⟨_,rfl,⟨h0.fn,h0.tmps,two (a:= .code b) (b:= .inLoop b) hx hx,rfl,rfl,rfl,Or.inl rfl⟩,rfl⟩
  | inRegion ops l=>
   cases l with
   | nil=>
    simp only[G,stepG,stepG.exec,GStep.go.injEq]at hs
    obtain⟨rfl,rfl,rfl⟩:=hs
    exact⟨_,rfl,⟨h0.fn,h0.tmps,hk,rfl,rfl,rfl,Or.inl rfl⟩,rfl⟩
   | cons i l=>exact absurd rfl (hno2 ops i l k)
  | _=>exact hx.elim
end
section
variable {P:Program}{Q:Nat→Prop}{F:Fx}{B:Nat}{V V1:World}
theorem Blk.of_heap {S:Nat→Prop}(e:V1.heap=V.heap)(h:Blk S F V):Blk S F V1:=by intro b;rw[e];exact h b
structure ClF(F:Fx)(B:Nat)(V:World):Prop where
 nw:∀b,B≤b→¬F.cl b
 wt:∀b,F.cl b→∃c,V.heap[b]?=some (.cells c F.wt (0,c.size))
theorem cl_of(hb:Blk (Sto Q B V.heap.size) F V)(hB:B≤V.heap.size)(hw:ClF F B V):Cl (Sup Q B) F V:=by
 refine⟨fun b hs hl=>?_,fun b hl=>⟨Or.inr (by omega),hw.nw b (by omega)⟩,hw.wt⟩
 obtain⟨o,ho,hk⟩:=hb b (hs.imp id fun h=>⟨h,hl⟩) hl
 exact⟨o,ho,hk.mono fun x hx=>hx.imp id And.left⟩
theorem blk_up {N:Nat}(hb:Blk (Sto Q B V.heap.size) F V)(hN:V.heap.size≤N):∀b,Sto Q B N b→b<V.heap.size→∃o,V.heap[b]?=some o∧OOk (Sto Q B N) F o:=by
 intro b hs hl
 obtain⟨o,ho,hk⟩:=hb b (hs.imp id fun h=>⟨h.1,hl⟩) hl
 exact⟨o,ho,hk.mono fun x hx=>hx.imp id fun h=>⟨h.1,by omega⟩⟩
theorem keep_all(hG:GOk P (Sup Q B) F)(hP:Fns P F)(hB:B≤V.heap.size)(hw:ClF F B V){fr:Frame}{cs cb:List Frame}(h0:FOk P (Sto Q B V.heap.size) F fr)(hc:∀c, c∈cs→FOk P (Sto Q B V.heap.size) F c)(hb:Blk (Sto Q B V.heap.size) F V)(hr:fr.mode = .returning→cs≠[])
  {g1:Goroutine} {es:Array Event} (hs:stepG P true (G fr (cs++cb)) V = .go g1 V1 es) (hnp:∀ch,g1.frame.mode ≠ .panicking ch) :
  (V.heap.size≤V1.heap.size∧ClF F B V1)∧Kep1 P (Sto Q B V1.heap.size) F cb V1 g1:=by
 have hV:Cl (Sup Q B) F V:=cl_of hb hB hw
 have up:∀b,Sto Q B V.heap.size b→Sup Q B b:=fun b h=>h.imp id And.left
 have hi:=step_all (main:=true) (bs:=cb) (f:=id) (W:=V) hG hP (h0.mono up) (fun c h=>(hc c h).mono up) (Sim.refl hV) hr hs hnp (fun j q h1 h2=>by congr 1;omega)
 obtain⟨_,_,_,_,_,_,_,hsim1,hboth,_⟩:=hi
 have hle:V.heap.size≤V1.heap.size:=hboth.le
 refine⟨⟨hle,hw.nw,hsim1.cl.wt⟩,?_⟩
 have hgrow:∀b,Sto Q B V.heap.size b→Sto Q B V1.heap.size b:=fun b h=>h.imp id fun x=>⟨x.1,by omega⟩
 have hnx:∀b,V.heap.size≤b→b<V1.heap.size→Sto Q B V1.heap.size b:=fun b h1 h2=>Or.inr ⟨by omega,h2⟩
 have hbN:Blk (Sto Q B V1.heap.size) F V:=blk_up hb hle
 have h0N:=h0.mono hgrow
 have hcN:∀c,c∈cs→FOk P (Sto Q B V1.heap.size) F c:=fun c h=>(hc c h).mono hgrow
 have hGN:GOk P (Sto Q B V1.heap.size) F:=⟨fun b h=>hG.1 b (h.imp id And.left),hG.2⟩
 obtain⟨fn,tmps,todo,defers,mode,kind,round⟩:=fr
 have e2:defers=[]:=h0.defers
 have e3:kind = .normal:=h0.kind
 have e4:round=none:=h0.round
 subst e2 e3 e4
 rcases h0.mode with e1|e1
 ·have e1:mode = .run:=e1
  subst e1
  by_cases hA:∃ops i l k,todo = .inRegion ops (i::l)::k
  ·obtain⟨ops,i,rest,k,rfl⟩:=hA
   by_cases hw:(Option.map (fun x=>Region.wanted x (yielded ops tmps)) ops[i]?).getD false=true
   ·cases ho:ops[i]? with
    | none=>rw[ho]at hw;cases hw
    | some o=>
     have hw1:Region.wanted o (yielded ops tmps)=true:=by rw[ho]at hw;exact hw
     have hst:stepG P true (G ⟨fn,tmps,.inRegion ops (i::rest)::k,[],.run,.normal,none⟩ (cs++cb)) V=stepG.apply P true ⟨fn,tmps,.inRegion ops (i::rest)::k,[],.run,.normal,none⟩ (cs++cb) none (execOp (Frame.eval ⟨fn,tmps,.inRegion ops (i::rest)::k,[],.run,.normal,none⟩) o) V:=by
      simp[G,stepG,stepG.exec,stepG.oper,Frame.oper?,ho,hw1]
     rw[hst]at hs
     have hop:TOp P F o.op:=h0.todo (.inRegion ops (i::rest)) (by simp) o (Array.mem_of_getElem? ho)
     have hsr:=sr_exec (P:=P) (S:=Sup Q B) (F:=F) (f:=id) hG hP.enter (ev:=Frame.eval ⟨fn,tmps,.inRegion ops (i::rest)::k,[],.run,.normal,none⟩) (ev':=(rnF id ⟨fn,tmps,.inRegion ops (i::rest)::k,[],.run,.normal,none⟩).eval) (fun x hx=>eval_ok (h0.mono up).tmps x hx) (fun v=>rfl) (o:=o) hop
     have hsr2:=sr_exec (P:=P) (S:=Sto Q B V1.heap.size) (F:=F) (f:=id) hGN hP.enter (ev:=Frame.eval ⟨fn,tmps,.inRegion ops (i::rest)::k,[],.run,.normal,none⟩) (ev':=(rnF id ⟨fn,tmps,.inRegion ops (i::rest)::k,[],.run,.normal,none⟩).eval) (fun x hx=>eval_ok h0N.tmps x hx) (fun v=>rfl) (o:=o) hop
     unfold stepG.apply at hs
     cases hr:(execOp (Frame.eval ⟨fn,tmps,.inRegion ops (i::rest)::k,[],.run,.normal,none⟩) o).runT P V #[]with
     | mk r E=>
      rw[hr]at hs
      cases r with
      | halt x V'=>
       have hk:=hsr.halts hV hr
       cases x with
       | panic v=>
        simp[GStep.after]at hs
        obtain⟨rfl,_,_⟩:=hs
        exact absurd rfl (hnp _)
       | stuck m=>simp[GStep.after]at hs
       | unsupported u=>cases u<;>first|(simp[GStep.after]at hs;done)|exact absurd rfl (hk _)
       | _=>exact hk.elim
      | ok n V'=>
       cases n with
       | value v=>
        simp[GStep.after]at hs
        obtain⟨rfl,rfl,rfl⟩:=hs
        obtain⟨⟨a',hR⟩,hB'⟩:=hsr.tight hV hsr2 hbN hr hnx
        exact⟨_,cs,rfl,finish_ok h0N hR.1,hcN,hB'⟩
       | skip=>
        simp[GStep.after]at hs
        obtain⟨rfl,rfl,rfl⟩:=hs
        obtain⟨_,hB'⟩:=hsr.tight hV hsr2 hbN hr hnx
        exact⟨_,cs,rfl,finish_ok h0N (ok_undef _ F),hcN,hB'⟩
       | enter g args=>
        simp[GStep.after]at hs
        obtain⟨rfl,rfl,rfl⟩:=hs
        obtain⟨⟨a',hR⟩,hB'⟩:=hsr.tight hV hsr2 hbN hr hnx
        refine⟨_,⟨fn,tmps,.inRegion ops (i::rest)::k,[],.run,.normal,none⟩::cs,rfl,enter_ok hP hR.1 hR.2.1,fun c hx=>?_,hB'⟩
        rcases List.mem_cons.1 hx with rfl|hx
        ·exact h0N
        ·exact hcN c hx
       | _=>
        exfalso
        obtain⟨n',W',E',e1,h2,h3,h4,h5,h6⟩:=hsr.run (V':=V') (W:=V) (Sim.refl hV) hr (fun j q h1 h2=>by congr 1;omega)
        exact h3.elim
   ·have hw1:(Option.map (fun x=>Region.wanted x (yielded ops tmps)) ops[i]?).getD false=false:=by simpa using hw
    simp[G,stepG,stepG.exec,hw1]at hs
    obtain⟨rfl,rfl,rfl⟩:=hs
    exact⟨_,cs,rfl,finish_ok h0N (ok_undef _ F),hcN,hbN⟩
  ·obtain⟨fr1,rfl,h1,e⟩:=keep_control h0N rfl hs (fun ops i l k e=>hA ⟨ops,i,l,k,e⟩)
   exact⟨fr1,cs,rfl,h1,hcN,hbN.of_heap e⟩
 ·have e1:mode = .returning:=e1
  subst e1
  cases cs with
  | nil=>exact absurd rfl (hr rfl)
  | cons c cs=>
   obtain⟨fv,h1,h2,h3⟩:=h0.fn.1
   have hsr:=sr_results (P:=P) (S:=Sup Q B) (F:=F) (f:=id) fv (h0.mono up).tmps
   have hsr2:=sr_results (P:=P) (S:=Sto Q B V1.heap.size) (F:=F) (f:=id) fv h0N.tmps
   cases hr:(results fv tmps).runT P V #[]with
   | mk r E=>
    cases r with
    | halt x V'=>
     exfalso
     simp only[G,stepG,unwind,h1,hr]at hs
     cases x<;>simp[GStep.after]at hs
    | ok v V'=>
     simp only[G,stepG,unwind,h1,hr]at hs
     simp[GStep.after,doReturn]at hs
     obtain⟨rfl,rfl,rfl⟩:=hs
     obtain⟨⟨a',hR⟩,hB'⟩:=hsr.tight hV hsr2 hbN hr hnx
     exact⟨_,cs,rfl,ret_ok (hcN c (by simp)) hR.1,fun x hx=>hcN x (by simp[hx]),hB'⟩
end
end
section
open Go.Conc (G)
def Lto(P:Program)(cb:List Frame)(Stop:Frame→List Frame→World→Prop):Nat→Frame→List Frame→World→Prop
 | 0,fr,cs,V=>Stop fr cs V
 |n+1,fr,cs,V=>Stop fr cs V∨∃fr1 cs1 V1 es,stepG P true (G fr (cs++cb)) V = .go (G fr1 (cs1++cb)) V1 es∧(∀ch,fr1.mode ≠ .panicking ch)∧Lto P cb Stop n fr1 cs1 V1
def Tot(P:Program)(cb:List Frame)(Stop:Frame→List Frame→World→Prop)(fr:Frame)(cs:List Frame)(V:World):Prop:=∀T d, ∃n,Lto P cb Stop n fr cs (rtp V T d)
structure LOk(P:Program)(Q:Nat→Prop)(F:Fx)(B:Nat)(fr:Frame)(cs:List Frame)(V:World):Prop where
 fr:FOk P (Sto Q B V.heap.size) F fr
 cs:∀c,c∈cs→FOk P (Sto Q B V.heap.size) F c
 blk:Blk (Sto Q B V.heap.size) F V
 le:B≤V.heap.size
 cf:ClF F B V
structure Prg(P:Program)(Q:Nat→Prop)(F:Fx)(B:Nat):Prop where
 glob:GOk P (Sup Q B) F
 fns:Fns P F
abbrev LSt:=Frame×List Frame×World
def Nxt(P:Program)(cb:List Frame)(Stop:Frame→List Frame→World→Prop)(s1 s:LSt):Prop:=
 ¬Stop s.1 s.2.1 s.2.2∧∃T d es,stepG P true (G s.1 (s.2.1++cb)) (rtp s.2.2 T d) = .go (G s1.1 (s1.2.1++cb)) s1.2.2 es∧∀ch,s1.1.mode ≠ .panicking ch
section
variable {P:Program}{Q:Nat→Prop}{F:Fx}{B:Nat}{cb:List Frame}{Stop:Frame→List Frame→World→Prop}{fr fr1:Frame}{cs cs1:List Frame}{V V1:World}
theorem LOk.rtp(h:LOk P Q F B fr cs V)(T:Tape)(d:Nat):LOk P Q F B fr cs (rtp V T d):=⟨h.fr,h.cs,h.blk,h.le,h.cf.nw,h.cf.wt⟩
theorem G_inj {a b:Frame}{l l' r:List Frame}(h:G a (l++r)=G b (l'++r)):a=b∧l=l':=by
 simp only[G,Goroutine.mk.injEq]at h
 exact⟨h.1,List.append_cancel_right h.2.1⟩
theorem ret_not(hP:Prg P Q F B)(h:LOk P Q F B fr cs V){es:Array Event}(hs:stepG P true (G fr (cs++cb)) V = .go (G fr1 (cs1++cb)) V1 es):fr.mode = .returning→cs≠[]:=by
 have _e:=hP
 rintro hm rfl
 obtain⟨fn,tmps,todo,defers,mode,kind,round⟩:=fr
 have e1:mode = .returning:=hm
 have e2:defers=[]:=h.fr.defers
 have e3:kind = .normal:=h.fr.kind
 subst e1 e2 e3
 obtain⟨fv,h1,h2,h3⟩:=h.fr.fn.1
 have h4:=h.fr.fn.2
 cases hr:(results fv tmps).runT P V #[]with
 | mk r E=>
  cases r with
  | halt x V'=>
   simp only[G,stepG,unwind,h1,hr]at hs
   cases x<;>simp[GStep.after]at hs
  | ok v V'=>
   simp only[G,stepG,unwind,h1,hr]at hs
   cases cb with
   | nil=>simp[GStep.after,doReturn,h4]at hs
   | cons c r=>
    simp[GStep.after,doReturn]at hs
    have e:=congrArg List.length hs.1.2
    simp at e
    omega
theorem LOk.next(hP:Prg P Q F B)(h:LOk P Q F B fr cs V){es:Array Event}(hs:stepG P true (G fr (cs++cb)) V = .go (G fr1 (cs1++cb)) V1 es)(hn:∀ch,fr1.mode ≠ .panicking ch):LOk P Q F B fr1 cs1 V1:=by
 obtain⟨hle,fr2,cs2,e,a,b,c⟩:=keep_all hP.glob hP.fns h.le h.cf h.fr h.cs h.blk (ret_not hP h hs) hs hn
 obtain⟨rfl,rfl⟩:=G_inj e
 exact⟨a,b,c,Nat.le_trans h.le hle.1,hle.2⟩
theorem LOk.tap(hP:Prg P Q F B)(h:LOk P Q F B fr cs V){es:Array Event}(hs:stepG P true (G fr (cs++cb)) V = .go (G fr1 (cs1++cb)) V1 es)(hn:∀ch, fr1.mode ≠ .panicking ch){T:Tape}{d:Nat}(hT:Agr V V1 T d) :
  Tap1 P T d V V1 (G fr (cs++cb)) (G fr1 (cs1++cb)) es:=
 tap_all hP.glob hP.fns (h.fr.mono fun _ x=>x.imp id And.left) (cl_of h.blk h.le h.cf) (ret_not hP h hs) hs hn hT
theorem Lto.tail(hP:Prg P Q F B)(hS:∀fr cs V T d,LOk P Q F B fr cs V→(Stop fr cs (Go.Proofs.YtedifobeggabnaaGreat.rtp V T d)↔Stop fr cs V)){n:Nat}{T T':Tape}{d d':Nat}(h:LOk P Q F B fr cs V)(hl:Lto P cb Stop n fr cs (rtp V T d))(hT:∀j q,T (d+j) q=T' (d'+j) q):Lto P cb Stop n fr cs (rtp V T' d'):=by
 induction n generalizing fr cs V d d' with
 | zero=>exact(hS _ _ _ _ _ h).2 ((hS _ _ _ _ _ h).1 hl)
 | succ n ih=>
  rcases hl with hl|⟨fr1,cs1,V1,es,hs,hn,hl⟩
  ·exact Or.inl ((hS _ _ _ _ _ h).2 ((hS _ _ _ _ _ h).1 hl))
  ·have hk:=h.rtp T d
   have ht:=hk.tap hP hs hn (T:=T') (d:=d') (fun i q h1 h2=>by
    have h1:d≤i:=h1
    show T i q=T' (d'+(i-d)) q
    rw[←hT]
    congr 1
    omega)
   have h1:=hk.next hP hs hn
   obtain⟨t1,t2,t3⟩:=ht
   have e1:V1=rtp V1 T V1.drawn:=by
    have e:V1.tape=T:=t2
    rw[←e]
    rfl
   rw[e1]at hl
   refine Or.inr ⟨fr1,cs1,_,es,t1,hn,ih (d:=V1.drawn) h1 hl fun j q=>?_⟩
   have t3:d≤V1.drawn:=t3
   have:=hT (V1.drawn-d+j) q
   rw[show d+(V1.drawn-d+j)=V1.drawn+j by omega]at this
   rw[this]
   congr 1
   show d'+(V1.drawn-d+j)=d'+(V1.drawn-d)+j
   omega
theorem Tot.next(hP:Prg P Q F B)(hS:∀fr cs V T d, LOk P Q F B fr cs V→(Stop fr cs (Go.Proofs.YtedifobeggabnaaGreat.rtp V T d)↔Stop fr cs V))(h:LOk P Q F B fr cs V)(ht:Tot P cb Stop fr cs V)(hno:¬Stop fr cs V)(T:Tape)(d:Nat) :
  ∃fr1 cs1 V1 es,stepG P true (G fr (cs++cb)) (rtp V T d) = .go (G fr1 (cs1++cb)) V1 es∧(∀ch,fr1.mode ≠ .panicking ch)∧LOk P Q F B fr1 cs1 V1∧Tot P cb Stop fr1 cs1 V1:=by
 obtain⟨n,hl⟩:=ht T d
 cases n with
 | zero=>exact absurd ((hS _ _ _ _ _ h).1 hl) hno
 | succ n=>
  rcases hl with hl|⟨fr1,cs1,V1,es,hs,hn,hl⟩
  ·exact absurd ((hS _ _ _ _ _ h).1 hl) hno
  ·have hk:=h.rtp T d
   have h1:=hk.next hP hs hn
   refine⟨fr1,cs1,V1,es,hs,hn,h1,fun T2 d2=>?_⟩
   have t0:=hk.tap hP hs hn (T:=T) (d:=d) (fun i q h1 h2=>by have h1:d≤i:=h1;show T i q=T (d+(i-d)) q;congr 1;omega)
   have t3:d≤V1.drawn:=t0.2.2
   let T3:Tape:=fun j q=>if j<V1.drawn-d then T (d+j) q else T2 (d2+(j-(V1.drawn-d))) q
   have ht3:=hk.tap hP hs hn (T:=T3) (d:=0) (fun i q h1 h2=>by
    have h1:d≤i:=h1
    show T i q=(if 0+(i-d)<V1.drawn-d then T (d+(0+(i-d))) q else _)
    rw[if_pos (by omega)]
    congr 1
    omega)
   obtain⟨m,hm⟩:=ht T3 0
   cases m with
   | zero=>exact absurd ((hS _ _ _ _ _ h).1 hm) hno
   | succ m=>
    rcases hm with hm|⟨fr2,cs2,V2,es2,hs2,hn2,hm⟩
    ·exact absurd ((hS _ _ _ _ _ h).1 hm) hno
    ·have e:=ht3.1
     have e0:Go.Proofs.YtedifobeggabnaaGreat.rtp (Go.Proofs.YtedifobeggabnaaGreat.rtp V T d) T3 0=Go.Proofs.YtedifobeggabnaaGreat.rtp V T3 0:=rfl
     rw[e0,hs2]at e
     simp only[GStep.go.injEq]at e
     obtain⟨e1,e2,_⟩:=e
     obtain⟨rfl,rfl⟩:=G_inj e1
     subst e2
     refine⟨m,Lto.tail hP hS h1 hm fun j q=>?_⟩
     show(if 0+(V1.drawn-d)+j<V1.drawn-d then _ else T2 (d2+(0+(V1.drawn-d)+j-(V1.drawn-d))) q)=_
     rw[if_neg (by omega)]
     congr 1
     omega
theorem endless {α:Type}{r:α→α→Prop}{a:α}(h:¬Acc r a):∃u:Nat→α,u 0=a∧∀n,r (u (n+1)) (u n):=by
 have key:∀x:{ x:α // ¬Acc r x }, ∃y:{ x:α // ¬Acc r x },r y.1 x.1:=by
  rintro⟨x,hx⟩
  apply Classical.byContradiction
  intro hn
  exact hx (Acc.intro x fun y hy=>Classical.byContradiction fun hz=>hn ⟨⟨y,hz⟩,hy⟩)
 let u:Nat→{ x:α // ¬Acc r x }:=fun n=>Nat.rec ⟨a,h⟩ (fun _ x=>Classical.choose (key x)) n
 exact⟨fun n=>(u n).1,rfl,fun n=>Classical.choose_spec (key (u n))⟩
def sumN(m:Nat→Nat):Nat→Nat
 | 0=>0
 |n+1=>sumN m n+m n
theorem sumN_mono(m:Nat→Nat){a b:Nat}(h:a≤b):sumN m a≤sumN m b:=by
 induction b with
 | zero=>cases Nat.le_zero.1 h;exact Nat.le_refl _
 | succ b ih=>
  rcases Nat.lt_or_ge a (b+1)with hl|hl
  ·exact Nat.le_trans (ih (by omega)) (Nat.le_add_right _ _)
  ·have:a=b+1:=by omega
   rw[this]
   exact Nat.le_refl _
theorem Tot.acc(hP:Prg P Q F B)(hS:∀fr cs V T d,LOk P Q F B fr cs V→(Stop fr cs (Go.Proofs.YtedifobeggabnaaGreat.rtp V T d)↔Stop fr cs V))(h:LOk P Q F B fr cs V)(ht:Tot P cb Stop fr cs V):Acc (Nxt P cb Stop) (fr,cs,V):=by
 apply Classical.byContradiction
 intro hx
 obtain⟨u,hu0,hu⟩:=endless hx
 have hok:∀n,LOk P Q F B (u n).1 (u n).2.1 (u n).2.2:=by
  intro n
  induction n with
  | zero=>rw[hu0];exact h
  | succ n ih=>
   obtain⟨_,T,d,es,hs,hn⟩:=hu n
   exact(ih.rtp T d).next hP hs hn
 have hch:∀n, ∃td:Tape×Nat, ∃es,stepG P true (G (u n).1 ((u n).2.1++cb)) (Go.Proofs.YtedifobeggabnaaGreat.rtp (u n).2.2 td.1 td.2) = .go (G (u (n+1)).1 ((u (n+1)).2.1++cb)) (u (n+1)).2.2 es∧∀ch,(u (n+1)).1.mode ≠ .panicking ch:=by
  intro n
  obtain⟨_,T,d,es,hs,hn⟩:=hu n
  exact⟨(T,d),es,hs,hn⟩
 let TD:Nat→Tape×Nat:=fun n=>Classical.choose (hch n)
 have hTD:∀n, ∃es,stepG P true (G (u n).1 ((u n).2.1++cb)) (Go.Proofs.YtedifobeggabnaaGreat.rtp (u n).2.2 (TD n).1 (TD n).2) = .go (G (u (n+1)).1 ((u (n+1)).2.1++cb)) (u (n+1)).2.2 es∧∀ch,(u (n+1)).1.mode ≠ .panicking ch:=fun n=>Classical.choose_spec (hch n)
 let m:Nat→Nat:=fun n=>(u (n+1)).2.2.drawn-(TD n).2
 let TT:Tape:=fun j q=>open Classical in if hj:∃n,sumN m n≤j∧j<sumN m (n+1)then(TD (Classical.choose hj)).1 ((TD (Classical.choose hj)).2+(j-sumN m (Classical.choose hj))) q else 0
 have hTT:∀n i q,i<m n→TT (sumN m n+i) q=(TD n).1 ((TD n).2+i) q:=by
  intro n i q hi
  have hj:∃k,sumN m k≤sumN m n+i∧sumN m n+i<sumN m (k+1):=⟨n,Nat.le_add_right _ _,by show _<sumN m n+m n;omega⟩
  have hc:=Classical.choose_spec hj
  have hk:Classical.choose hj=n:=by
   generalize Classical.choose hj=k at hc
   rcases Nat.lt_trichotomy k n with hl|hl|hl
   ·have:=sumN_mono m (show k+1≤n from hl)
    omega
   ·exact hl
   ·have:=sumN_mono m (show n+1≤k from hl)
    have e:sumN m (n+1)=sumN m n+m n:=rfl
    omega
  refine Eq.trans (dif_pos hj) ?_
  rw[hk,show sumN m n+i-sumN m n=i by omega]
 have hstep:∀n, ∃es,stepG P true (G (u n).1 ((u n).2.1++cb)) (Go.Proofs.YtedifobeggabnaaGreat.rtp (u n).2.2 TT (sumN m n)) = .go (G (u (n+1)).1 ((u (n+1)).2.1++cb)) (Go.Proofs.YtedifobeggabnaaGreat.rtp (u (n+1)).2.2 TT (sumN m (n+1))) es:=by
  intro n
  obtain⟨es,hs,hn⟩:=hTD n
  have:=((hok n).rtp (TD n).1 (TD n).2).tap hP hs hn (T:=TT) (d:=sumN m n) (fun i q h1 h2=>by
   have h1:(TD n).2≤i:=h1
   show(TD n).1 i q=TT (sumN m n+(i-(TD n).2)) q
   rw[hTT n _ q (by show _<(u (n+1)).2.2.drawn-(TD n).2;omega),show(TD n).2+(i-(TD n).2)=i by omega])
  exact⟨es,this.1⟩
 have hnot:∀N n, ¬Lto P cb Stop N (u n).1 (u n).2.1 (Go.Proofs.YtedifobeggabnaaGreat.rtp (u n).2.2 TT (sumN m n)):=by
  intro N
  induction N with
  | zero=>intro n hl;exact(hu n).1 ((hS _ _ _ _ _ (hok n)).1 hl)
  | succ N ih=>
   intro n hl
   rcases hl with hl|⟨fr1,cs1,V1,es,hs,hn,hl⟩
   ·exact(hu n).1 ((hS _ _ _ _ _ (hok n)).1 hl)
   ·obtain⟨es',e⟩:=hstep n
    rw[hs]at e
    simp only[GStep.go.injEq]at e
    obtain⟨e1,e2,_⟩:=e
    obtain⟨rfl,rfl⟩:=G_inj e1
    subst e2
    exact ih (n+1) hl
 obtain⟨N,hN⟩:=ht TT 0
 refine hnot N 0 ?_
 rw[hu0]
 exact hN
end
end
section
open Go.Conc (G solo)
def cDead(P:Program):Frame:={ fn:=P.funcs.size,tmps := #[],todo:=[],defers:=[{ target:= .nil,args := #[]}],mode:= .panicking [],kind:= .normal }
section
variable {P:Program}{Q:Nat→Prop}{F:Fx}{B:Nat}{cb:List Frame}{fr fr1:Frame}{cs cs1:List Frame}{V V1:World}
def Kin(fr:Frame)(cs:List Frame):GStep→Prop
 | .go g1 _ _=>(∃ch,g1=G { fr with mode:= .panicking ch } cs)∨∀ch,g1.frame.mode ≠ .panicking ch
 | .ended .. => True
 | _=>False
theorem kin_control(h0:FOk P (Sto Q B V.heap.size) F fr)(hm:fr.mode = .run)(hno2:∀ops i l k,fr.todo ≠ .inRegion ops (i::l)::k):Kin fr cs (stepG P true (G fr cs) V):=by
 obtain⟨fn,tmps,todo,defers,mode,kind,round⟩:=fr
 have e1:mode = .run:=hm
 have e2:defers=[]:=h0.defers
 have e3:kind = .normal:=h0.kind
 have e4:round=none:=h0.round
 subst e1 e2 e3 e4
 have ht:=h0.todo
 cases todo with
 | nil=>simp[G,stepG,stepG.exec,Kin]
 | cons x k=>
  have hx:=ht x (by simp)
  cases x with
  | code c=>
   cases c with
   |ret|skip|seq a b|block id b|loop b=>simp[G,stepG,stepG.exec,Kin]
   | region id ops d=>
    cases d with
    | false=>simp[G,stepG,stepG.exec,Kin]
    | true=>simp[G,stepG,stepG.exec,choose,Sem.run,Question.forced,Question.cut,Kin]
   | cond c a b=>
    simp only[G,stepG,stepG.exec]
    cases hb:(Frame.eval ⟨fn,tmps,.code (.cond c a b)::k,[],.run,.normal,none⟩ c)<;>simp[Kin]
   | exit id=>
    simp only[G,stepG,stepG.exec]
    cases he:exitTo id k<;>simp[Kin]
   | _=>exact hx.elim
  | inBlock id=>simp[G,stepG,stepG.exec,Kin]
  | inLoop b=>simp[G,stepG,stepG.exec,Kin]
  | inRegion ops l=>
   cases l with
   | nil=>simp[G,stepG,stepG.exec,Kin]
   | cons i l=>exact absurd rfl (hno2 ops i l k)
  | _=>exact hx.elim
theorem kin_all(hP:Prg P Q F B)(h:LOk P Q F B fr cs V):Kin fr (cs++cb) (stepG P true (G fr (cs++cb)) V)∨(fr.mode = .returning∧cs=[]):=by
 have hV:Cl (Sup Q B) F V:=cl_of h.blk h.le h.cf
 have up:∀b,Sto Q B V.heap.size b→Sup Q B b:=fun b h=>h.imp id And.left
 have h0:=h.fr
 obtain⟨fn,tmps,todo,defers,mode,kind,round⟩:=fr
 have e2:defers=[]:=h0.defers
 have e3:kind = .normal:=h0.kind
 have e4:round=none:=h0.round
 subst e2 e3 e4
 rcases h0.mode with e1|e1
 ·have e1:mode = .run:=e1
  subst e1
  refine Or.inl ?_
  by_cases hA:∃ops i l k,todo = .inRegion ops (i::l)::k
  ·obtain⟨ops,i,rest,k,rfl⟩:=hA
   by_cases hw:(Option.map (fun x=>Region.wanted x (yielded ops tmps)) ops[i]?).getD false=true
   ·cases ho:ops[i]? with
    | none=>rw[ho]at hw;cases hw
    | some o=>
     have hw1:Region.wanted o (yielded ops tmps)=true:=by rw[ho]at hw;exact hw
     have hst:stepG P true (G ⟨fn,tmps,.inRegion ops (i::rest)::k,[],.run,.normal,none⟩ (cs++cb)) V=stepG.apply P true ⟨fn,tmps,.inRegion ops (i::rest)::k,[],.run,.normal,none⟩ (cs++cb) none (execOp (Frame.eval ⟨fn,tmps,.inRegion ops (i::rest)::k,[],.run,.normal,none⟩) o) V:=by
      simp[G,stepG,stepG.exec,stepG.oper,Frame.oper?,ho,hw1]
     have hop:TOp P F o.op:=h0.todo (.inRegion ops (i::rest)) (by simp) o (Array.mem_of_getElem? ho)
     have hsr:=sr_exec (P:=P) (S:=Sup Q B) (F:=F) (f:=id) hP.glob hP.fns.enter (ev:=Frame.eval ⟨fn,tmps,.inRegion ops (i::rest)::k,[],.run,.normal,none⟩) (ev':=(rnF id ⟨fn,tmps,.inRegion ops (i::rest)::k,[],.run,.normal,none⟩).eval) (fun x hx=>eval_ok (h0.mono up).tmps x hx) (fun v=>rfl) (o:=o) hop
     rw[hst]
     unfold stepG.apply
     cases hr:(execOp (Frame.eval ⟨fn,tmps,.inRegion ops (i::rest)::k,[],.run,.normal,none⟩) o).runT P V #[]with
     | mk r E=>
      cases r with
      | halt x V'=>
       have hk:=hsr.halts hV hr
       cases x with
       | panic v=>simp[GStep.after,Kin,Frame.raise,G]
       | stuck m=>simp[GStep.after,Kin]
       | unsupported u=>cases u<;>first|(simp[GStep.after,Kin];done)|exact absurd rfl (hk _)
       | _=>exact hk.elim
      | ok n V'=>
       obtain⟨n',W',E',e1,h2,h3,h4,h5,h6⟩:=hsr.run (V':=V') (W:=V) (Sim.refl hV) hr (fun j q h1 h2=>by congr 1;omega)
       cases n with
       | value v=>
        have:=(finish_ok h0 (ok_undef (Sto Q B V.heap.size) F)).mode
        simp only[GStep.after,Kin]
        refine Or.inr fun ch=>?_
        unfold Frame.finish
        simp
       | skip=>
        simp only[GStep.after,Kin]
        refine Or.inr fun ch=>?_
        unfold Frame.finish
        simp
       | enter g args=>simp[GStep.after,Kin,Frame.enter]
       | _=>exact h3.elim
   ·have hw1:(Option.map (fun x=>Region.wanted x (yielded ops tmps)) ops[i]?).getD false=false:=by simpa using hw
    simp[G,stepG,stepG.exec,hw1,Kin,Frame.finish]
  ·exact kin_control h0 rfl (fun ops i l k e=>hA ⟨ops,i,l,k,e⟩)
 ·have e1:mode = .returning:=e1
  subst e1
  cases cs with
  | nil=>exact Or.inr ⟨rfl,rfl⟩
  | cons c cs=>
   refine Or.inl ?_
   obtain⟨fv,h1,h2,h3⟩:=h0.fn.1
   have hc:=h.cs c (by simp)
   simp only[G,stepG,unwind,h1]
   cases hr:(results fv tmps).runT P V #[]with
   | mk r E=>
    cases r with
    | halt x V'=>cases x<;>simp[GStep.after,Kin]
    | ok v V'=>
     have:=(ret_ok hc (ok_undef (Sto Q B V.heap.size) F)).mode
     have hm:(c.finish v).mode=c.mode:=by
      unfold Frame.finish
      split<;>rfl
     simp only[GStep.after,doReturn,List.cons_append,Kin]
     refine Or.inr fun ch=>?_
     rw[hm]
     rcases hc.mode with e|e<;>rw[e]<;>simp
theorem lone_solo(fr:Frame)(cs:List Frame)(w:World):lone fr cs w=solo (G fr cs) w:=rfl
theorem step_lone {fr:Frame}{cs:List Frame}{V:World}{g1:Goroutine}{V1:World}{es:Array Event}(h:stepG P true (G fr cs) V = .go g1 V1 es):step P (lone fr cs V) = .next (solo g1 V1):=by
 rw[lone_solo,step,Go.Conc.stepT_solo rfl,Go.Conc.runT_solo_go h]
theorem step_lone_end {fr:Frame}{cs:List Frame}{V:World}{o:Outcome}{V1:World}{es:Array Event}(h:stepG P true (G fr cs) V = .ended o V1 es):step P (lone fr cs V) = .ended o V1:=by
 refine step_lone_ended ?_
 have:stepG P true { frame:=fr,callers:=cs,status:= .running,dying:=none } V = .ended o V1 es:=h
 rw[this]
 rfl
theorem dead_end {chain:List PanicEntry}{l:List Frame}(w:World):∃o w' es,stepG P true (G { cDead P with mode:= .panicking chain } l) w = .ended o w' es:=by
 simp[G,cDead,stepG,unwind,callDeferred]
theorem runN_ended {m:Machine}{o:Outcome}{w:World}(h:step P m = .ended o w):∀n m',runN P n m = .next m'→n=0:=by
 intro n m' hr
 cases n with
 | zero=>rfl
 | succ n=>simp[runN,h]at hr
theorem panic_not:∀(n:Nat) (l:List Frame) (fr:Frame) (V:World) (ch:List PanicEntry), fr.mode = .panicking ch→fr.defers=[]→(∃fn, P.funcs[fr.fn]?=some fn)→(∀c, c∈l→c.defers=[]∧(∃fn, P.funcs[c.fn]?=some fn))→
  ∀fr' cs' V',runN P n (lone fr (l++[cDead P]) V) = .next (lone fr' cs' V')→fr'.mode ≠ .returning:=by
 intro n
 induction n with
 | zero=>
  intro l fr V ch hm _ _ _ fr' cs' V' hr
  simp only[runN,Stepped.next.injEq]at hr
  have e:fr=fr':=by
   have:=congrArg (fun m=>m.gs) hr
   simp only[lone,Array.mk.injEq,List.cons.injEq,Goroutine.mk.injEq]at this
   exact this.1.1
  rw[←e,hm]
  simp
 | succ n ih=>
  intro l fr V ch hm hd hf hl fr' cs' V' hr
  obtain⟨fv,hfv⟩:=hf
  cases l with
  | nil=>
   have hs:stepG P true (G fr ([]++[cDead P])) V = .go (G ((cDead P).raise ch) []) V #[]:=by
    simp[G,stepG,unwind,hm,hd,Frame.catches,hfv]
   simp only[runN,step_lone hs]at hr
   obtain⟨o,w',es,he⟩:=dead_end (P:=P) (chain:=ch++[]) (l:=[]) V
   have e:(cDead P).raise ch={ cDead P with mode:= .panicking (ch++[])}:=rfl
   rw[e]at hr
   have hn:=runN_ended (P:=P) (step_lone_end he) n _ hr
   subst hn
   simp only[runN,Stepped.next.injEq]at hr
   have e:fr'={ cDead P with mode:= .panicking (ch++[])}:=by
    have:=congrArg (fun m=>m.gs) hr
    simp only[lone,solo,G,Array.mk.injEq,List.cons.injEq,Goroutine.mk.injEq]at this
    exact this.1.1.symm
   rw[e]
   simp
  | cons c l=>
   have hs:stepG P true (G fr (c::l++[cDead P])) V = .go (G (c.raise ch) (l++[cDead P])) V #[]:=by
    simp[G,stepG,unwind,hm,hd,Frame.catches,hfv]
   simp only[runN,step_lone hs]at hr
   have hc:=hl c (by simp)
   have hr1:∃ch',(c.raise ch).mode = .panicking ch':=by
    unfold Frame.raise
    split<;>exact⟨_,rfl⟩
   have hr2:(c.raise ch).defers=c.defers∧(c.raise ch).fn=c.fn:=by
    unfold Frame.raise
    split<;>exact⟨rfl,rfl⟩
   obtain⟨ch',hch⟩:=hr1
   exact ih l (c.raise ch) V ch' hch (hr2.1.trans hc.1) (by rw[hr2.2];exact hc.2) (fun x hx=>hl x (by simp[hx])) fr' cs' V' hr
def Told(P:Program)(Post:Value→World→Prop)(fr:Frame)(cs:List Frame)(V:World):Prop:=cs=[]∧∃v,fr.leaving P V (.returned v)∧Post v V
theorem lto_of {Post:Value→World→Prop}(hP:Prg P Q F B):∀(n:Nat) (fr:Frame) (cs:List Frame) (V:World), LOk P Q F B fr cs V→∀fr' V' v, runN P n (lone fr (cs++[cDead P]) V) = .next (lone fr' [cDead P] V')→fr'.leaving P V' (.returned v)→Post v V' →
  Lto P [cDead P] (Told P Post) n fr cs V:=by
 intro n
 induction n with
 | zero=>
  intro fr cs V _ fr' V' v hr hl hp
  simp only[runN,Stepped.next.injEq,lone,Machine.mk.injEq,Array.mk.injEq,List.cons.injEq,Goroutine.mk.injEq,and_true]at hr
  obtain⟨rfl,rfl,hc⟩:=hr
  have hc:cs=[]:=by
   cases cs with
   | nil=>rfl
   | cons c l=>have:=congrArg List.length hc;simp at this
  exact⟨hc,v,hl,hp⟩
 | succ n ih=>
  intro fr cs V h fr' V' v hr hl hp
  rcases kin_all (cb:=[cDead P]) hP h with hk|⟨hm,rfl⟩
  ·cases hs:stepG P true (G fr (cs++[cDead P])) V with
   | go g1 V1 es=>
    rw[hs]at hk
    rcases hk with⟨ch,rfl⟩|hn
    ·exfalso
     simp only[runN,step_lone hs]at hr
     have hfr:=h.fr
     obtain⟨fv,h1,_,_⟩:=hfr.fn.1
     refine panic_not n cs { fr with mode:= .panicking ch } V1 ch rfl hfr.defers ⟨fv,h1⟩ (fun c hc=>?_) fr' [cDead P] V' hr hl.1
     have:=h.cs c hc
     obtain⟨fc,h2,_,_⟩:=this.fn.1
     exact⟨this.defers,fc,h2⟩
    ·have hret:fr.mode = .returning→cs≠[]:=by
      rintro hm rfl
      obtain⟨fn,tmps,todo,defers,mode,kind,round⟩:=fr
      have e1:mode = .returning:=hm
      have e2:defers=[]:=h.fr.defers
      have e3:kind = .normal:=h.fr.kind
      subst e1 e2 e3
      obtain⟨fv,h1,h2,h3⟩:=h.fr.fn.1
      cases hr:(results fv tmps).runT P V #[]with
      | mk r E=>
       cases r with
       | halt x V'=>
        simp only[G,stepG,unwind,h1,hr]at hs
        cases x<;>simp[GStep.after]at hs
       | ok v V'=>
        simp only[G,stepG,unwind,h1,hr]at hs
        simp[GStep.after,doReturn]at hs
        obtain⟨rfl,_,_⟩:=hs
        exact hn [] (by simp[cDead,Frame.finish])
     obtain⟨hle,fr1,cs1,e,a,b,c⟩:=keep_all hP.glob hP.fns h.le h.cf h.fr h.cs h.blk hret hs hn
     subst e
     simp only[runN,step_lone hs]at hr
     exact Or.inr ⟨fr1,cs1,V1,es,hs,hn,ih fr1 cs1 V1 ⟨a,b,c,Nat.le_trans h.le hle.1,hle.2⟩ fr' V' v hr hl hp⟩
   | ended o w es=>
    exfalso
    have:=step_lone_end hs
    simp[runN,this]at hr
   | _=>rw[hs]at hk;exact hk.elim
  ·exfalso
   obtain⟨fn,tmps,todo,defers,mode,kind,round⟩:=fr
   have e1:mode = .returning:=hm
   have e2:defers=[]:=h.fr.defers
   have e3:kind = .normal:=h.fr.kind
   subst e1 e2 e3
   obtain⟨fv,h1,h2,h3⟩:=h.fr.fn.1
   cases hrr:(results fv tmps).runT P V #[]with
   | mk r E=>
    cases r with
    | halt x V2=>
     have hs:∃o w es,stepG P true (G (⟨fn,tmps,todo,[],.returning,.normal,round⟩:Frame) ([]++[cDead P])) V = .ended o w es:=by
      simp only[G,stepG,unwind,h1,hrr]
      cases x<;>simp[GStep.after]
     obtain⟨o,w,es,hs⟩:=hs
     simp only[runN,step_lone_end hs]at hr
     cases hr
    | ok v2 V2=>
     have hs:∃es,stepG P true (G (⟨fn,tmps,todo,[],.returning,.normal,round⟩:Frame) ([]++[cDead P])) V = .go (G (cDead P) []) V2 es:=by
      simp only[G,stepG,unwind,h1,hrr]
      simp[GStep.after,doReturn,cDead,Frame.finish]
     obtain⟨es,hs⟩:=hs
     simp only[runN,step_lone hs]at hr
     obtain⟨o,w',es',he⟩:=dead_end (P:=P) (chain:=[]) (l:=[]) V2
     have hn:=runN_ended (P:=P) (step_lone_end (fr:=cDead P) he) n _ hr
     subst hn
     simp only[runN,Stepped.next.injEq,lone,solo,G,Machine.mk.injEq,Array.mk.injEq,List.cons.injEq,Goroutine.mk.injEq,and_true]at hr
     have:=hr.2.2
     simp at this
theorem tot_of_calls {Post:Value→World→Prop}(hP:Prg P Q F B){g:FuncId}(hg:F.fn g){args:Array Value}(ha:∀v, v∈args→VOk (Sto Q B V.heap.size) F v)(hb:Blk (Sto Q B V.heap.size) F V)(hB:B≤V.heap.size)(hw:ClF F B V)
  (hc:∀T d,Calls P g args (rtp V T d) fun e w=>∃v,e = .returned v∧Post v w):Tot P [cDead P] (Told P Post) (Frame.enter P g args .normal) [] V∧LOk P Q F B (Frame.enter P g args .normal) [] V:=by
 have hok:LOk P Q F B (Frame.enter P g args .normal) [] V:=⟨enter_ok hP.fns hg ha,fun c h=>by simp at h,hb,hB,hw⟩
 refine⟨fun T d=>?_,hok⟩
 obtain⟨e,w',fr,⟨v,rfl,hp⟩,hco,hfn,hl⟩:=hc T d [cDead P]
 obtain⟨n,hn⟩:=hco
 exact⟨n,lto_of hP n _ [] _ (hok.rtp T d) fr w' v hn hl hp⟩
end
end
section
open Go.Conc (G)
structure SimT(Q:Nat→Prop)(F:Fx)(B:Nat)(f:Nat→Nat)(V W:World):Prop where
 blk:∀b o,Sto Q B V.heap.size b→V.heap[b]?=some o→∃o',W.heap[f b]?=some o'∧Alike F f b o o'
 inj:∀a b,Sto Q B V.heap.size a→Sto Q B V.heap.size b→f a=f b→a=b
 low:∀b,Q b→f b=b∧Frz V b∧b<B
def OwnT(B:Nat)(f:Nat→Nat)(V:World)(b:Nat):Prop:=∃x,B≤x∧x<V.heap.size∧f x=b
def EvT(Q O:Nat→Prop)(N:Nat)(e:Event):Prop:=
 match e.loc with
 | .cell a=>e.sync=false∧a.block<N∧(O a.block∨(Q a.block∧e.write=false))
 | .obj r=>e.sync=false∧e.write=false∧r<N∧(O r∨Q r)
 | .mark m=>Bare m
 | _=>False
section
variable {P:Program}{Q:Nat→Prop}{F:Fx}{B:Nat}{cb bs:List Frame}{Stop:Frame→List Frame→World→Prop}{fr fr1:Frame}{cs cs1:List Frame}{V V1 W W1:World}{f:Nat→Nat}
def fNew(f:Nat→Nat)(V W:World)(b:Nat):Nat:=if b<V.heap.size then f b else W.heap.size+(b-V.heap.size)
theorem fNew_old {b:Nat}(h:b<V.heap.size):fNew f V W b=f b:=if_pos h
theorem sto_lt(hB:B≤V.heap.size)(hl:∀b,Q b→b<B){b:Nat}(h:Sto Q B V.heap.size b):b<V.heap.size:=by
 rcases h with h|h
 ·have:=hl b h;omega
 ·exact h.2
theorem fNew_sto(hB:B≤V.heap.size)(hl:∀b,Q b→b<B){b:Nat}(h:Sto Q B V.heap.size b):f b=fNew f V W b:=(fNew_old (sto_lt hB hl h)).symm
theorem rnF_congr {S:Nat→Prop}{f g:Nat→Nat}(h:∀b,S b→f b=g b){fr:Frame}(hf:FOk P S F fr):rnF f fr=rnF g fr:=by
 unfold rnF
 congr 1
 exact Array.map_congr_left fun v hv=>rnV_congr h (hf.tmps v hv)
theorem Alike.congr {S:Nat→Prop}{f g:Nat→Nat}(h:∀b,S b→f b=g b){o o':Obj}{b:Nat}(ho:OOk S F o)(ha:Alike F f b o o'):Alike F g b o o':=by
 cases o with
 | cells c t z=>
  obtain⟨c',t',z',rfl,hw,ht,hz⟩:=ha
  refine⟨c',t',z',rfl,⟨fun q=>(hw.1 q).trans (Array.map_congr_left fun v hv=>rnV_congr h (ho v hv)),fun q=>⟨(hw.2 q).1,fun i h1 h2=>((hw.2 q).2 i h1 h2).trans ?_⟩⟩,ht,hz⟩
  rw[Array.getElem?_eq_getElem h2]
  show some (rnV f c[i])=some (rnV g c[i])
  rw[rnV_congr h (ho _ (Array.getElem_mem h2))]
 | number a l=>
  have e:o' = .number (rnA f a) l:=ha
  show o' = .number (rnA g a) l
  rw[e]
  unfold rnA
  rw[h _ ho.1]
 | _=>exact ha.elim
theorem SimT.sim(h:SimT Q F B f V W)(hk:LOk P Q F B fr cs V):Sim (Sup Q B) F (fNew f V W) V W:=by
 have hl:∀b,Q b→b<B:=fun b hb=>(h.low b hb).2.2
 have lo:∀b,Sup Q B b→b<V.heap.size→Sto Q B V.heap.size b:=fun b hb hx=>hb.imp id fun y=>⟨y,hx⟩
 have hin:∀b,Sto Q B V.heap.size b→f b<W.heap.size:=by
  intro b hb
  obtain⟨o,ho,_⟩:=hk.blk b hb (sto_lt hk.le hl hb)
  obtain⟨o',ho',_⟩:=h.blk b o hb ho
  exact lt_of_some ho'
 refine⟨cl_of hk.blk hk.le hk.cf,fun b o hb ho=>?_,fun a b ha hb e=>?_,fun b hb=>if_neg (by omega)⟩
 ·have hlt:=lt_of_some ho
  have hs:=lo b hb hlt
  obtain⟨o',ho',hal⟩:=h.blk b o hs ho
  obtain⟨o2,ho2,hk2⟩:=hk.blk b hs hlt
  rw[ho]at ho2;cases ho2
  rw[fNew_old hlt]
  exact⟨o',ho',hal.congr (fun x hx=>fNew_sto hk.le hl hx) hk2⟩
 ·unfold fNew at e
  split at e<;>split at e
  ·rename_i h1 h2
   exact h.inj a b (lo a ha h1) (lo b hb h2) e
  ·rename_i h1 h2
   have:=hin a (lo a ha h1)
   omega
  ·rename_i h1 h2
   have:=hin b (lo b hb h2)
   omega
  ·omega
structure Keeps(B:Nat)(f f1:Nat→Nat)(V V1 W W1:World):Prop where
 tape:W1.tape=W.tape
 os:W1.os=W.os
 out:W1.output=W.output
 size:W.heap.size≤W1.heap.size
 other:∀b,b<W.heap.size→¬OwnT B f V b→W1.heap[b]?=W.heap[b]?
 own:∀b,OwnT B f1 V1 b↔OwnT B f V b∨(W.heap.size≤b∧b<W1.heap.size)
theorem sim_step {main:Bool}(hP:Prg P Q F B)(hS:∀fr cs V T d, LOk P Q F B fr cs V→(Stop fr cs (rtp V T d)↔Stop fr cs V))(hk:LOk P Q F B fr cs V)(ht:Tot P cb Stop fr cs V)(hno:¬Stop fr cs V)(h:SimT Q F B f V W) :
  ∃fr1 cs1 V1 W1 es f1,stepG P main (G (rnF f fr) (cs.map (rnF f)++bs)) W = .go (G (rnF f1 fr1) (cs1.map (rnF f1)++bs)) W1 es∧LOk P Q F B fr1 cs1 V1∧Tot P cb Stop fr1 cs1 V1 ∧
   Nxt P cb Stop (fr1,cs1,V1) (fr,cs,V)∧SimT Q F B f1 V1 W1∧Keeps B f f1 V V1 W W1∧∀e,e∈es→EvT Q (OwnT B f1 V1) W1.heap.size e:=by
 have hl:∀b,Q b→b<B:=fun b hb=>(h.low b hb).2.2
 obtain⟨fr1,cs1,V1,es,hs,hn,hk1,ht1⟩:=ht.next hP hS hk hno W.tape W.drawn
 have hkr:=hk.rtp W.tape W.drawn
 have hsim:=h.sim hk
 have hsr:Sim (Sup Q B) F (fNew f V W) (rtp V W.tape W.drawn) W:=⟨⟨hsim.cl.blk,hsim.cl.nxt,hsim.cl.wt⟩,hsim.blk,hsim.inj,hsim.nxt⟩
 have hup:∀b,Sto Q B V.heap.size b→Sup Q B b:=fun b x=>x.imp id And.left
 obtain⟨fr2,cs2,W1,e,hf2,hc2,hst,hsim1,hb,hev⟩:=step_all (main:=main) (bs:=bs) hP.glob hP.fns (hkr.fr.mono hup) (fun c hc=>(hkr.cs c hc).mono hup) hsr (ret_not hP hkr hs) hs hn (fun j q h1 h2=>by
  have h1:W.drawn≤j:=h1
  show W.tape j q=W.tape (W.drawn+(j-W.drawn)) q
  congr 1
  omega)
 obtain⟨rfl,rfl⟩:=G_inj e
 have ef:rnF f fr=rnF (fNew f V W) fr:=rnF_congr (fun b hb=>fNew_sto hk.le hl hb) hk.fr
 have ec:cs.map (rnF f)=cs.map (rnF (fNew f V W)):=List.map_congr_left fun c hc=>rnF_congr (fun b hb=>fNew_sto hk.le hl hb) (hk.cs c hc)
 have hle:V.heap.size≤V1.heap.size:=hb.le
 have hsz:W1.heap.size=W.heap.size+(V1.heap.size-V.heap.size):=hb.size
 have hnf:∀b,V.heap.size≤b→fNew f V W b=W.heap.size+(b-V.heap.size):=fun b hb=>if_neg (by omega)
 have hfz:∀b,Q b→V1.heap[b]?=V.heap[b]?∧W1.heap[fNew f V W b]?=W.heap[fNew f V W b]?:=fun b hq=>
  hb.froz b (Or.inl hq) (by have:=hl b hq;have:=hk.le;show b<V.heap.size;omega) (h.low b hq).2.1
 refine⟨fr1,cs1,V1,W1,es.map (rnE (fNew f V W)),fNew f V W,by rw[ef,ec];exact hst,hk1,ht1,⟨hno,_,_,es,hs,hn⟩,⟨fun b o hx ho=>?_,fun a b ha hb e=>?_,fun b hq=>?_⟩,⟨hb.tape,hb.os,hb.out,by omega,fun b hx ho=>?_,fun b=>⟨?_,?_⟩⟩,fun e he=>?_⟩
 ·exact hsim1.blk b o (hx.imp id And.left) ho
 ·exact hsim1.inj a b (ha.imp id And.left) (hb.imp id And.left) e
 ·have hq3:=h.low b hq
  have hlt:b<V.heap.size:=by have:=hk.le;omega
  refine⟨(fNew_old hlt).trans hq3.1,?_,hq3.2.2⟩
  obtain⟨c,t,e⟩:=hq3.2.1
  exact⟨c,t,(hfz b hq).1.trans e⟩
 ·by_cases hq:Q b
  ·have hlt:b<V.heap.size:=by have:=hl b hq;have:=hk.le;omega
   have:=(hfz b hq).2
   rwa [fNew_old hlt,(h.low b hq).1]at this
  ·refine hb.other b hx fun x hs hlx e=>?_
   have hlx:x<V.heap.size:=hlx
   rw[fNew_old hlx]at e
   rcases hs with hs|hs
   ·rw[(h.low x hs).1]at e
    exact hq (e▸hs)
   ·exact ho ⟨x,hs,hlx,e⟩
 ·rintro⟨x,h1,h2,h3⟩
  by_cases hx:x<V.heap.size
  ·rw[fNew_old hx]at h3
   exact Or.inl ⟨x,h1,hx,h3⟩
  ·rw[hnf x (by omega)]at h3
   exact Or.inr (by omega)
 ·rintro(⟨x,h1,h2,h3⟩|⟨h1,h2⟩)
  ·exact⟨x,h1,by omega,(fNew_old h2).trans h3⟩
  ·refine⟨V.heap.size+(b-W.heap.size),by have:=hk.le;omega,by omega,?_⟩
   rw[hnf _ (by omega)]
   omega
 ·obtain⟨e0,he0,rfl⟩:=Array.mem_map.1 he
  have hv:=hev e0 he0
  obtain⟨loc,wr,sy⟩:=e0
  have own:∀b,Sup Q B b→b<V1.heap.size→OwnT B (fNew f V W) V1 (fNew f V W b)∨(Q b∧fNew f V W b=b):=by
   intro b hs hlb
   rcases hs with hs|hs
   ·have hlt:b<V.heap.size:=by have:=hl b hs;have:=hk.le;omega
    exact Or.inr ⟨hs,(fNew_old hlt).trans (h.low b hs).1⟩
   ·exact Or.inl ⟨b,hs,hlb,rfl⟩
  have inW:∀b,Sup Q B b→b<V1.heap.size→fNew f V W b<W1.heap.size:=by
   intro b hs hlb
   by_cases hx:b<V.heap.size
   ·obtain⟨o,ho,_⟩:=hk.blk b (hs.imp id fun y=>⟨y,hx⟩) hx
    obtain⟨o',ho',_⟩:=h.blk b o (hs.imp id fun y=>⟨y,hx⟩) ho
    have:=lt_of_some ho'
    rw[fNew_old hx]
    omega
   ·rw[hnf b (by omega)]
    omega
  cases loc with
  | cell a=>
   obtain⟨h1,h2,h3,h4⟩:=hv
   refine⟨h3,inW _ h1 h2,?_⟩
   rcases own _ h1 h2 with h5|⟨h5,h6⟩
   ·exact Or.inl h5
   ·refine Or.inr ⟨?_,?_⟩
    ·show Q (fNew f V W a.block)
     rw[h6]
     exact h5
    ·cases wr with
     | false=>rfl
     | true=>exact absurd (h.low _ h5).2.1 (h4 rfl)
  | obj r=>
   obtain⟨h1,h2,h3,h4⟩:=hv
   refine⟨h4,h3,inW _ h1 h2,?_⟩
   rcases own _ h1 h2 with h5|⟨h5,h6⟩
   ·exact Or.inl h5
   ·exact Or.inr (by show Q (fNew f V W r);rw[h6];exact h5)
  | mark m=>exact hv
  | _=>exact hv.elim
theorem SimT.rely(h:SimT Q F B f V W)(hs:∀b,OwnT B f V b∨Q b→W1.heap[b]?=W.heap[b]?):SimT Q F B f V W1:=by
 refine⟨fun b o hb ho=>?_,h.inj,h.low⟩
 obtain⟨o',ho',hal⟩:=h.blk b o hb ho
 refine⟨o',?_,hal⟩
 rw[hs,ho']
 rcases hb with hb|hb
 ·exact Or.inr (by rw[(h.low b hb).1];exact hb)
 ·exact Or.inl ⟨b,hb.1,hb.2,rfl⟩
end
end
end Go.Proofs.YtedifobeggabnaaGreat
