/- Texts of ours, one behind the other: ZL0 ZL1 ZD6 ZD7. -/
import Derived.Test.YtedifobeggabnaaGreatCbZC30
namespace Go.Proofs.YtedifobeggabnaaGreat
section
open Go.Conc
def wpN(P:Program):Nat→Code→(Act→World→Prop)→Act→World→Prop
 |n+1,.seq x y,R,a,w=>x.wp P (fun e a w=>e = .normal∧wpN P n y R a w) a w
 | _,_,R,a,w=>R a w
def tlN:Nat→Code→Code
 |n+1,.seq _ y=>tlN n y
 | _,c=>c
def trN:Nat→Code→Code
 |n+1,.seq x y=> .seq x (trN n y)
 | _,_=> .exit 0
theorem tr_end {n:Nat}{c:Code}(h:trN n c = .exit 0):tlN n c=c:=by
 cases n with
 | zero=>cases c<;>rfl
 | succ n=>cases c<;>first|rfl|cases h
theorem tr_seq {n:Nat}{c:Code}(h:trN n c ≠ .exit 0):∃m x y,n=m+1∧c = .seq x y∧trN n c = .seq x (trN m y):=by
 cases n with
 | zero=>exact absurd (by cases c<;>rfl) h
 | succ n=>cases c<;>first|exact absurd rfl h|exact⟨n,_,_,rfl,rfl,rfl⟩
def SegT(f:FuncId)(R:Act→World→Prop)(fr:Frame)(cs:List Frame)(V:World):Prop:=cs=[]∧fr.mode = .run∧fr.todo=[.code (.exit 0)]∧fr.fn=f∧R ⟨fr.tmps,fr.defers⟩ V
def hdK(k:List Item)(fr:Frame):List Frame→Frame
 |[]=>{ fr with todo:=fr.todo++k }
 |_::_=>fr
structure VW(Q:Nat→Prop)(F:Fx)(B:Nat)(W0 V W:World):Prop where
 sim:Sim (Sup Q B) F id V W
 frz:∀b,F.cl b→Q b∧b<V.heap.size∧Frz V b∧W.heap[b]?=W0.heap[b]?
 old:∀b,b<B→¬Q b→W.heap[b]?=W0.heap[b]?
 le:B≤W.heap.size
section
variable {P:Program}{Q O0:Nat→Prop}{F:Fx}{B:Nat}{b:Frame}{R:Act→World→Prop}{V W W0:World}{Stop:(Nat→Prop)→Goroutine→World→Prop}{bs:List Frame}{f:FuncId}
theorem wpN_steps(cs:List Frame):∀(n:Nat) (c:Code) (a:Act) (w:World),wpN P n c R a w→∃a' w',R a' w'∧Steps P (lone (b.at a [.code (trN n c)]) cs w) (lone (b.at a' [.code (.exit 0)]) cs w'):=by
 intro n
 induction n with
 | zero=>intro c a w h;cases c<;>exact⟨a,w,h,⟨0,rfl⟩⟩
 | succ n ih=>
  intro c a w h
  cases c with
  | seq x y=>
   obtain⟨e,a1,w1,⟨rfl,h1⟩,h2⟩:=h b [.code (trN n y)] cs
   obtain⟨a',w',hr,h3⟩:=ih y a1 w1 h1
   exact⟨a',w',hr,Steps.trans (Steps.one step_seq) (Steps.trans h2 h3)⟩
  | _=>exact⟨a,w,h,⟨0,rfl⟩⟩
theorem tot_segN {n:Nat}{c:Code}{a:Act}(hP:Prg P Q F B)(h:LOk P Q F B (b.at a [.code (trN n c)]) [] V)(hw:∀T d,wpN P n c R a (rtp V T d)):Tot P [cDead P] (SegT b.fn R) (b.at a [.code (trN n c)]) [] V:=by
 intro T d
 obtain⟨a',w',hR,m,hm⟩:=wpN_steps (b:=b) [cDead P] n c a _ (hw T d)
 exact⟨m,lto_end hP m _ [] _ (h.rtp T d) (b.at a' [.code (.exit 0)]) w' hm (fun ch=>by simp[Frame.at]) ⟨rfl,rfl,rfl,rfl,hR⟩⟩
theorem FOk.strip {S:Nat→Prop}{fr:Frame}{t:List Item}(h:FOk P S F { fr with todo:=fr.todo++t }):FOk P S F fr:=⟨h.fn,h.tmps,fun i hi=>h.todo i (List.mem_append_left _ hi),h.defers,h.kind,h.round,h.mode⟩
theorem FineO.strip {fr:Frame}{t:List Item}(h:FineO P W { fr with todo:=fr.todo++t }):FineO P W fr:=fun ops i rest k0 o ht ho hw r E hr=>by
 refine h ops i rest (k0++t) o (by show fr.todo++t=_;rw[ht];rfl) ho hw r E ?_
 rw[←hr]
 congr 2
theorem rnF_id {S:Nat→Prop}{fr:Frame}(h:FOk P S F fr):rnF id fr=fr:=by
 obtain⟨fn,tmps,todo,defers,mode,kind,round⟩:=fr
 unfold rnF
 congr 1
 exact(Array.map_congr_left fun v hv=>rnV_id (h.tmps v hv)).trans (Array.map_id' _)
theorem addK_cons(k:List Item)(fr:Frame)(cs:List Frame):addK k (fr::cs)=hdK k fr cs::addK k cs:=by cases cs<;>rfl
theorem hdK_finish {k:List Item}{c:Frame}{cs:List Frame}(h:c.todo≠[])(v:Value):(hdK k c cs).finish v=hdK k (c.finish v) cs:=by
 cases cs with
 | nil=>exact finish_more h v k
 | cons d cs=>rfl
theorem repl_step {m:Nat}{c:Code}{fr fr1':Frame}{cs cs1':List Frame}{W1:World}{es:Array Event}(hP:Fns P F){S:Nat→Prop}(h0:FOk P S F (hdK [.code (trN m c)] fr cs))(hX:(hdK [.code (trN m c)] fr cs).mode = .run→FineO P W (hdK [.code (trN m c)] fr cs))
  (hr:(hdK [.code (trN m c)] fr cs).mode = .returning→cs≠[]) (hb:Busy (fr::cs)) (hs:stepG P true (G (hdK [.code (trN m c)] fr cs) (addK [.code (trN m c)] cs++[cDead P])) W = .go (G fr1' (cs1'++[cDead P])) W1 es) (hnp:∀ch,fr1'.mode ≠ .panicking ch) :
  ∃fr1 cs1 m1 c1,tlN m1 c1=tlN m c∧fr1'=hdK [.code (trN m1 c1)] fr1 cs1∧cs1'=addK [.code (trN m1 c1)] cs1∧Busy (fr1::cs1)∧stepG P true (G (hdK [.code c] fr cs) (addK [.code c] cs++bs)) W = .go (G (hdK [.code c1] fr1 cs1) (addK [.code c1] cs1++bs)) W1 es:=by
 rcases h0.mode with hm|hm
 ·cases cs with
  | nil=>
   have h1:FOk P S F fr:=FOk.strip h0
   have hX1:FineO P W fr:=FineO.strip (hX hm)
   have hm1:fr.mode = .run:=hm
   by_cases hne:fr.todo=[]
   ·by_cases he:trN m c = .exit 0
    ·exfalso
     obtain⟨fn,tmps,todo,defers,mode,kind,round⟩:=fr
     have e1:mode = .run:=hm
     have e2:defers=[]:=h1.defers
     have e3:kind = .normal:=h1.kind
     have e4:round=none:=h1.round
     have e5:todo=[]:=hne
     subst e1 e2 e3 e4 e5
     simp[hdK,he,G,stepG,stepG.exec,exitTo]at hs
    ·obtain⟨k,x,y,rfl,rfl,he2⟩:=tr_seq he
     obtain⟨fn,tmps,todo,defers,mode,kind,round⟩:=fr
     have e1:mode = .run:=hm
     have e2:defers=[]:=h1.defers
     have e3:kind = .normal:=h1.kind
     have e4:round=none:=h1.round
     have e5:todo=[]:=hne
     subst e1 e2 e3 e4 e5
     simp only[hdK,he2,List.nil_append,G,stepG,stepG.exec]at hs
     injection hs with hg hv he
     injection hg with hf hc
     subst hf hv he
     have hc:cs1'=[]:=(List.append_cancel_right (as:=[]) hc).symm
     subst hc
     exact⟨⟨fn,tmps,[.code x],[],.run,.normal,none⟩,[],k,y,rfl,rfl,rfl,trivial,by simp[hdK,addK,G,stepG,stepG.exec]⟩
   ·rcases und_run (shut_code _) h1 hX1 hm1 hne hs hnp with⟨f1,e,hk⟩|⟨fe,e,hne2,hk⟩
    ·have e1:fr1'={ f1 with todo:=f1.todo++[.code (trN m c)]}:=congrArg Goroutine.frame e
     have e2:cs1'=[]:=List.append_cancel_right (congrArg Goroutine.callers e)
     subst e1 e2
     exact⟨f1,[],m,c,rfl,rfl,rfl,trivial,hk [.code c] bs⟩
    ·have e1:fr1'=fe:=congrArg Goroutine.frame e
     have e2:cs1'++[cDead P]=[{ fr with todo:=fr.todo++[.code (trN m c)]}]++[cDead P]:=congrArg Goroutine.callers e
     have e2:=List.append_cancel_right e2
     subst e1 e2
     exact⟨fr1',[fr],m,c,rfl,rfl,rfl,⟨hne2,trivial⟩,hk [.code c] bs⟩
  | cons d cs=>
   have h1:FOk P S F fr:=h0
   have hm1:fr.mode = .run:=hm
   by_cases hne:fr.todo=[]
   ·obtain⟨fn,tmps,todo,defers,mode,kind,round⟩:=fr
    have e1:mode = .run:=hm
    have e2:defers=[]:=h1.defers
    have e3:kind = .normal:=h1.kind
    have e4:round=none:=h1.round
    have e5:todo=[]:=hne
    subst e1 e2 e3 e4 e5
    simp only[hdK,G,stepG,stepG.exec]at hs
    injection hs with hg hv he
    injection hg with hf hc
    subst hf hv he
    have hc:=(List.append_cancel_right hc).symm
    subst hc
    exact⟨⟨fn,tmps,[],[],.returning,.normal,none⟩,d::cs,m,c,rfl,rfl,rfl,hb,by simp[hdK,G,stepG,stepG.exec]⟩
   ·rcases und_run shut_nil h1 (hX hm) hm1 hne (by rw[List.append_nil];exact hs) hnp with⟨f1,e,hk⟩|⟨fe,e,hne2,hk⟩
    ·rw[List.append_nil]at e
     have e1:fr1'=f1:=congrArg Goroutine.frame e
     have e2:=List.append_cancel_right (congrArg Goroutine.callers e)
     subst e1 e2
     refine⟨fr1',d::cs,m,c,rfl,rfl,rfl,hb,?_⟩
     have:=hk [] (addK [.code c] (d::cs)++bs)
     simpa [hdK,addK]using this
    ·rw[List.append_nil]at e
     have e1:fr1'=fe:=congrArg Goroutine.frame e
     have e2:cs1'++[cDead P]=(fr::addK [.code (trN m c)] (d::cs))++[cDead P]:=congrArg Goroutine.callers e
     have e2:=List.append_cancel_right e2
     subst e1 e2
     refine⟨fr1',fr::d::cs,m,c,rfl,rfl,rfl,⟨hne2,hb⟩,?_⟩
     have:=hk [] (addK [.code c] (d::cs)++bs)
     simpa [hdK,addK]using this
 ·cases cs with
  | nil=>exact absurd rfl (hr hm)
  | cons d cs=>
   rw[addK_cons]at hs
   obtain⟨v,e,hk⟩:=und_ret hP (fr:=fr) h0 hm hs
   have hd:d.todo≠[]:=hb.1
   have e1:fr1'=(hdK [.code (trN m c)] d cs).finish v:=congrArg Goroutine.frame e
   have e2:=List.append_cancel_right (congrArg Goroutine.callers e)
   subst e1 e2
   refine⟨d.finish v,cs,m,c,rfl,hdK_finish hd v,rfl,?_,?_⟩
   ·cases cs with
    | nil=>trivial
    | cons g cs=>exact hb.2
   ·rw[addK_cons]
    have:=hk (hdK [.code c] d cs) (addK [.code c] cs++bs)
    rw[hdK_finish hd]at this
    exact this
theorem evS_evOW {V1 W1:World}(hQ:∀b,Q b→O0 b)(hz:V1.heap.size=W1.heap.size){e:Event}(h:EvS (Sup Q B) V V1 e):EvO (OwnB O0 B W1) W1.heap.size e:=by
 have h1:=evS_evO (B:=B) hQ h
 rw[hz]at h1
 have e1:OwnB O0 B V1=OwnB O0 B W1:=by unfold OwnB;rw[hz]
 rwa [e1]at h1
theorem VW.size(h:VW Q F B W0 V W):V.heap.size=W.heap.size:=by
 have:=h.sim.nxt V.heap.size (Nat.le_refl _)
 have:V.heap.size=W.heap.size+(V.heap.size-V.heap.size):=this
 omega
theorem sto1_of {V1 W1:World}{es:Array Event}{d:Nat}(hQ:∀b,Q b→O0 b)(hz:V1.heap.size=W1.heap.size)(hboth:Both (Sup Q B) id (rtp V W.tape d) V1 (W.at d) W1)(hev:∀e,e∈es→EvS (Sup Q B) (rtp V W.tape d) V1 e):Sto1 (OwnB O0 B W) (OwnB O0 B W1) (W.at d) W1 es:=by
 have hws:W.heap.size≤W1.heap.size:=by have:=hboth.size;have e:(W.at d).heap.size=W.heap.size:=rfl;omega
 refine⟨hboth.tape,hboth.os,hboth.out,hws,fun b hb ho=>hboth.other b hb fun x hs hl e=>ho ?_,fun b hb=>hb.imp id fun c=>⟨c.1,Nat.lt_of_lt_of_le c.2 hws⟩,fun b hb=>?_,fun e he=>evS_evOW hQ hz (hev e he)⟩
 ·have e:x=b:=e
  subst e
  exact hs.imp (hQ x) fun c=>⟨c,hb⟩
 ·rcases hb with c|⟨c1,c2⟩
  ·exact Or.inl (Or.inl c)
  ·by_cases c3:b<W.heap.size
   ·exact Or.inl (Or.inr ⟨c1,c3⟩)
   ·exact Or.inr ⟨Nat.le_of_not_lt c3,c2⟩
theorem VW.next {V1 W1:World}{d:Nat}(hVW:VW Q F B W0 V W)(hsim1:Sim (Sup Q B) F id V1 W1)(hboth:Both (Sup Q B) id (rtp V W.tape d) V1 (W.at d) W1):VW Q F B W0 V1 W1:=
 ⟨hsim1,fun b hb=>by
  obtain⟨y1,y2,⟨cc,tt,y3⟩,y4⟩:=hVW.frz b hb
  have y5:=hboth.froz b (Or.inl y1) y2 ⟨cc,tt,y3⟩
  exact⟨y1,Nat.lt_of_lt_of_le y2 hboth.le,⟨cc,tt,y5.1.trans y3⟩,y5.2.trans y4⟩,fun b hb hq=>(hboth.other b (Nat.lt_of_lt_of_le hb hVW.le) fun x hs hl e=>by
   have e:x=b:=e
   subst e
   rcases hs with hs|hs
   ·exact hq hs
   ·omega).trans (hVW.old b hb hq),Nat.le_trans hVW.le (by have:=hboth.size;have e:(W.at d).heap.size=W.heap.size:=rfl;omega)⟩
theorem VW.rtp(h:VW Q F B W0 V W)(d:Nat):Sim (Sup Q B) F id (Go.Proofs.YtedifobeggabnaaGreat.rtp V W.tape d) (W.at d):=⟨⟨h.sim.cl.blk,h.sim.cl.nxt,h.sim.cl.wt⟩,h.sim.blk,h.sim.inj,h.sim.nxt⟩
theorem tot_wkN {tl:Code}(hP:Prg P Q F B)(hQ:∀b, Q b→O0 b)(hR:∀a V T d, R a V→R a (rtp V T d))
  (hcont:∀fr V W,LOk P Q F B fr [] V→VW Q F B W0 V W→fr.mode = .run→fr.todo=[]→fr.fn=f→R ⟨fr.tmps,fr.defers⟩ V→Wk P Stop (OwnB O0 B W) (G { fr with todo:=[.code tl]} bs) W) :
  ∀fr cs m c V W,tlN m c=tl→LOk P Q F B (hdK [.code (trN m c)] fr cs) (addK [.code (trN m c)] cs) V→VW Q F B W0 V W→Tot P [cDead P] (SegT f R) (hdK [.code (trN m c)] fr cs) (addK [.code (trN m c)] cs) V→Busy (fr::cs)→Wk P Stop (OwnB O0 B W) (G (hdK [.code c] fr cs) (addK [.code c] cs++bs)) W:=by
 have hRi:∀a V T d,R a (rtp V T d)↔R a V:=fun a V T d=>⟨fun x=>by have:=hR a _ V.tape V.drawn x;exact this,hR a V T d⟩
 have hS:∀fr cs V T d,LOk P Q F B fr cs V→(SegT f R fr cs (rtp V T d)↔SegT f R fr cs V):=fun fr cs V T d _=>by
  unfold SegT
  rw[hRi]
 intro fr cs m c V W htl h hVW ht hb
 have hacc:=Tot.acc hP hS h ht
 generalize hs:((hdK [.code (trN m c)] fr cs,addK [.code (trN m c)] cs,V):LSt)=s at hacc
 induction hacc generalizing fr cs m c V W with
 | _ s _ ih=>
  subst hs
  by_cases hst:SegT f R (hdK [.code (trN m c)] fr cs) (addK [.code (trN m c)] cs) V
  ·obtain⟨e1,e2,e3,e4,e5⟩:=hst
   cases cs with
   | cons d cs=>rw[addK_cons]at e1;cases e1
   | nil=>
    have e3:fr.todo++[.code (trN m c)]=[.code (.exit 0)]:=e3
    have e6:fr.todo=[]:=by
     cases ht:fr.todo with
     | nil=>rfl
     | cons x l=>rw[ht]at e3;have:=congrArg List.length e3;simp at this
    rw[e6]at e3
    have e7:trN m c = .exit 0:=by simpa using e3
    have e8:=tr_end e7
    rw[htl]at e8
    subst e8
    have hL:LOk P Q F B fr [] V:=⟨FOk.strip h.fr,fun c hc=>by simp at hc,h.blk,h.le,h.cf⟩
    have:=hcont fr V W hL hVW e2 e6 e4 e5
    have e9:hdK [.code tl] fr []={ fr with todo:=[.code tl]}:=by simp[hdK,e6]
    rw[e9]
    exact this
  ·refine Wk.mk rfl fun d=>?_
   obtain⟨fr1',cs1',V1,es,hgo,hnp,h1,ht1⟩:=ht.next hP hS h hst W.tape d
   have hr:=h.rtp W.tape d
   have up:∀b,Sto Q B (rtp V W.tape d).heap.size b→Sup Q B b:=fun b h=>h.imp id And.left
   have hret:(hdK [.code (trN m c)] fr cs).mode = .returning→addK [.code (trN m c)] cs≠[]:=ret_not hP hr hgo
   have hret2:(hdK [.code (trN m c)] fr cs).mode = .returning→cs≠[]:=fun q e=>hret q (by rw[e];rfl)
   have hsm:=hVW.sim
   have hsim:Sim (Sup Q B) F id (rtp V W.tape d) (W.at d):=⟨⟨hsm.cl.blk,hsm.cl.nxt,hsm.cl.wt⟩,hsm.blk,hsm.inj,hsm.nxt⟩
   have htape:∀j q,(rtp V W.tape d).drawn≤j→j<V1.drawn→(rtp V W.tape d).tape j q=(W.at d).tape ((W.at d).drawn+(j-(rtp V W.tape d).drawn)) q:=fun j q h1 _=>by
    have h1:d≤j:=h1
    show W.tape j q=W.tape (d+(j-d)) q
    congr 1
    omega
   have hi:=step_all (main:=true) (bs:=[cDead P]) (f:=id) (W:=W.at d) hP.glob hP.fns (hr.fr.mono up) (fun c hc=>(hr.cs c hc).mono up) hsim hret hgo hnp htape
   obtain⟨fr2,cs2,W1,e,hf2,hc2,hst1,hsim1,hboth,hev⟩:=hi
   obtain⟨rfl,rfl⟩:=G_inj e
   have em:∀l:List Frame,(∀x,x∈l→FOk P (Sup Q B) F x)→l.map (rnF id)=l:=fun l hl=>(List.map_congr_left fun x hx=>rnF_id (hl x hx)).trans (by simp)
   have ee:es.map (rnE id)=es:=(Array.map_congr_left fun x _=>rnE_id x).trans (by simp)
   rw[rnF_id (hr.fr.mono up),em _ (fun c hc=>(hr.cs c hc).mono up),rnF_id hf2,em _ hc2,ee]at hst1
   obtain⟨fr1,cs1,m1,c1,q1,rfl,rfl,q4,q5⟩:=repl_step (bs:=bs) hP.fns (hr.fr.mono up) (fun hm=>fine_sim hP.glob hP.fns (hr.fr.mono up) hm hsim hgo hnp htape) hret2 hb hst1 hnp
   have hVW1:=hVW.next hsim1 hboth
   exact⟨_,W1,es,OwnB O0 B W1,q5,sto1_of hQ hVW1.size hboth hev,ih (_,_,V1) ⟨hst,W.tape,d,es,hgo,hnp⟩ fr1 cs1 m1 c1 V1 W1 (q1.trans htl) h1 hVW1 ht1 q4 rfl⟩
theorem wpn_wk {n:Nat}{c:Code}{a:Act}(hP:Prg P Q F W.heap.size)(hQ:∀b, Q b→O0 b)(hV:VW Q F W.heap.size W0 V W)(h:LOk P Q F W.heap.size (b.at a []) [] V)(hc:COk P F (trN n c))(hw:∀T d, wpN P n c R a (rtp V T d))(hR:∀a V T d, R a V→R a (rtp V T d))
  (hcont:∀a' V1 W1,R a' V1→LOk P Q F W.heap.size (b.at a' []) [] V1→VW Q F W.heap.size W0 V1 W1→Wk P Stop (OwnB O0 W.heap.size W1) (G (b.at a' [.code (tlN n c)]) bs) W1):Wk P Stop O0 (G (b.at a [.code c]) bs) W:=by
 have h1:LOk P Q F W.heap.size (b.at a [.code (trN n c)]) [] V:=⟨⟨h.fr.fn,h.fr.tmps,fun i hi=>by
  have hi:i∈[Item.code (trN n c)]:=hi
  simp at hi
  subst hi
  exact hc,h.fr.defers,h.fr.kind,h.fr.round,h.fr.mode⟩,fun c hc=>by simp at hc,h.blk,h.le,h.cf⟩
 have ht:=tot_segN hP h1 hw
 have hbk:b.kind = .normal:=h.fr.kind
 have:=tot_wkN (O0:=O0) (bs:=bs) (W0:=W0) (f:=b.fn) (R:=R) (tl:=tlN n c) (Stop:=Stop) hP hQ hR (fun fr V1 W1 h2 hv hm hn hf hRr=>by
  have e:fr=b.at ⟨fr.tmps,fr.defers⟩ []:=by
   obtain⟨fn,tmps,todo,defers,mode,kind,round⟩:=fr
   have e1:mode = .run:=hm
   have e2:todo=[]:=hn
   have e3:kind = .normal:=h2.fr.kind
   have e4:round=none:=h2.fr.round
   have e5:fn=b.fn:=hf
   subst e1 e2 e3 e4 e5
   simp[Frame.at,hbk]
  have h3:=h2
  rw[e]at h3
  have e4:({ fr with todo:=[.code (tlN n c)]}:Frame)=b.at ⟨fr.tmps,fr.defers⟩ [.code (tlN n c)]:=by rw[e];rfl
  rw[e4]
  exact hcont _ V1 W1 hRr h3 hv) (b.at a []) [] n c V W rfl h1 hV ht trivial
 have e:OwnB O0 W.heap.size W=O0:=OwnB.self O0 W
 rw[e]at this
 exact this
end
end
section
open Go.Conc
section
variable {P:Program}{Q O0:Nat→Prop}{F:Fx}{B:Nat}{b:Frame}{R:Act→World→Prop}{V W W0:World}{Stop:(Nat→Prop)→Goroutine→World→Prop}{bs:List Frame}{StopL:Frame→List Frame→World→Prop}
theorem GL_nil(fr:Frame)(cs:List Frame):GL (addK [] (fr::cs)++bs)=G fr (cs++bs):=by
 have:∀l:List Frame,addK [] l=l:=by
  intro l
  induction l with
  | nil=>rfl
  | cons x l ih=>cases l with
   | nil=>simp[addK]
   | cons y l=>rw[addK,ih]
 rw[this];rfl
theorem tot_wkV(hP:Prg P Q F B)(hQ:∀b, Q b→O0 b)(hS:∀fr cs V T d, LOk P Q F B fr cs V→(StopL fr cs (rtp V T d)↔StopL fr cs V))
  (hcont:∀fr cs V W,LOk P Q F B fr cs V→VW Q F B W0 V W→StopL fr cs V→Wk P Stop (OwnB O0 B W) (G fr (cs++bs)) W) :
  ∀fr cs V W,LOk P Q F B fr cs V→VW Q F B W0 V W→Tot P [cDead P] StopL fr cs V→Busy (fr::cs)→Wk P Stop (OwnB O0 B W) (G fr (cs++bs)) W:=by
 intro fr cs V W h hVW ht hb
 have hacc:=Tot.acc hP hS h ht
 generalize hs:((fr,cs,V):LSt)=s at hacc
 induction hacc generalizing fr cs V W with
 | _ s _ ih=>
  subst hs
  by_cases hst:StopL fr cs V
  ·exact hcont fr cs V W h hVW hst
  ·refine Wk.mk rfl fun d=>?_
   obtain⟨fr1,cs1,V1,es,hgo,hnp,h1,ht1⟩:=ht.next hP hS h hst W.tape d
   have hr:=h.rtp W.tape d
   have up:∀b,Sto Q B (rtp V W.tape d).heap.size b→Sup Q B b:=fun b h=>h.imp id And.left
   have hret:fr.mode = .returning→cs≠[]:=ret_not hP hr hgo
   have hsm:=hVW.sim
   have hsim:Sim (Sup Q B) F id (rtp V W.tape d) (W.at d):=⟨⟨hsm.cl.blk,hsm.cl.nxt,hsm.cl.wt⟩,hsm.blk,hsm.inj,hsm.nxt⟩
   have htape:∀j q,(rtp V W.tape d).drawn≤j→j<V1.drawn→(rtp V W.tape d).tape j q=(W.at d).tape ((W.at d).drawn+(j-(rtp V W.tape d).drawn)) q:=fun j q h1 _=>by
    have h1:d≤j:=h1
    show W.tape j q=W.tape (d+(j-d)) q
    congr 1
    omega
   have hi:=step_all (main:=true) (bs:=[cDead P]) (f:=id) (W:=W.at d) hP.glob hP.fns (hr.fr.mono up) (fun c hc=>(hr.cs c hc).mono up) hsim hret hgo hnp htape
   obtain⟨fr2,cs2,W1,e,hf2,hc2,hst1,hsim1,hboth,hev⟩:=hi
   obtain⟨rfl,rfl⟩:=G_inj e
   have em:∀l:List Frame,(∀x,x∈l→FOk P (Sup Q B) F x)→l.map (rnF id)=l:=fun l hl=>(List.map_congr_left fun x hx=>rnF_id (hl x hx)).trans (by simp)
   have ee:es.map (rnE id)=es:=(Array.map_congr_left fun x _=>rnE_id x).trans (by simp)
   rw[rnF_id (hr.fr.mono up),em _ (fun c hc=>(hr.cs c hc).mono up),rnF_id hf2,em _ hc2,ee]at hst1
   obtain⟨q5,q4⟩:=und_all (bs:=bs) (k:=[]) hP.fns (hr.fr.mono up) (fun hm=>fine_sim hP.glob hP.fns (hr.fr.mono up) hm hsim hgo hnp htape) hret hb (fun _=>Or.inr rfl) hst1 hnp
   rw[GL_nil,GL_nil]at q5
   have hVW1:=hVW.next hsim1 hboth
   exact⟨_,W1,es,OwnB O0 B W1,q5,sto1_of hQ hVW1.size hboth hev,ih (_,_,V1) ⟨hst,W.tape,d,es,hgo,hnp⟩ fr1 cs1 V1 W1 h1 hVW1 ht1 q4 rfl⟩
theorem call_wkV {Post:Value→World→Prop}(hP:Prg P Q F W.heap.size)(hQ:∀b, Q b→O0 b)(hV:VW Q F W.heap.size W0 V W)(hB:Blk (Sto Q W.heap.size V.heap.size) F V)(hC:ClF F W.heap.size V){f:FuncId}(hf:F.fn f){args:Array Value}(ha:∀v, v∈args→VOk (Sto Q W.heap.size V.heap.size) F v)
  (hc:∀T d,Calls P f args (Go.Proofs.YtedifobeggabnaaGreat.rtp V T d) fun e u=>∃v,e = .returned v∧Post v u) (hPost:∀v V T d,Post v V→Post v (Go.Proofs.YtedifobeggabnaaGreat.rtp V T d)) {c:Frame}
  (hcont:∀v V1 W1,Post v V1→VW Q F W.heap.size W0 V1 W1→VOk (Sto Q W.heap.size V1.heap.size) F v→Blk (Sto Q W.heap.size V1.heap.size) F V1→Wk P Stop (OwnB O0 W.heap.size W1) (G (c.finish v) bs) W1) :
  Wk P Stop O0 (G (Frame.enter P f args .normal) (c::bs)) W:=by
 obtain⟨ht,hk⟩:=tot_of_calls hP hf ha hB (by rw[hV.size];exact Nat.le_refl _) hC hc
 have:=tot_wkV (O0:=O0) (bs:=c::bs) (W0:=W0) (Stop:=Stop) hP hQ (fun fr cs V T d h=>told_rtp hPost fr cs V T d h) (fun fr cs V1 W1 h1 hv hT=>by
  obtain⟨rfl,v0,hl0,hp0⟩:=hT
  refine Wk.mk rfl fun d=>?_
  obtain⟨_,v,hl,hp⟩:=(told_rtp hPost fr [] V1 W1.tape d h1).2 ⟨rfl,v0,hl0,hp0⟩
  have hr:=h1.rtp W1.tape d
  have up:∀b,Sto Q W.heap.size V1.heap.size b→Sup Q W.heap.size b:=fun b x=>x.imp id And.left
  have hsim:=hv.rtp d
  obtain⟨hm,hd,hkd,fn,hfn,hrs⟩:=hl
  have hsr:=sr_results (P:=P) (S:=Sup Q W.heap.size) (F:=F) (f:=id) fn (hr.fr.mono up).tmps
  have hsr2:=sr_results (P:=P) (S:=Sto Q W.heap.size V1.heap.size) (F:=F) (f:=id) fn h1.fr.tmps
  have hfi:=rnF_id (hr.fr.mono up)
  have htm:fr.tmps.map (rnV id)=fr.tmps:=congrArg Frame.tmps hfi
  rw[htm]at hsr
  cases hrr:(results fn fr.tmps).runT P (Go.Proofs.YtedifobeggabnaaGreat.rtp V1 W1.tape d) #[]with
  | mk r E=>
   have e:=Sem.runT_fst P (results fn fr.tmps) (Go.Proofs.YtedifobeggabnaaGreat.rtp V1 W1.tape d) #[]
   rw[hrr,hrs]at e
   have e:r = .ok v (Go.Proofs.YtedifobeggabnaaGreat.rtp V1 W1.tape d):=e
   subst e
   have hv0:VOk (Sto Q W.heap.size V1.heap.size) F v:=by
    obtain⟨⟨a',ha⟩,_⟩:=SR.tight hsr hsim.cl hsr2 hr.blk hrr (fun b h1 h2=>absurd h2 (by omega))
    exact ha.1
   obtain⟨v',W2,E',e1,h5,h6,h7,h8,h9⟩:=hsr.run hsim hrr (fun j q h1 h2=>absurd h2 (by omega))
   have e1:E=E':=by simpa using e1
   subst e1
   obtain⟨_,rfl⟩:=h6
   rw[rnV_id hv0]at h5
   have hv1:=hv.next h7 h8
   have hgo:stepG P true (G fr (c::bs)) (W1.at d) = .go (G (c.finish v) bs) W2 (seen P fr.fn E):=by
    obtain⟨fn',tmps,todo,defers,mode,kind,round⟩:=fr
    have e1:mode = .returning:=hm
    have e2:defers=[]:=hd
    have e3:kind = .normal:=hkd
    subst e1 e2 e3
    simp only[G,stepG,unwind,hfn]
    have h5':=h5 #[]
    have ee:E.map (rnE id)=E:=(Array.map_congr_left fun x _=>rnE_id x).trans (by simp)
    rw[ee]at h5'
    rw[h5']
    simp[GStep.after,doReturn]
   have hv2:VW Q F W.heap.size W0 (Go.Proofs.YtedifobeggabnaaGreat.rtp V1 W1.tape d) W2:=hv1
   exact⟨_,W2,_,OwnB O0 W.heap.size W2,hgo,sto1_of hQ hv2.size h8 (fun e he=>h9 e (seen_sub P fr.fn E e he)),hcont v (Go.Proofs.YtedifobeggabnaaGreat.rtp V1 W1.tape d) W2 hp hv2 hv0 hr.blk⟩) (Frame.enter P f args .normal) [] V W hk hV ht trivial
 have e:OwnB O0 W.heap.size W=O0:=OwnB.self O0 W
 rw[e]at this
 exact this
theorem fin_wkV {c:Code}{a:Act}(hP:Prg P Q F W.heap.size)(hQ:∀b, Q b→O0 b)(hV:VW Q F W.heap.size W0 V W)(h:LOk P Q F W.heap.size (b.at a [.code c]) [] V)
  (hw:∀T d,c.wp P (fun e a w=>(e = .normal∨e = .ret)∧R a w) a (rtp V T d)) (hR:∀a V T d,R a V→R a (rtp V T d))
  (hcont:∀a' V1 W1 todo,R a' V1→VW Q F W.heap.size W0 V1 W1→Wk P Stop (OwnB O0 W.heap.size W1) (G { b.at a' todo with mode:= .returning } bs) W1) :
  Wk P Stop O0 (G (b.at a [.code c]) bs) W:=by
 have ht:=tot_fin hP h hw
 have hRi:∀a V T d,R a (rtp V T d)↔R a V:=fun a V T d=>⟨fun x=>by have:=hR a _ V.tape V.drawn x;exact this,hR a V T d⟩
 have hS:∀fr cs V1 T d,LOk P Q F W.heap.size fr cs V1→(SegR b.fn R fr cs (rtp V1 T d)↔SegR b.fn R fr cs V1):=fun fr cs V1 T d _=>by
  unfold SegR
  rw[hRi]
 have hbk:b.kind = .normal:=h.fr.kind
 have:=tot_wkV (O0:=O0) (bs:=bs) (W0:=W0) (Stop:=Stop) hP hQ hS (fun fr cs V1 W1 h1 hv hT=>by
  obtain⟨rfl,hm,hf,hRr⟩:=hT
  have e:fr={ b.at ⟨fr.tmps,fr.defers⟩ fr.todo with mode:= .returning }:=by
   obtain⟨fn,tmps,todo,defers,mode,kind,round⟩:=fr
   have e1:mode = .returning:=hm
   have e3:kind = .normal:=h1.fr.kind
   have e4:round=none:=h1.fr.round
   have e5:fn=b.fn:=hf
   subst e1 e3 e4 e5
   simp[Frame.at,hbk]
  have h2:=hcont ⟨fr.tmps,fr.defers⟩ V1 W1 fr.todo hRr hv
  rw[←e]at h2
  exact h2) _ _ V W h hV ht trivial
 have e:OwnB O0 W.heap.size W=O0:=OwnB.self O0 W
 rw[e]at this
 exact this
end
def fxK(l:Nat→Prop)(wt:TypeId)(K:Nat→Option (Nat×Nat)):Fx:=⟨l,fun b=>((K b).map (·.1)).getD 0,fun b=>(K b).isSome=true,wt⟩
def clpC(lo hi:Nat)(c:Array Value):Array Value:=Array.ofFn (n:=hi) fun i=>if i.1<lo then .int .i64 0 else c.getD i.1 undef
theorem clpC_size(lo hi:Nat)(c:Array Value):(clpC lo hi c).size=hi:=by simp[clpC]
def clpO(lo hi:Nat)(wt:TypeId):Obj→Obj
 | .cells c _ _=> .cells (clpC lo hi c) wt (0,hi)
 | o=>o
def clpW(wt:TypeId)(K:Nat→Option (Nat×Nat))(w:World):World:={ w with heap:=w.heap.mapIdx fun b o=>match K b with
 |some (lo,hi)=>clpO lo hi wt o
 | none=>o }
section
variable {l:Nat→Prop}{wt:TypeId}{W:World}{Q:Nat→Prop}{K:Nat→Option (Nat×Nat)}
theorem clpW_size:(clpW wt K W).heap.size=W.heap.size:=by simp[clpW]
theorem clpW_other {b:Nat}(e:K b=none):(clpW wt K W).heap[b]?=W.heap[b]?:=by
 simp only[clpW,Array.getElem?_mapIdx,e]
 cases W.heap[b]?<;>rfl
theorem clpW_self {b lo hi:Nat}{c:Array Value}{t:TypeId}{z:Nat×Nat}(k:K b=some (lo,hi))(e:W.heap[b]?=some (.cells c t z)):(clpW wt K W).heap[b]?=some (.cells (clpC lo hi c) wt (0,hi)):=by
 simp only[clpW,Array.getElem?_mapIdx,e,k]
 rfl
theorem clpW_cell {b lo hi i:Nat}{v:Value}(k:K b=some (lo,hi))(h1:lo≤i)(h2:i<hi)(e:W.cell? ⟨b,i,none⟩=some v):(clpW wt K W).cell? ⟨b,i,none⟩=some v:=by
 obtain⟨c,t,z,e1,_,e2⟩:=load_cell e
 have e2:c[i]?=some v:=e2
 simp only[World.cell?,clpW_self k e1]
 have h3:¬i<lo:=by omega
 simp[clpC,h2,h3,e2]
theorem clp_ok(hK:∀b lo hi, K b=some (lo, hi)→∃c t z, W.heap[b]?=some (.cells c t z)∧hi≤c.size∧∀i, lo≤i→i<hi→VOk (fun b=>(K b).isSome=true∨Q b) (fxK l wt K) (c.getD i undef))
  (hQ:∀b,Q b→K b=none∧∃o,W.heap[b]?=some o∧OOk (fun b=>(K b).isSome=true∨Q b) (fxK l wt K) o) :
  VW (fun b=>(K b).isSome=true∨Q b) (fxK l wt K) W.heap.size W (clpW wt K W) W∧Blk (Sto (fun b=>(K b).isSome=true∨Q b) W.heap.size (clpW wt K W).heap.size) (fxK l wt K) (clpW wt K W)∧ClF (fxK l wt K) W.heap.size (clpW wt K W):=by
 have hsz:(clpW wt K W).heap.size=W.heap.size:=clpW_size
 have hlt:∀b,(K b).isSome=true→b<W.heap.size:=fun b hb=>by
  obtain⟨⟨lo,hi⟩,e⟩:=Option.isSome_iff_exists.1 hb
  obtain⟨c,t,z,h1,_⟩:=hK b lo hi e
  exact lt_of_some h1
 have up:∀b,((K b).isSome=true∨Q b)→Sto (fun b=>(K b).isSome=true∨Q b) W.heap.size (clpW wt K W).heap.size b:=fun b hb=>Or.inl hb
 have hC:ClF (fxK l wt K) W.heap.size (clpW wt K W):=⟨fun b hb e=>by have:=hlt b e;omega,fun b e=>by
  obtain⟨⟨lo,hi⟩,k⟩:=Option.isSome_iff_exists.1 e
  obtain⟨c,t,z,h1,_⟩:=hK b lo hi k
  exact⟨clpC lo hi c,by rw[clpW_self k h1,clpC_size];rfl⟩⟩
 have hB:Blk (Sto (fun b=>(K b).isSome=true∨Q b) W.heap.size (clpW wt K W).heap.size) (fxK l wt K) (clpW wt K W):=fun b hb hl=>by
  rcases hb with(hb|hb)|hb
  ·obtain⟨⟨lo,hi⟩,k⟩:=Option.isSome_iff_exists.1 hb
   obtain⟨c,t,z,h1,h2,h3⟩:=hK b lo hi k
   refine⟨_,clpW_self k h1,fun v hv=>?_⟩
   unfold clpC at hv
   obtain⟨i,rfl⟩:=Array.mem_ofFn.1 hv
   split
   ·simp[VOk]
   ·exact VOk.mono up (h3 _ (by omega) i.2)
  ·obtain⟨k,o,ho,hk⟩:=hQ b hb
   exact⟨o,(clpW_other k).trans ho,hk.mono up⟩
  ·rw[hsz]at hb;omega
 refine⟨⟨⟨cl_of hB (by rw[hsz];exact Nat.le_refl _) hC,fun b o hb ho=>?_,fun _ _ _ _ e=>e,fun b hb=>by show b=_;omega⟩,fun b e=>?_,fun _ _ _=>rfl,Nat.le_refl _⟩,hB,hC⟩
 ·rcases hb with(hb|hb)|hb
  ·obtain⟨⟨lo,hi⟩,k⟩:=Option.isSome_iff_exists.1 hb
   obtain⟨c,t,z,h1,h2,h3⟩:=hK b lo hi k
   rw[clpW_self k h1]at ho
   cases ho
   refine⟨_,h1,c,t,z,rfl,⟨fun q=>absurd hb q,fun _=>⟨by rw[clpC_size];exact h2,fun i g1 g2=>?_⟩⟩,fun q=>absurd hb q,Or.inl hb⟩
   have g1:lo≤i:=by
    have e:(fxK l wt K).lo b=lo:=by simp[fxK,k]
    rw[e]at g1
    exact g1
   have g2:i<hi:=by rw[clpC_size]at g2;exact g2
   have g3:i<c.size:=by omega
   have g4:¬i<lo:=by omega
   have e1:c.getD i undef=c[i]:=by simp[g3]
   unfold clpC
   rw[Array.getElem?_ofFn,dif_pos g2,Array.getElem?_eq_getElem g3]
   show some c[i]=some (rnV id (if i<lo then _ else c.getD i undef))
   rw[if_neg g4,rnV_id (h3 i g1 g2),e1]
  ·obtain⟨k,o',ho',hk⟩:=hQ b hb
   rw[clpW_other k]at ho
   rw[ho]at ho';cases ho'
   refine⟨o,ho,?_⟩
   have:=alike_rn (f:=id) hk b
   rwa [rnO_id hk]at this
  ·have:=lt_of_some ho;omega
 ·obtain⟨⟨lo,hi⟩,k⟩:=Option.isSome_iff_exists.1 e
  obtain⟨c,t,z,h1,_⟩:=hK b lo hi k
  exact⟨Or.inl e,by rw[hsz];exact hlt b e,⟨clpC lo hi c,wt,by rw[clpW_self k h1,clpC_size]⟩,rfl⟩
end
end
section
open Go.Conc
open Go.ConcN (sumTo upd sumTo_upd upd_ne upd_same)
section
variable {P:Program}{O1:Nat→Prop}{Post:Value→World→Prop}{Shun:Nat→Prop}
def EInv(P:Program)(O1:Nat→Prop)(Post:Value→World→Prop)(Shun:Nat→Prop)(μ:Nat)(m:Machine)(t:Trace):Prop:=
 ∃(gs:Array Goroutine) (a:Goroutine) (w:World) (sl:Option (Nat×Nat)) (q:Nat→Nat),m=crowd gs w sl∧gs[0]?=some a∧Leavers P t gs q∧PastX Shun w.heap.size t∧(∀d,AtEndX P O1 Post O1 a (w.at d))∧μ=sumTo gs.size q
theorem end_step(hO:∀b, O1 b→¬Shun b)(μ:Nat)(m:Machine)(t:Trace)(h:EInv P O1 Post Shun μ m t) :
  (∃o w ops,stepT P m=(.ended o w,ops)∧Good P Post m o w (t++ops))∨(∃m' ops μ',stepT P m=(.next m',ops)∧μ'<μ∧EInv P O1 Post Shun μ' m' (t++ops)):=by
 obtain⟨gs,a,w,sl,q,rfl,h0,hL,hP,hE,rfl⟩:=h
 have hrun:a.status = .running:=(hE w.drawn).1
 obtain⟨i,g,d,sl',hi,hg,hst⟩:=crowd_pick (P:=P) (w:=w) (sl:=sl) (leavers_awake hL h0 hrun) ⟨0,a,h0,hrun⟩
 rcases Nat.eq_zero_or_pos i with rfl|hpos
 ·obtain rfl:g=a:=by rw[h0]at hi;exact(Option.some.inj hi).symm
  obtain⟨_,v,es,hend,hes,hpost⟩:=hE d
  have hrunT:=runT_many_ended (P:=P) (sl:=sl') (i:=0) hi (show stepG P (0 == 0) g (w.at d)=_ from hend)
  have hP':=hP.own (w':=w.at d) (Nat.le_refl _) hO (fn:=g.frame.fn) (pos:=g.frame.place) hes
  refine .inl ⟨_,_,_,hst.trans hrunT,v,rfl,hpost,hP'.clean,hP'.over,⟨fun x hx=>?_,rfl⟩,fun j x hx hj=>?_⟩
  ·obtain⟨j,hj⟩:=List.mem_iff_getElem?.1 hx
   rw[List.getElem?_drop]at hj
   exact⟨_,(hL.old (1+j) x (by omega) (by simpa [crowd]using hj)).leaves⟩
  ·have hq:=hL.old j x (by omega) hx
   refine⟨q j,?_⟩
   have e:(t++MemOp.ofEvents 0 g.frame.fn g.frame.place es).deaf j (t++MemOp.ofEvents 0 g.frame.fn g.frame.place es).size=Deaf t j:=
    Deaf_other t (g:=j) (g':=0) (by omega) _ (fun op hop=>by obtain⟨e,_,rfl⟩:=Go.Conc.mem_ofEvents hop;rfl)
   rw[e]
   exact hq.hears _
 ·have hq:=hL.old i g hpos hi
  have hi0:(i == 0)=false:=by simp;omega
  have hlt:i<gs.size:=(Array.getElem?_eq_some_iff.1 hi).1
  cases hqi:q i with
  | zero=>rw[hqi]at hq;rw[hq.1]at hg;cases hg
  | succ k=>
   rw[hqi]at hq
   rcases hq with⟨hf,_⟩|⟨_,g',es,hm,hstp,hq'⟩
   ·rw[hf]at hg;cases hg
   have hrunT:=runT_crowd_go (P:=P) (sl:=sl') (i:=i) hi (by rw[hi0];exact hstp (w.at d))
   have hsz:((gs.map (woken P g g' (w.at d))).setIfInBounds i g').size=gs.size:=by simp
   have hsum:sumTo gs.size (upd q i k)+(k+1)=sumTo gs.size q+k:=by
    have:=sumTo_upd q k id hlt
    simpa [hqi]using this
   refine .inr ⟨_,_,sumTo gs.size (upd q i k),hst.trans hrunT,by omega,_,a,w.at d,sl',upd q i k,rfl,?_,⟨fun j x hj hx=>?_,fun j hj=>by
    rw[Deaf_other t (g:=j) (g':=i) (by simp at hj;omega) _ (fun op hop=>by obtain⟨e,_,rfl⟩:=Go.Conc.mem_ofEvents hop;rfl)]
    exact hL.above j (by simpa using hj)⟩,hP.appMute (by omega) hm,fun d'=>hE d',by rw[hsz]⟩
   ·have hne:i≠0:=by omega
    rw[Array.getElem?_setIfInBounds_ne hne,Array.getElem?_map,h0]
    simp[woken_run hrun]
   ·by_cases hji:i=j
    ·subst hji
     rw[Array.getElem?_setIfInBounds_self_of_lt (by simpa using hlt)]at hx
     obtain rfl:=Option.some.inj hx
     rw[upd_same,Deaf_own]
     exact hq'
    ·rw[Array.getElem?_setIfInBounds_ne hji,Array.getElem?_map]at hx
     obtain⟨y,hy,rfl⟩:=Option.map_eq_some_iff.1 hx
     have hqj:=hL.old j y hj hy
     rw[woken_quitsD hqj,upd_ne q k (Ne.symm hji),Deaf_other t (g:=j) (g':=i) hji _ (fun op hop=>by obtain⟨e,_,rfl⟩:=Go.Conc.mem_ofEvents hop;rfl)]
     exact hqj
def RunsX(P:Program)(Post:Value→World→Prop)(m:Machine)(t:Trace):Prop:=∃N last o w' t',runNT P (N+1) m t=(.ended o w',t')∧runN P N m = .next last∧step P last = .ended o w'∧Good P Post last o w' t'
theorem RunsX.after {m m1:Machine}{t t1:Trace}{N:Nat}(h:runNT P N m t=(.next m1,t1))(k:RunsX P Post m1 t1):RunsX P Post m t:=by
 obtain⟨M,last,o,w',t',h1,h2,h3,h4⟩:=k
 refine⟨N+M,last,o,w',t',?_,?_,h3,h4⟩
 ·rw[Nat.add_assoc,runNT_add,h];exact h1
 ·rw[runN_add, ←runNT_fst P N m t,h];exact h2
theorem end_run(hO:∀b, O1 b→¬Shun b){gs:Array Goroutine}{a:Goroutine}{w:World}{sl:Option (Nat×Nat)}{t:Trace}{q:Nat→Nat}(h0:gs[0]?=some a)(hL:Leavers P t gs q)(hP:PastX Shun w.heap.size t)(hE:∀d, AtEndX P O1 Post O1 a (w.at d)) :
  RunsX P Post (crowd gs w sl) t:=
 run_of_inv Nat.lt_wfRel.wf (EInv P O1 Post Shun) (Good P Post) (end_step hO) _ _ _ ⟨gs,a,w,sl,q,rfl,h0,hL,hP,hE,rfl⟩
def Beside0(P:Program)(Post:Value→World→Prop)(Shun O:Nat→Prop)(S0:World→Trace→Prop)(g:Goroutine)(w:World):Prop:=
 ∀(gs:Array Goroutine) (sl:Option (Nat×Nat)) (t:Trace) (q:Nat→Nat),gs[0]?=some g→Leavers P t gs q→PastX Shun w.heap.size t→(∀b,O b→b<w.heap.size∧¬Shun b)→(∀b,Shun b→b<w.heap.size)→S0 w t→RunsX P Post (crowd gs w sl) t
theorem beside_walk {Stop:(Nat→Prop)→Goroutine→World→Prop}{O:Nat→Prop}{g:Goroutine}{w:World}{S0:World→Trace→Prop}{S1:(Nat→Prop)→World→Trace→Prop}(h:Wk P Stop O g w)
  (hS:∀O' w' t t',S0 w t→Far0 O O' w w' t t'→S1 O' w' t') (hk:∀O' g' w',(∀d,Stop O' g' (w'.at d))→Beside0 P Post Shun O' (S1 O') g' w'):Beside0 P Post Shun O S0 g w:=by
 intro gs sl t q h0 hL hP hO hSh hS0
 obtain⟨N,gs',g',w',sl',t',q',O',r1,r2,r3,r4,r5,r6,r7⟩:=wk_run h gs sl t q h0 hL hP hO hSh
 refine RunsX.after r1 (hk O' g' w' r4 gs' sl' t' q' r3 r5 r6 (fun b hb=>?_) (fun b hb=>Nat.lt_of_lt_of_le (hSh b hb) r7.size) (hS _ _ _ _ hS0 r7))
 rcases r7.new b hb with c|c
 ·exact⟨Nat.lt_of_lt_of_le (hO b c).1 r7.size,(hO b c).2⟩
 ·exact⟨c.2,fun hc=>by have:=hSh b hc;omega⟩
end
end
section
open Go.Conc
open Go.ConcR (KK WgAt stA smA rd wr mk Payload DC0 Bk)
open Go.ConcN (WgLive CTag WD RelBy sumTo upd upd_same upd_ne sumTo_congr sumTo_upd cnt Vc PermW)
section
variable {K:Cfg}{Sh0 O:Nat→Prop}{x:Gst K.P}{gs:Array Goroutine}{w:World}{t:Trace}{a:Goroutine}{q:Nat→Nat}
def gst0(K:Cfg)(q:Nat→Nat)(n:Nat)(O:Nat→Prop)(sO rO sB rB:Nat)(tmO tmB:Bool):Gst K.P where
 j:=0
 next:=0
 nt:=0
 tk:=tk0
 hs:=fun _=>newD K.P 0
 md:=⟨20,K.H-1,n,O,0⟩
 Dn:=noB
 ca:=fun _=>false
 cl:=fun _=>false
 q:=q
 buf := #[]
 sO:=sO
 rO:=rO
 sB:=sB
 rB:=rB
 tmO:=tmO
 tmB:=tmB
 st:=0
 sm:=0
theorem sum_zero:∀(j:Nat),sumTo j (fun _=>0)=0
 | 0=>rfl
 |j+1=>by simp only[sumTo];rw[sum_zero j]
theorem cmp_begin {n sO rO sB rB:Nat}{tmO tmB:Bool}(hH:1≤K.H)(hnb:K.nb=gs.size)(hp0:K.p0=t.size)(hw0:K.w0=w)(ha:gs[0]?=some a)(hL:Leavers K.P t gs q)(hP:PastX Sh0 w.heap.size t)(hg:H0 K (AtKdS K (SpnZ K (K.H-1))) n O a w)
  (hO:∀b,O b→b<w.heap.size∧¬Sh0 b∧¬SpF K b∧¬K.rd b) (hrd:∀b,K.rd b→b<w.heap.size∧¬Sh0 b∧¬SpF K b) (hT:∀op,op∈t→TchS (fun b=>¬SpF K b) op.act)
  (hwg:WgAt K.ty K.Wg w 0 0) (htal:TalAt K w 0 0) (hcO:w.heap[K.cO]?=some (.chan 0 #[] false sO rO tmO)) (hcB:w.heap[K.cB]?=some (.chan K.N #[] false sB rB tmB)) :
  Cmp K (gst0 K q n O sO rO sB rB tmO tmB) (InB Sh0) gs w t:=by
 have hlt:=(Array.getElem?_eq_some_iff.1 ha).1
 have hown:∀g b,ownF K (gst0 K q n O sO rO sB rB tmO tmB) g b→g=0∧O b:=by
  intro g b hb
  rcases hb with hb|⟨k,hk,_⟩
  ·exact hb
  ·exact absurd hk (by simp[gst0])
 have hliv:∀g,livF K (gst0 K q n O sO rO sB rB tmO tmB) g→g=0:=by
  intro g hg
  rcases hg with hg|⟨h1,h2⟩
  ·exact hg
  ·have h2:g<K.nb+0:=h2
   omega
 have kn:∀l,(∀b,blkOf l=some b→¬Sh0 b)→(∃b,blkOf l=some b)→∀i a,touchAt t i=some a→a.loc=l→Knows t 0 i:=by
  intro l hl ⟨b,hb⟩ i a ha e
  have hm:a.loc.isMemory=true:=by
   rw[e]
   cases l<;>simp[blkOf]at hb<;>rfl
  rcases hP.known i a ha hm with c|⟨⟨c,c1,c2⟩,_⟩
  ·exact c
  ·rw[e]at c1
   exact absurd c2 (hl c c1)
 refine⟨⟨fun b _=>by rw[hw0], fun g b hb=>(hO b (hown g b hb).2).1, ⟨fun g h b h1 h2=>by rw[(hown g b h1).1, (hown h b h2).1], fun g b hb=>(hO b (hown g b hb).2).2.2.2, fun g b hb hs=>(hO b (hown g b hb).2).2.2.1 hs, fun b hb hs=>(hrd b hb).2.2 hs⟩,
   fun g b hb=>⟨(hO b (hown g b hb).2).2.2.1,fun h=>h⟩,fun b hb=>⟨(hrd b hb).2.2,(hrd b hb).1⟩,fun b hb=>hb.elim,by rw[hw0];exact⟨rfl,rfl,rfl⟩⟩,
  ⟨⟨fun i op y hi hy hs=>?_,fun g hg l hl i a ha e=>?_,fun g hg l hl i a ha e _=>?_,hP.clean⟩,hP.seen,hP.hears,fun k hk=>absurd hk (by simp[gst0]),fun i hi=>?_,⟨by omega,fun i hi he=>?_⟩,fun k hk=>absurd hk (by simp[gst0]),fun c=>absurd c (by simp[gst0]),⟨t, #[],by simp,hP.over,hP.known,fun op hop=>by simp at hop⟩⟩,
  ⟨by rw[hnb];rfl,by omega,by show 0≤K.H;omega,fun i g h0 _ hg=>hL.old i g h0 hg,fun k hk=>absurd hk (by simp[gst0]),⟨a,ha,Or.inl ⟨rfl,rfl,by show 0+(K.H-1)+1=K.H;omega,rfl,rfl,hg⟩⟩⟩,?_⟩
 ·obtain⟨b,hb,hsb⟩:=hs
  exact absurd hsb (hT op (Array.mem_of_getElem? hi) y hy b hb)
 ·rw[hliv g hg]at hl ⊢
  obtain⟨b,hb,ho⟩:=hl
  refine kn l (fun c hc=>?_) ⟨b,hb⟩ i a ha e
  rw[hb]at hc;cases hc
  exact(hO b (hown 0 b ho).2).2.1
 ·rw[hliv g hg]
  obtain⟨b,hb,ho⟩:=hl
  refine kn l (fun c hc=>?_) ⟨b,hb⟩ i a ha e
  rw[hb]at hc;cases hc
  exact(hrd b ho).2.1
 ·have hi:K.nb+0≤i:=hi
  exact hL.above i (by omega)
 ·have:t[i]?=none:=by rw[Array.getElem?_eq_none_iff];omega
  simp[Trace.act?,this]at he
 ·have e0:(sumTo K.N fun i=>if(fun _=>false:Nat→Bool) i then K.er i else 0)=0:=by simpa using sum_zero K.N
  have e1:(sumTo K.N fun i=>if(fun _=>false:Nat→Bool) i then 1 else 0)=0:=by simpa using sum_zero K.N
  refine⟨hwg,?_,hcO,hcB,?_,Nat.zero_le _,fun c=>absurd c (by simp[gst0]),fun y hy=>by simp[gst0]at hy,fun i v hv=>by simp[gst0,tk0]at hv,fun k hk=>absurd hk (by simp[gst0]),fun k _ hk=>absurd hk (by simp[gst0]),fun i hi=>absurd hi (by simp[gst0]),by simp[gst0,sumTo],fun i _=>⟨fun c=>absurd c (by simp[gst0]),fun c=>absurd c.1 (by simp[gst0])⟩,fun i _=>⟨fun c=>absurd c (by simp[gst0]),fun c=>absurd c.2.1 (by simp[gst0])⟩,fun c=>absurd c (by simp[gst0]),fun _ k hk=>absurd hk (by simp[gst0])⟩
  ·show Go.ConcN.Mode 0 _ (.sp (K.H-1) 5) 0 0
   have:=Go.ConcN.Mode.opn (tag:= .sp (K.H-1) 5) (j:=0) (D:=wdF K (gst0 K q n O sO rO sB rB tmO tmB)) trivial (fun k hk=>by omega) (fun vs e=>by cases e)
   simpa [Vc,sumTo,Go.ConcN.pend]using this
  ·show TalAt K w ((sumTo K.N fun i=>if(fun _=>false:Nat→Bool) i then K.er i else 0:Nat):Int) ((sumTo K.N fun i=>if(fun _=>false:Nat→Bool) i then 1 else 0:Nat):Int)
   rw[e0,e1]
   exact htal
structure CmpEnd(K:Cfg)(Sh0:Nat→Prop)(x:Gst K.P)(gs:Array Goroutine)(w:World)(t:Trace):Prop where
 main:∃a,gs[0]?=some a∧∀w1,Rly K.rd (Lvx K) x.md.O w w1→K.Fin x.tk x.md.O a w1
 leav:∃q,Leavers K.P t gs q
 past:PastX (fun b=>Sh0 b∨b=K.Wg) w.heap.size t
 all:∀i,i<K.N→∃v,x.tk i=some v∧K.GM i v w∧∀b,K.Mv v b→b<w.heap.size∧¬SpF K b
 tal:TalAt K w (sumTo K.N K.er:Nat) (sumTo K.N (fun i=>if K.ls i then 1 else 0):Nat)
 own:∀b,x.md.O b→b<w.heap.size∧¬SpF K b∧¬K.rd b
 rdx:Rdx K w
 fix:w.tape=K.w0.tape∧w.os=K.w0.os∧w.output=K.w0.output
 lv:Lvx K w
 wg:K.Wg<w.heap.size
theorem Wsx.quits {m d:Nat}{g:Goroutine}(h:Wsx K 1 m d g w):QuitsD K.P m d g:=by
 letI:Payload:=⟨K.et⟩
 rcases h with h|h
 ·exact Go.ConcN.WSit.quits h rfl
 ·exact Go.ConcN.WSit.quits h rfl
theorem cmp_end(h:Cmp K x (InB Sh0) gs w t)(hf:AtFin K x gs w):CmpEnd K Sh0 x gs w t:=by
 obtain⟨e,a,ha,hfin⟩:=hf
 have hone:=h.sit.one
 have hmo:=h.prt.mode
 rw[tg_of (s:=1) (r:=x.md.r) (n:=0) (d:=0) (O:=noB) e rfl]at hmo
 obtain⟨hq,_,_⟩:=hmo.fin_inv (tag:= .ret) trivial
 have hst1:∀k,k<x.j→(x.hs k).st=1:=by
  intro k hk
  have:=hq k hk
  have e2:(wdF K x k).stage=if 14≤(x.hs k).st then 7 else(x.hs k).st:=rfl
  rw[e2]at this
  split at this<;>omega
 obtain⟨qa,q1,q2,q3,q4⟩:=h.trs.acq (by omega)
 obtain⟨t0,u,ht,t1,t2,t3⟩:=h.trs.old
 obtain⟨l1,l2,l3,l4⟩:=h.prt.lts
 have hms:x.next=K.N∧x.md.d0=0∧x.j=K.H:=by
  obtain⟨a',_,hm⟩:=h.sit.main
  rcases hm with c|c|c|c|c|c|c|c|c|c|c|c|c|c|c|c|c|c|c|⟨_,c0,c1,c2,_⟩
  all_goals first|(exact⟨c2,c0,c1⟩)|(exfalso;have:=c.1;omega)
 have edge:∀k,k<x.j→∃r,RelX K t k r∧r<qa∧HappensBefore t r qa:=by
  intro k hk
  obtain⟨r,hr,hrq⟩:=q4 k hk
  exact⟨r,hr,hrq,.single (.inr ⟨.marked hrq (.inr hr.rel.act) q1 (fun i hi _=>h.trs.norel.2 i (by have:=hr.ge;omega)),hr.rel.heard,q3⟩)⟩
 have hgq:∃z,t[qa]?=some z∧z.g=0:=by
  obtain⟨z,hz,hzg⟩:=Option.map_eq_some_iff.1 q2
  exact⟨z,hz,hzg⟩
 have whose:∀i op,t[i]?=some op→t0.size≤i→op.act.touch?≠none→op.g=0∨∃k,k<x.j∧op.g=K.nb+k:=by
  intro i op hi hge hto
  rw[ht]at hi
  have:op∈u:=by
   rcases getElem?_append_cases hi with⟨hlt,_⟩|⟨_,hu⟩
   ·omega
   ·exact hu
  rcases t3 op this with c|⟨c1,c2⟩|c
  ·exact Or.inl c
  ·exact Or.inr ⟨op.g-K.nb,by rw[hms.2.2];omega,by omega⟩
  ·exact absurd c hto
 refine⟨⟨a,ha,hfin⟩,⟨fun i=>if i<K.nb then x.q i else(x.hs (i-K.nb)).fu,fun i g h0 hg=>?_,fun i hi=>h.trs.above i (by rw[←h.sit.size];exact hi)⟩,⟨h.trs.trc.nr,fun i a' hi hm=>?_,?_,h.trs.deaf0.trans hms.2.1,h.trs.seen⟩,fun i hi=>?_,?_,fun b hb=>?_,h.mem.rdx,h.mem.fix,h.prt.lv,l1⟩
 ·rcases who h hg with⟨rfl,_⟩|⟨_,hi,hq'⟩|⟨k,hk,rfl,hs⟩
  ·omega
  ·show QuitsD K.P (if i<K.nb then x.q i else _) _ g
   rw[if_pos hi]
   exact hq'
  ·show QuitsD K.P (if K.nb+k<K.nb then _ else(x.hs (K.nb+k-K.nb)).fu) _ g
   rw[if_neg (by omega),Nat.add_sub_cancel_left,h.trs.deafH k hk]
   have hk1:=hst1 k hk
   rcases hs with c|c|c|c|c|c|c|c|c|⟨_,_,hw⟩
   all_goals first|(rw[hk1]at hw;exact hw.quits)|(exfalso;have:=c.1;omega)
 ·obtain⟨z,hz,hza⟩:=touch_of hi
  by_cases hlt:i<t0.size
  ·have hz0:t0[i]?=some z:=by rw[ht,getElem?_append_old hlt]at hz;exact hz
   rcases t2 i a' (by rw[touchAt_of hz0];exact hza) hm with c|⟨⟨b,b1,b2⟩,c2⟩
   ·exact Or.inl (by rw[ht];exact c.app u)
   ·exact Or.inr ⟨⟨b,b1,Or.inl b2⟩,c2⟩
  ·rcases whose i z hz (by omega) (by rw[hza];simp)with c|⟨k,hk,c⟩
   ·have:=knows_own hz
    rw[c]at this
    exact Or.inl this
   ·obtain⟨r,hr,hrq,hb⟩:=edge k hk
    have hgi:t.g? i=some (K.nb+k):=by simp[Trace.g?,hz,c]
    rcases Nat.lt_trichotomy i r with c1|c1|c1
    ·obtain⟨zq,hzq,hzg⟩:=hgq
     exact Or.inl ⟨qa,zq,hzq,hzg,Or.inr (.trans (.single (.inl ⟨c1,K.nb+k,hgi,hr.rel.g⟩)) hb)⟩
    ·obtain⟨zq,hzq,hzg⟩:=hgq
     subst c1
     exact Or.inl ⟨qa,zq,hzq,hzg,Or.inr hb⟩
    ·obtain⟨⟨b,b1,b2⟩,b3⟩:=hr.wg i a' c1 hgi hi
     exact Or.inr ⟨⟨b,b1,Or.inr b2⟩,b3⟩
 ·intro i g hgi hne hc
  obtain⟨z,hz,hzg⟩:=Option.map_eq_some_iff.1 hgi
  by_cases hlt:i<t0.size
  ·rw[ht]at hc hgi ⊢
   obtain⟨jx,hj,hb⟩:=t1 i g (by simpa [Trace.g?,getElem?_append_old hlt]using hgi) hne ((counts_old hlt).1 hc)
   have hjl:jx<t0.size:=by
    obtain⟨y,hy,_⟩:=Option.map_eq_some_iff.1 hj
    exact lt_size_of_getElem? hy
   exact⟨jx,by simpa [Trace.g?,getElem?_append_old hjl]using hj,hb_app u hb⟩
  ·obtain⟨y,hy,_⟩:=hc
   obtain⟨z',hz',hzy⟩:=touch_of hy
   rw[hz]at hz';cases hz'
   rcases whose i z hz (by omega) (by rw[hzy];simp)with c|⟨k,hk,c⟩
   ·exact absurd (hzg.symm.trans c) hne
   ·obtain⟨r,hr,hrq,hb⟩:=edge k hk
    have hgk:t.g? i=some (K.nb+k):=by simp[Trace.g?,hz,c]
    rcases Nat.lt_trichotomy i r with c1|c1|c1
    ·exact⟨qa,q2,.trans (.single (.inl ⟨c1,K.nb+k,hgk,hr.rel.g⟩)) hb⟩
    ·subst c1
     exact⟨qa,q2,hb⟩
    ·exact absurd ⟨y,hy, ‹_›⟩ (hr.rel.after i c1 hgk)
 ·have hiN:i<x.next:=by rw[hms.1];exact hi
  have hv:∃v,x.tk i=some v:=by
   rcases h.prt.cover i hiN with c|⟨v,c⟩|⟨k,hk,c,_⟩
   ·exact c
   ·rw[h.prt.emp e]at c;simp at c
   ·have:=hst1 k hk;omega
  obtain⟨v,hv⟩:=hv
  obtain⟨b3,b4⟩:=h.prt.tk i v hv
  exact⟨v,hv,b3,fun b hb=>⟨(h.mem.dnS b (b4 b hb)).2,(h.mem.dnS b (b4 b hb)).1⟩⟩
 ·have ht:=h.prt.tal
  have hca:∀i,i<K.N→x.ca i=true:=fun i hi=>(h.prt.ca i hi).2 ⟨by rw[hms.1];exact hi,fun k hk c=>by have:=hst1 k hk;omega⟩
  have hcl:∀i,i<K.N→x.cl i=K.ls i:=fun i hi=>by
   cases hl:K.ls i with
   | true=>exact(h.prt.cl i hi).2 ⟨hl,by rw[hms.1];exact hi,fun k hk c=>by have:=hst1 k hk;omega⟩
   | false=>
    cases hc:x.cl i with
    | false=>rfl
    | true=>have:=((h.prt.cl i hi).1 hc).1;rw[hl]at this;cases this
  have e1:(sumTo K.N fun i=>if x.ca i then K.er i else 0)=sumTo K.N K.er:=sumTo_congr fun i hi=>by rw[hca i hi];rfl
  have e2:(sumTo K.N fun i=>if x.cl i then 1 else 0)=sumTo K.N (fun i=>if K.ls i then 1 else 0):=sumTo_congr fun i hi=>by rw[hcl i hi]
  rw[e1,e2]at ht
  exact ht
 ·have ho:ownF K x 0 b:=Or.inl ⟨rfl,hb⟩
  exact⟨h.mem.own 0 b ho,(h.mem.ownS 0 b ho).1,h.mem.apt.ownRd 0 b ho⟩
end
end
end Go.Proofs.YtedifobeggabnaaGreat
