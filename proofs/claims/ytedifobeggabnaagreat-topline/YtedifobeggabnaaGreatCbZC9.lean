/- Texts of ours, one behind the other: ZC9 ZC10 ZC11 ZC12 ZC13. -/
import Derived.Test.YtedifobeggabnaaGreatCbZC2
namespace Go.Proofs.YtedifobeggabnaaGreat
section
open Go.Conc
open Go.ConcR (KK WgAt stA smA rd wr mk Payload DC0)
open Go.ConcN (WgLive CTag WD RelBy)
def Gst.put {P:Program}(x:Gst P)(k:Nat)(d:HD P)(m:MD)(ca cl:Nat→Bool)(st sm:Int):Gst P:={ x with hs:=Go.ConcN.upd x.hs k d,md:=m,ca:=ca,cl:=cl,st:=st,sm:=sm }
section
variable {K:Cfg}{Shun:Loc→Prop}{x:Gst K.P}{gs:Array Goroutine}{w w':World}{t:Trace}{es:Array Event}{k:Nat}{g g':Goroutine}{d':HD K.P}
theorem CPrt.lts(h:CPrt K x w):K.Wg<w.heap.size∧K.T<w.heap.size∧K.cO<w.heap.size∧K.cB<w.heap.size:=⟨lt_of_some h.wg,lt_of_some h.tal,lt_of_some h.cho,lt_of_some h.chb⟩
theorem CPrt.nsh(h:CPrt K x w):¬ShF K K.cO∧¬ShF K K.cB:=by
 have h1:=h.cho
 have h2:=h.chb
 have h3:=h.wg
 have h4:w.heap[K.T]?=some _:=h.tal
 refine⟨?_,?_⟩
 ·rintro(e|e)
  ·rw[e,h3]at h1;cases h1
  ·rw[e,h4]at h1;cases h1
 ·rintro(e|e)
  ·rw[e,h3]at h2;cases h2
  ·rw[e,h4]at h2;cases h2
theorem CPrt.lv(h:CPrt K x w):Lvx K w:=⟨_,_,h.wg⟩
theorem put_own {d:HD K.P}{m:MD}{ca cl:Nat→Bool}{st sm:Int}(hk:k<x.j)(hm:m.O=x.md.O){g b:Nat}(h:ownF K (x.put k d m ca cl st sm) g b):(g=K.nb+k∧d.O b)∨(ownF K x g b∧(g=0∨∃k',k'<x.j∧k'≠k∧g=K.nb+k')):=by
 rcases h with⟨rfl,h⟩|⟨k',h1,rfl,h2⟩
 ·exact Or.inr ⟨Or.inl ⟨rfl,by rw[←hm];exact h⟩,Or.inl rfl⟩
 ·have h2:(Go.ConcN.upd x.hs k d k').O b:=h2
  by_cases e:k'=k
  ·subst e
   rw[Go.ConcN.upd_same]at h2
   exact Or.inl ⟨rfl,h2⟩
  ·rw[Go.ConcN.upd_ne x.hs d e]at h2
   exact Or.inr ⟨Or.inr ⟨k',h1,rfl,h2⟩,Or.inr ⟨k',h1,e,rfl⟩⟩
theorem md_O {m m':MD}(h:m'=m∨(m.s=7∧m'={ m with s:=8,fu:=0 })):m'.O=m.O∧m'.d0=m.d0∧(m'.s≤3→m.s≤3):=by
 rcases h with rfl|⟨_,rfl⟩
 ·exact⟨rfl,rfl,id⟩
 ·exact⟨rfl,rfl,fun h=>absurd h (by simp)⟩
theorem hand_step(hK:HandOk K)(hM:MainOk K)(hC1:K.rd K.C1)(hC2:K.rd K.C2)(h:Cmp K x Shun gs w t)(hk:k<x.j)(hg:gs[K.nb+k]?=some g)
  (hsz:w.heap.size≤w'.heap.size) (hfix:w'.tape=w.tape∧w'.os=w.os∧w'.output=w.output)
  (hoth:∀b,b<w.heap.size→¬(x.hs k).O b→¬ShF K b→w'.heap[b]?=w.heap[b]?) (hlv:Lvx K w')
  (hO:∀b,d'.O b→Grw (x.hs k).O w w' b) (hsit:HSit K d' g' w')
  (hok:∀op,op∈MemOp.ofEvents (K.nb+k) g.frame.fn g.frame.place es→∀y,op.act.touch?=some y→(InB (ShF K) y.loc∧y.kind ≠ .plain∧y.kind ≠ .said)∨InB (Grw (x.hs k).O w w') y.loc∨(InB K.rd y.loc∧y.write=false))
  (hlow:∀op,op∈MemOp.ofEvents (K.nb+k) g.frame.fn g.frame.place es→LowT w'.heap.size op.act)
  (hdeaf:deafBehind (x.hs k).dd es=d'.dd) (hnr:∀e∈es,e.loc ≠ .mark (.release (stA K.Wg)))
  (hrel1:(x.hs k).st≤6→d'.st≤6∧∀r,RelX K t k r→RelX K (t++MemOp.ofEvents (K.nb+k) g.frame.fn g.frame.place es) k r)
  (hrel2:6<(x.hs k).st→d'.st≤6→∃r,RelX K (t++MemOp.ofEvents (K.nb+k) g.frame.fn g.frame.place es) k r) (hs3:x.md.s≤3→(x.hs k).st≤6) :
  ∃m',(m'=x.md∨(x.md.s=7∧m'={ x.md with s:=8,fu:=0 }))∧(mayWake K.P g=true→g'.status = .running→m'.s≠7)∧
   ∀ca cl st sm,CPrt K (x.put k d' m' ca cl st sm) w'→Cmp K (x.put k d' m' ca cl st sm) Shun ((gs.map (woken K.P g g' w')).setIfInBounds (K.nb+k) g') w' (t++MemOp.ofEvents (K.nb+k) g.frame.fn g.frame.place es):=by
 obtain⟨l1,l2,l3,l4⟩:=h.prt.lts
 obtain⟨n1,n2⟩:=h.prt.nsh
 have hone:=h.sit.one
 have ownk:∀b,(x.hs k).O b→ownF K x (K.nb+k) b:=fun b hb=>Or.inr ⟨k,hk,rfl,hb⟩
 have spk:∀b,SpF K b→¬(x.hs k).O b:=fun b hb ho=>(h.mem.ownS _ b (ownk b ho)).1 hb
 have eO:w'.heap[K.cO]?=w.heap[K.cO]?:=hoth _ l3 (spk _ (Or.inr (Or.inr (Or.inl rfl)))) n1
 have eB:w'.heap[K.cB]?=w.heap[K.cB]?:=hoth _ l4 (spk _ (Or.inr (Or.inr (Or.inr rfl)))) n2
 have erd:∀b,K.rd b→w'.heap[b]?=w.heap[b]?:=fun b hb=>hoth b (h.mem.rdS b hb).2 (fun ho=>h.mem.apt.ownRd _ b (ownk b ho) hb) (fun hs=>(h.mem.rdS b hb).1 (hs.elim Or.inl fun e=>Or.inr (Or.inl e)))
 have eow:∀gi b,gi≠K.nb+k→ownF K x gi b→w'.heap[b]?=w.heap[b]?:=fun gi b hne hb=>
  hoth b (h.mem.own _ b hb) (fun ho=>hne (h.mem.apt.two gi _ b hb (ownk b ho))) (fun hs=>(h.mem.ownS _ b hb).1 (hs.elim Or.inl fun e=>Or.inr (Or.inl e)))
 obtain⟨a,ha,hma⟩:=h.sit.main
 have rly0:Rly K.rd (Lvx K) x.md.O w w':=⟨fun b hb=>hb.elim (erd b) fun ho=>eow 0 b (by omega) (Or.inl ⟨rfl,ho⟩),fun _=>hlv,hsz⟩
 obtain⟨m',hm',hms,hmw⟩:=(hma.rely rly0).wake (y:=g) (y':=g') hM (fun h14=>by
  have e1:=h.prt.cho
  have e2:=h.prt.chb
  rw[h14]at e1 e2
  exact⟨⟨_,_,_,eO.trans e1⟩,_,_,_,_,_,eB.trans e2⟩)
 refine⟨m',hm',hmw,fun ca cl st sm hprt=>?_⟩
 obtain⟨mO,md0,ms3⟩:=md_O hm'
 have gops:∀op,op∈MemOp.ofEvents (K.nb+k) g.frame.fn g.frame.place es→op.g=K.nb+k:=fun op hop=>by obtain⟨e,_,rfl⟩:=Go.Conc.mem_ofEvents hop;rfl
 have hown:∀gi b,ownF K (x.put k d' m' ca cl st sm) gi b→(gi=K.nb+k∧Grw (x.hs k).O w w' b)∨(ownF K x gi b∧gi≠K.nb+k):=by
  intro gi b hb
  rcases put_own hk mO hb with⟨e,ho⟩|⟨ho,e⟩
  ·exact Or.inl ⟨e,hO b ho⟩
  ·refine Or.inr ⟨ho,?_⟩
   rcases e with rfl|⟨k',_,hne,rfl⟩<;>omega
 have hnew:∀gi b,ownF K (x.put k d' m' ca cl st sm) gi b→ownF K x gi b∨(gi=K.nb+k∧w.heap.size≤b∧b<w'.heap.size):=by
  intro gi b hb
  rcases hown gi b hb with⟨rfl,ho|ho⟩|⟨ho,_⟩
  ·exact Or.inl (ownk b ho)
  ·exact Or.inr ⟨rfl,ho⟩
  ·exact Or.inl ho
 refine⟨⟨fun b hb=>(erd b hb).trans (h.mem.rdx b hb),fun gi b hb=>?_,⟨fun g1 g2 b h1 h2=>?_,fun gi b hb hr=>?_,fun gi b hb hs=>?_,h.mem.apt.rdSh⟩,fun gi b hb=>?_,fun b hb=>⟨(h.mem.rdS b hb).1,Nat.lt_of_lt_of_le (h.mem.rdS b hb).2 hsz⟩,fun b hb=>⟨(h.mem.dnS b hb).1,Nat.lt_of_lt_of_le (h.mem.dnS b hb).2 hsz⟩,⟨hfix.1.trans h.mem.fix.1,hfix.2.1.trans h.mem.fix.2.1,hfix.2.2.trans h.mem.fix.2.2⟩⟩,?_,?_,hprt⟩
 ·rcases hnew gi b hb with ho|⟨_,ho⟩
  ·exact Nat.lt_of_lt_of_le (h.mem.own _ b ho) hsz
  ·exact ho.2
 ·rcases hnew g1 b h1 with o1|⟨e1,o1⟩<;>rcases hnew g2 b h2 with o2|⟨e2,o2⟩
  ·exact h.mem.apt.two g1 g2 b o1 o2
  ·have:=h.mem.own _ b o1;omega
  ·have:=h.mem.own _ b o2;omega
  ·rw[e1,e2]
 ·rcases hnew gi b hb with ho|⟨_,ho⟩
  ·exact h.mem.apt.ownRd gi b ho hr
  ·have:=(h.mem.rdS b hr).2;omega
 ·rcases hnew gi b hb with ho|⟨_,ho⟩
  ·exact h.mem.apt.ownSh gi b ho hs
  ·rcases hs with rfl|rfl|rfl|rfl<;>omega
 ·rcases hnew gi b hb with ho|⟨_,ho⟩
  ·exact h.mem.ownS gi b ho
  ·refine⟨?_,fun hd=>by have:=(h.mem.dnS b hd).2;omega⟩
   rintro(rfl|rfl|rfl|rfl)<;>omega
 ·
  have hown1:Apt (SpF K) (fun gi b=>ownF K x gi b∨(gi=K.nb+k∧Grw (x.hs k).O w w' b)) K.rd:=by
   refine⟨fun g1 g2 b h1 h2=>?_,fun gi b hb hr=>?_,fun gi b hb hs=>?_,h.mem.apt.rdSh⟩
   ·rcases h1 with o1|⟨e1,o1|o1⟩<;>rcases h2 with o2|⟨e2,o2|o2⟩
    ·exact h.mem.apt.two g1 g2 b o1 o2
    ·rw[e2];exact h.mem.apt.two g1 _ b o1 (ownk b o2)
    ·have:=h.mem.own _ b o1;omega
    ·rw[e1];exact h.mem.apt.two _ g2 b (ownk b o1) o2
    ·rw[e1,e2]
    ·rw[e1,e2]
    ·have:=h.mem.own _ b o2;omega
    ·rw[e1,e2]
    ·rw[e1,e2]
   ·rcases hb with ho|⟨_,ho|ho⟩
    ·exact h.mem.apt.ownRd gi b ho hr
    ·exact h.mem.apt.ownRd _ b (ownk b ho) hr
    ·have:=(h.mem.rdS b hr).2;omega
   ·rcases hb with ho|⟨_,ho|ho⟩
    ·exact h.mem.apt.ownSh gi b ho hs
    ·exact h.mem.apt.ownSh _ b (ownk b ho) hs
    ·rcases hs with rfl|rfl|rfl|rfl<;>omega
  have tr1:Trc (SpF K) (fun gi b=>ownF K x gi b∨(gi=K.nb+k∧Grw (x.hs k).O w w' b)) K.rd (livF K x) t:=h.trs.trc.turn h.trs.seen (fun _ e=>e) (fun gi b _ hb=>by
   rcases hb with ho|⟨rfl,ho|ho⟩
   ·exact Or.inl ho
   ·exact Or.inl (ownk b ho)
   ·exact Or.inr ho.1) (fun _ _ _ hb=>Or.inl hb)
  have hlive:livF K x (K.nb+k):=Or.inr ⟨by omega,by omega⟩
  have tr2:=tr1.app hown1 hlive (u:=MemOp.ofEvents (K.nb+k) g.frame.fn g.frame.place es) (fun op hop=>⟨gops op hop,fun y hy=>by
   rcases hok op hop y hy with⟨a1,a2,a3⟩|a1|a1
   ·exact Or.inl ⟨a1.mono fun _=>sh_sp K,a2,fun e=>absurd e a3⟩
   ·exact Or.inr (Or.inl (a1.mono fun b hb=>Or.inr ⟨rfl,hb⟩))
   ·exact Or.inr (Or.inr a1)⟩)
  have hseen:∀op,op∈t++MemOp.ofEvents (K.nb+k) g.frame.fn g.frame.place es→LowT w'.heap.size op.act:=lowT_app h.trs.seen hsz hlow
  refine⟨tr2.turn hseen (fun _ e=>e) (fun gi b _ hb=>?_) (fun _ _ _ hb=>Or.inl hb),hseen,?_,fun k' hk'=>?_,fun i hi=>?_,h.trs.norel.app (fun op hop hm=>?_),fun k' hk' h6=>?_,fun h3=>?_,h.trs.old.app fun op hop=>Or.inr (Or.inl (by rw[gops op hop];have:=h.sit.jH;omega))⟩
  ·rcases hown gi b hb with⟨rfl,ho⟩|⟨ho,_⟩
   ·exact Or.inl (Or.inr ⟨rfl,ho⟩)
   ·exact Or.inl (Or.inl ho)
  ·rw[Deaf_other t (g':=K.nb+k) (by omega) _ gops,h.trs.deaf0]
   exact md0.symm
  ·show Deaf _ _=(Go.ConcN.upd x.hs k d' k').dd
   by_cases e:k'=k
   ·subst e
    rw[Go.ConcN.upd_same,Deaf_own,h.trs.deafH k' hk,hdeaf]
   ·rw[Go.ConcN.upd_ne x.hs d' e,Deaf_other t (g':=K.nb+k) (by omega) _ gops]
    exact h.trs.deafH k' hk'
  ·have hi:K.nb+x.j≤i:=hi
   rw[Deaf_other t (g':=K.nb+k) (by omega) _ gops]
   exact h.trs.above i hi
  ·obtain⟨e,he,rfl⟩:=Go.Conc.mem_ofEvents hop
   exact hnr e he (Go.ConcR.loc_of_ofEvent hm)
  ·have hk':k'<x.j:=hk'
   have h6:(Go.ConcN.upd x.hs k d' k').st≤6:=h6
   by_cases e:k'=k
   ·subst e
    rw[Go.ConcN.upd_same]at h6
    by_cases h7:(x.hs k').st≤6
    ·obtain⟨r,hr⟩:=h.trs.rel k' hk h7
     exact⟨r,(hrel1 h7).2 r hr⟩
    ·exact hrel2 (by omega) h6
   ·rw[Go.ConcN.upd_ne x.hs d' e]at h6
    obtain⟨r,hr⟩:=h.trs.rel k' hk' h6
    exact⟨r,hr.appOther fun op hop=>by rw[gops op hop];omega⟩
  ·have h3':x.md.s≤3:=ms3 h3
   obtain⟨q,q1,q2,q3,q4⟩:=h.trs.acq h3'
   have hq:=lt_of_act? q1
   refine⟨q,by rw[act?_old hq];exact q1,by rw[g?_old hq];exact q2,(heard_old hq).2 q3,fun k' hk'=>?_⟩
   obtain⟨r,hr,hrq⟩:=q4 k' hk'
   refine⟨r,?_,hrq⟩
   by_cases e:k'=k
   ·subst e
    exact(hrel1 (hs3 h3')).2 r hr
   ·exact hr.appOther fun op hop=>by rw[gops op hop];omega
 ·
  have gset:∀i,i≠K.nb+k→((gs.map (woken K.P g g' w')).setIfInBounds (K.nb+k) g')[i]?=(gs[i]?).map (woken K.P g g' w'):=fun i hi=>by
   rw[Array.getElem?_setIfInBounds_ne (fun e=>hi e.symm),Array.getElem?_map]
  refine⟨by simp[h.sit.size];rfl,hone,h.sit.jH,fun i gi h0 hi hgi=>?_,fun k' hk'=>?_,?_⟩
  ·rw[gset i (by omega)]at hgi
   obtain⟨z,hz,rfl⟩:=Option.map_eq_some_iff.1 hgi
   have hq:=h.sit.old i z h0 hi hz
   rw[woken_quitsD hq,Deaf_other t (g':=K.nb+k) (by omega) _ gops]
   exact hq
  ·have hk':k'<x.j:=hk'
   show ∃z,_∧HSit K (Go.ConcN.upd x.hs k d' k') z w'
   by_cases e:k'=k
   ·subst e
    refine⟨g',?_,by rw[Go.ConcN.upd_same];exact hsit⟩
    have hlt:K.nb+k'<(gs.map (woken K.P g g' w')).size:=by simp[h.sit.size];omega
    exact Array.getElem?_setIfInBounds_self_of_lt hlt
   ·obtain⟨z,hz,hs⟩:=h.sit.hand k' hk'
    have hr:Rly K.rd (Lvx K) (x.hs k').O w w':=⟨fun b hb=>hb.elim (erd b) fun ho=>eow (K.nb+k') b (by omega) (Or.inr ⟨k',hk',rfl,ho⟩),fun _=>hlv,hsz⟩
    have hs':=hs.rely hK hC1 hC2 hr
    refine⟨z,?_,by rw[Go.ConcN.upd_ne x.hs d' e];exact hs'⟩
    rw[gset _ (by omega),hz]
    have hw:woken K.P g g' w' z=z:=by
     have e1:=eO.trans h.prt.cho
     by_cases h14:x.md.s<14
     ·exact hs'.wake (s:=0) (r:=0) (tm:=false) (Or.inr (h.prt.park (Nat.le_of_lt h14) k' hk'))
     ·rw[decide_eq_false h14]at e1
      exact hs'.wake (Or.inl e1)
    rw[Option.map_some,hw]
  ·refine⟨woken K.P g g' w' a,?_,hms⟩
   rw[gset 0 (by omega),ha]
   rfl
end
end
section
open Go.Conc
open Go.ConcR (KK WgAt stA smA rd wr mk Payload DC0)
open Go.ConcN (WgLive CTag WD RelBy)
section
variable {K:Cfg}{Shun:Loc→Prop}{x x':Gst K.P}{gs gs':Array Goroutine}{w w':World}{t ops:Trace}{es:Array Event}{a a':Goroutine}
theorem main_step(hK:HandOk K)(hC1:K.rd K.C1)(hC2:K.rd K.C2)(h:Cmp K x Shun gs w t)
  (hj:x'.j=x.j) (hq:x'.q=x.q) (hDn:x'.Dn=x.Dn)
  (hsz:w.heap.size≤w'.heap.size) (hfix:w'.tape=w.tape∧w'.os=w.os∧w'.output=w.output)
  (hoth:∀b,b<w.heap.size→¬x.md.O b→¬SpF K b→w'.heap[b]?=w.heap[b]?) (hlv:Lvx K w')
  (hO:∀b,x'.md.O b→Grw x.md.O w w' b) (hms:MSit K x.j x'.next x'.tk x'.md a' w')
  (hh:∀k,k<x.j→∀z,HSit K (x.hs k) z w'→HSit K (x'.hs k) (woken K.P a a' w' z) w') (hhs:∀k,k<x.j→(x'.hs k).O=(x.hs k).O∧(x'.hs k).dd=(x.hs k).dd∧((x'.hs k).st≤6→(x.hs k).st≤6))
  (hok:∀op,op∈MemOp.ofEvents 0 a.frame.fn a.frame.place es→∀y,op.act.touch?=some y→(InB (SpF K) y.loc∧y.kind ≠ .plain)∨InB (Grw x.md.O w w') y.loc∨(InB K.rd y.loc∧y.write=false))
  (hlow:∀op,op∈MemOp.ofEvents 0 a.frame.fn a.frame.place es→LowT w'.heap.size op.act)
  (hdeaf:deafBehind x.md.d0 es=x'.md.d0) (hnr:∀e∈es,e.loc ≠ .mark (.release (stA K.Wg)))
  (hacq:x'.md.s≤3→x.md.s≤3∨∃q,(t++MemOp.ofEvents 0 a.frame.fn a.frame.place es).act? q=some (.mark (.acquire (stA K.Wg)))∧(t++MemOp.ofEvents 0 a.frame.fn a.frame.place es).g? q=some 0∧(t++MemOp.ofEvents 0 a.frame.fn a.frame.place es).heard q∧∀k,k<x.j→∃r,RelX K t k r∧r<q)
  (hprt:CPrt K x' w'):Cmp K x' Shun ((gs.map (woken K.P a a' w')).setIfInBounds 0 a') w' (t++MemOp.ofEvents 0 a.frame.fn a.frame.place es):=by
 obtain⟨l1,l2,l3,l4⟩:=h.prt.lts
 have hone:=h.sit.one
 have own0:∀b,x.md.O b→ownF K x 0 b:=fun b hb=>Or.inl ⟨rfl,hb⟩
 have shsp:∀b,ShF K b→SpF K b:=fun b hs=>hs.elim Or.inl fun e=>Or.inr (Or.inl e)
 have erd:∀b,K.rd b→w'.heap[b]?=w.heap[b]?:=fun b hb=>hoth b (h.mem.rdS b hb).2 (fun ho=>h.mem.apt.ownRd _ b (own0 b ho) hb) (h.mem.rdS b hb).1
 have eow:∀gi b,gi≠0→ownF K x gi b→w'.heap[b]?=w.heap[b]?:=fun gi b hne hb=>
  hoth b (h.mem.own _ b hb) (fun ho=>hne (h.mem.apt.two gi _ b hb (own0 b ho))) (h.mem.ownS _ b hb).1
 have gops:∀op,op∈MemOp.ofEvents 0 a.frame.fn a.frame.place es→op.g=0:=fun op hop=>by obtain⟨e,_,rfl⟩:=Go.Conc.mem_ofEvents hop;rfl
 have hown:∀gi b,ownF K x' gi b→(gi=0∧Grw x.md.O w w' b)∨(ownF K x gi b∧gi≠0):=by
  intro gi b hb
  rcases hb with⟨rfl,ho⟩|⟨k,h1,rfl,h2⟩
  ·exact Or.inl ⟨rfl,hO b ho⟩
  ·rw[hj]at h1
   exact Or.inr ⟨Or.inr ⟨k,h1,rfl,by rw[←(hhs k h1).1];exact h2⟩,by omega⟩
 have hnew:∀gi b,ownF K x' gi b→ownF K x gi b∨(gi=0∧w.heap.size≤b∧b<w'.heap.size):=by
  intro gi b hb
  rcases hown gi b hb with⟨rfl,ho|ho⟩|⟨ho,_⟩
  ·exact Or.inl (own0 b ho)
  ·exact Or.inr ⟨rfl,ho⟩
  ·exact Or.inl ho
 have hliv:∀g,livF K x' g→livF K x g:=fun g hg=>by unfold livF at hg ⊢;rw[hj]at hg;exact hg
 refine⟨⟨fun b hb=>(erd b hb).trans (h.mem.rdx b hb),fun gi b hb=>?_,⟨fun g1 g2 b h1 h2=>?_,fun gi b hb hr=>?_,fun gi b hb hs=>?_,h.mem.apt.rdSh⟩,fun gi b hb=>?_,fun b hb=>⟨(h.mem.rdS b hb).1,Nat.lt_of_lt_of_le (h.mem.rdS b hb).2 hsz⟩,fun b hb=>?_,⟨hfix.1.trans h.mem.fix.1,hfix.2.1.trans h.mem.fix.2.1,hfix.2.2.trans h.mem.fix.2.2⟩⟩,?_,?_,hprt⟩
 ·rcases hnew gi b hb with ho|⟨_,ho⟩
  ·exact Nat.lt_of_lt_of_le (h.mem.own _ b ho) hsz
  ·exact ho.2
 ·rcases hnew g1 b h1 with o1|⟨e1,o1⟩<;>rcases hnew g2 b h2 with o2|⟨e2,o2⟩
  ·exact h.mem.apt.two g1 g2 b o1 o2
  ·have:=h.mem.own _ b o1;omega
  ·have:=h.mem.own _ b o2;omega
  ·rw[e1,e2]
 ·rcases hnew gi b hb with ho|⟨_,ho⟩
  ·exact h.mem.apt.ownRd gi b ho hr
  ·have:=(h.mem.rdS b hr).2;omega
 ·rcases hnew gi b hb with ho|⟨_,ho⟩
  ·exact h.mem.apt.ownSh gi b ho hs
  ·rcases hs with rfl|rfl|rfl|rfl<;>omega
 ·rw[hDn]
  rcases hnew gi b hb with ho|⟨_,ho⟩
  ·exact h.mem.ownS gi b ho
  ·refine⟨?_,fun hd=>by have:=(h.mem.dnS b hd).2;omega⟩
   rintro(rfl|rfl|rfl|rfl)<;>omega
 ·rw[hDn]at hb
  exact⟨(h.mem.dnS b hb).1,Nat.lt_of_lt_of_le (h.mem.dnS b hb).2 hsz⟩
 ·have hown1:Apt (SpF K) (fun gi b=>ownF K x gi b∨(gi=0∧Grw x.md.O w w' b)) K.rd:=by
   refine⟨fun g1 g2 b h1 h2=>?_,fun gi b hb hr=>?_,fun gi b hb hs=>?_,h.mem.apt.rdSh⟩
   ·rcases h1 with o1|⟨e1,o1|o1⟩<;>rcases h2 with o2|⟨e2,o2|o2⟩
    ·exact h.mem.apt.two g1 g2 b o1 o2
    ·rw[e2];exact h.mem.apt.two g1 _ b o1 (own0 b o2)
    ·have:=h.mem.own _ b o1;omega
    ·rw[e1];exact h.mem.apt.two _ g2 b (own0 b o1) o2
    ·rw[e1,e2]
    ·rw[e1,e2]
    ·have:=h.mem.own _ b o2;omega
    ·rw[e1,e2]
    ·rw[e1,e2]
   ·rcases hb with ho|⟨_,ho|ho⟩
    ·exact h.mem.apt.ownRd gi b ho hr
    ·exact h.mem.apt.ownRd _ b (own0 b ho) hr
    ·have:=(h.mem.rdS b hr).2;omega
   ·rcases hb with ho|⟨_,ho|ho⟩
    ·exact h.mem.apt.ownSh gi b ho hs
    ·exact h.mem.apt.ownSh _ b (own0 b ho) hs
    ·rcases hs with rfl|rfl|rfl|rfl<;>omega
  have tr1:Trc (SpF K) (fun gi b=>ownF K x gi b∨(gi=0∧Grw x.md.O w w' b)) K.rd (livF K x) t:=h.trs.trc.turn h.trs.seen (fun _ e=>e) (fun gi b _ hb=>by
   rcases hb with ho|⟨rfl,ho|ho⟩
   ·exact Or.inl ho
   ·exact Or.inl (own0 b ho)
   ·exact Or.inr ho.1) (fun _ _ _ hb=>Or.inl hb)
  have tr2:=tr1.app hown1 (Or.inl rfl:livF K x 0) (u:=MemOp.ofEvents 0 a.frame.fn a.frame.place es) (fun op hop=>⟨gops op hop,fun y hy=>by
   rcases hok op hop y hy with⟨a1,a2⟩|a1|a1
   ·exact Or.inl ⟨a1,a2,fun _=>rfl⟩
   ·exact Or.inr (Or.inl (a1.mono fun b hb=>Or.inr ⟨rfl,hb⟩))
   ·exact Or.inr (Or.inr a1)⟩)
  have hseen:∀op,op∈t++MemOp.ofEvents 0 a.frame.fn a.frame.place es→LowT w'.heap.size op.act:=lowT_app h.trs.seen hsz hlow
  have relo:∀ {k r:Nat},RelX K t k r→RelX K (t++MemOp.ofEvents 0 a.frame.fn a.frame.place es) k r:=fun hr=>hr.appOther fun op hop=>by rw[gops op hop];omega
  refine⟨tr2.turn hseen hliv (fun gi b _ hb=>?_) (fun _ _ _ hb=>Or.inl hb),hseen,by rw[Deaf_own,h.trs.deaf0,hdeaf],fun k hk=>?_,fun i hi=>?_,h.trs.norel.app (fun op hop hm=>?_),fun k hk h6=>?_,fun h3=>?_,h.trs.old.app fun op hop=>Or.inl (gops op hop)⟩
  ·rcases hown gi b hb with⟨rfl,ho⟩|⟨ho,_⟩
   ·exact Or.inl (Or.inr ⟨rfl,ho⟩)
   ·exact Or.inl (Or.inl ho)
  ·rw[hj]at hk
   rw[Deaf_other t (g':=0) (by omega) _ gops,(hhs k hk).2.1]
   exact h.trs.deafH k hk
  ·rw[hj]at hi
   rw[Deaf_other t (g':=0) (by omega) _ gops]
   exact h.trs.above i hi
  ·obtain⟨e,he,rfl⟩:=Go.Conc.mem_ofEvents hop
   exact hnr e he (Go.ConcR.loc_of_ofEvent hm)
  ·rw[hj]at hk
   obtain⟨r,hr⟩:=h.trs.rel k hk ((hhs k hk).2.2 h6)
   exact⟨r,relo hr⟩
  ·rw[hj]
   rcases hacq h3 with h3|⟨q,q1,q2,q3,q4⟩
   ·obtain⟨q,q1,q2,q3,q4⟩:=h.trs.acq h3
    have hq:=lt_of_act? q1
    exact⟨q,by rw[act?_old hq];exact q1,by rw[g?_old hq];exact q2,(heard_old hq).2 q3,fun k hk=>let ⟨r,hr,hrq⟩:=q4 k hk; ⟨r,relo hr,hrq⟩⟩
   ·exact⟨q,q1,q2,q3,fun k hk=>let ⟨r,hr,hrq⟩:=q4 k hk; ⟨r,relo hr,hrq⟩⟩
 ·have gset:∀i, i≠0→((gs.map (woken K.P a a' w')).setIfInBounds 0 a')[i]?=(gs[i]?).map (woken K.P a a' w'):=fun i hi=>by
   rw[Array.getElem?_setIfInBounds_ne (fun e=>hi e.symm),Array.getElem?_map]
  refine⟨by simp[h.sit.size,hj],hone,by rw[hj];exact h.sit.jH,fun i gi h0 hi hgi=>?_,fun k hk=>?_,?_⟩
  ·rw[gset i (by omega)]at hgi
   obtain⟨z,hz,rfl⟩:=Option.map_eq_some_iff.1 hgi
   have hqq:=h.sit.old i z h0 hi hz
   rw[woken_quitsD hqq,Deaf_other t (g':=0) (by omega) _ gops,hq]
   exact hqq
  ·rw[hj]at hk
   obtain⟨z,hz,hs⟩:=h.sit.hand k hk
   have hr:Rly K.rd (Lvx K) (x.hs k).O w w':=⟨fun b hb=>hb.elim (erd b) fun ho=>eow (K.nb+k) b (by omega) (Or.inr ⟨k,hk,rfl,ho⟩),fun _=>hlv,hsz⟩
   refine⟨woken K.P a a' w' z,?_,hh k hk z (hs.rely hK hC1 hC2 hr)⟩
   rw[gset _ (by omega),hz]
   rfl
  ·refine⟨a',?_,by rw[hj];exact hms⟩
   have hlt:0<(gs.map (woken K.P a a' w')).size:=by simp[h.sit.size];omega
   exact Array.getElem?_setIfInBounds_self_of_lt hlt
theorem comm_step(h:Cmp K x Shun gs w t)(hj:x'.j=x.j)(hq:x'.q=x.q)
  (hsz:w'.heap.size=w.heap.size) (hfix:w'.tape=w.tape∧w'.os=w.os∧w'.output=w.output)
  (hoth:∀b,b≠K.cO→b≠K.cB→w'.heap[b]?=w.heap[b]?) (hgsz:gs'.size=gs.size) (hold:∀i,0<i→i<K.nb→gs'[i]?=gs[i]?)
  (hhand:∀k,k<x.j→∃z,gs'[K.nb+k]?=some z∧HSit K (x'.hs k) z w') (hhs:∀k,k<x.j→(∀b,(x'.hs k).O b→(x.hs k).O b)∧(x'.hs k).dd=(x.hs k).dd∧((x'.hs k).st≤6→(x.hs k).st≤6))
  (hmain:∃a,gs'[0]?=some a∧MSit K x.j x'.next x'.tk x'.md a w') (hmO:∀b,x'.md.O b→x.md.O b) (hmd:x'.md.d0=x.md.d0) (hm3:x'.md.s≤3→x.md.s≤3)
  (hDn:∀b,x'.Dn b→¬SpF K b∧b<w.heap.size∧∀g, ¬ownF K x' g b)
  (hops:∀op,op∈ops→op.act.touch?=none∧(∀m,op.act ≠ .mark m)∧op.act.low w.heap.size) (hprt:CPrt K x' w'):Cmp K x' Shun gs' w' (t++ops):=by
 have hone:=h.sit.one
 have hown:∀gi b,ownF K x' gi b→ownF K x gi b:=by
  intro gi b hb
  rcases hb with⟨rfl,ho⟩|⟨k,h1,rfl,h2⟩
  ·exact Or.inl ⟨rfl,hmO b ho⟩
  ·rw[hj]at h1
   exact Or.inr ⟨k,h1,rfl,(hhs k h1).1 b h2⟩
 have erd:∀b,K.rd b→w'.heap[b]?=w.heap[b]?:=fun b hb=>hoth b (fun e=>(h.mem.rdS b hb).1 (Or.inr (Or.inr (Or.inl e)))) (fun e=>(h.mem.rdS b hb).1 (Or.inr (Or.inr (Or.inr e))))
 have hliv:∀g,livF K x' g→livF K x g:=fun g hg=>by unfold livF at hg ⊢;rw[hj]at hg;exact hg
 have deaf:∀g,Deaf (t++ops) g=Deaf t g:=fun g=>Go.ConcN.Deaf_still t g ops fun op hop=>⟨(hops op hop).2.1 _,(hops op hop).2.1 _⟩
 have relo:∀ {k r:Nat},RelX K t k r→RelX K (t++ops) k r:=by
  intro k r hr
  refine⟨hr.ge,hr.rel.app fun i hi _ hc=>?_,fun i a hi hg ha=>?_⟩
  ·obtain⟨y,hy,_⟩:=hc
   obtain⟨z,hz,hza⟩:=touch_of hy
   rcases getElem?_append_cases hz with⟨hlt,_⟩|⟨_,hzu⟩
   ·omega
   ·rw[(hops z hzu).1]at hza;cases hza
  ·obtain⟨z,hz,hza⟩:=touch_of ha
   rcases getElem?_append_cases hz with⟨hlt,hz'⟩|⟨_,hzu⟩
   ·exact hr.wg i a hi (by simpa [Trace.g?,hz,hz']using hg) (by rw[touchAt_of hz'];exact hza)
   ·rw[(hops z hzu).1]at hza;cases hza
 have hseen:∀op,op∈t++ops→LowT w'.heap.size op.act:=lowT_app h.trs.seen (by rw[hsz];exact Nat.le_refl _) fun op hop=>LowT.none (hops op hop).1
 have tr:=h.trs.trc.appNone (u:=ops) fun op hop=>(hops op hop).1
 refine⟨⟨fun b hb=>(erd b hb).trans (h.mem.rdx b hb),fun gi b hb=>by rw[hsz];exact h.mem.own gi b (hown gi b hb),⟨fun g1 g2 b h1 h2=>h.mem.apt.two g1 g2 b (hown _ _ h1) (hown _ _ h2),fun gi b hb=>h.mem.apt.ownRd gi b (hown _ _ hb),fun gi b hb=>h.mem.apt.ownSh gi b (hown _ _ hb),h.mem.apt.rdSh⟩,fun gi b hb=>⟨(h.mem.ownS gi b (hown _ _ hb)).1,fun hd=>(hDn b hd).2.2 gi hb⟩,fun b hb=>by rw[hsz];exact h.mem.rdS b hb,fun b hb=>by rw[hsz];exact⟨(hDn b hb).1,(hDn b hb).2.1⟩,⟨hfix.1.trans h.mem.fix.1,hfix.2.1.trans h.mem.fix.2.1,hfix.2.2.trans h.mem.fix.2.2⟩⟩,
  ⟨tr.turn hseen hliv (fun gi b _ hb=>Or.inl (hown gi b hb)) (fun _ _ _ hb=>Or.inl hb),hseen,by rw[deaf,h.trs.deaf0,hmd],fun k hk=>?_,fun i hi=>by rw[hj]at hi;rw[deaf];exact h.trs.above i hi,h.trs.norel.app fun op hop=>(hops op hop).2.1 _,fun k hk h6=>?_,fun h3=>?_,h.trs.old.app fun op hop=>Or.inr (Or.inr (hops op hop).1)⟩,
  ⟨by rw[hgsz,hj];exact h.sit.size,hone,by rw[hj];exact h.sit.jH,fun i g h0 hi hg=>?_,fun k hk=>?_,by rw[hj];exact hmain⟩,hprt⟩
 ·rw[hj]at hk
  rw[deaf,(hhs k hk).2.1]
  exact h.trs.deafH k hk
 ·rw[hj]at hk
  obtain⟨r,hr⟩:=h.trs.rel k hk ((hhs k hk).2.2 h6)
  exact⟨r,relo hr⟩
 ·rw[hj]
  obtain⟨q,q1,q2,q3,q4⟩:=h.trs.acq (hm3 h3)
  have hq:=lt_of_act? q1
  exact⟨q,by rw[act?_old hq];exact q1,by rw[g?_old hq];exact q2,(heard_old hq).2 q3,fun k hk=>let ⟨r,hr,hrq⟩:=q4 k hk; ⟨r,relo hr,hrq⟩⟩
 ·rw[hold i h0 hi]at hg
  rw[deaf,hq]
  exact h.sit.old i g h0 hi hg
 ·rw[hj]at hk
  exact hhand k hk
theorem old_step(hM:MainOk K)(h:Cmp K x Shun gs w t){i n:Nat}{g g':Goroutine}(h0:0<i)(hi:i<K.nb)(hmu:∀e∈es, Event.mute e=true)(hqu:QuitsD K.P n (deafBehind (Deaf t i) es) g') :
  ∃m',(m'=x.md∨(x.md.s=7∧m'={ x.md with s:=8,fu:=0 }))∧∀q',(∀l,l≠i→q' l=x.q l)→q' i=n→CPrt K { x with md:=m',q:=q' } w →
   Cmp K { x with md:=m',q:=q' } Shun ((gs.map (woken K.P g g' w)).setIfInBounds i g') w (t++MemOp.ofEvents i g.frame.fn g.frame.place es):=by
 obtain⟨a,ha,hma⟩:=h.sit.main
 obtain⟨m',hm',hms,_⟩:=hma.wake (y:=g) (y':=g') hM (fun h14=>by
  have e1:=h.prt.cho
  have e2:=h.prt.chb
  rw[h14]at e1 e2
  exact⟨⟨_,_,_,e1⟩,_,_,_,_,_,e2⟩)
 refine⟨m',hm',fun q' hq1 hq2 hprt=>?_⟩
 obtain⟨mO,md0,ms3⟩:=md_O hm'
 have hone:=h.sit.one
 have gops:∀op,op∈MemOp.ofEvents i g.frame.fn g.frame.place es→op.g=i:=fun op hop=>by obtain⟨e,_,rfl⟩:=Go.Conc.mem_ofEvents hop;rfl
 have tops:∀op,op∈MemOp.ofEvents i g.frame.fn g.frame.place es→op.act.touch?=none:=fun op hop=>by obtain⟨e,he,rfl⟩:=Go.Conc.mem_ofEvents hop;exact touch_mute (hmu e he)
 have lops:∀op,op∈MemOp.ofEvents i g.frame.fn g.frame.place es→LowT w.heap.size op.act:=fun op hop=>LowT.none (tops op hop)
 have hown:ownF K { x with md:=m',q:=q' }=ownF K x:=by
  funext gi b
  unfold ownF
  rw[mO]
 have relo:∀ {k r:Nat},RelX K t k r→RelX K (t++MemOp.ofEvents i g.frame.fn g.frame.place es) k r:=fun hr=>hr.appOther fun op hop=>by rw[gops op hop];omega
 have gset:∀l,l≠i→((gs.map (woken K.P g g' w)).setIfInBounds i g')[l]?=(gs[l]?).map (woken K.P g g' w):=fun l hl=>by
  rw[Array.getElem?_setIfInBounds_ne (fun e=>hl e.symm),Array.getElem?_map]
 have hlt:i<(gs.map (woken K.P g g' w)).size:=by simp[h.sit.size];omega
 refine⟨⟨h.mem.rdx,by rw[hown];exact h.mem.own,by rw[hown];exact h.mem.apt,by rw[hown];exact h.mem.ownS,h.mem.rdS,h.mem.dnS,h.mem.fix⟩,
  ⟨by rw[hown];exact h.trs.trc.appNone tops,lowT_app h.trs.seen (Nat.le_refl _) lops,by rw[Deaf_other t (g':=i) (by omega) _ gops,h.trs.deaf0];exact md0.symm,fun k hk=>by rw[Deaf_other t (g':=i) (by omega) _ gops];exact h.trs.deafH k hk,fun l hl=>by have hl:K.nb+x.j≤l:=hl;rw[Deaf_other t (g':=i) (by omega) _ gops];exact h.trs.above l hl,
   h.trs.norel.app fun op hop hm=>?_,fun k hk h6=>let ⟨r,hr⟩:=h.trs.rel k hk h6; ⟨r,relo hr⟩,fun h3=>?_,h.trs.old.app fun op hop=>Or.inr (Or.inr (tops op hop))⟩,
  ⟨by simp[h.sit.size],hone,h.sit.jH,fun l gl l0 hl hgl=>?_,fun k hk=>?_,⟨woken K.P g g' w a,by rw[gset 0 (by omega),ha];rfl,hms⟩⟩,hprt⟩
 ·obtain⟨e,he,rfl⟩:=Go.Conc.mem_ofEvents hop
  have:=Go.ConcR.loc_of_ofEvent hm
  have h2:=hmu e he
  obtain⟨loc,wr,sy⟩:=e
  subst this
  simp[Event.mute]at h2
 ·obtain⟨q,q1,q2,q3,q4⟩:=h.trs.acq (ms3 h3)
  have hq:=lt_of_act? q1
  exact⟨q,by rw[act?_old hq];exact q1,by rw[g?_old hq];exact q2,(heard_old hq).2 q3,fun k hk=>let ⟨r,hr,hrq⟩:=q4 k hk; ⟨r,relo hr,hrq⟩⟩
 ·by_cases e:l=i
  ·subst e
   rw[Array.getElem?_setIfInBounds_self_of_lt hlt]at hgl
   cases hgl
   show QuitsD K.P (q' l) _ _
   rw[hq2,Deaf_own]
   exact hqu
  ·rw[gset l e]at hgl
   obtain⟨z,hz,rfl⟩:=Option.map_eq_some_iff.1 hgl
   have hqq:=h.sit.old l z l0 hl hz
   show QuitsD K.P (q' l) _ _
   rw[woken_quitsD hqq,Deaf_other t (g':=i) (fun c=>e c.symm) _ gops,hq1 l e]
   exact hqq
 ·obtain⟨z,hz,hs⟩:=h.sit.hand k hk
  refine⟨z,?_,hs⟩
  rw[gset _ (by omega),hz]
  have hw:woken K.P g g' w z=z:=by
   have e1:=h.prt.cho
   by_cases h14:x.md.s<14
   ·exact hs.wake (s:=0) (r:=0) (tm:=false) (Or.inr (h.prt.park (Nat.le_of_lt h14) k hk))
   ·rw[decide_eq_false h14]at e1
    exact hs.wake (Or.inl e1)
  rw[Option.map_some,hw]
end
end
section
open Go.Conc
open Go.ConcR (KK WgAt stA smA rd wr mk Payload DC0)
open Go.ConcN (WgLive CTag WD RelBy sumTo upd upd_same upd_ne sumTo_upd sumTo_congr cnt Vc)
section
variable {K:Cfg}{Shun:Loc→Prop}{x x':Gst K.P}{gs:Array Goroutine}{w w':World}{t:Trace}{es:Array Event}{k:Nat}{g g':Goroutine}{d':HD K.P}{sl:Option (Nat×Nat)}
theorem CPrt.cong(hK:HandOk K)(h:CPrt K x w)(hj:x'.j=x.j)(hn:x'.next=x.next∧x'.nt=x.nt∧x'.tk=x.tk∧x'.buf=x.buf∧x'.ca=x.ca∧x'.cl=x.cl∧x'.Dn=x.Dn)(hs:x'.sO=x.sO∧x'.rO=x.rO∧x'.tmO=x.tmO∧x'.sB=x.sB∧x'.rB=x.rB∧x'.tmB=x.tmB)
  (hst:∀k,k<x.j→(46≤(x'.hs k).st↔46≤(x.hs k).st)∧(47≤(x'.hs k).st↔47≤(x.hs k).st)∧(48≤(x'.hs k).st↔48≤(x.hs k).st)∧((x'.hs k).st=20→(x.hs k).st=20)∧(46≤(x.hs k).st→(x'.hs k).i=(x.hs k).i))
  (hm:(x'.md.s<14↔x.md.s<14)∧(x'.md.s<3↔x.md.s<3)) (hwg:WgAt K.ty K.Wg w' x'.st x'.sm) (hmode:Go.ConcN.Mode x'.j (wdF K x') (tgF x'.md) x'.st x'.sm)
  (hcO:w'.heap[K.cO]?=w.heap[K.cO]?) (hcB:w'.heap[K.cB]?=w.heap[K.cB]?) (hT:w'.heap[K.T]?=w.heap[K.T]?) (hD:∀b,x.Dn b→w'.heap[b]?=w.heap[b]?) (hbu:14≤x.md.s→∀k,k<x.j→20≤(x.hs k).st→20≤(x'.hs k).st:=by exact fun _ _ _ e=>e) (hem:x'.md.s=1→x.buf = #[]:=by first|exact h.prt.emp|(intro e;simp at e;done)|(intro e;simp at e;omega)|(intro e;omega)) (h14:x'.md.s=14→x.md.s=14:=by first|exact fun e=>e|(intro e;simp at e;done)|(intro e;simp at e;omega)|(intro e;omega)):CPrt K x' w':=by
 obtain⟨n1,n2,n3,n4,n5,n6,n7⟩:=hn
 obtain⟨s1,s2,s3,s4,s5,s6⟩:=hs
 have e14:decide (x'.md.s<14)=decide (x.md.s<14):=decide_eq_decide.2 hm.1
 have e3:decide (x'.md.s<3)=decide (x.md.s<3):=decide_eq_decide.2 hm.2
 have i48:∀k,k<x.j→48≤(x.hs k).st→(x'.hs k).i=(x.hs k).i:=fun k hk h1=>(hst k hk).2.2.2.2 (by omega)
 have i47:∀k,k<x.j→47≤(x.hs k).st→(x'.hs k).i=(x.hs k).i:=fun k hk h1=>(hst k hk).2.2.2.2 (by omega)
 refine⟨hwg,hmode,?_,?_,?_,by rw[n1];exact h.nN,fun c14 k hk e=>?_,fun y hy=>?_,fun i v hv=>?_,fun k hk h46=>?_,fun k k' hk hk' h1 h2 e=>?_,fun i hi=>?_,?_,fun i hi=>?_,fun i hi=>?_,fun c=>by rw[n4];exact hem c,fun c k hk=>?_⟩
 ·rw[hcO,e14,s1,s2,s3];exact h.cho
 ·rw[hcB,e3,n4,s4,s5,s6];exact h.chb
 ·unfold TalAt;rw[hT,n5,n6];exact h.tal
 ·rw[hj]at hk
  exact h.park (by have:=hm.1;omega) k hk ((hst k hk).2.2.2.1 e)
 ·rw[n4]at hy
  obtain⟨i,v,a1,a2,a3,a4⟩:=h.buf y hy
  exact⟨i,v,a1,by rw[n1];exact a2,hK.gm _ _ _ _ (fun b hb=>hD b (a4 b hb)) a3,by rw[n7];exact a4⟩
 ·rw[n3]at hv
  obtain⟨a3,a4⟩:=h.tk i v hv
  exact⟨hK.gm _ _ _ _ (fun b hb=>hD b (a4 b hb)) a3,by rw[n7];exact a4⟩
 ·rw[hj]at hk
  have h46':=(hst k hk).1.1 h46
  rw[(hst k hk).2.2.2.2 h46',n1]
  exact h.hold k hk h46'
 ·rw[hj]at hk hk'
  have a1:=(hst k hk).1.1 h1
  have a2:=(hst k' hk').1.1 h2
  rw[(hst k hk).2.2.2.2 a1,(hst k' hk').2.2.2.2 a2]at e
  exact h.two k k' hk hk' a1 a2 e
 ·rw[n1]at hi
  rw[n3,n4,hj]
  rcases h.cover i hi with c|c|⟨k,hk,a1,a2⟩
  ·exact Or.inl c
  ·exact Or.inr (Or.inl c)
  ·exact Or.inr (Or.inr ⟨k,hk,(hst k hk).1.2 a1,by rw[(hst k hk).2.2.2.2 a1];exact a2⟩)
 ·rw[n4,hj,n2,n1, ←h.room]
  congr 2
  refine sumTo_congr fun k hk=>?_
  unfold hldF
  by_cases a:46≤(x.hs k).st
  ·rw[if_pos a,if_pos ((hst k hk).1.2 a)]
  ·rw[if_neg a,if_neg fun c=>a ((hst k hk).1.1 c)]
 ·rw[n5,n1,hj,h.ca i hi]
  refine⟨fun⟨a,b⟩=>⟨a,fun k hk c e=>b k hk ((hst k hk).2.2.1.1 c) (by rw[←i48 k hk ((hst k hk).2.2.1.1 c)];exact e)⟩,fun⟨a,b⟩=>⟨a,fun k hk c e=>b k hk ((hst k hk).2.2.1.2 c) (by rw[i48 k hk c];exact e)⟩⟩
 ·rw[n6,n1,hj,h.cl i hi]
  refine⟨fun⟨l,a,b⟩=>⟨l,a,fun k hk c e=>b k hk ((hst k hk).2.1.1 c) (by rw[←i47 k hk ((hst k hk).2.1.1 c)];exact e)⟩,fun⟨l,a,b⟩=>⟨l,a,fun k hk c e=>b k hk ((hst k hk).2.1.2 c) (by rw[i47 k hk c];exact e)⟩⟩
 ·rw[hj]at hk
  have c2:14≤x.md.s:=by have:=hm.1;omega
  exact hbu c2 k hk (h.busy c2 k hk)
theorem md_14 {m m':MD}(h:m'=m∨(m.s=7∧m'={ m with s:=8,fu:=0 })):m'.s=14→m.s=14:=by
 rcases h with rfl|⟨_,rfl⟩
 ·exact id
 ·intro e;simp at e
theorem md_1 {m m':MD}(h:m'=m∨(m.s=7∧m'={ m with s:=8,fu:=0 })):m'.s=1→m.s=1:=by
 rcases h with rfl|⟨_,rfl⟩
 ·exact id
 ·intro e;simp at e
theorem md_two {m m':MD}(h:m'=m∨(m.s=7∧m'={ m with s:=8,fu:=0 })):(m'.s<14↔m.s<14)∧(m'.s<3↔m.s<3):=by
 rcases h with rfl|⟨h7,rfl⟩
 ·exact⟨Iff.rfl,Iff.rfl⟩
 ·constructor<;>constructor<;>intro _<;>(try simp at *)<;>omega
theorem tg_two {m m':MD}(h:m'=m∨(m.s=7∧m'={ m with s:=8,fu:=0 })):tgF m'=tgF m∨(tgF m = .blk∧tgF m' = .w3):=by
 rcases h with rfl|⟨h7,rfl⟩
 ·exact Or.inl rfl
 ·exact Or.inr ⟨by simp[tgF,h7],by simp[tgF]⟩
theorem tg_ret {m:MD}(h:m.s≤3):tgF m = .ret:=by
 unfold tgF
 rw[if_neg (by omega),if_neg (by omega),if_neg (by omega),if_neg (by omega),if_neg (by omega),if_neg (by omega),if_neg (by omega),if_neg (by omega),if_neg (by omega),if_neg (by omega),if_neg (by omega),if_neg (by omega),if_neg (by omega)]
theorem rk_two {H v v':Nat}{m m':MD}(h:m'=m∨(m.s=7∧m'={ m with s:=8,fu:=0 }))(hv:v'≤v):rkF H v' m'≤rkF H v m:=by
 rcases h with rfl|⟨h7,rfl⟩
 ·unfold rkF
  repeat' split
  all_goals omega
 ·simp[rkF,h7]
def wdD {P:Program}(d:HD P):WD:=⟨if 14≤d.st then 7 else d.st,d.fu,d.dd⟩
theorem wd_put {m:MD}{ca cl:Nat→Bool}{st sm:Int}(l:Nat):wdF K (x.put k d' m ca cl st sm) l=wdD (upd x.hs k d' l):=rfl
theorem vc_put {m:MD}{ca cl:Nat→Bool}{st sm:Int}(hk:k<x.j):Vc x.j (wdF K (x.put k d' m ca cl st sm))+cnt (wdD (x.hs k))=Vc x.j (wdF K x)+cnt (wdD d'):=sumTo_upd x.hs d' (fun d=>cnt (wdD d)) hk
theorem mea_fuel {m:MD}{ca cl:Nat→Bool}{st sm:Int}(hk:k<x.j)(hH:x.j≤K.H)(hm:m=x.md∨(x.md.s=7∧m={ x.md with s:=8, fu:=0 }))(hst:d'.st=(x.hs k).st)(hlt:hmR K.P (d'.la, d'.fu) ((x.hs k).la, (x.hs k).fu)) :
  meR K.P K.H (meaF K (x.put k d' m ca cl st sm)) (meaF K x):=by
 have e1:=sumTo_upd x.hs d' (fun d=>d.st) hk
 have e2:=vc_put (d':=d') (m:=m) (ca:=ca) (cl:=cl) (st:=st) (sm:=sm) hk
 have ec:cnt (wdD d')=cnt (wdD (x.hs k)):=by unfold cnt wdD;dsimp only;rw[hst]
 have ev:Vc x.j (wdF K (x.put k d' m ca cl st sm))=Vc x.j (wdF K x):=by omega
 have er:rkF K.H (Vc x.j (wdF K x)) m=rkF K.H (Vc x.j (wdF K x)) x.md:=by
  rcases hm with rfl|⟨h7,rfl⟩
  ·rfl
  ·simp[rkF,h7]
 have ea:(meaF K (x.put k d' m ca cl st sm)).1=(meaF K x).1:=by
  show 100*(K.N-x.next)+10*(K.N-x.nt)+sumTo K.nb x.q+sumTo x.j (fun a=>(upd x.hs k d' a).st)+rkF K.H (Vc x.j (wdF K (x.put k d' m ca cl st sm))) m=_
  rw[ev,er]
  show _=100*(K.N-x.next)+10*(K.N-x.nt)+sumTo K.nb x.q+sumTo x.j (fun a=>(x.hs a).st)+rkF K.H (Vc x.j (wdF K x)) x.md
  omega
 unfold meR
 rw[show meaF K (x.put k d' m ca cl st sm)=((meaF K x).1,(meaF K (x.put k d' m ca cl st sm)).2)from Prod.ext ea rfl]
 refine Prod.Lex.right _ (Prod.Lex.left _ _ ⟨k,by omega,?_,fun l hl=>?_⟩)
 ·show hmR K.P ((upd x.hs k d' k).la,(upd x.hs k d' k).fu) _
  rw[upd_same]
  exact hlt
 ·show((upd x.hs k d' l).la,(upd x.hs k d' l).fu)=((x.hs l).la,(x.hs l).fu)
  rw[upd_ne x.hs d' hl]
theorem mea_stage {m:MD}{ca cl:Nat→Bool}{st sm:Int}(hk:k<x.j)(hm:m=x.md∨(x.md.s=7∧m={ x.md with s:=8, fu:=0 }))(hst:d'.st<(x.hs k).st)(hc:cnt (wdD d')≤cnt (wdD (x.hs k))) :
  meR K.P K.H (meaF K (x.put k d' m ca cl st sm)) (meaF K x):=by
 have e1:=sumTo_upd x.hs d' (fun d=>d.st) hk
 have e2:=vc_put (d':=d') (m:=m) (ca:=ca) (cl:=cl) (st:=st) (sm:=sm) hk
 have er:=rk_two (H:=K.H) hm (show Vc x.j (wdF K (x.put k d' m ca cl st sm))≤Vc x.j (wdF K x) by omega)
 refine Prod.Lex.left _ _ ?_
 show 100*(K.N-x.next)+10*(K.N-x.nt)+sumTo K.nb x.q+sumTo x.j (fun a=>(upd x.hs k d' a).st)+rkF K.H (Vc x.j (wdF K (x.put k d' m ca cl st sm))) m<100*(K.N-x.next)+10*(K.N-x.nt)+sumTo K.nb x.q+sumTo x.j (fun a=>(x.hs a).st)+rkF K.H (Vc x.j (wdF K x)) x.md
 omega
def Res(K:Cfg)(Shun:Loc→Prop)(x:Gst K.P)(t:Trace)(res:Stepped×Trace):Prop:=∃gs' w' sl' x',res.1 = .next (crowd gs' w' sl')∧Cmp K x' Shun gs' w' (t++res.2)∧meR K.P K.H (meaF K x') (meaF K x)
theorem evT_ok {O:Nat→Prop}{n:Nat}{fn:FuncId}{pos:String}{gi:Nat}(h:∀e, e∈es→EvT K.rd O n e):(∀op, op∈MemOp.ofEvents gi fn pos es→∀y, op.act.touch?=some y→InB O y.loc∨(InB K.rd y.loc∧y.write=false))∧(∀op, op∈MemOp.ofEvents gi fn pos es→op.act.low n)∧
  (∀d,deafBehind d es=d)∧∀e∈es, ∀a,e.loc ≠ .mark (.release a):=by
 refine⟨fun op hop y hy=>?_,fun op hop=>?_,fun d=>deafBehind_still (fun e he=>?_) d,fun e he a hl=>?_⟩
 ·obtain⟨e,he,rfl⟩:=Go.Conc.mem_ofEvents hop
  have hv:=h e he
  obtain⟨loc,wrt,sy⟩:=e
  cases loc with
  | cell a=>
   obtain⟨h1,h2,h3⟩:=hv
   simp only[ofEvent_cell0,MemAct.touch?,Option.some.injEq]at hy
   subst hy
   rcases h3 with h3|⟨h3,h4⟩
   ·exact Or.inl ⟨a.block,rfl,h3⟩
   ·exact Or.inr ⟨⟨a.block,rfl,h3⟩,h4⟩
  | obj r=>
   obtain⟨h1,h2,h3,h4⟩:=hv
   have h1:sy=false:=h1
   have h2:wrt=false:=h2
   subst h1 h2
   simp only[MemAct.ofEvent,MemAct.touch?,Option.some.injEq]at hy
   subst hy
   rcases h4 with h4|h4
   ·exact Or.inl ⟨r,rfl,h4⟩
   ·exact Or.inr ⟨⟨r,rfl,h4⟩,rfl⟩
  | mark m=>
   cases m<;>first|exact hv.elim|(simp[MemAct.ofEvent,MemAct.touch?]at hy)
  | _=>exact hv.elim
 ·obtain⟨e,he,rfl⟩:=Go.Conc.mem_ofEvents hop
  have hv:=h e he
  obtain⟨loc,wrt,sy⟩:=e
  cases loc with
  | cell a=>exact hv.2.1
  | obj r=>
   obtain⟨h1,h2,h3,h4⟩:=hv
   have h1:sy=false:=h1
   have h2:wrt=false:=h2
   subst h1 h2
   exact h3
  | mark m=>cases m<;>first|exact hv.elim|trivial
  | _=>exact hv.elim
 ·have hv:=h e he
  obtain⟨loc,wrt,sy⟩:=e
  cases loc with
  | mark m=>cases m<;>first|exact hv.elim|(constructor<;>simp)
  | _=>constructor<;>simp
 ·have hv:=h e he
  obtain⟨loc,wrt,sy⟩:=e
  have hl:loc = .mark (.release a):=hl
  subst hl
  exact hv
theorem hand_plain(hK:HandOk K)(hM:MainOk K)(hC1:K.rd K.C1)(hC2:K.rd K.C2)(h:Cmp K x Shun gs w t)(hk:k<x.j)(hg:gs[K.nb+k]?=some g)(hgo:stepG K.P false g w = .go g' w' es)(hS:Stp K.rd (x.hs k).O w w' es)
  (hO:∀b,d'.O b→Grw (x.hs k).O w w' b) (hsit:HSit K d' g' w') (hdd:d'.dd=(x.hs k).dd) (h14:14≤(x.hs k).st) (h14':14≤d'.st)
  (hth:(46≤d'.st↔46≤(x.hs k).st)∧(47≤d'.st↔47≤(x.hs k).st)∧(48≤d'.st↔48≤(x.hs k).st)∧(d'.st=20→(x.hs k).st=20)∧(46≤(x.hs k).st→d'.i=(x.hs k).i))
  (hlt:(d'.st=(x.hs k).st∧hmR K.P (d'.la,d'.fu) ((x.hs k).la,(x.hs k).fu))∨d'.st<(x.hs k).st) (hge:20≤(x.hs k).st→20≤d'.st:=by first|exact fun e=>e|(intro e;exact e)|(intro _;simp;done)|omega):Res K Shun x t (runT K.P (crowd gs w sl) (K.nb+k)):=by
 obtain⟨a1,a2,a3,a4⟩:=evT_ok (gi:=K.nb+k) (fn:=g.frame.fn) (pos:=g.frame.place) hS.ev
 have hone:=h.sit.one
 have ownk:∀b,(x.hs k).O b→ownF K x (K.nb+k) b:=fun b hb=>Or.inr ⟨k,hk,rfl,hb⟩
 have nsp:∀b,SpF K b→¬(x.hs k).O b:=fun b hb ho=>(h.mem.ownS _ b (ownk b ho)).1 hb
 obtain⟨l1,l2,l3,l4⟩:=h.prt.lts
 have eW:w'.heap[K.Wg]?=w.heap[K.Wg]?:=hS.other _ l1 (nsp _ (Or.inl rfl))
 have eT:w'.heap[K.T]?=w.heap[K.T]?:=hS.other _ l2 (nsp _ (Or.inr (Or.inl rfl)))
 have eO:w'.heap[K.cO]?=w.heap[K.cO]?:=hS.other _ l3 (nsp _ (Or.inr (Or.inr (Or.inl rfl))))
 have eB:w'.heap[K.cB]?=w.heap[K.cB]?:=hS.other _ l4 (nsp _ (Or.inr (Or.inr (Or.inr rfl))))
 have eD:∀b,x.Dn b→w'.heap[b]?=w.heap[b]?:=fun b hb=>hS.other b (h.mem.dnS b hb).2 fun ho=>(h.mem.ownS _ b (ownk b ho)).2 hb
 have hwg:WgAt K.ty K.Wg w' x.st x.sm:=eW.trans h.prt.wg
 have h7:6<(x.hs k).st:=by omega
 obtain⟨m',hm',_,hres⟩:=hand_step (es:=es) (g':=g') (d':=d') hK hM hC1 hC2 h hk hg hS.size ⟨hS.tape,hS.os,hS.out⟩ (fun b hb ho _=>hS.other b hb ho) ⟨_,_,hwg⟩ hO hsit
  (fun op hop y hy=>Or.inr (a1 op hop y hy)) (fun op hop=>LowT.of_low (a2 op hop)) (by rw[a3];exact hdd.symm) (fun e he=>a4 e he _) (fun h6=>absurd h6 (by omega)) (fun _ h6=>absurd h6 (by omega)) (fun h3=>by
   obtain⟨q,_,_,_,hq⟩:=h.trs.acq h3
   exfalso
   have hmd:=h.prt.mode
   have hne:=Go.ConcN.Mode.not_ret hmd hk (by simp[wdF,h14])
   exact hne (tg_ret h3))
 have hmode:Go.ConcN.Mode x.j (wdF K (x.put k d' m' x.ca x.cl x.st x.sm)) (tgF m') x.st x.sm:=by
  refine Go.ConcN.Mode.retag ?_ (tg_two hm')
  refine Go.ConcN.Mode.congr (fun l hl=>?_) h.prt.mode
  rw[wd_put]
  by_cases e:l=k
  ·subst e
   rw[upd_same]
   simp[wdD,wdF,h14,h14']
  ·rw[upd_ne x.hs d' e]
   rfl
 have hprt:CPrt K (x.put k d' m' x.ca x.cl x.st x.sm) w':=by
  refine h.prt.cong (x':=x.put k d' m' x.ca x.cl x.st x.sm) hK rfl ⟨rfl,rfl,rfl,rfl,rfl,rfl,rfl⟩ ⟨rfl,rfl,rfl,rfl,rfl,rfl⟩ (fun l hl=>?_) (md_two hm') hwg hmode eO eB eT eD (fun _ l _ c=>by
   show 20≤(upd x.hs k d' l).st
   by_cases e:l=k
   ·subst e;rw[upd_same];exact hge c
   ·rw[upd_ne x.hs d' e];exact c) (fun c=>h.prt.emp (md_1 hm' c)) (md_14 hm')
  show(46≤(upd x.hs k d' l).st↔_)∧(47≤(upd x.hs k d' l).st↔_)∧(48≤(upd x.hs k d' l).st↔_)∧((upd x.hs k d' l).st=20→_)∧(_→(upd x.hs k d' l).i=_)
  by_cases e:l=k
  ·subst e
   rw[upd_same]
   exact hth
  ·rw[upd_ne x.hs d' e]
   exact⟨Iff.rfl,Iff.rfl,Iff.rfl,id,fun _=>rfl⟩
 have hrun:=runT_crowd_go (P:=K.P) (sl:=sl) (i:=K.nb+k) hg (by rw[show((K.nb+k == 0)=false) by simp;omega];exact hgo)
 refine⟨_,w',sl,_,by rw[hrun],by rw[hrun];exact hres _ _ _ _ hprt,?_⟩
 rcases hlt with⟨e,hl⟩|hl
 ·exact mea_fuel hk h.sit.jH hm' e hl
 ·exact mea_stage hk hm' hl (by simp[wdD,cnt,h14,h14'])
end
end
section
open Go.Conc
open Go.ConcR (KK WgAt stA smA rd wr mk Payload DC0)
open Go.ConcN (WgLive CTag WD RelBy sumTo upd upd_same upd_ne)
section
variable {K:Cfg}{Shun:Loc→Prop}{x:Gst K.P}{gs:Array Goroutine}{w w':World}{t:Trace}{es:Array Event}{k:Nat}{g g':Goroutine}{sl:Option (Nat×Nat)}
theorem EvT.mono {Q Q' O O':Nat→Prop}{n:Nat}{e:Event}(hQ:∀b,Q b→Q' b)(hO:∀b,O b→O' b)(h:EvT Q O n e):EvT Q' O' n e:=by
 obtain⟨loc,wrt,sy⟩:=e
 cases loc with
 | cell a=>exact⟨h.1,h.2.1,h.2.2.imp (hO _) fun y=>⟨hQ _ y.1,y.2⟩⟩
 | obj r=>exact⟨h.1,h.2.1,h.2.2.1,h.2.2.2.imp (hO _) (hQ _)⟩
 | mark m=>exact h
 | _=>exact h
theorem hand_quiet(hK:HandOk K)(hM:MainOk K)(hC1:K.rd K.C1)(hC2:K.rd K.C2)(h:Cmp K x Shun gs w t)(hk:k<x.j)(hg:gs[K.nb+k]?=some g){m:Nat}(hfu:(x.hs k).fu=m+1)(hgo:stepG K.P false g w = .go g' w' es)(hS:Stp K.rd (x.hs k).O w w' es)
  (hsit:HSit K { x.hs k with fu:=m,O:=Grw (x.hs k).O w w' } g' w') (h14:14≤(x.hs k).st):Res K Shun x t (runT K.P (crowd gs w sl) (K.nb+k)):=
 hand_plain (d':={ x.hs k with fu:=m,O:=Grw (x.hs k).O w w' }) hK hM hC1 hC2 h hk hg hgo hS (fun _ hb=>hb) hsit rfl h14 h14 ⟨Iff.rfl,Iff.rfl,Iff.rfl,id,fun _=>rfl⟩ (Or.inl ⟨rfl,Prod.Lex.right _ (by rw[hfu];exact Nat.lt_succ_self m)⟩)
theorem hand_in {i:Nat}{la:Option (LAc K.P)}{O:Nat→Prop}(hK:HandOk K)(hC1:K.rd K.C1)(hin:InM K i la O g w)(hlv:Lvx K w)(hrd:Rdx K w)(hOw:∀b, O b→b<w.heap.size)(hrw:∀b, K.rd b→b<w.heap.size∧¬O b)(hWg:K.Wg<w.heap.size∧¬O K.Wg) :
  ∃g' w' es,stepG K.P false g w = .go g' w' es∧Stp K.rd O w w' es∧((∃la',laR K.P la' la∧InM K i la' (Grw O w w') g' w')∨∃v n,HH K (AtAd1 K i v) n (Grw O w w') g' w'):=by
 obtain⟨fr,cs,V,f,B,c,bs,O1,Post,y,e1,e2,rfl,a1,a2,a3,a4,a5,a6,a7,a8,a10,a9⟩:=hin
 have hO1w:∀b,O1 b→b<w.heap.size:=fun b hb=>hOw b ((a7 b).2 (Or.inl hb))
 by_cases hb:Back fr cs V
 ·have htold:=a3.told a1 a2 hb
  obtain⟨hcs,v,hlv2,hpost⟩:=htold
  subst hcs
  obtain⟨W1,es,hst,s1,s2,s3,s4⟩:=sim_told (main:=false) (bs:=bs) a2 a4 hlv2 c
  have hsz:W1.heap.size=w.heap.size:=by
   have:=s2.own
   rcases Nat.lt_or_ge w.heap.size W1.heap.size with hl|hl
   ·have:=(s2.own w.heap.size).2 (Or.inr ⟨Nat.le_refl _,hl⟩)
    have hh:=hOw _ ((a7 _).2 (Or.inr this))
    omega
   ·exact Nat.le_antisymm hl s2.size
  have hS:Stp K.rd O w W1 es:=⟨s2.tape,s2.os,s2.out,s2.size,fun b hl ho=>s2.other b hl fun c=>ho ((a7 b).2 (Or.inr c)),fun e he=>(s4 e he).mono (hK.reads i) fun b hb=>Or.inl ((a7 b).2 (Or.inr hb))⟩
  have hg6:=a6 f V W1 v (fun b hb=>(a10 b hb).2) s1 a2.blk s3 hpost
  have hWgs:W1.heap[K.Wg]?=w.heap[K.Wg]?:=hS.other _ hWg.1 hWg.2
  have hlv1:Lvx K W1:=by
   obtain⟨st,sm,hh⟩:=hlv
   exact⟨st,sm,hWgs.trans hh⟩
  have hrd1:Rdx K W1:=fun b hb=>(hS.other b (hrw b hb).1 (hrw b hb).2).trans (hrd b hb)
  obtain⟨n,hn⟩:=a9 (Grw O w W1) W1 (rnV f v) (fun b hb=>⟨Or.inl ((a7 b).2 (Or.inl hb)),s2.other b (hO1w b hb) fun c=>(a10 b c).1 hb⟩) hlv1 hrd1 hg6.1 (fun b hb=>Or.inl ((a7 b).2 (Or.inr (hg6.2 b hb))))
  exact⟨_,W1,es,hst,hS,Or.inr ⟨_,n,hn⟩⟩
 ·have hno:¬Told K.P Post fr cs V:=fun c=>hb (Told.back fr cs V c)
  obtain⟨fr1,cs1,V1,W1,es,f1,hst,k1,k2,k3,k4,k5,k6⟩:=sim_step (main:=false) (bs:=c::bs) a1 (fun fr cs V T d hh=>told_rtp (fun v V T d=>a5 v V T d) fr cs V T d hh) a2 a3 hno a4
  have hS:Stp K.rd O w W1 es:=⟨k5.tape,k5.os,k5.out,k5.size,fun b hl ho=>k5.other b hl fun c=>ho ((a7 b).2 (Or.inr c)),fun e he=>(k6 e he).mono (hK.reads i) fun b hb=>by
   rcases(k5.own b).1 hb with hb|hb
   ·exact Or.inl ((a7 b).2 (Or.inr hb))
   ·exact Or.inr hb⟩
  have hacc:Acc (Nxt K.P [cDead K.P] Back) (fr1,cs1,V1):=k2.acc' a1 k1
  refine⟨_,W1,es,hst,hS,Or.inl ⟨some ⟨(fr1,cs1,V1),hacc⟩,⟨⟨(fr1,cs1,V1),hacc⟩,y,rfl,e1,?_⟩,fr1,cs1,V1,f1,B,c,bs,O1,Post,⟨(fr1,cs1,V1),hacc⟩,rfl,rfl,rfl,a1,k1,k2,k4,a5,a6,fun b=>?_,a8,fun b hb=>?_,a9.rely fun b hb=>k5.other b (hO1w b hb) fun c=>(a10 b c).1 hb⟩⟩
  ·rw[e2]
   exact⟨hb,k3.2⟩
  ·unfold Grw
   rw[a7 b,k5.own b]
   constructor
   ·rintro((h1|h1)|h1)
    ·exact Or.inl h1
    ·exact Or.inr (Or.inl h1)
    ·exact Or.inr (Or.inr h1)
   ·rintro(h1|h1|h1)
    ·exact Or.inl (Or.inl h1)
    ·exact Or.inl (Or.inr h1)
    ·exact Or.inr h1
  ·rcases(k5.own b).1 hb with hb|hb
   ·exact a10 b hb
   ·have h1:=(hrw _ hC1).1
    exact⟨fun ho=>by have:=hO1w b ho;omega,by omega⟩
theorem hand_begin {i:Nat}{O:Nat→Prop}(hK:HandOk K)(hi:i<K.N)(hst:AtMnd K i O g w)(hlv:Lvx K w)(hrd:Rdx K w)(hOw:∀b,O b→b<w.heap.size):∃la,InM K i la O g w:=by
 obtain⟨c,cs,rfl,hT⟩:=hst
 obtain⟨V,Post,hm⟩:=hK.mend i w hi hlv hrd
 have s1:=hm.sim
 have s2:=hm.blk
 have hP:Prg K.P (K.Qm i) K.F w.heap.size:=hm.prg
 have hb2:Blk (Sto (K.Qm i) w.heap.size V.heap.size) K.F V:=s2
 obtain⟨ht,hk⟩:=tot_of_calls (Post:=Post) hP hK.fn (V:=V) (by rw[hm.size];exact hm.args) hb2 (by rw[hm.size];exact Nat.le_refl _) hm.cf hm.calls
 have hacc:=ht.acc' hP hk
 have e:rnF id (Frame.enter K.P K.mf (K.ma i) .normal)=Frame.enter K.P K.mf (K.ma i) .normal:=by
  have:=enter_rn (P:=K.P) (f:=id) K.mf (K.ma i)
  rw[←this]
  congr 1
  exact(Array.map_congr_left fun v hv=>rnV_id (hm.args v hv)).trans (Array.map_id' _)
 refine⟨some ⟨_,hacc⟩,_,[],V,id,w.heap.size,c,cs,O,Post,⟨_,hacc⟩,rfl,rfl,by rw[e];rfl,hP,hk,ht,s1,hm.post,hm.told,fun b=>⟨Or.inl,fun y=>y.resolve_right (own_start hm.size b)⟩,hOw,fun b hb=>absurd hb (own_start hm.size b),hT⟩
end
end
section
open Go.Conc
open Go.ConcR (KK WgAt stA smA rd wr mk Payload DC0)
open Go.ConcN (WgLive CTag WD RelBy sumTo upd upd_same upd_ne sumTo_congr cnt)
theorem sum_put {N i c:Nat}{f f':Nat→Nat}(hi:i<N)(h0:f i=0)(h1:f' i=c)(h2:∀l,l≠i→f' l=f l):sumTo N f'=sumTo N f+c:=by
 induction N with
 | zero=>omega
 | succ n ih=>
  by_cases e:i=n
  ·subst e
   show sumTo i f'+f' i=sumTo i f+f i+c
   rw[h1,h0,sumTo_congr (g:=f) fun l hl=>h2 l (by omega)]
   omega
  ·show sumTo n f'+f' n=sumTo n f+f n+c
   rw[ih (by omega),h2 n (fun c=>e c.symm)]
   omega
theorem sum_le {N:Nat}{f f':Nat→Nat}(h:∀l,l<N→f l≤f' l):sumTo N f≤sumTo N f':=by
 induction N with
 | zero=>exact Nat.le_refl _
 | succ n ih=>
  have:=ih fun l hl=>h l (by omega)
  have:=h n (by omega)
  show sumTo n f+f n≤sumTo n f'+f' n
  omega
section
variable {K:Cfg}{Shun:Loc→Prop}{x:Gst K.P}{gs:Array Goroutine}{w w':World}{t:Trace}{es:Array Event}{k:Nat}{g g':Goroutine}{sl:Option (Nat×Nat)}{d':HD K.P}
theorem heap_set(w:World)(a:Addr)(v:Value){b:Nat}(h:b≠a.block):(w.setCell a v).heap[b]?=w.heap[b]?:=by
 rw[heap_setCell,if_neg h]
theorem tal_set0 {x0 y0 z:Int}(h:TalAt K w x0 y0):TalAt K (w.setCell ⟨K.T,0,none⟩ (.int .i64 z)) z y0:=by
 unfold TalAt at h ⊢
 rw[heap_setCell,if_pos rfl,h]
 rfl
theorem tal_set1 {x0 y0 z:Int}(h:TalAt K w x0 y0):TalAt K (w.setCell ⟨K.T,1,none⟩ (.int .i64 z)) x0 z:=by
 unfold TalAt at h ⊢
 rw[heap_setCell,if_pos rfl,h]
 rfl
theorem hand_count(hK:HandOk K)(hM:MainOk K)(hC1:K.rd K.C1)(hC2:K.rd K.C2)(h:Cmp K x Shun gs w t)(hk:k<x.j)(hg:gs[K.nb+k]?=some g){o:Nat}{z:Int}(hgo:stepG K.P false g w = .go g' (w.setCell ⟨K.T, o, none⟩ (.int .i64 z)) #[rd ⟨K.T, o, none⟩, wr ⟨K.T, o, none⟩])
  (hsit:HSit K d' g' (w.setCell ⟨K.T,o,none⟩ (.int .i64 z))) (hO:d'.O=(x.hs k).O) (hdd:d'.dd=(x.hs k).dd) (hi:d'.i=(x.hs k).i) (h46:46≤d'.st) (hlt:d'.st<(x.hs k).st) (ca cl:Nat→Bool)
  (htal:TalAt K (w.setCell ⟨K.T,o,none⟩ (.int .i64 z)) (sumTo K.N fun i=>if ca i then K.er i else 0:Nat) (sumTo K.N fun i=>if cl i then 1 else 0:Nat))
  (hca:∀i,i<K.N→(ca i=true↔i<x.next∧∀l,l<x.j→48≤(upd x.hs k d' l).st→(x.hs l).i≠i))
  (hcl:∀i,i<K.N→(cl i=true↔K.ls i=true∧i<x.next∧∀l,l<x.j→47≤(upd x.hs k d' l).st→(x.hs l).i≠i)):Res K Shun x t (runT K.P (crowd gs w sl) (K.nb+k)):=by
 have hone:=h.sit.one
 obtain⟨l1,l2,l3,l4⟩:=h.prt.lts
 obtain⟨n1,n2⟩:=h.prt.nsh
 have hTW:K.Wg≠K.T:=by
  intro e
  have h1:=h.prt.wg
  have h2:w.heap[K.T]?=some _:=h.prt.tal
  have h1:w.heap[K.Wg]?=some (.cells #[.int .u64 x.st,.int .u32 x.sm] K.ty):=h1
  rw[e,h2]at h1
  simp at h1
 have ownk:∀b,(x.hs k).O b→ownF K x (K.nb+k) b:=fun b hb=>Or.inr ⟨k,hk,rfl,hb⟩
 have eO:(w.setCell ⟨K.T,o,none⟩ (.int .i64 z)).heap[K.cO]?=w.heap[K.cO]?:=heap_set w _ _ fun e=>n1 (Or.inr e)
 have eB:(w.setCell ⟨K.T,o,none⟩ (.int .i64 z)).heap[K.cB]?=w.heap[K.cB]?:=heap_set w _ _ fun e=>n2 (Or.inr e)
 have eW:(w.setCell ⟨K.T,o,none⟩ (.int .i64 z)).heap[K.Wg]?=w.heap[K.Wg]?:=heap_set w _ _ hTW
 have eD:∀b,x.Dn b→(w.setCell ⟨K.T,o,none⟩ (.int .i64 z)).heap[b]?=w.heap[b]?:=fun b hb=>heap_set w _ _ fun e=>(h.mem.dnS b hb).1 (Or.inr (Or.inl e))
 have hwg:WgAt K.ty K.Wg (w.setCell ⟨K.T,o,none⟩ (.int .i64 z)) x.st x.sm:=eW.trans h.prt.wg
 have hsz:(w.setCell ⟨K.T,o,none⟩ (.int .i64 z)).heap.size=w.heap.size:=size_setCell ..
 have hev:∀op,op∈MemOp.ofEvents (K.nb+k) g.frame.fn g.frame.place #[rd ⟨K.T,o,none⟩,wr ⟨K.T,o,none⟩]→∃b,op.act = .access ⟨.cell ⟨K.T,o,none⟩,b,true⟩:=by
  intro op hop
  obtain⟨e,he,rfl⟩:=Go.Conc.mem_ofEvents hop
  simp only[List.mem_toArray,List.mem_cons,List.not_mem_nil,or_false]at he
  rcases he with rfl|rfl
  ·exact⟨_,rfl⟩
  ·exact⟨_,rfl⟩
 obtain⟨m',hm',_,hres⟩:=hand_step (w':=w.setCell ⟨K.T,o,none⟩ (.int .i64 z)) (es := #[rd ⟨K.T,o,none⟩,wr ⟨K.T,o,none⟩]) (g':=g') (d':=d') hK hM hC1 hC2 h hk hg (by rw[hsz];exact Nat.le_refl _) ⟨rfl,rfl,rfl⟩ (fun b _ _ hs=>heap_set w _ _ fun e=>hs (Or.inr e)) ⟨_,_,hwg⟩ (fun b hb=>Or.inl (hO▸hb)) hsit
  (fun op hop y hy=>by
   obtain⟨b,e⟩:=hev op hop
   rw[e]at hy
   simp only[MemAct.touch?,Option.some.injEq]at hy
   subst hy
   exact Or.inl ⟨⟨K.T,rfl,Or.inr rfl⟩,by simp,by simp⟩)
  (fun op hop=>by
   obtain⟨b,e⟩:=hev op hop
   rw[e,hsz]
   exact LowT.of_low l2)
  (by rw[hdd];rfl) (fun e he=>by
   simp only[List.mem_toArray,List.mem_cons,List.not_mem_nil,or_false]at he
   rcases he with rfl|rfl<;>simp[rd,wr]) (fun h6=>absurd h6 (by omega)) (fun _ h6=>absurd h6 (by omega)) (fun h3=>by
   exfalso
   exact Go.ConcN.Mode.not_ret h.prt.mode hk (by simp[wdF,show 14≤(x.hs k).st by omega]) (tg_ret h3))
 have hst:∀l,(46≤(upd x.hs k d' l).st↔46≤(x.hs l).st)∧((upd x.hs k d' l).st=20→(x.hs l).st=20)∧(upd x.hs k d' l).i=(x.hs l).i:=by
  intro l
  by_cases e:l=k
  ·subst e
   rw[upd_same]
   exact⟨⟨fun _=>by omega,fun _=>h46⟩,fun c=>by omega,hi⟩
  ·rw[upd_ne x.hs d' e]
   exact⟨Iff.rfl,id,rfl⟩
 have hmode:Go.ConcN.Mode x.j (wdF K (x.put k d' m' ca cl x.st x.sm)) (tgF m') x.st x.sm:=by
  refine Go.ConcN.Mode.retag ?_ (tg_two hm')
  refine Go.ConcN.Mode.congr (fun l hl=>?_) h.prt.mode
  rw[wd_put]
  by_cases e:l=k
  ·subst e
   rw[upd_same]
   simp[wdD,wdF,show 14≤(x.hs l).st by omega,show 14≤d'.st by omega]
  ·rw[upd_ne x.hs d' e]
   rfl
 have hprt:CPrt K (x.put k d' m' ca cl x.st x.sm) (w.setCell ⟨K.T,o,none⟩ (.int .i64 z)):=by
  obtain⟨t14,t3⟩:=md_two hm'
  have t14b:14≤(x.put k d' m' ca cl x.st x.sm).md.s→14≤x.md.s:=fun c=>by have c:14≤m'.s:=c;omega
  refine⟨hwg,hmode,?_,?_,htal,h.prt.nN,fun h14 l hl e=>h.prt.park (by have:=md_14 hm';have h14:m'.s≤14:=h14;omega) l hl ((hst l).2.1 e),fun y hy=>?_,fun i v hv=>?_,fun l hl c=>?_,fun l l' hl hl' c c' e=>?_,fun i hi'=>?_,?_,fun i hi'=>?_,fun i hi'=>?_,fun c=>h.prt.emp (md_1 hm' c),fun c l hl=>?_⟩
  ·have:=h.prt.cho
   rw[eO]
   show _=some (Obj.chan 0 #[] (decide (m'.s<14)) _ _ _)
   rw[decide_eq_decide.2 t14]
   exact this
  ·have:=h.prt.chb
   rw[eB]
   show _=some (Obj.chan K.N _ (decide (m'.s<3)) _ _ _)
   rw[decide_eq_decide.2 t3]
   exact this
  ·obtain⟨i,v,b1,b2,b3,b4⟩:=h.prt.buf y hy
   exact⟨i,v,b1,b2,hK.gm _ _ _ _ (fun b hb=>eD b (b4 b hb)) b3,b4⟩
  ·obtain⟨b3,b4⟩:=h.prt.tk i v hv
   exact⟨hK.gm _ _ _ _ (fun b hb=>eD b (b4 b hb)) b3,b4⟩
  ·show(upd x.hs k d' l).i<_
   rw[(hst l).2.2]
   exact h.prt.hold l hl ((hst l).1.1 c)
  ·have e:(upd x.hs k d' l).i=(upd x.hs k d' l').i:=e
   rw[(hst l).2.2,(hst l').2.2]at e
   exact h.prt.two l l' hl hl' ((hst l).1.1 c) ((hst l').1.1 c') e
  ·rcases h.prt.cover i hi' with c|c|⟨l,hl,b1,b2⟩
   ·exact Or.inl c
   ·exact Or.inr (Or.inl c)
   ·exact Or.inr (Or.inr ⟨l,hl,(hst l).1.2 b1,(hst l).2.2.trans b2⟩)
  ·refine Eq.trans ?_ h.prt.room
   show x.buf.size+sumTo x.j _+x.nt=_
   congr 2
   refine sumTo_congr fun l hl=>?_
   show(if 46≤(upd x.hs k d' l).st then 1 else 0)=if 46≤(x.hs l).st then 1 else 0
   by_cases c:46≤(x.hs l).st
   ·rw[if_pos c,if_pos ((hst l).1.2 c)]
   ·rw[if_neg c,if_neg fun c'=>c ((hst l).1.1 c')]
  ·rw[show(x.put k d' m' ca cl x.st x.sm).ca=ca from rfl,hca i hi']
   refine⟨fun⟨b1,b2⟩=>⟨b1,fun l hl c e=>b2 l hl c ((hst l).2.2▸e)⟩,fun⟨b1,b2⟩=>⟨b1,fun l hl c e=>b2 l hl c ((hst l).2.2.trans e)⟩⟩
  ·rw[show(x.put k d' m' ca cl x.st x.sm).cl=cl from rfl,hcl i hi']
   refine⟨fun⟨b0,b1,b2⟩=>⟨b0,b1,fun l hl c e=>b2 l hl c ((hst l).2.2▸e)⟩,fun⟨b0,b1,b2⟩=>⟨b0,b1,fun l hl c e=>b2 l hl c ((hst l).2.2.trans e)⟩⟩
  ·show 20≤(upd x.hs k d' l).st
   have:=h.prt.busy (t14b c) l hl
   by_cases e:l=k
   ·subst e;rw[upd_same];omega
   ·rw[upd_ne x.hs d' e];exact this
 have hrun:=runT_crowd_go (P:=K.P) (sl:=sl) (i:=K.nb+k) hg (by rw[show((K.nb+k == 0)=false) by simp;omega];exact hgo)
 refine⟨_,_,sl,_,by rw[hrun],by rw[hrun];exact hres _ _ _ _ hprt,?_⟩
 exact mea_stage hk hm' hlt (by simp[wdD,cnt,show 14≤(x.hs k).st by omega,show 14≤d'.st by omega])
end
end
end Go.Proofs.YtedifobeggabnaaGreat
