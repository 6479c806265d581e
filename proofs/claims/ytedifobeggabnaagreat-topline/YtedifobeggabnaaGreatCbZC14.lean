/- Texts of ours, one behind the other: ZC14 ZC15 ZC16 ZC17 ZC18. -/
import Derived.Test.YtedifobeggabnaaGreatCbZC9
namespace Go.Proofs.YtedifobeggabnaaGreat
section
open Go.Conc
open Go.ConcR (KK WgAt stA smA rd wr mk Payload DC0)
open Go.ConcN (WgLive CTag WD RelBy sumTo upd upd_same upd_ne sumTo_congr cnt)
structure CfgOk(K:Cfg):Prop where
 hand:HandOk K
 main:MainOk K
 c1:K.rd K.C1
 c2:K.rd K.C2
 c12:K.C1≠K.C2
 sums:sumTo K.N K.er<1000000
 few:K.N<1000000
 hands:K.H<1000000
 ob:K.cO≠K.cB
section
variable {K:Cfg}{Shun:Loc→Prop}{x:Gst K.P}{gs:Array Goroutine}{w w':World}{t:Trace}{es:Array Event}{k:Nat}{g g':Goroutine}{sl:Option (Nat×Nat)}
theorem hand_work(hC:CfgOk K)(h:Cmp K x Shun gs w t)(hk:k<x.j)(hg:gs[K.nb+k]?=some g)(hh:HSit K (x.hs k) g w)(h46:46≤(x.hs k).st) :
  Res K Shun x t (runT K.P (crowd gs w sl) (K.nb+k))∨((x.hs k).st=46∧(x.hs k).dd=0∧AtSnd K (x.hs k).i (x.hs k).v (x.hs k).O g w):=by
 have hK:=hC.hand
 have hM:=hC.main
 have hi:(x.hs k).i<K.N:=Nat.lt_of_lt_of_le (h.prt.hold k hk h46) h.prt.nN
 have ownk:∀b,(x.hs k).O b→ownF K x (K.nb+k) b:=fun b hb=>Or.inr ⟨k,hk,rfl,hb⟩
 have hOw:∀b,(x.hs k).O b→b<w.heap.size:=fun b hb=>h.mem.own _ b (ownk b hb)
 have hrw:∀b,K.rd b→b<w.heap.size∧¬(x.hs k).O b:=fun b hb=>⟨(h.mem.rdS b hb).2,fun ho=>h.mem.apt.ownRd _ b (ownk b ho) hb⟩
 have hWg:K.Wg<w.heap.size∧¬(x.hs k).O K.Wg:=⟨h.prt.lts.1,fun ho=>(h.mem.ownS _ _ (ownk _ ho)).1 (Or.inl rfl)⟩
 rcases hh with⟨e,dd,hh⟩|⟨e,dd,hh⟩|⟨e,dd,hh⟩|⟨e,dd,hl,hh⟩|⟨e,dd,hh⟩|⟨e,_⟩|⟨e,_⟩|⟨e,_⟩|⟨e,_⟩|⟨e,_⟩
 ·refine Or.inl ?_
  rcases hh.cases with hs|⟨m,g',w',es,hm,_,hgo,hS,hn⟩
  ·obtain⟨la,hin⟩:=hand_begin hK hi hs h.prt.lv h.mem.rdx hOw
   obtain⟨g',w',es,hgo,hS,hh|⟨v,n,hh⟩⟩:=hand_in hK hC.c1 hin h.prt.lv h.mem.rdx hOw hrw hWg
   ·obtain⟨la',_,hin'⟩:=hh
    exact hand_plain (d':={ x.hs k with st:=49,la:=la',O:=Grw (x.hs k).O w w' }) hK hM hC.c1 hC.c2 h hk hg hgo hS (fun _ hb=>hb) (Or.inr (Or.inl ⟨rfl,dd,hin'⟩)) rfl (by omega) (by simp) ⟨by simp;omega,by simp;omega,by simp;omega,fun c=>by simp at c,fun _=>rfl⟩ (Or.inr (by simp;omega))
   ·exact hand_plain (d':={ x.hs k with st:=48,fu:=n,v:=v,O:=Grw (x.hs k).O w w' }) hK hM hC.c1 hC.c2 h hk hg hgo hS (fun _ hb=>hb) (Or.inr (Or.inr (Or.inl ⟨rfl,dd,hh⟩))) rfl (by omega) (by simp) ⟨by simp;omega,by simp;omega,by simp;omega,fun c=>by simp at c,fun _=>rfl⟩ (Or.inr (by simp;omega))
  ·exact hand_quiet hK hM hC.c1 hC.c2 h hk hg hm hgo hS (Or.inl ⟨e,dd,hn⟩) (by omega)
 ·refine Or.inl ?_
  obtain⟨g',w',es,hgo,hS,hh|⟨v,n,hh⟩⟩:=hand_in hK hC.c1 hh h.prt.lv h.mem.rdx hOw hrw hWg
  ·obtain⟨la',hla,hin'⟩:=hh
   exact hand_plain (d':={ x.hs k with la:=la',O:=Grw (x.hs k).O w w' }) hK hM hC.c1 hC.c2 h hk hg hgo hS (fun _ hb=>hb) (Or.inr (Or.inl ⟨e,dd,hin'⟩)) rfl (by omega) (by show 14≤(x.hs k).st;omega) ⟨Iff.rfl,Iff.rfl,Iff.rfl,id,fun _=>rfl⟩ (Or.inl ⟨rfl,Prod.Lex.left _ _ hla⟩)
  ·exact hand_plain (d':={ x.hs k with st:=48,fu:=n,v:=v,O:=Grw (x.hs k).O w w' }) hK hM hC.c1 hC.c2 h hk hg hgo hS (fun _ hb=>hb) (Or.inr (Or.inr (Or.inl ⟨rfl,dd,hh⟩))) rfl (by omega) (by simp) ⟨by simp;omega,by simp;omega,by simp;omega,fun c=>by simp at c,fun _=>rfl⟩ (Or.inr (by simp;omega))
 ·refine Or.inl ?_
  rcases hh.cases with hs|⟨m,g',w',es,hm,_,hgo,hS,hn⟩
  ·have hc0:x.ca (x.hs k).i=false:=by
    cases hcc:x.ca (x.hs k).i with
    | false=>rfl
    | true=>exact absurd rfl (((h.prt.ca _ hi).1 hcc).2 k hk (by omega))
   have hsum:sumTo K.N (fun i=>if x.ca i then K.er i else 0)<1000000:=Nat.lt_of_le_of_lt (sum_le fun l _=>by split<;>omega) hC.sums
   obtain⟨g',hgo,hl1,hl2⟩:=hs.2 _ _ h.prt.tal (by omega) (by omega)
   have htal:TalAt K (w.setCell ⟨K.T,0,none⟩ (.int .i64 ((sumTo K.N fun i=>if x.ca i then K.er i else 0:Nat)+(K.er (x.hs k).i:Nat):Int))) (sumTo K.N fun i=>if(if i=(x.hs k).i then true else x.ca i)then K.er i else 0:Nat) (sumTo K.N fun i=>if x.cl i then 1 else 0:Nat):=by
    have e1:=sum_put (f:=fun i=>if x.ca i then K.er i else 0) (f':=fun i=>if(if i=(x.hs k).i then true else x.ca i)then K.er i else 0) (c:=K.er (x.hs k).i) hi (by simp[hc0]) (by simp) (fun l hl=>by simp[hl])
    have:=tal_set0 (z:=((sumTo K.N fun i=>if x.ca i then K.er i else 0:Nat)+(K.er (x.hs k).i:Nat):Int)) h.prt.tal
    rw[e1]
    simpa using this
   have hca:∀(d':HD K.P),d'.st<48→∀i,i<K.N→((if i=(x.hs k).i then true else x.ca i)=true↔i<x.next∧∀l,l<x.j→48≤(upd x.hs k d' l).st→(x.hs l).i≠i):=by
    intro d' hd i hi'
    by_cases ei:i=(x.hs k).i
    ·subst ei
     simp only[if_true,true_iff]
     refine⟨h.prt.hold k hk h46,fun l hl c=>?_⟩
     by_cases el:l=k
     ·subst el;rw[upd_same]at c;omega
     ·rw[upd_ne x.hs d' el]at c
      exact fun c'=>el (h.prt.two l k hl hk (by omega) h46 c')
    ·rw[if_neg ei,h.prt.ca i hi']
     refine⟨fun⟨b1,b2⟩=>⟨b1,fun l hl c=>?_⟩,fun⟨b1,b2⟩=>⟨b1,fun l hl c=>?_⟩⟩
     ·by_cases el:l=k
      ·subst el;exact fun c'=>ei c'.symm
      ·rw[upd_ne x.hs d' el]at c;exact b2 l hl c
     ·by_cases el:l=k
      ·subst el;exact fun c'=>ei c'.symm
      ·exact b2 l hl (by rw[upd_ne x.hs d' el];exact c)
   cases hls:K.ls (x.hs k).i with
   | true=>
    obtain⟨n,hn⟩:=hl1 hls
    refine hand_count (d':={ x.hs k with st:=47,fu:=n }) hK hM hC.c1 hC.c2 h hk hg hgo (Or.inr (Or.inr (Or.inr (Or.inl ⟨rfl,dd,hls,hn⟩)))) rfl rfl rfl (by simp) (by simp;omega) _ x.cl htal (hca _ (by simp)) fun i hi'=>?_
    rw[h.prt.cl i hi']
    refine⟨fun⟨b0,b1,b2⟩=>⟨b0,b1,fun l hl c=>?_⟩,fun⟨b0,b1,b2⟩=>⟨b0,b1,fun l hl c=>?_⟩⟩
    ·by_cases el:l=k
     ·subst el;exact b2 l hl (by omega)
     ·rw[upd_ne x.hs _ el]at c;exact b2 l hl c
    ·by_cases el:l=k
     ·subst el;exact b2 l hl (by rw[upd_same];exact Nat.le_refl 47)
     ·exact b2 l hl (by rw[upd_ne x.hs _ el];exact c)
   | false=>
    obtain⟨n,hn⟩:=hl2 hls
    refine hand_count (d':={ x.hs k with st:=46,fu:=n }) hK hM hC.c1 hC.c2 h hk hg hgo (Or.inr (Or.inr (Or.inr (Or.inr (Or.inl ⟨rfl,dd,hn⟩))))) rfl rfl rfl (by simp) (by simp;omega) _ x.cl htal (hca _ (by simp)) fun i hi'=>?_
    rw[h.prt.cl i hi']
    refine⟨fun⟨b0,b1,b2⟩=>⟨b0,b1,fun l hl c=>?_⟩,fun⟨b0,b1,b2⟩=>⟨b0,b1,fun l hl c=>?_⟩⟩
    ·by_cases el:l=k
     ·subst el;exact b2 l hl (by omega)
     ·rw[upd_ne x.hs _ el]at c;exact b2 l hl c
    ·by_cases el:l=k
     ·subst el
      intro c'
      subst c'
      rw[hls]at b0
      cases b0
     ·exact b2 l hl (by rw[upd_ne x.hs _ el];exact c)
  ·exact hand_quiet hK hM hC.c1 hC.c2 h hk hg hm hgo hS (Or.inr (Or.inr (Or.inl ⟨e,dd,hn⟩))) (by omega)
 ·refine Or.inl ?_
  rcases hh.cases with hs|⟨m,g',w',es,hm,_,hgo,hS,hn⟩
  ·have hc0:x.cl (x.hs k).i=false:=by
    cases hcc:x.cl (x.hs k).i with
    | false=>rfl
    | true=>exact absurd rfl (((h.prt.cl _ hi).1 hcc).2.2 k hk (by omega))
   have hsum:sumTo K.N (fun i=>if x.cl i then 1 else 0)<1000000:=by
    refine Nat.lt_of_le_of_lt (sum_le (f':=fun _=>1) fun l _=>by split<;>omega) ?_
    have:sumTo K.N (fun _=>1)≤1*K.N:=Go.ConcN.sumTo_le fun _ _=>Nat.le_refl _
    have:=hC.few
    omega
   obtain⟨g',hgo,n,hn⟩:=hs.2 _ _ h.prt.tal (by omega) (by omega)
   have htal:TalAt K (w.setCell ⟨K.T,1,none⟩ (.int .i64 ((sumTo K.N fun i=>if x.cl i then 1 else 0:Nat)+1:Int))) (sumTo K.N fun i=>if x.ca i then K.er i else 0:Nat) (sumTo K.N fun i=>if(if i=(x.hs k).i then true else x.cl i)then 1 else 0:Nat):=by
    have e1:=sum_put (f:=fun i=>if x.cl i then 1 else 0) (f':=fun i=>if(if i=(x.hs k).i then true else x.cl i)then 1 else 0) (c:=1) hi (by simp[hc0]) (by simp) (fun l hl=>by simp[hl])
    have:=tal_set1 (z:=((sumTo K.N fun i=>if x.cl i then 1 else 0:Nat)+1:Int)) h.prt.tal
    rw[e1]
    simpa using this
   refine hand_count (d':={ x.hs k with st:=46,fu:=n }) hK hM hC.c1 hC.c2 h hk hg hgo (Or.inr (Or.inr (Or.inr (Or.inr (Or.inl ⟨rfl,dd,hn⟩))))) rfl rfl rfl (by simp) (by simp;omega) x.ca _ htal (fun i hi'=>?_) fun i hi'=>?_
   ·rw[h.prt.ca i hi']
    refine⟨fun⟨b1,b2⟩=>⟨b1,fun l hl c=>?_⟩,fun⟨b1,b2⟩=>⟨b1,fun l hl c=>?_⟩⟩
    ·by_cases el:l=k
     ·subst el;rw[upd_same]at c;simp at c
     ·rw[upd_ne x.hs _ el]at c;exact b2 l hl c
    ·by_cases el:l=k
     ·subst el;omega
     ·exact b2 l hl (by rw[upd_ne x.hs _ el];exact c)
   ·by_cases ei:i=(x.hs k).i
    ·subst ei
     simp only[if_true,true_iff]
     refine⟨hl,h.prt.hold k hk h46,fun l hl' c=>?_⟩
     by_cases el:l=k
     ·subst el;rw[upd_same]at c;simp at c
     ·rw[upd_ne x.hs _ el]at c
      exact fun c'=>el (h.prt.two l k hl' hk (by omega) h46 c')
    ·rw[if_neg ei,h.prt.cl i hi']
     refine⟨fun⟨b0,b1,b2⟩=>⟨b0,b1,fun l hl c=>?_⟩,fun⟨b0,b1,b2⟩=>⟨b0,b1,fun l hl c=>?_⟩⟩
     ·by_cases el:l=k
      ·subst el;exact fun c'=>ei c'.symm
      ·rw[upd_ne x.hs _ el]at c;exact b2 l hl c
     ·by_cases el:l=k
      ·subst el;exact fun c'=>ei c'.symm
      ·exact b2 l hl (by rw[upd_ne x.hs _ el];exact c)
  ·exact hand_quiet hK hM hC.c1 hC.c2 h hk hg hm hgo hS (Or.inr (Or.inr (Or.inr (Or.inl ⟨e,dd,hl,hn⟩)))) (by omega)
 ·rcases hh.cases with hs|⟨m,g',w',es,hm,_,hgo,hS,hn⟩
  ·exact Or.inr ⟨e,dd,hs⟩
  ·exact Or.inl (hand_quiet hK hM hC.c1 hC.c2 h hk hg hm hgo hS (Or.inr (Or.inr (Or.inr (Or.inr (Or.inl ⟨e,dd,hn⟩))))) (by omega))
 all_goals (exfalso;omega)
end
end
section
open Go.Conc
open Go.ConcR (KK WgAt stA smA rd wr mk Payload DC0)
open Go.ConcN (WgLive CTag WD RelBy sumTo upd upd_same upd_ne sumTo_congr sumTo_upd cnt Vc)
section
variable {K:Cfg}{Shun:Loc→Prop}{x x':Gst K.P}{gs:Array Goroutine}{w w':World}{t:Trace}{es:Array Event}{k:Nat}{g g' a:Goroutine}{sl:Option (Nat×Nat)}
theorem off_run {c:Nat}{b:Bool}(h:g.status = .running∨g.status = .finished):offersAt g c b=[]:=offersAt_of_not_blocked (by rcases h with e|e<;>rw[e]<;>simp) c b
theorem off_main {j next:Nat}{tk:Nat→Option Value}{m:MD}(hM:MainOk K)(h:MSit K j next tk m a w)(h14:m.s≠14)(c:Nat)(b:Bool):offersAt a c b=[]:=by
 by_cases h7:m.s=7
 ·obtain⟨_,_,_,g,rfl,hg⟩:=h.at7 h7
  have:=(hg w (Rly.refl w)).2.1
  unfold offersAt
  simp[this]
 ·exact off_run (Or.inl (h.run hM h7 h14))
theorem off_hand {d:HD K.P}(h:HSit K d g w){c:Nat}{b:Bool}(hc:d.st≠20∨c≠K.cO∨b=true):offersAt g c b=[]:=by
 by_cases h20:d.st=20
 ·obtain⟨_,_,fr,cs,rfl,_⟩:=h.parked h20
  cases b with
  | true=>exact offersAt_parked_recv' ..
  | false=>
   rw[offersAt_parked_recv,if_neg]
   rcases hc with c1|c1|c1
   ·exact absurd h20 c1
   ·exact fun e=>c1 e.symm
   ·cases c1
 ·exact off_run (h.stat h20)
theorem who(h:Cmp K x Shun gs w t){i:Nat}(hg:gs[i]?=some g):(i=0∧MSit K x.j x.next x.tk x.md g w)∨(0<i∧i<K.nb∧QuitsD K.P (x.q i) (Deaf t i) g)∨∃k,k<x.j∧i=K.nb+k∧HSit K (x.hs k) g w:=by
 have hone:=h.sit.one
 rcases Nat.eq_zero_or_pos i with rfl|h0
 ·obtain⟨a,ha,hm⟩:=h.sit.main
  rw[hg]at ha;cases ha
  exact Or.inl ⟨rfl,hm⟩
 ·by_cases hi:i<K.nb
  ·exact Or.inr (Or.inl ⟨h0,hi,h.sit.old i g h0 hi hg⟩)
  ·have hl:=(Array.getElem?_eq_some_iff.1 hg).1
   rw[h.sit.size]at hl
   obtain⟨z,hz,hs⟩:=h.sit.hand (i-K.nb) (by omega)
   rw[show K.nb+(i-K.nb)=i by omega,hg]at hz
   cases hz
   exact Or.inr (Or.inr ⟨i-K.nb,by omega,by omega,hs⟩)
theorem off_all(hM:MainOk K)(h:Cmp K x Shun gs w t){c:Nat}{b:Bool}(hc:c≠K.cO∨b=true){i j:Nat}(hj:(gs.setIfInBounds i ph)[j]?=some g)(h0:j≠0∨x.md.s≠14∨i=0):offersAt g c b=[]:=by
 rcases getElem?_stand gs i j g hj with⟨_,rfl⟩|⟨hij,hg⟩
 ·exact offersAt_ph c b
 ·rcases who h hg with⟨rfl,hm⟩|⟨_,_,hq⟩|⟨k,hk,_,hs⟩
  ·rcases h0 with e|e|e
   ·exact absurd rfl e
   ·exact off_main hM hm e c b
   ·exact absurd e.symm hij
  ·exact off_run hq.status
  ·exact off_hand hs (Or.inr hc)
theorem set_get {A:Type}(gs:Array A){i j:Nat}(v:A)(h:i≠j):(gs.setIfInBounds i v)[j]?=gs[j]?:=Array.getElem?_setIfInBounds_ne h
theorem step_bare(P:Program)(b:Bool)(g:Goroutine)(hd:g.dying=none)(w:World):stepG P b g w=stepG P b (G g.frame g.callers) w:=by
 obtain⟨f,c,s,d,o⟩:=g
 simp only at hd
 subst hd
 rfl
theorem not_ret3(h:Cmp K x Shun gs w t)(hk:k<x.j)(h14:14≤(x.hs k).st):3<x.md.s:=by
 rcases Nat.lt_or_ge 3 x.md.s with c|c
 ·exact c
 ·exact absurd (tg_ret c) (Go.ConcN.Mode.not_ret h.prt.mode hk (by simp[wdF,h14]))
theorem heap_chan(w:World){c cap s r b:Nat}{buf:Array Value}{cl tm:Bool}(h:b≠c):(w.setChan c cap buf cl s r tm).heap[b]?=w.heap[b]?:=by
 unfold World.setChan
 exact Array.getElem?_setIfInBounds_ne (fun e=>h e.symm)
theorem heap_chan_self(w:World){c cap s r:Nat}{buf:Array Value}{cl tm:Bool}(h:c<w.heap.size):(w.setChan c cap buf cl s r tm).heap[c]?=some (.chan cap buf cl s r tm):=by
 unfold World.setChan
 exact Array.getElem?_setIfInBounds_self_of_lt h
theorem size_chan(w:World){c cap s r:Nat}{buf:Array Value}{cl tm:Bool}:(w.setChan c cap buf cl s r tm).heap.size=w.heap.size:=by
 unfold World.setChan
 simp
theorem hand_park(hC:CfgOk K)(h:Cmp K x Shun gs w t)(hk:k<x.j)(hg:gs[K.nb+k]?=some g)(h21:(x.hs k).st=21)(hdd:(x.hs k).dd=0)(hs:AtRcv K (x.hs k).O g w)(h14:14<x.md.s):Res K Shun x t (runT K.P (crowd gs w sl) (K.nb+k)):=by
 have hone:=h.sit.one
 obtain⟨s1,s2,s3⟩:=hs
 have hst:=hC.hand.step g.frame g.callers w s3
 rw[←step_bare K.P false g s2 w]at hst
 have e0:((K.nb+k == 0)=false):=by simp;omega
 have hcO:=h.prt.cho
 rw[decide_eq_false (by omega)]at hcO
 have hp:partners (gs.setIfInBounds (K.nb+k) ph) K.cO true=[]:=partners_nil fun j z hz=>off_all hC.main h (Or.inr rfl) hz (Or.inr (Or.inl (by omega)))
 have hrun:=crowd_waits (P:=K.P) (sl:=sl) (i:=K.nb+k) hg (by rw[e0];exact hst) (fun cc hcc=>by
  simp only[List.mem_toArray,List.mem_cons,List.not_mem_nil,or_false]at hcc
  subst hcc
  exact ways_recv_none hcO hp)
 have hlt:K.nb+k<gs.size:=(Array.getElem?_eq_some_iff.1 hg).1
 let x':Gst K.P:={ x with hs:=upd x.hs k { x.hs k with st:=20,O:=noB }}
 have hst':∀l,(46≤(x'.hs l).st↔46≤(x.hs l).st)∧(47≤(x'.hs l).st↔47≤(x.hs l).st)∧(48≤(x'.hs l).st↔48≤(x.hs l).st)∧(x'.hs l).i=(x.hs l).i∧(∀b,(x'.hs l).O b→(x.hs l).O b)∧(x'.hs l).dd=(x.hs l).dd∧((x'.hs l).st≤6→(x.hs l).st≤6):=by
  intro l
  show(46≤(upd x.hs k _ l).st↔_)∧(47≤(upd x.hs k _ l).st↔_)∧(48≤(upd x.hs k _ l).st↔_)∧(upd x.hs k _ l).i=_∧(∀b,(upd x.hs k _ l).O b→_)∧(upd x.hs k _ l).dd=_∧((upd x.hs k _ l).st≤6→_)
  by_cases e:l=k
  ·subst e
   rw[upd_same]
   exact⟨by simp[h21],by simp[h21],by simp[h21],rfl,fun _ hb=>hb.elim,rfl,by simp⟩
  ·rw[upd_ne x.hs _ e]
   exact⟨Iff.rfl,Iff.rfl,Iff.rfl,rfl,fun _ hb=>hb,rfl,id⟩
 have hmode:Go.ConcN.Mode x.j (wdF K x') (tgF x.md) x.st x.sm:=by
  refine Go.ConcN.Mode.congr (fun l hl=>?_) h.prt.mode
  show(if 14≤(upd x.hs k _ l).st then 7 else(upd x.hs k _ l).st)=(if 14≤(x.hs l).st then 7 else(x.hs l).st)
  by_cases e:l=k
  ·subst e
   rw[upd_same]
   simp[h21]
  ·rw[upd_ne x.hs _ e]
 have hprt:CPrt K x' w:=by
  have hp0:=h.prt
  refine⟨hp0.wg,hmode,hp0.cho,hp0.chb,hp0.tal,hp0.nN,fun c=>absurd c (by show ¬x.md.s≤14;omega),hp0.buf,hp0.tk,fun l hl c=>?_,fun l l' hl hl' c c' e=>?_,fun i hi=>?_,?_,fun i hi=>?_,fun i hi=>?_,hp0.emp,fun c l hl=>?_⟩
  ·rw[(hst' l).2.2.2.1];exact hp0.hold l hl ((hst' l).1.1 c)
  ·rw[(hst' l).2.2.2.1,(hst' l').2.2.2.1]at e;exact hp0.two l l' hl hl' ((hst' l).1.1 c) ((hst' l').1.1 c') e
  ·rcases hp0.cover i hi with c|c|⟨l,hl,b1,b2⟩
   ·exact Or.inl c
   ·exact Or.inr (Or.inl c)
   ·exact Or.inr (Or.inr ⟨l,hl,(hst' l).1.2 b1,(hst' l).2.2.2.1.trans b2⟩)
  ·refine Eq.trans ?_ hp0.room
   show x.buf.size+sumTo x.j _+x.nt=_
   congr 2
   refine sumTo_congr fun l hl=>?_
   unfold hldF
   by_cases c:46≤(x.hs l).st
   ·rw[if_pos c,if_pos ((hst' l).1.2 c)]
   ·rw[if_neg c,if_neg fun c'=>c ((hst' l).1.1 c')]
  ·rw[hp0.ca i hi]
   exact⟨fun⟨b1,b2⟩=>⟨b1,fun l hl c e=>b2 l hl ((hst' l).2.2.1.1 c) ((hst' l).2.2.2.1▸e)⟩,fun⟨b1,b2⟩=>⟨b1,fun l hl c e=>b2 l hl ((hst' l).2.2.1.2 c) ((hst' l).2.2.2.1.trans e)⟩⟩
  ·rw[hp0.cl i hi]
   exact⟨fun⟨b0,b1,b2⟩=>⟨b0,b1,fun l hl c e=>b2 l hl ((hst' l).2.1.1 c) ((hst' l).2.2.2.1▸e)⟩,fun⟨b0,b1,b2⟩=>⟨b0,b1,fun l hl c e=>b2 l hl ((hst' l).2.1.2 c) ((hst' l).2.2.2.1.trans e)⟩⟩
  ·have:=hp0.busy (by omega) l hl
   show 20≤(upd x.hs k _ l).st
   by_cases e:l=k
   ·subst e;rw[upd_same];simp
   ·rw[upd_ne x.hs _ e];exact this
 have hcmp:Cmp K x' Shun (gs.setIfInBounds (K.nb+k) (parked (G g.frame g.callers) #[rcase K.cO K.zO] (.recv true))) w (t++MemOp.ofEvents (K.nb+k) g.frame.fn g.frame.place #[]):=by
  refine comm_step (x':=x') h rfl rfl rfl ⟨rfl,rfl,rfl⟩ (fun _ _ _=>rfl) (by simp) (fun i h0 hi=>set_get gs _ (by omega)) (fun l hl=>?_) (fun l hl=>⟨(hst' l).2.2.2.2.1,(hst' l).2.2.2.2.2.1,(hst' l).2.2.2.2.2.2⟩) ?_ (fun _ hb=>hb) rfl id (fun b hb=>⟨(h.mem.dnS b hb).1,(h.mem.dnS b hb).2,fun gi ho=>?_⟩) (fun op hop=>by simp[MemOp.ofEvents]at hop) hprt
  ·show ∃z,_∧HSit K (upd x.hs k _ l) z w
   by_cases e:l=k
   ·subst e
    refine⟨_,Array.getElem?_setIfInBounds_self_of_lt hlt,?_⟩
    rw[upd_same]
    exact Or.inr (Or.inr (Or.inr (Or.inr (Or.inr (Or.inr (Or.inl ⟨rfl,hdd,fun _ hb=>hb,_,_,rfl,s3⟩))))))
   ·obtain⟨z,hz,hs⟩:=h.sit.hand l hl
    exact⟨z,by rw[set_get gs _ (by omega)];exact hz,by rw[upd_ne x.hs _ e];exact hs⟩
  ·obtain⟨a,ha,hma⟩:=h.sit.main
   exact⟨a,by rw[set_get gs _ (by omega)];exact ha,hma⟩
  ·have:ownF K x gi b:=by
    rcases ho with ho|⟨l,hl,e,ho⟩
    ·exact Or.inl ho
    ·exact Or.inr ⟨l,hl,e,(hst' l).2.2.2.2.1 b ho⟩
   exact(h.mem.ownS gi b this).2 hb
 refine⟨_,w,sl,x',by rw[hrun],by rw[hrun];exact hcmp,?_⟩
 have e1:=sumTo_upd x.hs { x.hs k with st:=20,O:=noB } (fun d=>d.st) hk
 have e1:sumTo x.j (fun l=>(x'.hs l).st)+(x.hs k).st=sumTo x.j (fun l=>(x.hs l).st)+20:=e1
 have ev:Vc x.j (wdF K x')=Vc x.j (wdF K x):=sumTo_congr fun l hl=>by
  show cnt (wdD (upd x.hs k _ l))=cnt (wdD (x.hs l))
  by_cases e:l=k
  ·subst e;rw[upd_same];simp[cnt,wdD,h21]
  ·rw[upd_ne x.hs _ e]
 refine Prod.Lex.left _ _ ?_
 show 100*(K.N-x.next)+10*(K.N-x.nt)+sumTo K.nb x.q+sumTo x.j (fun l=>(x'.hs l).st)+rkF K.H (Vc x.j (wdF K x')) x.md<100*(K.N-x.next)+10*(K.N-x.nt)+sumTo K.nb x.q+sumTo x.j (fun l=>(x.hs l).st)+rkF K.H (Vc x.j (wdF K x)) x.md
 rw[ev]
 omega
end
end
section
open Go.Conc
open Go.ConcR (KK WgAt stA smA rd wr mk Payload DC0)
open Go.ConcN (WgLive CTag WD RelBy sumTo upd upd_same upd_ne sumTo_congr sumTo_upd cnt Vc)
section
variable {K:Cfg}{x:Gst K.P}{w w':World}{k n:Nat}{m':MD}{d':HD K.P}
theorem tg_kd {m:MD}(h:13≤m.s)(h':m.s≤15):tgF m = .kd:=by
 unfold tgF
 rw[if_neg (by omega),if_neg (by omega),if_neg (by omega),if_neg (by omega),if_pos h]
theorem mode_put(h:CPrt K x w)(h14:14≤(x.hs k).st)(h14':14≤d'.st){D:Nat→WD}(hD:∀l,D l=wdD (upd x.hs k d' l)){tg:CTag}(htg:tg=tgF x.md):Go.ConcN.Mode x.j D tg x.st x.sm:=by
 rw[htg]
 refine Go.ConcN.Mode.congr (fun l hl=>?_) h.mode
 rw[hD]
 by_cases e:l=k
 ·subst e
  rw[upd_same]
  simp[wdD,wdF,h14,h14']
 ·rw[upd_ne x.hs d' e]
  rfl
theorem prt_give(hC:CfgOk K)(h:CPrt K x w)(hdn:∀b, x.Dn b→¬SpF K b)(hk:k<x.j)(hN:x.next<K.N)(hst:(x.hs k).st=20∨(x.hs k).st=21)(hs:d'.st=50)(hi:d'.i=x.next)(hm:x.md.s=14∨x.md.s=15)(hm':m'.s=15)
  (hoth:∀b,b≠K.cO→w'.heap[b]?=w.heap[b]?) (hcO:w'.heap[K.cO]?=some (.chan 0 #[] false (x.sO+1) (x.rO+1) x.tmO)):CPrt K { x with hs:=upd x.hs k d',md:=m',next:=x.next+1,sO:=x.sO+1,rO:=x.rO+1 } w':=by
 have hK:=hC.hand
 obtain⟨n1,n2⟩:=h.nsh
 have eW:w'.heap[K.Wg]?=w.heap[K.Wg]?:=hoth _ fun e=>n1 (Or.inl e.symm)
 have eT:w'.heap[K.T]?=w.heap[K.T]?:=hoth _ fun e=>n1 (Or.inr e.symm)
 have eB:w'.heap[K.cB]?=w.heap[K.cB]?:=hoth _ fun e=>hC.ob e.symm
 have up:∀l,l≠k→upd x.hs k d' l=x.hs l:=fun l e=>upd_ne x.hs d' e
 have upk:upd x.hs k d' k=d':=upd_same ..
 have gm:∀i v,(∀b,K.Mv v b→x.Dn b)→K.GM i v w→K.GM i v w':=fun i v hb hg=>hK.gm _ _ _ _ (fun b hb'=>hoth b fun e=>hdn b (hb b hb') (Or.inr (Or.inr (Or.inl e)))) hg
 have no46:¬46≤(x.hs k).st:=by omega
 refine⟨eW.trans h.wg,mode_put (k:=k) (d':=d') h (by omega) (by omega) (fun _=>rfl) (by rw[tg_kd (m:=m') (by omega) (by omega),tg_kd (by omega) (by omega)]),?_,?_,?_,hN,fun c=>absurd c (by show ¬m'.s≤14;omega),fun y hy=>?_,fun i v hv=>?_,fun l hl c=>?_,fun l l' hl hl' c c' e=>?_,fun i hi'=>?_,?_,fun i hi'=>?_,fun i hi'=>?_,fun c=>absurd c (by show ¬m'.s=1;omega),fun c l hl=>?_⟩
 ·rw[hcO]
  show _=some (Obj.chan 0 #[] (decide (m'.s<14)) _ _ _)
  rw[decide_eq_false (by omega)]
 ·rw[eB]
  show _=some (Obj.chan K.N x.buf (decide (m'.s<3)) _ _ _)
  rw[h.chb,decide_eq_false (by omega),decide_eq_false (by omega)]
 ·unfold TalAt;rw[eT];exact h.tal
 ·obtain⟨i,v,b1,b2,b3,b4⟩:=h.buf y hy
  exact⟨i,v,b1,by show i<x.next+1;omega,gm i v b4 b3,b4⟩
 ·obtain⟨b3,b4⟩:=h.tk i v hv
  exact⟨gm i v b4 b3,b4⟩
 ·show(upd x.hs k d' l).i<x.next+1
  have c:46≤(upd x.hs k d' l).st:=c
  by_cases e:l=k
  ·subst e;rw[upk,hi];omega
  ·rw[up l e]at c ⊢
   have:=h.hold l hl c
   omega
 ·have c:46≤(upd x.hs k d' l).st:=c
  have c':46≤(upd x.hs k d' l').st:=c'
  have e:(upd x.hs k d' l).i=(upd x.hs k d' l').i:=e
  by_cases e1:l=k<;>by_cases e2:l'=k
  ·rw[e1,e2]
  ·rw[e1,upk,hi,up l' e2]at e
   rw[up l' e2]at c'
   have:=h.hold l' hl' c'
   omega
  ·rw[e2,upk,hi,up l e1]at e
   rw[up l e1]at c
   have:=h.hold l hl c
   omega
  ·rw[up l e1,up l' e2]at e
   rw[up l e1]at c
   rw[up l' e2]at c'
   exact h.two l l' hl hl' c c' e
 ·have hi':i<x.next+1:=hi'
  by_cases e:i=x.next
  ·refine Or.inr (Or.inr ⟨k,hk,?_,?_⟩)
   ·show 46≤(upd x.hs k d' k).st
    rw[upk];omega
   ·show(upd x.hs k d' k).i=i
    rw[upk,hi,e]
  ·rcases h.cover i (by omega)with c|c|⟨l,hl,b1,b2⟩
   ·exact Or.inl c
   ·exact Or.inr (Or.inl c)
   ·have e1:l≠k:=fun c=>by subst c;exact no46 b1
    refine Or.inr (Or.inr ⟨l,hl,?_,?_⟩)
    ·show 46≤(upd x.hs k d' l).st
     rw[up l e1];exact b1
    ·show(upd x.hs k d' l).i=i
     rw[up l e1];exact b2
 ·have e:=sumTo_upd x.hs d' (fun d=>if 46≤d.st then 1 else 0) hk
  rw[if_neg no46,if_pos (show 46≤d'.st by omega)]at e
  have hr:=h.room
  have e2:sumTo x.j (hldF K x)=sumTo x.j (fun l=>if 46≤(x.hs l).st then 1 else 0):=rfl
  show x.buf.size+sumTo x.j (fun l=>if 46≤(upd x.hs k d' l).st then 1 else 0)+x.nt=x.next+1
  omega
 ·show x.ca i=true↔i<x.next+1∧∀l,l<x.j→48≤(upd x.hs k d' l).st→(upd x.hs k d' l).i≠i
  rw[h.ca i hi']
  constructor
  ·rintro⟨b1,b2⟩
   refine⟨by omega,fun l hl c=>?_⟩
   by_cases e1:l=k
   ·subst e1;rw[upk,hi];omega
   ·rw[up l e1]at c ⊢;exact b2 l hl c
  ·rintro⟨b1,b2⟩
   have e0:i≠x.next:=fun e=>b2 k hk (by rw[upk];omega) (by rw[upk,hi,e])
   refine⟨by omega,fun l hl c=>?_⟩
   have e1:l≠k:=fun e=>by subst e;omega
   have:=b2 l hl (by rw[up l e1];exact c)
   rwa [up l e1]at this
 ·show x.cl i=true↔K.ls i=true∧i<x.next+1∧∀l,l<x.j→47≤(upd x.hs k d' l).st→(upd x.hs k d' l).i≠i
  rw[h.cl i hi']
  constructor
  ·rintro⟨b0,b1,b2⟩
   refine⟨b0,by omega,fun l hl c=>?_⟩
   by_cases e1:l=k
   ·subst e1;rw[upk,hi];omega
   ·rw[up l e1]at c ⊢;exact b2 l hl c
  ·rintro⟨b0,b1,b2⟩
   have e0:i≠x.next:=fun e=>b2 k hk (by rw[upk];omega) (by rw[upk,hi,e])
   refine⟨b0,by omega,fun l hl c=>?_⟩
   have e1:l≠k:=fun e=>by subst e;omega
   have:=b2 l hl (by rw[up l e1];exact c)
   rwa [up l e1]at this
 ·have hb:20≤(x.hs l).st:=h.busy (by omega) l hl
  show 20≤(upd x.hs k d' l).st
  by_cases e:l=k
  ·subst e;rw[upk];omega
  ·rw[up l e];exact hb
theorem prt_tell(hC:CfgOk K)(h:CPrt K x w)(hdn:∀b, x.Dn b→¬SpF K b)(hk:k<x.j)(hst:(x.hs k).st=46)(hs:d'.st=21){v:Value}(hv:K.GM (x.hs k).i v w)(hmv:∀b, K.Mv v b→¬SpF K b)(htg:tgF m'=tgF x.md)(h14:m'.s=14→x.md.s=14)(hm14:m'.s<14↔x.md.s<14)(hm3:3≤m'.s∧3≤x.md.s)
  {buf':Array Value} {nt' sB' rB':Nat} {tk':Nat→Option Value} (hbt:(buf'=x.buf.push (K.tv (x.hs k).i v)∧nt'=x.nt∧tk'=x.tk)∨(buf'=x.buf∧nt'=x.nt+1∧tk'=fun y=>if y=(x.hs k).i then some v else x.tk y))
  (hoth:∀b,b≠K.cB→w'.heap[b]?=w.heap[b]?) (hcB:w'.heap[K.cB]?=some (.chan K.N buf' false sB' rB' x.tmB)) :
  CPrt K { x with hs:=upd x.hs k d',md:=m',buf:=buf',nt:=nt',tk:=tk',sB:=sB',rB:=rB',Dn:=fun b=>x.Dn b∨K.Mv v b } w':=by
 have hK:=hC.hand
 obtain⟨n1,n2⟩:=h.nsh
 have eW:w'.heap[K.Wg]?=w.heap[K.Wg]?:=hoth _ fun e=>n2 (Or.inl e.symm)
 have eT:w'.heap[K.T]?=w.heap[K.T]?:=hoth _ fun e=>n2 (Or.inr e.symm)
 have eO:w'.heap[K.cO]?=w.heap[K.cO]?:=hoth _ hC.ob
 have up:∀l,l≠k→upd x.hs k d' l=x.hs l:=fun l e=>upd_ne x.hs d' e
 have upk:upd x.hs k d' k=d':=upd_same ..
 have gm:∀i v',(∀b,K.Mv v' b→x.Dn b∨K.Mv v b)→K.GM i v' w→K.GM i v' w':=fun i v' hb hg=>hK.gm _ _ _ _ (fun b hb'=>hoth b fun e=>by
  rcases hb b hb' with c|c
  ·exact hdn b c (Or.inr (Or.inr (Or.inr e)))
  ·exact hmv b c (Or.inr (Or.inr (Or.inr e)))) hg
 have hnew:=gm _ v (fun b hb=>Or.inr hb) hv
 have hin:=h.hold k hk (by omega)
 refine⟨eW.trans h.wg,mode_put (k:=k) (d':=d') h (by omega) (by omega) (fun _=>rfl) htg,?_,?_,?_,h.nN,fun c l hl e=>?_,fun y hy=>?_,fun i v' hv'=>?_,fun l hl c=>?_,fun l l' hl hl' c c' e=>?_,fun i hi'=>?_,?_,fun i hi'=>?_,fun i hi'=>?_,fun c=>absurd c (by show ¬m'.s=1;omega),fun c l hl=>?_⟩
 ·rw[eO]
  show _=some (Obj.chan 0 #[] (decide (m'.s<14)) _ _ _)
  rw[decide_eq_decide.2 hm14]
  exact h.cho
 ·rw[hcB]
  show _=some (Obj.chan K.N buf' (decide (m'.s<3)) _ _ _)
  rw[decide_eq_false (by omega)]
 ·unfold TalAt;rw[eT];exact h.tal
 ·have e:(upd x.hs k d' l).st=20:=e
  by_cases e1:l=k
  ·subst e1;rw[upk]at e;omega
  ·rw[up l e1]at e
   exact h.park (by have c:m'.s≤14:=c;omega) l hl e
 ·have hy:y∈buf':=hy
  have old:y∈x.buf→∃i v',y=K.tv i v'∧i<x.next∧K.GM i v' w'∧∀b,K.Mv v' b→x.Dn b∨K.Mv v b:=fun hy=>by
   obtain⟨i,v',b1,b2,b3,b4⟩:=h.buf y hy
   exact⟨i,v',b1,b2,gm i v' (fun b hb=>Or.inl (b4 b hb)) b3,fun b hb=>Or.inl (b4 b hb)⟩
  rcases hbt with⟨e,_,_⟩|⟨e,_,_⟩
  ·rw[e]at hy
   rcases Array.mem_push.1 hy with hy|hy
   ·exact old hy
   ·exact⟨_,v,hy,hin,hnew,fun b hb=>Or.inr hb⟩
  ·rw[e]at hy
   exact old hy
 ·have hv':tk' i=some v':=hv'
  have old:x.tk i=some v'→K.GM i v' w'∧∀b,K.Mv v' b→x.Dn b∨K.Mv v b:=fun hv'=>by
   obtain⟨b3,b4⟩:=h.tk i v' hv'
   exact⟨gm i v' (fun b hb=>Or.inl (b4 b hb)) b3,fun b hb=>Or.inl (b4 b hb)⟩
  rcases hbt with⟨_,_,e⟩|⟨_,_,e⟩
  ·rw[e]at hv'
   exact old hv'
  ·rw[e]at hv'
   simp only at hv'
   split at hv'
   ·rename_i ei
    cases hv'
    rw[ei]
    exact⟨hnew,fun b hb=>Or.inr hb⟩
   ·exact old hv'
 ·have c:46≤(upd x.hs k d' l).st:=c
  by_cases e1:l=k
  ·subst e1;rw[upk]at c;omega
  ·show(upd x.hs k d' l).i<x.next
   rw[up l e1]at c ⊢
   exact h.hold l hl c
 ·have c:46≤(upd x.hs k d' l).st:=c
  have c':46≤(upd x.hs k d' l').st:=c'
  have e:(upd x.hs k d' l).i=(upd x.hs k d' l').i:=e
  have e1:l≠k:=fun e1=>by subst e1;rw[upk]at c;omega
  have e2:l'≠k:=fun e2=>by subst e2;rw[upk]at c';omega
  rw[up l e1,up l' e2]at e
  rw[up l e1]at c
  rw[up l' e2]at c'
  exact h.two l l' hl hl' c c' e
 ·show(∃v,tk' i=some v)∨(∃v,K.tv i v∈buf')∨∃l,l<x.j∧46≤(upd x.hs k d' l).st∧(upd x.hs k d' l).i=i
  rcases h.cover i hi' with⟨v',c⟩|⟨v',c⟩|⟨l,hl,b1,b2⟩
  ·refine Or.inl ?_
   rcases hbt with⟨_,_,e⟩|⟨_,_,e⟩
   ·exact⟨v',by rw[e];exact c⟩
   ·rw[e]
    simp only
    split
    ·exact⟨_,rfl⟩
    ·exact⟨v',c⟩
  ·refine Or.inr (Or.inl ⟨v',?_⟩)
   rcases hbt with⟨e,_,_⟩|⟨e,_,_⟩
   ·rw[e];exact Array.mem_push_of_mem _ c
   ·rw[e];exact c
  ·by_cases e1:l=k
   ·subst e1
    rcases hbt with⟨e,_,_⟩|⟨_,_,e⟩
    ·exact Or.inr (Or.inl ⟨v,by rw[e,b2];exact Array.mem_push_self⟩)
    ·exact Or.inl ⟨v,by rw[e,b2];simp⟩
   ·exact Or.inr (Or.inr ⟨l,hl,by rw[up l e1];exact b1,by rw[up l e1];exact b2⟩)
 ·have e:=sumTo_upd x.hs d' (fun d=>if 46≤d.st then 1 else 0) hk
  rw[if_pos (show 46≤(x.hs k).st by omega),if_neg (show ¬46≤d'.st by omega)]at e
  have hr:=h.room
  have e2:sumTo x.j (hldF K x)=sumTo x.j (fun l=>if 46≤(x.hs l).st then 1 else 0):=rfl
  show buf'.size+sumTo x.j (fun l=>if 46≤(upd x.hs k d' l).st then 1 else 0)+nt'=x.next
  rcases hbt with⟨e3,e4,_⟩|⟨e3,e4,_⟩
  ·rw[e3,e4,Array.size_push];omega
  ·rw[e3,e4];omega
 ·show x.ca i=true↔i<x.next∧∀l,l<x.j→48≤(upd x.hs k d' l).st→(upd x.hs k d' l).i≠i
  rw[h.ca i hi']
  constructor
  ·rintro⟨b1,b2⟩
   refine⟨b1,fun l hl c=>?_⟩
   have e1:l≠k:=fun e1=>by subst e1;rw[upk]at c;omega
   rw[up l e1]at c ⊢;exact b2 l hl c
  ·rintro⟨b1,b2⟩
   refine⟨b1,fun l hl c=>?_⟩
   have e1:l≠k:=fun e=>by subst e;omega
   have:=b2 l hl (by rw[up l e1];exact c)
   rwa [up l e1]at this
 ·show x.cl i=true↔K.ls i=true∧i<x.next∧∀l,l<x.j→47≤(upd x.hs k d' l).st→(upd x.hs k d' l).i≠i
  rw[h.cl i hi']
  constructor
  ·rintro⟨b0,b1,b2⟩
   refine⟨b0,b1,fun l hl c=>?_⟩
   have e1:l≠k:=fun e1=>by subst e1;rw[upk]at c;omega
   rw[up l e1]at c ⊢;exact b2 l hl c
  ·rintro⟨b0,b1,b2⟩
   refine⟨b0,b1,fun l hl c=>?_⟩
   have e1:l≠k:=fun e=>by subst e;omega
   have:=b2 l hl (by rw[up l e1];exact c)
   rwa [up l e1]at this
 ·have c:14≤m'.s:=c
  have hb:20≤(x.hs l).st:=h.busy (by omega) l hl
  show 20≤(upd x.hs k d' l).st
  by_cases e:l=k
  ·subst e;rw[upk];omega
  ·rw[up l e];exact hb
theorem prt_take(hC:CfgOk K)(h:CPrt K x w)(hdn:∀b, x.Dn b→¬SpF K b)(hb0:0<x.buf.size)(htg:tgF m'=tgF x.md)(h1:m'.s=1→x.md.s=1)(h14:m'.s=14→x.md.s=14)(hm14:m'.s<14↔x.md.s<14)(hm3:m'.s<3↔x.md.s<3)
  (hoth:∀b,b≠K.cB→w'.heap[b]?=w.heap[b]?) (hcB:w'.heap[K.cB]?=some (.chan K.N (x.buf.extract 1 x.buf.size) (decide (x.md.s<3)) x.sB (x.rB+1) x.tmB)) :
  ∃i v,x.buf.getD 0 undef=K.tv i v∧i<K.N∧CPrt K { x with md:=m',buf:=x.buf.extract 1 x.buf.size,nt:=x.nt+1,tk:=fun y=>if y=i then some v else x.tk y,rB:=x.rB+1 } w':=by
 have hK:=hC.hand
 obtain⟨n1,n2⟩:=h.nsh
 have eW:w'.heap[K.Wg]?=w.heap[K.Wg]?:=hoth _ fun e=>n2 (Or.inl e.symm)
 have eT:w'.heap[K.T]?=w.heap[K.T]?:=hoth _ fun e=>n2 (Or.inr e.symm)
 have eO:w'.heap[K.cO]?=w.heap[K.cO]?:=hoth _ hC.ob
 have gm:∀i v',(∀b,K.Mv v' b→x.Dn b)→K.GM i v' w→K.GM i v' w':=fun i v' hb hg=>hK.gm _ _ _ _ (fun b hb'=>hoth b fun e=>hdn b (hb b hb') (Or.inr (Or.inr (Or.inr e)))) hg
 have hmem:x.buf.getD 0 undef∈x.buf:=by
  rw[Array.getD_eq_getD_getElem?,Array.getElem?_eq_getElem hb0]
  exact Array.getElem_mem hb0
 have hsub:∀y,y∈x.buf.extract 1 x.buf.size→y∈x.buf:=fun y hy=>by
  obtain⟨l,hl,e⟩:=Array.mem_iff_getElem.1 hy
  rw[Array.getElem_extract]at e
  rw[←e]
  exact Array.getElem_mem _
 have hcov:∀y,y∈x.buf→y=x.buf.getD 0 undef∨y∈x.buf.extract 1 x.buf.size:=fun y hy=>by
  obtain⟨l,hl,e⟩:=Array.mem_iff_getElem.1 hy
  cases l with
  | zero=>exact Or.inl (by rw[Array.getD_eq_getD_getElem?,Array.getElem?_eq_getElem hb0];exact e.symm)
  | succ l=>
   refine Or.inr (Array.mem_iff_getElem.2 ⟨l,by simp;omega,?_⟩)
   rw[Array.getElem_extract, ←e]
   congr 1
   omega
 obtain⟨i,v,c1,c2,c3,c4⟩:=h.buf _ hmem
 refine⟨i,v,c1,Nat.lt_of_lt_of_le c2 h.nN,eW.trans h.wg,by rw[show tgF m'=tgF x.md from htg];exact h.mode,?_,?_,?_,h.nN,fun c l hl=>h.park (by have c:m'.s≤14:=c;omega) l hl,fun y hy=>?_,fun i' v' hv'=>?_,h.hold,h.two,fun i' hi'=>?_,?_,h.ca,h.cl,fun c=>absurd hb0 (by have:=h.emp (h1 c);rw[this];simp),fun c=>h.busy (by have c:14≤m'.s:=c;omega)⟩
 ·rw[eO]
  show _=some (Obj.chan 0 #[] (decide (m'.s<14)) _ _ _)
  rw[decide_eq_decide.2 hm14]
  exact h.cho
 ·rw[hcB]
  show _=some (Obj.chan K.N (x.buf.extract 1 x.buf.size) (decide (m'.s<3)) _ _ _)
  rw[decide_eq_decide.2 hm3]
 ·unfold TalAt;rw[eT];exact h.tal
 ·obtain⟨i',v',b1,b2,b3,b4⟩:=h.buf y (hsub y hy)
  exact⟨i',v',b1,b2,gm i' v' b4 b3,b4⟩
 ·simp only at hv'
  split at hv'
  ·rename_i ei
   cases hv'
   rw[ei]
   exact⟨gm i v c4 c3,c4⟩
  ·obtain⟨b3,b4⟩:=h.tk i' v' hv'
   exact⟨gm i' v' b4 b3,b4⟩
 ·show(∃v',(if i'=i then some v else x.tk i')=some v')∨_
  rcases h.cover i' hi' with⟨v',c⟩|⟨v',c⟩|c
  ·refine Or.inl ?_
   split
   ·exact⟨_,rfl⟩
   ·exact⟨v',c⟩
  ·rcases hcov _ c with e|e
   ·have:=(hK.tvi _ _ _ _ (e.trans c1)).1
    exact Or.inl ⟨v,by rw[if_pos this]⟩
   ·exact Or.inr (Or.inl ⟨v',e⟩)
  ·exact Or.inr (Or.inr c)
 ·have hr:=h.room
  show(x.buf.extract 1 x.buf.size).size+sumTo x.j (hldF K x)+(x.nt+1)=x.next
  rw[Array.size_extract]
  omega
end
end
section
open Go.Conc
open Go.ConcR (KK WgAt stA smA rd wr mk Payload DC0)
open Go.ConcN (WgLive CTag WD RelBy sumTo upd upd_same upd_ne sumTo_congr sumTo_upd cnt Vc)
section
variable {K:Cfg}{Shun:Loc→Prop}{x x':Gst K.P}{gs:Array Goroutine}{w w':World}{t:Trace}{es:Array Event}{k:Nat}{g g' a:Goroutine}{sl:Option (Nat×Nat)}
theorem vc_same {d':HD K.P}(h14:14≤(x.hs k).st)(h14':14≤d'.st){D:Nat→WD}(hD:∀l,D l=wdD (upd x.hs k d' l)):Vc x.j D=Vc x.j (wdF K x):=sumTo_congr fun l hl=>by
 rw[hD]
 by_cases e:l=k
 ·subst e
  rw[upd_same]
  simp[cnt,wdD,wdF,h14,h14']
 ·rw[upd_ne x.hs d' e]
  rfl
theorem hand_closed(hC:CfgOk K)(h:Cmp K x Shun gs w t)(hk:k<x.j)(hg:gs[K.nb+k]?=some g)(h21:(x.hs k).st=21)(hdd:(x.hs k).dd=0)(hs:AtRcv K (x.hs k).O g w)(h14:x.md.s<14):Res K Shun x t (runT K.P (crowd gs w sl) (K.nb+k)):=by
 have hone:=h.sit.one
 obtain⟨s1,s2,s3⟩:=hs
 have hst:=hC.hand.step g.frame g.callers w s3
 rw[←step_bare K.P false g s2 w]at hst
 have e0:((K.nb+k == 0)=false):=by simp;omega
 have hcO:=h.prt.cho
 rw[decide_eq_true h14]at hcO
 have hp:partners (gs.setIfInBounds (K.nb+k) ph) K.cO true=[]:=partners_nil fun j z hz=>off_all hC.main h (Or.inr rfl) hz (Or.inr (Or.inl (by omega)))
 have hrun:=crowd_recv_closed (P:=K.P) (sl:=sl) (i:=K.nb+k) hg (by rw[e0];exact hst) hcO hp
 have hlt:K.nb+k<gs.size:=(Array.getElem?_eq_some_iff.1 hg).1
 obtain⟨n,hn⟩:=hC.hand.over g.frame g.callers w s3 h.prt.lv h.mem.rdx
 have upk:upd x.hs k { x.hs k with st:=15,fu:=n,O:=noB } k={ x.hs k with st:=15,fu:=n,O:=noB }:=upd_same ..
 have up:∀l,l≠k→upd x.hs k { x.hs k with st:=15,fu:=n,O:=noB } l=x.hs l:=fun l e=>upd_ne x.hs _ e
 have hprt:CPrt K { x with hs:=upd x.hs k { x.hs k with st:=15,fu:=n,O:=noB }} w:=by
  refine h.prt.cong (x':={ x with hs:=upd x.hs k { x.hs k with st:=15,fu:=n,O:=noB }}) hC.hand rfl ⟨rfl,rfl,rfl,rfl,rfl,rfl,rfl⟩ ⟨rfl,rfl,rfl,rfl,rfl,rfl⟩ (fun l hl=>?_) ⟨Iff.rfl,Iff.rfl⟩ h.prt.wg (mode_put h.prt (k:=k) (d':={ x.hs k with st:=15,fu:=n,O:=noB }) (by omega) (by simp) (fun _=>rfl) rfl) rfl rfl rfl (fun _ _=>rfl) (fun c=>absurd h14 (by omega))
  by_cases e:l=k
  ·subst e
   show(46≤(upd x.hs l _ l).st↔_)∧(47≤(upd x.hs l _ l).st↔_)∧(48≤(upd x.hs l _ l).st↔_)∧((upd x.hs l _ l).st=20→_)∧(_→(upd x.hs l _ l).i=_)
   rw[upk]
   exact⟨by simp[h21],by simp[h21],by simp[h21],by simp,fun _=>rfl⟩
  ·show(46≤(upd x.hs k _ l).st↔_)∧(47≤(upd x.hs k _ l).st↔_)∧(48≤(upd x.hs k _ l).st↔_)∧((upd x.hs k _ l).st=20→_)∧(_→(upd x.hs k _ l).i=_)
   rw[up l e]
   exact⟨Iff.rfl,Iff.rfl,Iff.rfl,id,fun _=>rfl⟩
 have hOl:∀l b,(upd x.hs k { x.hs k with st:=15,fu:=n,O:=noB } l).O b→(x.hs l).O b:=fun l b hb=>by
  by_cases e:l=k
  ·subst e;rw[upk]at hb;exact hb.elim
  ·rw[up l e]at hb;exact hb
 refine⟨_,w,sl,{ x with hs:=upd x.hs k { x.hs k with st:=15,fu:=n,O:=noB }},by rw[hrun],?_,?_⟩
 ·rw[hrun]
  refine comm_step (x':={ x with hs:=upd x.hs k { x.hs k with st:=15,fu:=n,O:=noB }}) h rfl rfl rfl ⟨rfl,rfl,rfl⟩ (fun _ _ _=>rfl) (by simp) (fun i h0 hi=>set_get gs _ (by omega)) (fun l hl=>?_) (fun l hl=>⟨hOl l,?_,?_⟩) ?_ (fun _ hb=>hb) rfl id (fun b hb=>⟨(h.mem.dnS b hb).1,(h.mem.dnS b hb).2,fun gi ho=>?_⟩) (fun op hop=>?_) hprt
  ·show ∃z,_∧HSit K (upd x.hs k _ l) z w
   by_cases e:l=k
   ·subst e
    refine⟨_,Array.getElem?_setIfInBounds_self_of_lt hlt,?_⟩
    rw[upk]
    exact Or.inr (Or.inr (Or.inr (Or.inr (Or.inr (Or.inr (Or.inr (Or.inl ⟨rfl,hdd,hn⟩)))))))
   ·obtain⟨z,hz,hs⟩:=h.sit.hand l hl
    exact⟨z,by rw[set_get gs _ (by omega)];exact hz,by rw[up l e];exact hs⟩
  ·show(upd x.hs k _ l).dd=_
   by_cases e:l=k
   ·subst e;rw[upk]
   ·rw[up l e]
  ·show(upd x.hs k _ l).st≤6→_
   by_cases e:l=k
   ·subst e;rw[upk];simp
   ·rw[up l e];exact id
  ·obtain⟨a,ha,hma⟩:=h.sit.main
   exact⟨a,by rw[set_get gs _ (by omega)];exact ha,hma⟩
  ·have:ownF K x gi b:=by
    rcases ho with ho|⟨l,hl,e,ho⟩
    ·exact Or.inl ho
    ·exact Or.inr ⟨l,hl,e,hOl l b ho⟩
   exact(h.mem.ownS gi b this).2 hb
  ·rcases Array.mem_append.1 hop with hop|hop
   ·simp[MemOp.ofEvents]at hop
   ·simp only[List.mem_toArray,List.mem_cons,List.not_mem_nil,or_false]at hop
    subst hop
    exact⟨rfl,fun m=>by simp,h.prt.lts.2.2.1⟩
 ·have e1:=sumTo_upd x.hs { x.hs k with st:=15,fu:=n,O:=noB } (fun d=>d.st) hk
  have e1:sumTo x.j (fun l=>(upd x.hs k { x.hs k with st:=15,fu:=n,O:=noB } l).st)+(x.hs k).st=sumTo x.j (fun l=>(x.hs l).st)+15:=e1
  have ev:Vc x.j (wdF K { x with hs:=upd x.hs k { x.hs k with st:=15,fu:=n,O:=noB }})=Vc x.j (wdF K x):=vc_same (k:=k) (d':={ x.hs k with st:=15,fu:=n,O:=noB }) (by omega) (by simp) fun _=>rfl
  refine Prod.Lex.left _ _ ?_
  show 100*(K.N-x.next)+10*(K.N-x.nt)+sumTo K.nb x.q+sumTo x.j (fun l=>(upd x.hs k { x.hs k with st:=15,fu:=n,O:=noB } l).st)+rkF K.H (Vc x.j (wdF K { x with hs:=upd x.hs k { x.hs k with st:=15,fu:=n,O:=noB }})) x.md<100*(K.N-x.next)+10*(K.N-x.nt)+sumTo K.nb x.q+sumTo x.j (fun l=>(x.hs l).st)+rkF K.H (Vc x.j (wdF K x)) x.md
  rw[ev]
  omega
theorem off_sel0 {fr:Frame}{cs:List Frame}{c c':Nat}{v z z':Value}:offersAt (parked (G fr cs) #[scase c v z,rcase c' z'] .select) c true=[0]∧offersAt (parked (G fr cs) #[scase c v z,rcase c' z'] .select) c' false=[1]:=by
 refine⟨?_,?_⟩<;>simp[offersAt,parked,scase,rcase]
theorem comm_res(hC:CfgOk K)(h:Cmp K x Shun gs w t)(hk:k<x.j){gs':Array Goroutine}{ops:Trace}{d':HD K.P}(hj:x'.j=x.j)(hq:x'.q=x.q)(hhs:x'.hs=upd x.hs k d')(h14:14≤(x.hs k).st)(h14':14≤d'.st)(hdd:d'.dd=(x.hs k).dd)(hO:∀b, ¬d'.O b)
  (hsz:w'.heap.size=w.heap.size) (hfix:w'.tape=w.tape∧w'.os=w.os∧w'.output=w.output) (hoth:∀b,b≠K.cO→b≠K.cB→w'.heap[b]?=w.heap[b]?) (hgsz:gs'.size=gs.size) (hold:∀i,i≠0→i≠K.nb+k→gs'[i]?=gs[i]?)
  (hhand:∃z,gs'[K.nb+k]?=some z∧HSit K d' z w') (hmain:∃a,gs'[0]?=some a∧MSit K x.j x'.next x'.tk x'.md a w') (hmO:x'.md.O=x.md.O) (hmd:x'.md.d0=x.md.d0) (hm3:x'.md.s≤3→x.md.s≤3)
  (hDn:∀b,x'.Dn b→x.Dn b∨(x.hs k).O b) (hops:∀op,op∈ops→op.act.touch?=none∧(∀m,op.act ≠ .mark m)∧op.act.low w.heap.size) (hprt:CPrt K x' w'):Cmp K x' Shun gs' w' (t++ops):=by
 have hone:=h.sit.one
 have upk:upd x.hs k d' k=d':=upd_same ..
 have up:∀l,l≠k→upd x.hs k d' l=x.hs l:=fun l e=>upd_ne x.hs _ e
 have hWg:w'.heap[K.Wg]?=w.heap[K.Wg]?:=hoth _ (fun e=>h.prt.nsh.1 (Or.inl e.symm)) (fun e=>h.prt.nsh.2 (Or.inl e.symm))
 refine comm_step h hj hq hsz hfix hoth hgsz (fun i h0 hi=>hold i (by omega) (by omega)) (fun l hl=>?_) (fun l hl=>?_) hmain (fun b hb=>by rw[←hmO];exact hb) hmd hm3 (fun b hb=>?_) hops hprt
 ·rw[hhs]
  by_cases e:l=k
  ·subst e;rw[upk];exact hhand
  ·obtain⟨z,hz,hs⟩:=h.sit.hand l hl
   refine⟨z,by rw[hold _ (by omega) (by omega)];exact hz,?_⟩
   rw[up l e]
   refine hs.rely hC.hand hC.c1 hC.c2 ⟨fun b hb=>?_,fun⟨a,b,c⟩=>⟨a,b,hWg.trans c⟩,by rw[hsz];exact Nat.le_refl _⟩
   have nsp:¬SpF K b:=by
    rcases hb with hb|hb
    ·exact(h.mem.rdS b hb).1
    ·exact(h.mem.ownS (K.nb+l) b (Or.inr ⟨l,hl,rfl,hb⟩)).1
   exact hoth b (fun e=>nsp (Or.inr (Or.inr (Or.inl e)))) (fun e=>nsp (Or.inr (Or.inr (Or.inr e))))
 ·rw[hhs]
  by_cases e:l=k
  ·subst e;rw[upk];exact⟨fun b hb=>absurd hb (hO b),hdd,fun c=>by omega⟩
  ·rw[up l e];exact⟨fun _ hb=>hb,rfl,id⟩
 ·rcases hDn b hb with hb|hb
  ·refine⟨(h.mem.dnS b hb).1,(h.mem.dnS b hb).2,fun gi ho=>?_⟩
   have:ownF K x gi b:=by
    rcases ho with⟨e,ho⟩|⟨l,hl,e,ho⟩
    ·exact Or.inl ⟨e,by rw[←hmO];exact ho⟩
    ·rw[hhs]at ho
     rw[hj]at hl
     by_cases el:l=k
     ·subst el;rw[upk]at ho;exact absurd ho (hO b)
     ·rw[up l el]at ho;exact Or.inr ⟨l,hl,e,ho⟩
   exact(h.mem.ownS gi b this).2 hb
  ·have hok:ownF K x (K.nb+k) b:=Or.inr ⟨k,hk,rfl,hb⟩
   refine⟨(h.mem.ownS _ b hok).1,h.mem.own _ b hok,fun gi ho=>?_⟩
   rcases ho with⟨e,ho⟩|⟨l,hl,e,ho⟩
   ·have:=h.mem.apt.two 0 _ b (Or.inl ⟨rfl,by rw[←hmO];exact ho⟩) hok
    omega
   ·rw[hhs]at ho
    rw[hj]at hl
    by_cases el:l=k
    ·subst el;rw[upk]at ho;exact absurd ho (hO b)
    ·rw[up l el]at ho
     have:=h.mem.apt.two (K.nb+l) _ b (Or.inr ⟨l,hl,rfl,ho⟩) hok
     omega
end
end
section
open Go.Conc
open Go.ConcR (KK WgAt stA smA rd wr mk Payload DC0)
open Go.ConcN (WgLive CTag WD RelBy sumTo upd upd_same upd_ne sumTo_congr sumTo_upd cnt Vc)
section
variable {K:Cfg}{Shun:Loc→Prop}{x x':Gst K.P}{gs:Array Goroutine}{w w':World}{t:Trace}{es:Array Event}{k:Nat}{g g' a:Goroutine}{sl:Option (Nat×Nat)}
theorem in15 {j next:Nat}{tk:Nat→Option Value}{m:MD}{a:Goroutine}{w:World}(h1:m.s=15)(h2:m.d0=0)(h3:j=K.H)(h4:H0 K (AftZ K next tk) m.fu m.O a w):MSit K j next tk m a w:=Or.inr (Or.inr (Or.inr (Or.inr (Or.inr (Or.inl ⟨h1,h2,h3,h4⟩)))))
theorem wsame(h:Cmp K x Shun gs w t)(hoth:∀b,b≠K.cO→b≠K.cB→w'.heap[b]?=w.heap[b]?)(hsz:w'.heap.size=w.heap.size):Lvx K w'∧Rdx K w'∧Rly K.rd (Lvx K) x.md.O w w':=by
 have hWg:w'.heap[K.Wg]?=w.heap[K.Wg]?:=hoth _ (fun e=>h.prt.nsh.1 (Or.inl e.symm)) (fun e=>h.prt.nsh.2 (Or.inl e.symm))
 have nsp:∀b, ¬SpF K b→w'.heap[b]?=w.heap[b]?:=fun b nsp=>hoth b (fun e=>nsp (Or.inr (Or.inr (Or.inl e)))) (fun e=>nsp (Or.inr (Or.inr (Or.inr e))))
 obtain⟨a,b,c⟩:=h.prt.lv
 exact⟨⟨a,b,hWg.trans c⟩,fun b hb=>(nsp b (h.mem.rdS b hb).1).trans (h.mem.rdx b hb),⟨fun b hb=>nsp b (hb.elim (fun y=>(h.mem.rdS b y).1) fun y=>(h.mem.ownS 0 b (Or.inl ⟨rfl,y⟩)).1),fun _=>⟨a,b,hWg.trans c⟩,by rw[hsz];exact Nat.le_refl _⟩⟩
theorem hand_gets(hC:CfgOk K)(h:Cmp K x Shun gs w t)(hk:k<x.j)(hg:gs[K.nb+k]?=some g)(h21:(x.hs k).st=21)(hdd:(x.hs k).dd=0)(hs:AtRcv K (x.hs k).O g w)(h14:x.md.s=14):Res K Shun x t (runT K.P (crowd gs w sl) (K.nb+k)):=by
 have hone:=h.sit.one
 obtain⟨s1,s2,s3⟩:=hs
 have hst:=hC.hand.step g.frame g.callers w s3
 rw[←step_bare K.P false g s2 w]at hst
 have e0:((K.nb+k == 0)=false):=by simp;omega
 have hcO:=h.prt.cho
 rw[decide_eq_false (by omega)]at hcO
 obtain⟨a,ha,hma⟩:=h.sit.main
 obtain⟨q1,q2,q3,fr,cs,rfl,q4,q5⟩:=hma.at14 h14
 have hp:partners (gs.setIfInBounds (K.nb+k) ph) K.cO true=[(0,0)]:=by
  rw[partners_one (j:=0) (g:=parked (G fr cs) #[scase K.cO (K.sv x.next) K.zT,rcase K.cB K.zB] .select) (by rw[set_get gs _ (by omega)];exact ha) (fun j z hj hz=>off_all hC.main h (Or.inr rfl) hz (Or.inl hj)),off_sel0.1]
  rfl
 have hrun:=crowd_recv_sel (P:=K.P) (sl:=sl) (i:=K.nb+k) (j:=0) (k:=0) hg (by rw[e0];exact hst) hcO (by omega) ha (cs := #[scase K.cO (K.sv x.next) K.zT,rcase K.cB K.zB]) rfl hp
 have hlt:K.nb+k<gs.size:=(Array.getElem?_eq_some_iff.1 hg).1
 have l3:=h.prt.lts.2.2.1
 have hoth:∀b,b≠K.cO→(w.setChan K.cO 0 #[] false (x.sO+1) (x.rO+1) x.tmO).heap[b]?=w.heap[b]?:=fun b hb=>heap_chan w hb
 have hsz:(w.setChan K.cO 0 #[] false (x.sO+1) (x.rO+1) x.tmO).heap.size=w.heap.size:=size_chan w
 obtain⟨lv',rd',rl'⟩:=wsame h (fun b hb _=>hoth b hb) hsz
 obtain⟨n,hn⟩:=hC.hand.word g.frame g.callers x.next _ s3 q3 lv' rd'
 obtain⟨n2,hn2⟩:=hC.main.sent x.next x.tk x.md.O fr cs _ q4 q3 (q5 _ rl') lv' rd'
 have hprt:=prt_give (m':={ x.md with s:=15,fu:=n2 }) (d':={ x.hs k with st:=50,i:=x.next,fu:=n,O:=noB }) hC h.prt (fun b hb=>(h.mem.dnS b hb).1) hk q3 (Or.inr h21) rfl rfl (Or.inl h14) rfl hoth (heap_chan_self w l3)
 refine⟨_,_,sl,{ x with hs:=upd x.hs k { x.hs k with st:=50,i:=x.next,fu:=n,O:=noB },md:={ x.md with s:=15,fu:=n2 },next:=x.next+1,sO:=x.sO+1,rO:=x.rO+1 },by rw[hrun],?_,?_⟩
 ·rw[hrun]
  refine comm_res (d':={ x.hs k with st:=50,i:=x.next,fu:=n,O:=noB }) hC h hk rfl rfl rfl (by omega) (by simp) rfl (fun _ hb=>hb) hsz ⟨rfl,rfl,rfl⟩ (fun b hb _=>hoth b hb) (by simp) (fun i h0 hi=>by rw[set_get _ _ (fun e=>hi e.symm),set_get _ _ (fun e=>h0 e.symm)]) ⟨_,Array.getElem?_setIfInBounds_self_of_lt (by simpa using hlt),Or.inl ⟨rfl,hdd,hn⟩⟩
   ⟨_,by rw[set_get _ _ (by omega)];exact Array.getElem?_setIfInBounds_self_of_lt (by omega),in15 rfl q1 q2 hn2⟩ rfl rfl (fun c=>absurd c (by simp)) (fun b hb=>Or.inl hb) (fun op hop=>?_) hprt
  rcases Array.mem_append.1 hop with hop|hop
  ·simp[MemOp.ofEvents]at hop
  ·simp only[List.mem_toArray,List.mem_cons,List.not_mem_nil,or_false]at hop
   rcases hop with rfl|rfl|rfl|rfl<;>exact⟨rfl,fun m=>by simp,l3⟩
 ·have e1:=sumTo_upd x.hs { x.hs k with st:=50,i:=x.next,fu:=n,O:=noB } (fun d=>d.st) hk
  have e1:sumTo x.j (fun l=>(upd x.hs k { x.hs k with st:=50,i:=x.next,fu:=n,O:=noB } l).st)+(x.hs k).st=sumTo x.j (fun l=>(x.hs l).st)+50:=e1
  refine Prod.Lex.left _ _ ?_
  show 100*(K.N-(x.next+1))+10*(K.N-x.nt)+sumTo K.nb x.q+sumTo x.j (fun l=>(upd x.hs k { x.hs k with st:=50,i:=x.next,fu:=n,O:=noB } l).st)+rkF K.H _ { x.md with s:=15,fu:=n2 }<100*(K.N-x.next)+10*(K.N-x.nt)+sumTo K.nb x.q+sumTo x.j (fun l=>(x.hs l).st)+rkF K.H (Vc x.j (wdF K x)) x.md
  have r1:∀v,rkF K.H v { x.md with s:=15,fu:=n2 }=9*K.H+152:=fun v=>by simp[rkF]
  have r2:∀v,rkF K.H v x.md=9*K.H+151:=fun v=>by simp[rkF,h14]
  rw[r1,r2]
  omega
theorem hand_tells(hC:CfgOk K)(h:Cmp K x Shun gs w t)(hk:k<x.j)(hg:gs[K.nb+k]?=some g)(h46:(x.hs k).st=46)(hdd:(x.hs k).dd=0)(hs:AtSnd K (x.hs k).i (x.hs k).v (x.hs k).O g w):Res K Shun x t (runT K.P (crowd gs w sl) (K.nb+k)):=by
 have hone:=h.sit.one
 obtain⟨fr,cs,rfl,s1,s2,s3,s4⟩:=hs
 have hst:=s3 w
 have e0:((K.nb+k == 0)=false):=by simp;omega
 have h3:3<x.md.s:=not_ret3 h hk (by omega)
 have hcB:=h.prt.chb
 rw[decide_eq_false (by omega)]at hcB
 have hlt:K.nb+k<gs.size:=(Array.getElem?_eq_some_iff.1 hg).1
 have l4:=h.prt.lts.2.2.2
 have hmv:∀b,K.Mv (x.hs k).v b→¬SpF K b:=fun b hb=>(h.mem.ownS _ b (Or.inr ⟨k,hk,rfl,s2 b hb⟩)).1
 obtain⟨a,ha,hma⟩:=h.sit.main
 by_cases h14:x.md.s=14
 ·obtain⟨q1,q2,q3,fr',cs',rfl,q4,q5⟩:=hma.at14 h14
  have hp:partners (gs.setIfInBounds (K.nb+k) ph) K.cB false=[(0,1)]:=by
   rw[partners_one (j:=0) (g:=parked (G fr' cs') #[scase K.cO (K.sv x.next) K.zT,rcase K.cB K.zB] .select) (by rw[set_get gs _ (by omega)];exact ha) (fun j z hj hz=>off_all hC.main h (Or.inl fun e=>hC.ob e.symm) hz (Or.inl hj)),off_sel0.2]
   rfl
  have hrun:=crowd_send_meets_sel (P:=K.P) (sl:=sl) (i:=K.nb+k) (j:=0) (k:=1) hg (by rw[e0];exact hst) hcB (by omega) ha (cs := #[scase K.cO (K.sv x.next) K.zT,rcase K.cB K.zB]) rfl hp
  have hoth:∀b,b≠K.cB→(w.setChan K.cB K.N x.buf false (x.sB+1) (x.rB+1) x.tmB).heap[b]?=w.heap[b]?:=fun b hb=>heap_chan w hb
  have hsz:(w.setChan K.cB K.N x.buf false (x.sB+1) (x.rB+1) x.tmB).heap.size=w.heap.size:=size_chan w
  obtain⟨lv',rd',rl'⟩:=wsame h (fun b _ hb=>hoth b hb) hsz
  obtain⟨n,hn⟩:=s4 _ lv' rd'
  have hiN:(x.hs k).i<K.N:=Nat.lt_of_lt_of_le (h.prt.hold k hk (by omega)) h.prt.nN
  obtain⟨n2,hn2⟩:=hC.main.took x.next x.tk x.md.O fr' cs' _ (x.hs k).i (x.hs k).v q4 q3 hiN ⟨_,s1⟩ (q5 _ rl') lv' rd'
  have hprt:=prt_tell (m':={ x.md with s:=15,fu:=n2 }) (d':={ x.hs k with st:=21,fu:=n,O:=noB }) (sB':=x.sB+1) (rB':=x.rB+1) hC h.prt (fun b hb=>(h.mem.dnS b hb).1) hk h46 rfl s1 hmv (by rw[tg_kd (m:={ x.md with s:=15,fu:=n2 }) (by simp) (by simp),tg_kd (by omega) (by omega)]) (by simp) (by simp;omega) ⟨by simp,by omega⟩ (Or.inr ⟨rfl,rfl,rfl⟩) hoth (heap_chan_self w l4)
  refine⟨_,_,sl,{ x with hs:=upd x.hs k { x.hs k with st:=21,fu:=n,O:=noB },md:={ x.md with s:=15,fu:=n2 },buf:=x.buf,nt:=x.nt+1,tk:=fun y=>if y=(x.hs k).i then some (x.hs k).v else x.tk y,sB:=x.sB+1,rB:=x.rB+1,Dn:=fun b=>x.Dn b∨K.Mv (x.hs k).v b },by rw[hrun],?_,?_⟩
  ·rw[hrun]
   refine comm_res (d':={ x.hs k with st:=21,fu:=n,O:=noB }) hC h hk rfl rfl rfl (by omega) (by simp) rfl (fun _ hb=>hb) hsz ⟨rfl,rfl,rfl⟩ (fun b _ hb=>hoth b hb) (by simp) (fun i h0 hi=>by rw[set_get _ _ (fun e=>hi e.symm),set_get _ _ (fun e=>h0 e.symm)]) ⟨_,Array.getElem?_setIfInBounds_self_of_lt (by simpa using hlt),Or.inr (Or.inr (Or.inr (Or.inr (Or.inr (Or.inl ⟨rfl,hdd,hn⟩)))))⟩
    ⟨_,by rw[set_get _ _ (by omega)];exact Array.getElem?_setIfInBounds_self_of_lt (by omega),in15 rfl q1 q2 (hn2.mono fun _ _ _ y=>Or.inl ⟨q3,y⟩)⟩ rfl rfl (fun c=>absurd c (by simp)) (fun b hb=>hb.imp id (s2 b)) (fun op hop=>?_) hprt
   rcases Array.mem_append.1 hop with hop|hop
   ·simp[MemOp.ofEvents]at hop
   ·simp only[List.mem_toArray,List.mem_cons,List.not_mem_nil,or_false]at hop
    rcases hop with rfl|rfl|rfl|rfl<;>exact⟨rfl,fun m=>by simp,l4⟩
  ·have e1:=sumTo_upd x.hs { x.hs k with st:=21,fu:=n,O:=noB } (fun d=>d.st) hk
   have e1:sumTo x.j (fun l=>(upd x.hs k { x.hs k with st:=21,fu:=n,O:=noB } l).st)+(x.hs k).st=sumTo x.j (fun l=>(x.hs l).st)+21:=e1
   refine Prod.Lex.left _ _ ?_
   show 100*(K.N-x.next)+10*(K.N-(x.nt+1))+sumTo K.nb x.q+sumTo x.j (fun l=>(upd x.hs k { x.hs k with st:=21,fu:=n,O:=noB } l).st)+rkF K.H _ { x.md with s:=15,fu:=n2 }<100*(K.N-x.next)+10*(K.N-x.nt)+sumTo K.nb x.q+sumTo x.j (fun l=>(x.hs l).st)+rkF K.H (Vc x.j (wdF K x)) x.md
   have r1:∀v,rkF K.H v { x.md with s:=15,fu:=n2 }=9*K.H+152:=fun v=>by simp[rkF]
   have r2:∀v,rkF K.H v x.md=9*K.H+151:=fun v=>by simp[rkF,h14]
   rw[r1,r2]
   omega
 ·have hp:partners (gs.setIfInBounds (K.nb+k) ph) K.cB false=[]:=partners_nil fun j z hz=>off_all hC.main h (Or.inl fun e=>hC.ob e.symm) hz (Or.inr (Or.inl h14))
  have hroom:x.buf.size<K.N:=by
   have e:=h.prt.room
   have:=Go.ConcN.le_sumTo (f:=hldF K x) hk
   have e1:hldF K x k=1:=by simp[hldF,h46]
   have:=h.prt.nN
   omega
  have hrun:=crowd_send_room (P:=K.P) (sl:=sl) (i:=K.nb+k) hg (by rw[e0];exact hst) hcB hroom hp
  have hoth:∀b,b≠K.cB→(w.setChan K.cB K.N (x.buf.push (K.tv (x.hs k).i (x.hs k).v)) false (x.sB+1) x.rB x.tmB).heap[b]?=w.heap[b]?:=fun b hb=>heap_chan w hb
  have hsz:(w.setChan K.cB K.N (x.buf.push (K.tv (x.hs k).i (x.hs k).v)) false (x.sB+1) x.rB x.tmB).heap.size=w.heap.size:=size_chan w
  obtain⟨lv',rd',rl'⟩:=wsame h (fun b _ hb=>hoth b hb) hsz
  obtain⟨n,hn⟩:=s4 _ lv' rd'
  have hprt:=prt_tell (m':=x.md) (d':={ x.hs k with st:=21,fu:=n,O:=noB }) (sB':=x.sB+1) (rB':=x.rB) hC h.prt (fun b hb=>(h.mem.dnS b hb).1) hk h46 rfl s1 hmv rfl id Iff.rfl ⟨by omega,by omega⟩ (Or.inl ⟨rfl,rfl,rfl⟩) hoth (heap_chan_self w l4)
  refine⟨_,_,sl,{ x with hs:=upd x.hs k { x.hs k with st:=21,fu:=n,O:=noB },md:=x.md,buf:=x.buf.push (K.tv (x.hs k).i (x.hs k).v),nt:=x.nt,tk:=x.tk,sB:=x.sB+1,rB:=x.rB,Dn:=fun b=>x.Dn b∨K.Mv (x.hs k).v b },by rw[hrun],?_,?_⟩
  ·rw[hrun]
   refine comm_res (d':={ x.hs k with st:=21,fu:=n,O:=noB }) hC h hk rfl rfl rfl (by omega) (by simp) rfl (fun _ hb=>hb) hsz ⟨rfl,rfl,rfl⟩ (fun b _ hb=>hoth b hb) (by simp) (fun i h0 hi=>by rw[set_get _ _ (fun e=>hi e.symm)]) ⟨_,Array.getElem?_setIfInBounds_self_of_lt hlt,Or.inr (Or.inr (Or.inr (Or.inr (Or.inr (Or.inl ⟨rfl,hdd,hn⟩)))))⟩
    ⟨a,by rw[set_get _ _ (by omega)];exact ha,hma.rely rl'⟩ rfl rfl id (fun b hb=>hb.imp id (s2 b)) (fun op hop=>?_) hprt
   rcases Array.mem_append.1 hop with hop|hop
   ·simp[MemOp.ofEvents]at hop
   ·simp only[List.mem_toArray,List.mem_cons,List.not_mem_nil,or_false]at hop
    rcases hop with rfl|rfl<;>exact⟨rfl,fun m=>by simp,l4⟩
  ·have e1:=sumTo_upd x.hs { x.hs k with st:=21,fu:=n,O:=noB } (fun d=>d.st) hk
   have e1:sumTo x.j (fun l=>(upd x.hs k { x.hs k with st:=21,fu:=n,O:=noB } l).st)+(x.hs k).st=sumTo x.j (fun l=>(x.hs l).st)+21:=e1
   have ev:Vc x.j (fun l=>wdD (upd x.hs k { x.hs k with st:=21,fu:=n,O:=noB } l))=Vc x.j (wdF K x):=vc_same (k:=k) (d':={ x.hs k with st:=21,fu:=n,O:=noB }) (by omega) (by simp) fun _=>rfl
   refine Prod.Lex.left _ _ ?_
   show 100*(K.N-x.next)+10*(K.N-x.nt)+sumTo K.nb x.q+sumTo x.j (fun l=>(upd x.hs k { x.hs k with st:=21,fu:=n,O:=noB } l).st)+rkF K.H (Vc x.j (fun l=>wdD (upd x.hs k { x.hs k with st:=21,fu:=n,O:=noB } l))) x.md<100*(K.N-x.next)+10*(K.N-x.nt)+sumTo K.nb x.q+sumTo x.j (fun l=>(x.hs l).st)+rkF K.H (Vc x.j (wdF K x)) x.md
   rw[ev]
   omega
end
end
end Go.Proofs.YtedifobeggabnaaGreat
