/- Texts of ours, one behind the other: ZC2 ZC3 ZC4 ZC5 ZC6 ZC7 ZC8. -/
import Derived.Conc.Beside
import Derived.Conc.CrowdBase
import Derived.Test.YtedifobeggabnaaGreatCbZB10
import Derived.Test.YtedifobeggabnaaGreatCbZC1
import Derived.Conc.CrowdStepC
import Derived.Conc.CrowdRun
namespace Go.Proofs.YtedifobeggabnaaGreat
section
open Go.Conc
open Go.ConcN (PermW fork_knows RelBy)
def blkOf:Loc→Option Nat
 | .cell a=>some a.block
 | .obj r=>some r
 | _=>none
def InB(p:Nat→Prop)(l:Loc):Prop:=∃b,blkOf l=some b∧p b
theorem InB.mono {p q:Nat→Prop}(h:∀b,p b→q b){l:Loc}(x:InB p l):InB q l:=let ⟨b,e,hb⟩:=x; ⟨b,e,h b hb⟩
structure Apt(Sh:Nat→Prop)(own:Nat→Nat→Prop)(rd:Nat→Prop):Prop where
 two:∀g h b,own g b→own h b→g=h
 ownRd:∀g b,own g b→¬rd b
 ownSh:∀g b,own g b→¬Sh b
 rdSh:∀b,rd b→¬Sh b
def LowT(N:Nat)(x:MemAct):Prop:=∀y,x.touch?=some y→∀b,blkOf y.loc=some b→b<N
theorem LowT.mono {N M:Nat}{x:MemAct}(h:LowT N x)(hN:N≤M):LowT M x:=fun y hy b hb=>Nat.lt_of_lt_of_le (h y hy b hb) hN
theorem LowT.none {N:Nat}{x:MemAct}(h:x.touch?=none):LowT N x:=fun y hy=>by rw[h]at hy;cases hy
theorem LowT.of_low {N:Nat}{x:MemAct}(h:x.low N):LowT N x:=by
 intro y hy b hb
 revert hy h
 cases x<;>simp[MemAct.touch?,MemAct.low]
 ·rename_i e
  rintro hlo rfl
  obtain⟨loc,wr,sy⟩:=e
  cases loc<;>simp[blkOf]at hb<;>subst hb<;>exact hlo
 ·rename_i m
  cases m<;>simp
  ·rintro hlo rfl
   simp[blkOf]at hb
   subst hb
   exact hlo
  ·rintro hlo rfl
   simp[blkOf]at hb
   subst hb
   exact hlo
theorem lowT_app {N M:Nat}{t u:Trace}(h:∀op,op∈t→LowT N op.act)(hN:N≤M)(k:∀op,op∈u→LowT M op.act):∀op,op∈t++u→LowT M op.act:=fun op hop=>(Array.mem_append.1 hop).elim (fun y=>(h op y).mono hN) (k op)
structure Trc(Sh:Nat→Prop)(own:Nat→Nat→Prop)(rd live:Nat→Prop)(t:Trace):Prop where
 quiet:Quiet (InB Sh) t
 own:∀g,live g→∀l,InB (own g) l→Perm t g l
 rd:∀g,live g→∀l,InB rd l→PermW t g l
 nr:∀said, ¬Race said t
def OkT(Sh:Nat→Prop)(own:Nat→Nat→Prop)(rd:Nat→Prop)(g:Nat)(op:MemOp):Prop:=
 op.g=g∧∀x,op.act.touch?=some x→(InB Sh x.loc∧x.kind ≠ .plain∧(x.kind = .said→g=0))∨InB (own g) x.loc∨(InB rd x.loc∧x.write=false)
section
variable {Sh rd live:Nat→Prop}{own:Nat→Nat→Prop}{t u:Trace}
theorem InB.apart {p q:Nat→Prop}(h:∀b,p b→q b→False){l:Loc}(x:InB p l)(y:InB q l):False:=by
 obtain⟨b,e,hb⟩:=x
 obtain⟨c,e',hc⟩:=y
 rw[e]at e'
 cases e'
 exact h b hb hc
theorem Trc.app(A:Apt Sh own rd)(h:Trc Sh own rd live t){g:Nat}(hg:live g)(hu:∀op,op∈u→OkT Sh own rd g op):Trc Sh own rd live (t++u):=by
 refine⟨h.quiet.app fun op hop x hx hs=>?_,fun k hk l hl=>(h.own k hk l hl).app fun op hop b hb e=>?_,fun k hk l hl=>(h.rd k hk l hl).app fun op hop b hb e hw=>?_,fun said=>?_⟩
 ·rcases(hu op hop).2 x hx with⟨_,h1,h2⟩|ho|⟨ho,_⟩
  ·exact⟨h1,fun e=>(hu op hop).1.trans (h2 e)⟩
  ·exact(ho.apart (fun b=>A.ownSh g b) hs).elim
  ·exact(ho.apart A.rdSh hs).elim
 ·subst e
  rcases(hu op hop).2 b hb with⟨hs,_⟩|ho|⟨ho,_⟩
  ·exact(hl.apart (fun b=>A.ownSh k b) hs).elim
  ·obtain⟨c,e,hc⟩:=ho
   obtain⟨c',e',hc'⟩:=hl
   rw[e]at e';cases e'
   exact(hu op hop).1.trans (A.two g k c hc hc')
  ·exact(hl.apart (fun b=>A.ownRd k b) ho).elim
 ·subst e
  rcases(hu op hop).2 b hb with⟨hs,_⟩|ho|⟨_,hr⟩
  ·exact(hl.apart A.rdSh hs).elim
  ·exact(ho.apart (fun b=>A.ownRd g b) hl).elim
  ·rw[hr]at hw;cases hw
 ·refine noRace_append (h.nr said) (fun op hop=>(hu op hop).1) (fun i a ha op hop b hb hc=>?_)
  rcases(hu op hop).2 b hb with⟨hs,h1,h2⟩|ho|⟨hr,hbw⟩
  ·exact h.quiet.known hs h1 h2 i a ha hc
  ·exact h.own g hg b.loc ho i a ha hc.1
  ·exact h.rd g hg b.loc hr i a ha hc.1 (hc.2.2.1.resolve_right (by simp[hbw]))
theorem Trc.appNone(h:Trc Sh own rd live t)(hu:∀op,op∈u→op.act.touch?=none):Trc Sh own rd live (t++u):=by
 have none:∀ {op:MemOp} {b:Touch},op∈u→op.act.touch?=some b→False:=fun hop hb=>by rw[hu _ hop]at hb;cases hb
 refine⟨h.quiet.app fun op hop x hx _=>(none hop hx).elim,fun k hk l hl=>(h.own k hk l hl).app fun op hop b hb _=>(none hop hb).elim,fun k hk l hl=>(h.rd k hk l hl).app fun op hop b hb _ _=>(none hop hb).elim,fun said=>?_⟩
 rintro⟨i,j,hij,⟨a,b,ha,hb,hc⟩,n1,n2⟩
 obtain⟨x,hx,hxa⟩:=touch_of ha
 obtain⟨y,hy,hyb⟩:=touch_of hb
 rcases getElem?_append_cases hx with⟨hi,hx'⟩|⟨_,hxu⟩
 ·rcases getElem?_append_cases hy with⟨hj,hy'⟩|⟨_,hyu⟩
  ·exact h.nr said ⟨i,j,hij,⟨a,b,by simp[Trace.act?,hx',hxa],by simp[Trace.act?,hy',hyb],hc⟩,fun e=>n1 (hb_app u e),fun e=>n2 (hb_app u e)⟩
  ·exact none hyu hyb
 ·exact none hxu hxa
theorem Trc.turn {own':Nat→Nat→Prop}{rd' live':Nat→Prop}{N:Nat}(h:Trc Sh own rd live t)(hs:∀op,op∈t→LowT N op.act)(hl:∀g,live' g→live g)(ho:∀g b,live' g→own' g b→own g b∨N≤b)(hr:∀g b,live' g→rd' b→rd b∨own g b):Trc Sh own' rd' live' t:=by
 have low:∀ {i:Nat} {a:Touch} {b:Nat},touchAt t i=some a→blkOf a.loc=some b→b<N:=by
  intro i a b ha hb
  obtain⟨x,hx,hxa⟩:=touch_of ha
  exact hs x (Array.mem_of_getElem? hx) a hxa b hb
 refine⟨h.quiet,fun g hg l hx i a ha e=>?_,fun g hg l hx i a ha e hw=>?_,h.nr⟩
 ·obtain⟨b,eb,hb⟩:=hx
  rcases ho g b hg hb with hb|hb
  ·exact h.own g (hl g hg) l ⟨b,eb,hb⟩ i a ha e
  ·have:=low ha (by rw[e];exact eb)
   omega
 ·obtain⟨b,eb,hb⟩:=hx
  rcases hr g b hg hb with hb|hb
  ·exact h.rd g (hl g hg) l ⟨b,eb,hb⟩ i a ha e hw
  ·exact h.own g (hl g hg) l ⟨b,eb,hb⟩ i a ha e
theorem Trc.fork(h:Trc Sh own rd live t)(h0:live 0){k:Nat}{x y:MemOp}(hx:x.g=0∧x.act = .go k)(hy:y.g=k∧y.act = .start)(hd:Deaf t 0=0)(hk:Deaf t k=0)(hown:∀b, ¬own k b) :
  Trc Sh own rd (fun g=>live g∨g=k) (t ++ #[x,y]):=by
 have hnt:∀op,op ∈ #[x,y]→op.act.touch?=none:=by
  intro op hop
  simp only[List.mem_toArray,List.mem_cons,List.not_mem_nil,or_false]at hop
  rcases hop with rfl|rfl
  ·rw[hx.2];rfl
  ·rw[hy.2];rfl
 have hN:=h.appNone hnt
 refine⟨hN.quiet,fun g hg l hl=>?_,fun g hg l hl=>?_,hN.nr⟩
 ·rcases hg with hg|rfl
  ·exact hN.own g hg l hl
  ·obtain⟨b,_,hb⟩:=hl
   exact absurd hb (hown b)
 ·rcases hg with hg|rfl
  ·exact hN.rd g hg l hl
  ·intro i a ha e hw
   obtain⟨z,hz,hza⟩:=touch_of ha
   rcases getElem?_append_cases hz with⟨_,hz'⟩|⟨_,hzu⟩
   ·exact fork_knows hx hy hd hk (h.rd 0 h0 l hl i a (by rw[touchAt_of hz'];exact hza) e hw)
   ·rw[hnt z hzu]at hza;cases hza
end
end
section
open Go.Conc
structure Rly(rd:Nat→Prop)(Lv:World→Prop)(O:Nat→Prop)(w w1:World):Prop where
 stb:∀b,rd b∨O b→w1.heap[b]?=w.heap[b]?
 lv:Lv w→Lv w1
 size:w.heap.size≤w1.heap.size
def Grw(O:Nat→Prop)(w w':World)(b:Nat):Prop:=O b∨(w.heap.size≤b∧b<w'.heap.size)
structure Stp(rd O:Nat→Prop)(w w':World)(es:Array Event):Prop where
 tape:w'.tape=w.tape
 os:w'.os=w.os
 out:w'.output=w.output
 size:w.heap.size≤w'.heap.size
 other:∀b,b<w.heap.size→¬O b→w'.heap[b]?=w.heap[b]?
 ev:∀e,e∈es→EvT rd (Grw O w w') w'.heap.size e
def HG(P:Program)(main:Bool)(rd:Nat→Prop)(Lv:World→Prop)(Stop:(Nat→Prop)→Goroutine→World→Prop):Nat→(Nat→Prop)→Goroutine→World→Prop
 | 0,O,g,w=>∀w1,Rly rd Lv O w w1→Stop O g w1
 |n+1,O,g,w=>(∀w1,Rly rd Lv O w w1→Stop O g w1)∨(g.status = .running∧∀w1,Rly rd Lv O w w1→(stepG P main g w1).goes fun g' w' es=>Stp rd O w1 w' es∧HG P main rd Lv Stop n (Grw O w1 w') g' w')
section
variable {P:Program}{main:Bool}{rd:Nat→Prop}{Lv:World→Prop}{Stop:(Nat→Prop)→Goroutine→World→Prop}{O:Nat→Prop}{n:Nat}{g:Goroutine}{w w1 w2:World}
theorem Rly.refl(w:World):Rly rd Lv O w w:=⟨fun _ _=>rfl,id,Nat.le_refl _⟩
theorem Rly.trans(h:Rly rd Lv O w w1)(k:Rly rd Lv O w1 w2):Rly rd Lv O w w2:=⟨fun b hb=>(k.stb b hb).trans (h.stb b hb),k.lv ∘ h.lv,Nat.le_trans h.size k.size⟩
theorem Rly.at(w:World)(d:Nat)(hL:Lv w→Lv (w.at d)):Rly rd Lv O w (w.at d):=⟨fun _ _=>rfl,hL,Nat.le_refl _⟩
theorem HG.stop(h:∀w1,Rly rd Lv O w w1→Stop O g w1):HG P main rd Lv Stop n O g w:=by
 cases n with
 | zero=>exact h
 | succ n=>exact .inl h
theorem HG.step(hs:g.status = .running)(h:∀w1,Rly rd Lv O w w1→(stepG P main g w1).goes fun g' w' es=>Stp rd O w1 w' es∧HG P main rd Lv Stop n (Grw O w1 w') g' w'):HG P main rd Lv Stop (n+1) O g w:= .inr ⟨hs,h⟩
theorem HG.rely(h:HG P main rd Lv Stop n O g w)(hr:Rly rd Lv O w w1):HG P main rd Lv Stop n O g w1:=by
 cases n with
 | zero=>exact fun w2 h2=>h w2 (hr.trans h2)
 | succ n=>
  rcases h with h|⟨hs,h⟩
  ·exact .inl fun w2 h2=>h w2 (hr.trans h2)
  ·exact .inr ⟨hs,fun w2 h2=>h w2 (hr.trans h2)⟩
theorem HG.cases(h:HG P main rd Lv Stop n O g w):Stop O g w∨∃m g' w' es,n=m+1∧g.status = .running∧stepG P main g w = .go g' w' es∧Stp rd O w w' es∧HG P main rd Lv Stop m (Grw O w w') g' w':=by
 cases n with
 | zero=>exact .inl (h w (Rly.refl w))
 | succ n=>
  rcases h with h|⟨hs,h⟩
  ·exact .inl (h w (Rly.refl w))
  ·have:=h w (Rly.refl w)
   cases hg:stepG P main g w with
   | go g' w' es=>rw[hg]at this;exact .inr ⟨n,g',w',es,rfl,hs,rfl,this.1,this.2⟩
   | _=>rw[hg]at this;exact this.elim
theorem HG.mono {Stop':(Nat→Prop)→Goroutine→World→Prop}(hS:∀O g w,Stop O g w→Stop' O g w)(h:HG P main rd Lv Stop n O g w):HG P main rd Lv Stop' n O g w:=by
 induction n generalizing O g w with
 | zero=>exact fun w1 h1=>hS _ _ _ (h w1 h1)
 | succ n ih=>
  rcases h with h|⟨hs,h⟩
  ·exact .inl fun w1 h1=>hS _ _ _ (h w1 h1)
  ·refine .inr ⟨hs,fun w1 h1=>?_⟩
   have:=h w1 h1
   cases hg:stepG P main g w1 with
   | go g' w' es=>rw[hg]at this;exact⟨this.1,ih this.2⟩
   | _=>rw[hg]at this;exact this.elim
theorem Stp.idle(rd O:Nat→Prop)(w:World):Stp rd O w w #[]:=⟨rfl,rfl,rfl,Nat.le_refl _,fun _ _ _=>rfl,fun e he=>by simp at he⟩
theorem grw_idle(O:Nat→Prop)(w:World):Grw O w w=O:=by
 funext b
 refine propext ⟨fun h=>h.resolve_right (by omega),Or.inl⟩
end
def OneLt {α:Type}(r:α→α→Prop)(n:Nat)(f g:Nat→α):Prop:=∃k,k<n∧r (f k) (g k)∧∀j,j≠k→f j=g j
theorem oneLt_wf {α:Type}{r:α→α→Prop}(hr:WellFounded r):∀n,WellFounded (OneLt r n):=by
 intro n
 induction n with
 | zero=>exact⟨fun g=>Acc.intro g fun f ⟨k,hk,_⟩=>absurd hk (Nat.not_lt_zero k)⟩
 | succ n ih=>
  have key:∀a,Acc r a→∀g:Nat→α,g n=a→Acc (OneLt r (n+1)) g:=by
   intro a ha
   induction ha with
   | intro a _ iha=>
    intro g
    have hg:=ih.apply g
    induction hg with
    | intro g _ ihg=>
     intro e
     refine Acc.intro g fun f ⟨k,hk,h1,h2⟩=>?_
     rcases Nat.lt_or_ge k n with hl|hl
     ·exact ihg f ⟨k,hl,h1,h2⟩ ((h2 n (by omega)).trans e)
     ·have hkn:k=n:=by omega
      subst hkn
      exact iha (f k) (e▸h1) f rfl
  exact⟨fun g=>key (g n) (hr.apply _) g rfl⟩
def Back(fr:Frame)(cs:List Frame)(_:World):Prop:=cs=[]∧fr.mode = .returning
def LAc(P:Program):Type:={ s:LSt // Acc (Nxt P [cDead P] Back) s }
def laR(P:Program)(a b:Option (LAc P)):Prop:=∃x y,a=some x∧b=some y∧Nxt P [cDead P] Back x.1 y.1
theorem laR_wf(P:Program):WellFounded (laR P):=by
 have key:∀s:LSt,Acc (Nxt P [cDead P] Back) s→∀x:LAc P,x.1=s→Acc (laR P) (some x):=by
  intro s hs
  induction hs with
  | intro s _ ih=>
   intro x e
   refine Acc.intro _ fun b ⟨y,z,h1,h2,h3⟩=>?_
   cases h2
   subst h1
   exact ih y.1 (e▸h3) y rfl
 refine⟨fun a=>?_⟩
 cases a with
 | none=>exact Acc.intro _ fun b ⟨_,y,_,h2,_⟩=>by cases h2
 | some x=>exact key x.1 x.2 x rfl
abbrev HMs(P:Program):=Option (LAc P)×Nat
def hmR(P:Program):HMs P→HMs P→Prop:=Prod.Lex (laR P) (· < ·)
theorem hmR_wf(P:Program):WellFounded (hmR P):=(Prod.lex ⟨laR P,laR_wf P⟩ Nat.lt_wfRel).wf
abbrev Mea(P:Program):=Nat×(Nat→HMs P)×Nat
def meR(P:Program)(n:Nat):Mea P→Mea P→Prop:=Prod.Lex (· < ·) (Prod.Lex (OneLt (hmR P) n) (· < ·))
theorem meR_wf(P:Program)(n:Nat):WellFounded (meR P n):=(Prod.lex Nat.lt_wfRel (Prod.lex ⟨OneLt (hmR P) n,oneLt_wf (hmR_wf P) n⟩ Nat.lt_wfRel)).wf
theorem Lto.mono {P:Program}{cb:List Frame}{S1 S2:Frame→List Frame→World→Prop}(h:∀fr cs V,S1 fr cs V→S2 fr cs V){n:Nat}{fr:Frame}{cs:List Frame}{V:World}(hl:Lto P cb S1 n fr cs V):Lto P cb S2 n fr cs V:=by
 induction n generalizing fr cs V with
 | zero=>exact h _ _ _ hl
 | succ n ih=>
  rcases hl with hl|⟨a,b,c,d,h1,h2,h3⟩
  ·exact .inl (h _ _ _ hl)
  ·exact .inr ⟨a,b,c,d,h1,h2,ih h3⟩
section
variable {P:Program}{Q:Nat→Prop}{F:Fx}{B:Nat}{fr:Frame}{cs:List Frame}{V:World}{Post:Value→World→Prop}
theorem told_rtp(hPost:∀v V T d,Post v V→Post v (rtp V T d))(fr:Frame)(cs:List Frame)(V:World)(T:Tape)(d:Nat)(h:LOk P Q F B fr cs V):Told P Post fr cs (rtp V T d)↔Told P Post fr cs V:=by
 have one:∀ {V:World} (T:Tape) (d:Nat),LOk P Q F B fr cs V→Told P Post fr cs V→Told P Post fr cs (rtp V T d):=by
  rintro V T d h ⟨h1,v,⟨a1,a2,a3,fn,a4,a5⟩,h3⟩
  refine⟨h1,v,⟨a1,a2,a3,fn,a4,?_⟩,hPost v V T d h3⟩
  have hsr:=sr_results (P:=P) (S:=Sup Q B) (F:=F) (f:=id) fn (h.fr.mono (fun b x=>x.imp id And.left)).tmps
  cases hr:(results fn fr.tmps).runT P V #[]with
  | mk r E=>
   have e:=Sem.runT_fst P (results fn fr.tmps) V #[]
   rw[hr,a5]at e
   have e:r = .ok v V:=e
   subst e
   have:=(hsr.tape (cl_of h.blk h.le h.cf) hr (T:=T) (d:=d) (fun i q h1 h2=>by omega)).1
   have e2:=Sem.runT_fst P (results fn fr.tmps) (rtp V T d) #[]
   rw[this,Nat.sub_self]at e2
   exact e2.symm
 refine⟨fun x=>?_,one T d h⟩
 have:=one V.tape V.drawn (h.rtp T d) x
 rwa [rtp_rtp,rtp_self]at this
theorem back_rtp(fr:Frame)(cs:List Frame)(V:World)(T:Tape)(d:Nat)(_:LOk P Q F B fr cs V):Back fr cs (rtp V T d)↔Back fr cs V:=Iff.rfl
theorem Told.back(fr:Frame)(cs:List Frame)(V:World)(h:Told P Post fr cs V):Back fr cs V:=⟨h.1,h.2.choose_spec.1.1⟩
theorem Tot.told(hP:Prg P Q F B)(h:LOk P Q F B fr cs V)(ht:Tot P [cDead P] (Told P Post) fr cs V)(hb:Back fr cs V):Told P Post fr cs V:=by
 obtain⟨n,hn⟩:=ht V.tape V.drawn
 rw[rtp_self]at hn
 cases n with
 | zero=>exact hn
 | succ n=>
  rcases hn with hn|⟨fr1,cs1,V1,es,hs,hp,_⟩
  ·exact hn
  ·exact absurd hb.1 (ret_not hP h hs hb.2)
theorem Tot.acc'(hP:Prg P Q F B)(h:LOk P Q F B fr cs V)(ht:Tot P [cDead P] (Told P Post) fr cs V):Acc (Nxt P [cDead P] Back) (fr,cs,V):=by
 refine Tot.acc hP (fun fr cs V T d h=>back_rtp (P:=P) (Q:=Q) (F:=F) (B:=B) fr cs V T d h) h fun T d=>?_
 obtain⟨n,hn⟩:=ht T d
 exact⟨n,hn.mono Told.back⟩
end
end
section
open Go.Conc (G)
def frzB(w:World)(b:Nat):World:=
 match w.heap[b]? with
 |some (.cells c t _)=>{ w with heap:=w.heap.setIfInBounds b (.cells c t (0,c.size))}
 | _=>w
theorem frzB_at {w:World}{b:Nat}{c:Array Value}{t:TypeId}{z:Nat×Nat}(h:w.heap[b]?=some (.cells c t z)):frzB w b={ w with heap:=w.heap.setIfInBounds b (.cells c t (0,c.size))}:=by
 unfold frzB
 rw[h]
theorem frzB_size(w:World)(b:Nat):(frzB w b).heap.size=w.heap.size:=by
 unfold frzB
 split
 ·simp
 ·rfl
theorem frzB_other(w:World){b x:Nat}(h:x≠b):(frzB w b).heap[x]?=w.heap[x]?:=by
 unfold frzB
 split
 ·exact Array.getElem?_setIfInBounds_ne (fun e=>h e.symm)
 ·rfl
theorem frzB_self {w:World}{b:Nat}{c:Array Value}{t:TypeId}{z:Nat×Nat}(h:w.heap[b]?=some (.cells c t z)):(frzB w b).heap[b]?=some (.cells c t (0,c.size)):=by
 rw[frzB_at h]
 exact Array.getElem?_setIfInBounds_self_of_lt (lt_of_some h)
theorem frzB_cell(w:World)(b:Nat)(a:Addr):(frzB w b).cell? a=w.cell? a:=by
 by_cases e:a.block=b
 ·unfold World.cell?
  cases ho:w.heap[b]? with
  | none=>
   have:frzB w b=w:=by unfold frzB;rw[ho]
   rw[this]
  | some o=>
   cases o with
   | cells c t z=>rw[e,frzB_self ho,ho]
   | _=>
    have:frzB w b=w:=by unfold frzB;rw[ho]
    rw[this]
 ·unfold World.cell?
  rw[frzB_other w e]
section
variable {P:Program}{Q:Nat→Prop}{F:Fx}{B:Nat}{bs:List Frame}{fr:Frame}{V W:World}{f:Nat→Nat}{Post:Value→World→Prop}
theorem sim_start(hF:∀b, ¬F.cl b)(hq:∀b,Q b→∃c t,W.heap[b]?=some (.cells c t (0,0))∧V.heap[b]?=some (.cells c t (0,c.size))∧∀v,v∈c→NoB v)(hs:V.heap.size=W.heap.size):SimT Q F W.heap.size id V W∧Blk (Sto Q W.heap.size V.heap.size) F V:=by
 have hst:∀b,Sto Q W.heap.size V.heap.size b→Q b:=fun b h=>h.elim id fun x=>absurd x.2 (by omega)
 refine⟨⟨fun b o hb ho=>?_,fun _ _ _ _ e=>e,fun b hb=>?_⟩,fun b hb _=>?_⟩
 ·obtain⟨c,t,h1,h2,h3⟩:=hq b (hst b hb)
  rw[ho]at h2;cases h2
  refine⟨_,h1,c,t,(0,0),rfl,⟨fun _=>?_,fun q=>absurd q (hF b)⟩,fun _=>rfl,Or.inr (Or.inr rfl)⟩
  exact((Array.map_congr_left fun v hv=>rnV_id (h3 v hv)).trans (Array.map_id' _)).symm
 ·obtain⟨c,t,h1,h2,h3⟩:=hq b hb
  exact⟨rfl,⟨c,t,h2⟩,lt_of_some h1⟩
 ·obtain⟨c,t,h1,h2,h3⟩:=hq b (hst b hb)
  exact⟨_,h2,fun v hv=>NoB.ok (h3 v hv) _ _⟩
theorem own_start(hs:V.heap.size=W.heap.size)(b:Nat):¬OwnT W.heap.size id V b:=by
 rintro⟨x,h1,h2,_⟩
 omega
theorem sim_told {main:Bool}(hk:LOk P Q F B fr [] V)(h:SimT Q F B f V W){v:Value}(hl:fr.leaving P V (.returned v))(c:Frame) :
  ∃W1 es,stepG P main (G (rnF f fr) (c::bs)) W = .go (G (c.finish (rnV f v)) bs) W1 es∧SimT Q F B f V W1∧Keeps B f f V V W W1∧VOk (Sto Q B V.heap.size) F v∧∀e,e∈es→EvT Q (OwnT B f V) W1.heap.size e:=by
 have hlow:∀b,Q b→b<B:=fun b hb=>(h.low b hb).2.2
 have hup:∀b,Sto Q B V.heap.size b→Sup Q B b:=fun b x=>x.imp id And.left
 have hsim:=h.sim hk
 obtain⟨hm,hd,hkd,fn,hfn,hr⟩:=hl
 have hsr:=sr_results (P:=P) (S:=Sup Q B) (F:=F) (f:=fNew f V W) fn (hk.fr.mono hup).tmps
 have hsr1:=sr_results (P:=P) (S:=Sup Q B) (F:=F) (f:=id) fn (hk.fr.mono hup).tmps
 have hsr2:=sr_results (P:=P) (S:=Sto Q B V.heap.size) (F:=F) (f:=id) fn hk.fr.tmps
 cases hrr:(results fn fr.tmps).runT P V #[]with
 | mk r E=>
  have e:=Sem.runT_fst P (results fn fr.tmps) V #[]
  rw[hrr,hr]at e
  have e:r = .ok v V:=e
  subst e
  have hv:VOk (Sto Q B V.heap.size) F v:=by
   obtain⟨⟨a',ha⟩,_⟩:=hsr1.tight hsim.cl hsr2 hk.blk hrr (fun b h1 h2=>absurd h2 (by omega))
   exact ha.1
  obtain⟨v',W1,E',e1,h5,h6,h7,h8,h9⟩:=hsr.run hsim hrr (fun j q h1 h2=>absurd h2 (by omega))
  have e1:E=E':=by simpa using e1
  subst e1
  obtain⟨_,rfl⟩:=h6
  have ev:rnV (fNew f V W) v=rnV f v:=(rnV_congr (fun b hb=>fNew_sto hk.le hlow hb) hv).symm
  have ef:rnF f fr=rnF (fNew f V W) fr:=rnF_congr (fun b hb=>fNew_sto hk.le hlow hb) hk.fr
  have hsz:W1.heap.size=W.heap.size:=by have:=h8.size;omega
  have hfz:∀b,Q b→W1.heap[fNew f V W b]?=W.heap[fNew f V W b]?:=fun b hq=>(h8.froz b (Or.inl hq) (by have:=hlow b hq;have:=hk.le;omega) (h.low b hq).2.1).2
  refine⟨W1,(seen P fr.fn E).map (rnE (fNew f V W)),?_,⟨fun b o hb ho=>?_,h.inj,h.low⟩,⟨h8.tape,h8.os,h8.out,by omega,fun b hx ho=>?_,fun b=>⟨Or.inl,fun x=>x.elim id fun y=>absurd y.2 (by omega)⟩⟩,hv,fun e he=>?_⟩
  ·rw[ef, ←ev]
   obtain⟨fn',tmps,todo,defers,mode,kind,round⟩:=fr
   have e1:mode = .returning:=hm
   have e2:defers=[]:=hd
   have e3:kind = .normal:=hkd
   subst e1 e2 e3
   simp only[G,rnF,stepG,unwind,hfn]
   have h5':=h5 #[]
   rw[h5']
   simp[GStep.after,doReturn,seen_rn]
  ·obtain⟨o',ho',hal⟩:=h7.blk b o (hup b hb) ho
   have hlt:=sto_lt hk.le hlow hb
   obtain⟨o2,ho2,hk2⟩:=hk.blk b hb hlt
   rw[ho]at ho2;cases ho2
   rw[fNew_old hlt]at ho'
   exact⟨o',ho',hal.congr (fun x hx=>(fNew_sto hk.le hlow hx).symm) hk2⟩
  ·by_cases hq:Q b
   ·have hlt:b<V.heap.size:=by have:=hlow b hq;have:=hk.le;omega
    have:=hfz b hq
    rwa [fNew_old hlt,(h.low b hq).1]at this
   ·refine h8.other b hx fun x hs hlx e=>?_
    rw[fNew_old hlx]at e
    rcases hs with hs|hs
    ·rw[(h.low x hs).1]at e
     exact hq (e▸hs)
    ·exact ho ⟨x,hs,hlx,e⟩
  ·obtain⟨e0,he0,rfl⟩:=Array.mem_map.1 he
   have hv0:=h9 e0 (seen_sub P fr.fn E e0 he0)
   obtain⟨loc,wr,sy⟩:=e0
   have own:∀b,Sup Q B b→b<V.heap.size→OwnT B f V (fNew f V W b)∨(Q b∧fNew f V W b=b):=by
    intro b hs hlb
    rcases hs with hs|hs
    ·exact Or.inr ⟨hs,(fNew_old hlb).trans (h.low b hs).1⟩
    ·exact Or.inl ⟨b,hs,hlb,(fNew_old hlb).symm⟩
   have inW:∀b,Sup Q B b→b<V.heap.size→fNew f V W b<W1.heap.size:=by
    intro b hs hlb
    obtain⟨o,ho,_⟩:=hk.blk b (hs.imp id fun y=>⟨y,hlb⟩) hlb
    obtain⟨o',ho',_⟩:=h.blk b o (hs.imp id fun y=>⟨y,hlb⟩) ho
    have:=lt_of_some ho'
    rw[fNew_old hlb]
    omega
   cases loc with
   | cell a=>
    obtain⟨h1,h2,h3,h4⟩:=hv0
    refine⟨h3,inW _ h1 h2,?_⟩
    rcases own _ h1 h2 with h5|⟨h5,h6⟩
    ·exact Or.inl h5
    ·refine Or.inr ⟨?_,?_⟩
     ·show Q (fNew f V W a.block)
      rw[h6]
      exact h5
     ·cases wr with
      | false=>rfl
      | true=>exact absurd (h.low _ h5).2.1 (h4 rfl)
   | obj r=>
    obtain⟨h1,h2,h3,h4⟩:=hv0
    refine⟨h4,h3,inW _ h1 h2,?_⟩
    rcases own _ h1 h2 with h5|⟨h5,h6⟩
    ·exact Or.inl h5
    ·exact Or.inr (by show Q (fNew f V W r);rw[h6];exact h5)
   | mark m=>exact hv0
   | _=>exact hv0.elim
end
end
section
open Go.Conc
open Go.ConcR (KK WgAt stA smA rd wr mk Payload DC0)
open Go.ConcN (WgLive)
def clsEv(c:Nat):Array Event := #[⟨.obj c,false,true⟩,⟨.obj c,true,true⟩]
def noB:Nat→Prop:=fun _=>False
def ffL:Nat→Loc→Prop:=fun _ _=>False
structure Cfg where
 P:Program
 ty:TypeId
 cO:Nat
 cB:Nat
 Wg:Nat
 T:Nat
 tT:TypeId
 zO:Value
 zB:Value
 zS:Value
 zT:Value
 N:Nat
 H:Nat
 nb:Nat
 sv:Nat→Value
 er:Nat→Nat
 ls:Nat→Bool
 tv:Nat→Value→Value
 GM:Nat→Value→World→Prop
 Mv:Value→Nat→Prop
 rd:Nat→Prop
 w0:World
 mf:FuncId
 ma:Nat→Array Value
 Qm:Nat→Nat→Prop
 F:Fx
 Rcv:Frame→List Frame→Prop
 Sel:Nat→(Nat→Prop)→Frame→List Frame→Prop
 Rng:(Nat→Prop)→Frame→List Frame→Prop
 Got:(Nat→Option Value)→(Nat→Prop)→World→Prop
 Anc:(Nat→Option Value)→(Nat→Prop)→Goroutine→World→Prop
 Fin:(Nat→Option Value)→(Nat→Prop)→Goroutine→World→Prop
 et:TypeId
 C1:Nat
 C2:Nat
 v1:Value
 v2:Value
 p0:Nat
section
variable (K:Cfg)
def Lvx(w:World):Prop:=WgLive K.ty K.Wg w
def Rdx(w:World):Prop:=∀b,K.rd b→w.heap[b]?=K.w0.heap[b]?
def TalAt(w:World)(x y:Int):Prop:=w.heap[K.T]?=some (.cells #[.int .i64 x,.int .i64 y] K.tT)
def HH(Stop:(Nat→Prop)→Goroutine→World→Prop):Nat→(Nat→Prop)→Goroutine→World→Prop:=HG K.P false K.rd (Lvx K) Stop
def H0(Stop:(Nat→Prop)→Goroutine→World→Prop):Nat→(Nat→Prop)→Goroutine→World→Prop:=HG K.P true K.rd (Lvx K) Stop
def AtRcv(_:Nat→Prop)(g:Goroutine)(_:World):Prop:=g.status = .running∧g.dying=none∧K.Rcv g.frame g.callers
def AtSnd(i:Nat)(v:Value)(O:Nat→Prop)(g:Goroutine)(w:World):Prop:=
 ∃fr cs,g=G fr cs∧K.GM i v w∧(∀b,K.Mv v b→O b)∧(∀w1,stepG K.P false g w1 = .comm g #[scase K.cB (K.tv i v) K.zS] true .send w1 #[])∧
  ∀w1,Lvx K w1→Rdx K w1→∃n,HH K (AtRcv K) n noB (G (fr.finish undef) cs) w1
def AtAd2(i:Nat)(v:Value)(O:Nat→Prop)(g:Goroutine)(w:World):Prop:=
 g.status = .running∧∀x y,TalAt K w x y→0≤y→y<1000000→∃g',stepG K.P false g w = .go g' (w.setCell ⟨K.T,1,none⟩ (.int .i64 (y+1))) #[rd ⟨K.T,1,none⟩,wr ⟨K.T,1,none⟩]∧
  ∃n,HH K (AtSnd K i v) n O g' (w.setCell ⟨K.T,1,none⟩ (.int .i64 (y+1)))
def AtAd1(i:Nat)(v:Value)(O:Nat→Prop)(g:Goroutine)(w:World):Prop:=
 g.status = .running∧∀x y,TalAt K w x y→0≤x→x<1000000→∃g',stepG K.P false g w = .go g' (w.setCell ⟨K.T,0,none⟩ (.int .i64 (x+K.er i))) #[rd ⟨K.T,0,none⟩,wr ⟨K.T,0,none⟩]∧
  (K.ls i=true→∃n,HH K (AtAd2 K i v) n O g' (w.setCell ⟨K.T,0,none⟩ (.int .i64 (x+K.er i))))∧
  (K.ls i=false→∃n,HH K (AtSnd K i v) n O g' (w.setCell ⟨K.T,0,none⟩ (.int .i64 (x+K.er i))))
def TolC(i:Nat)(c:Frame)(cs:List Frame)(O:Nat→Prop)(w:World):Prop:=
 ∀O' w' v,(∀b,O b→O' b∧w'.heap[b]?=w.heap[b]?)→Lvx K w'→Rdx K w'→K.GM i v w'→(∀b,K.Mv v b→O' b)→∃n,HH K (AtAd1 K i v) n O' (G (c.finish v) cs) w'
def AtMnd(i:Nat)(O:Nat→Prop)(g:Goroutine)(w:World):Prop:=∃c cs,g=G (Frame.enter K.P K.mf (K.ma i) .normal) (c::cs)∧TolC K i c cs O w
def Rls(m:Nat)(g:Goroutine)(w:World):Prop:=
 Goes K.P false (@Go.ConcN.RW ⟨K.et⟩ K.ty K.Wg K.C1 1 0 0) (@Go.ConcN.DWs ⟨K.et⟩ K.Wg ffL ffL K.C1 1 1) (@Go.ConcN.AtR0 ⟨K.et⟩ K.P K.ty K.Wg K.C1 1 0 1 K.v1) m g w ∧
 Goes K.P false (@Go.ConcN.RW ⟨K.et⟩ K.ty K.Wg K.C2 1 0 0) (@Go.ConcN.DWs ⟨K.et⟩ K.Wg ffL ffL K.C2 1 1) (@Go.ConcN.AtR0 ⟨K.et⟩ K.P K.ty K.Wg K.C2 1 0 1 K.v2) m g w
def AtDon(_:Nat→Prop)(g:Goroutine)(w:World):Prop:=∃m,Rls K m g w
structure MndOk(i:Nat)(w V:World)(Post:Value→World→Prop):Prop where
 size:V.heap.size=w.heap.size
 sim:SimT (K.Qm i) K.F w.heap.size id V w
 blk:Blk (Sto (K.Qm i) w.heap.size V.heap.size) K.F V
 cf:ClF K.F w.heap.size V
 args:∀v,v∈K.ma i→VOk (Sto (K.Qm i) w.heap.size w.heap.size) K.F v
 prg:Prg K.P (K.Qm i) K.F w.heap.size
 post:∀v u T d,Post v u→Post v (rtp u T d)
 calls:∀T d,Calls K.P K.mf (K.ma i) (rtp V T d) fun e u=>∃v,e = .returned v∧Post v u
 told:∀f u W1 v,(∀b,OwnT w.heap.size f u b→K.C1<b)→SimT (K.Qm i) K.F w.heap.size f u W1→Blk (Sto (K.Qm i) w.heap.size u.heap.size) K.F u→VOk (Sto (K.Qm i) w.heap.size u.heap.size) K.F v→Post v u→K.GM i (rnV f v) W1∧∀b,K.Mv (rnV f v) b→OwnT w.heap.size f u b
structure HandOk:Prop where
 step:∀fr cs w,K.Rcv fr cs→stepG K.P false (G fr cs) w = .comm (G fr cs) #[rcase K.cO K.zO] true (.recv true) w #[]
 word:∀fr cs i w,K.Rcv fr cs→i<K.N→Lvx K w→Rdx K w→∃n,HH K (AtMnd K i) n noB (G (fr.finish (recvd true (K.sv i) true)) cs) w
 over:∀fr cs w,K.Rcv fr cs→Lvx K w→Rdx K w→∃n,HH K (AtDon K) n noB (G (fr.finish (recvd true K.zO false)) cs) w
 mend:∀i w,i<K.N→Lvx K w→Rdx K w→∃V Post,MndOk K i w V Post
 fn:K.F.fn K.mf
 reads:∀i b,K.Qm i b→K.rd b
 gm:∀i v w w1,(∀b,K.Mv v b→w1.heap[b]?=w.heap[b]?)→K.GM i v w→K.GM i v w1
 tvi:∀i v i' v',K.tv i v=K.tv i' v'→i=i'∧v=v'
def AtRng(tk:Nat→Option Value)(O:Nat→Prop)(g:Goroutine)(w:World):Prop:=∃fr cs,g=G fr cs∧K.Rng O fr cs∧K.Got tk O w
def AtCl2(tk:Nat→Option Value)(O:Nat→Prop)(g:Goroutine)(w:World):Prop:=
 g.status = .running∧∀cap buf s r tm,w.heap[K.cB]?=some (.chan cap buf false s r tm)→∃g',stepG K.P true g w = .go g' (w.setChan K.cB cap buf true s r tm) (clsEv K.cB)∧∃m,H0 K (AtRng K tk) m O g' (w.setChan K.cB cap buf true s r tm)
def AtMk(m:Mark)(Next:(Nat→Prop)→Goroutine→World→Prop)(O:Nat→Prop)(g:Goroutine)(w:World):Prop:=
 g.status = .running∧∃g',stepG K.P true g w = .go g' w #[mk m]∧∃n,H0 K Next n O g' w
def AtAcq(tk:Nat→Option Value):=AtMk K (.acquire (stA K.Wg)) (AtCl2 K tk)
def AtKe(tk:Nat→Option Value):=AtMk K .enable (AtAcq K tk)
def AtW4(tk:Nat→Option Value)(O:Nat→Prop)(g:Goroutine)(w:World):Prop:=
 g.status = .running∧(WgAt K.ty K.Wg w 0 0→∃g',stepG K.P true g w = .go g' w #[rd (stA K.Wg)]∧∃n,H0 K (AtKe K tk) n O g' w)
def AtW3(tk:Nat→Option Value)(O:Nat→Prop)(g:Goroutine)(w:World):Prop:=
 g.status = .running∧g.offers=none∧((∃st,WgAt K.ty K.Wg w st 0)→stepG K.P true g w = .go { g with status:= .blocked } w #[])∧
  (WgAt K.ty K.Wg w 0 1→∃g',stepG K.P true g w = .go g' (w.setCell (smA K.Wg) (.int .u32 0)) (semEvents (smA K.Wg))∧∃n,H0 K (AtW4 K tk) n O g' (w.setCell (smA K.Wg) (.int .u32 0)))
def AtMkW(tk:Nat→Option Value):=AtMk K (.write (smA K.Wg)) (AtW3 K tk)
def AtW2(tk:Nat→Option Value)(vs:Nat)(O:Nat→Prop)(g:Goroutine)(w:World):Prop:=
 g.status = .running∧∀v:Nat,v<2147483648→WgAt K.ty K.Wg w (v*KK) 0 →
  (v=vs→∃g',stepG K.P true g w = .go g' (w.setCell (stA K.Wg) (.int .u64 (v*KK+1))) #[rd (stA K.Wg),wr (stA K.Wg)]∧∃n,H0 K (AtMkW K tk) n O g' (w.setCell (stA K.Wg) (.int .u64 (v*KK+1))))∧
  (v≠vs→∃g',stepG K.P true g w = .go g' w #[rd (stA K.Wg)]∧∃n,H0 K (K.Anc tk) n O g' w)
def AtW1(tk:Nat→Option Value)(O:Nat→Prop)(g:Goroutine)(w:World):Prop:=
 g.status = .running∧∀v:Nat,v<2147483648→WgAt K.ty K.Wg w (v*KK) 0→∃g',stepG K.P true g w = .go g' w #[rd (stA K.Wg)]∧
  (v=0→∃n,H0 K (AtKe K tk) n O g' w)∧(v≠0→∃n,H0 K (AtW2 K tk v) n O g' w)
def AtKd(tk:Nat→Option Value):=AtMk K .disable (K.Anc tk)
def AtCls(tk:Nat→Option Value)(O:Nat→Prop)(g:Goroutine)(w:World):Prop:=
 g.status = .running∧mayWake K.P g=true∧∀s r tm,w.heap[K.cO]?=some (.chan 0 #[] false s r tm)→∃g',stepG K.P true g w = .go g' (w.setChan K.cO 0 #[] true s r tm) (clsEv K.cO)∧g'.status = .running∧∃n,H0 K (AtKd K tk) n O g' (w.setChan K.cO 0 #[] true s r tm)
def AtSel(i:Nat)(tk:Nat→Option Value)(O:Nat→Prop)(g:Goroutine)(w:World):Prop:=∃fr cs,g=G fr cs∧K.Sel i O fr cs∧K.Got tk O w
def AftZ(i:Nat)(tk:Nat→Option Value)(O:Nat→Prop)(g:Goroutine)(w:World):Prop:=(i<K.N∧AtSel K i tk O g w)∨(i=K.N∧AtCls K tk O g w)
def selV(K:Cfg)(k:Int)(v:Value)(ok:Bool)(i:Nat):Value:=commResult #[scase K.cO (K.sv i) K.zT,rcase K.cB K.zB] .select k v ok
structure MainOk:Prop where
 sel:∀i O fr cs w,K.Sel i O fr cs→stepG K.P true (G fr cs) w = .comm (G fr cs) #[scase K.cO (K.sv i) K.zT,rcase K.cB K.zB] true .select w #[]
 sent:∀i tk O fr cs w,K.Sel i O fr cs→i<K.N→K.Got tk O w→Lvx K w→Rdx K w→∃n,H0 K (AftZ K (i+1) tk) n O (G (fr.finish (selV K 0 undef false i)) cs) w
 took:∀i tk O fr cs w j v,K.Sel i O fr cs→i<K.N→j<K.N→(∃w0,K.GM j v w0)→K.Got tk O w→Lvx K w→Rdx K w→∃n,H0 K (AtSel K i (fun x=>if x=j then some v else tk x)) n O (G (fr.finish (selV K 1 (K.tv j v) true i)) cs) w
 anc:∀tk O g w,K.Anc tk O g w→g.status = .running∧∃n,H0 K (AtW1 K tk) n O g w
 rng:∀O fr cs w,K.Rng O fr cs→stepG K.P true (G fr cs) w = .comm (G fr cs) #[rcase K.cB K.zB] true (.recv true) w #[]
 got:∀tk O fr cs w j v,K.Rng O fr cs→j<K.N→(∃w0,K.GM j v w0)→K.Got tk O w→Lvx K w→Rdx K w→∃n,H0 K (AtRng K (fun x=>if x=j then some v else tk x)) n O (G (fr.finish (recvd true (K.tv j v) true)) cs) w
 over:∀tk O fr cs w,K.Rng O fr cs→K.Got tk O w→Lvx K w→Rdx K w→∃n,H0 K (K.Fin tk) n O (G (fr.finish (recvd true K.zB false)) cs) w
 fin:∀tk O g w,K.Fin tk O g w→g.status = .running
def tk0:Nat→Option Value:=fun _=>none
def AtGo(Next:(Nat→Prop)→Goroutine→World→Prop)(O:Nat→Prop)(g:Goroutine)(w:World):Prop:=
 g.status = .running∧∃g' child,stepG K.P true g w = .spawn g' child w #[]∧(∃n,HH K (AtRcv K) n noB child w)∧∃n,H0 K Next n O g' w
def AtKeS(Next:(Nat→Prop)→Goroutine→World→Prop):=AtMk K .enable (AtGo K Next)
def AtMkR(Next:(Nat→Prop)→Goroutine→World→Prop):=AtMk K (.read (smA K.Wg)) (AtKeS K Next)
def AtA1(Next:(Nat→Prop)→Goroutine→World→Prop)(O:Nat→Prop)(g:Goroutine)(w:World):Prop:=
 g.status = .running∧∀v:Nat,v<2147483647→WgAt K.ty K.Wg w (v*KK) 0→∃g',stepG K.P true g w = .go g' (w.setCell (stA K.Wg) (.int .u64 ((v+1)*KK))) #[rd (stA K.Wg),wr (stA K.Wg)]∧
  (v=0→∃n,H0 K (AtMkR K Next) n O g' (w.setCell (stA K.Wg) (.int .u64 ((v+1)*KK))))∧(v≠0→∃n,H0 K (AtKeS K Next) n O g' (w.setCell (stA K.Wg) (.int .u64 ((v+1)*KK))))
def AtKdS(Next:(Nat→Prop)→Goroutine→World→Prop):=AtMk K .disable (AtA1 K Next)
def SpnZ:Nat→(Nat→Prop)→Goroutine→World→Prop
 | 0=>AftZ K 0 tk0
 |r+1=>AtKdS K (SpnZ r)
end
end
section
open Go.Conc
open Go.ConcR (KK WgAt stA smA rd wr mk Payload DC0)
open Go.ConcN (WgLive CTag WD)
structure HD(P:Program) where
 st:Nat
 i:Nat
 fu:Nat
 la:Option (LAc P)
 O:Nat→Prop
 v:Value
 dd:Nat
structure MD where
 s:Nat
 r:Nat
 fu:Nat
 O:Nat→Prop
 d0:Nat
section
variable (K:Cfg)
def InM(i:Nat)(la:Option (LAc K.P))(O:Nat→Prop)(g:Goroutine)(w:World):Prop:=
 ∃fr cs V f B c bs O1 Post, ∃x:LAc K.P,la=some x∧x.1=(fr,cs,V)∧g=G (rnF f fr) (cs.map (rnF f)++c::bs)∧Prg K.P (K.Qm i) K.F B∧LOk K.P (K.Qm i) K.F B fr cs V∧Tot K.P [cDead K.P] (Told K.P Post) fr cs V∧SimT (K.Qm i) K.F B f V w ∧
  (∀v u T d,Post v u→Post v (rtp u T d))∧(∀f u W1 v,(∀b,OwnT B f u b→K.C1<b)→SimT (K.Qm i) K.F B f u W1→Blk (Sto (K.Qm i) B u.heap.size) K.F u→VOk (Sto (K.Qm i) B u.heap.size) K.F v→Post v u→K.GM i (rnV f v) W1∧∀b,K.Mv (rnV f v) b→OwnT B f u b)∧
  (∀b,O b↔O1 b∨OwnT B f V b)∧(∀b,O1 b→b<B)∧(∀b,OwnT B f V b→¬O1 b∧K.C1<b)∧TolC K i c bs O1 w
def Wsx(s m d:Nat)(g:Goroutine)(w:World):Prop:=
 @Go.ConcN.WSit ⟨K.et⟩ K.P K.ty K.Wg K.C1 1 ffL ffL 0 1 K.v1 s m d g w ∨ @Go.ConcN.WSit ⟨K.et⟩ K.P K.ty K.Wg K.C2 1 ffL ffL 0 1 K.v2 s m d g w
def HSit(d:HD K.P)(g:Goroutine)(w:World):Prop:=
 (d.st=50∧d.dd=0∧HH K (AtMnd K d.i) d.fu d.O g w)∨
 (d.st=49∧d.dd=0∧InM K d.i d.la d.O g w)∨
 (d.st=48∧d.dd=0∧HH K (AtAd1 K d.i d.v) d.fu d.O g w)∨
 (d.st=47∧d.dd=0∧K.ls d.i=true∧HH K (AtAd2 K d.i d.v) d.fu d.O g w)∨
 (d.st=46∧d.dd=0∧HH K (AtSnd K d.i d.v) d.fu d.O g w)∨
 (d.st=21∧d.dd=0∧HH K (AtRcv K) d.fu d.O g w)∨
 (d.st=20∧d.dd=0∧(∀b, ¬d.O b)∧∃fr cs,g=parked (G fr cs) #[rcase K.cO K.zO] (.recv true)∧K.Rcv fr cs)∨
 (d.st=15∧d.dd=0∧HH K (AtDon K) d.fu d.O g w)∨
 (d.st=14∧d.dd=0∧(∀b, ¬d.O b)∧Rls K d.fu g w)∨
 (d.st≤6∧(∀b, ¬d.O b)∧Wsx K d.st d.fu d.dd g w)
def MSit(j next:Nat)(tk:Nat→Option Value)(d:MD)(a:Goroutine)(w:World):Prop:=
 (d.s=20∧d.d0=0∧j+d.r+1=K.H∧next=0∧tk=tk0∧H0 K (AtKdS K (SpnZ K d.r)) d.fu d.O a w)∨
 (d.s=19∧d.d0=1∧j+d.r+1=K.H∧next=0∧tk=tk0∧H0 K (AtA1 K (SpnZ K d.r)) d.fu d.O a w)∨
 (d.s=18∧d.d0=1∧j+d.r+1=K.H∧next=0∧tk=tk0∧H0 K (AtMkR K (SpnZ K d.r)) d.fu d.O a w)∨
 (d.s=17∧d.d0=1∧j+d.r+1=K.H∧next=0∧tk=tk0∧H0 K (AtKeS K (SpnZ K d.r)) d.fu d.O a w)∨
 (d.s=16∧d.d0=0∧j+d.r+1=K.H∧next=0∧tk=tk0∧H0 K (AtGo K (SpnZ K d.r)) d.fu d.O a w)∨
 (d.s=15∧d.d0=0∧j=K.H∧H0 K (AftZ K next tk) d.fu d.O a w)∨
 (d.s=14∧d.d0=0∧j=K.H∧next<K.N∧∃fr cs,a=parked (G fr cs) #[scase K.cO (K.sv next) K.zT,rcase K.cB K.zB] .select∧K.Sel next d.O fr cs∧∀w1,Rly K.rd (Lvx K) d.O w w1→K.Got tk d.O w1)∨
 (d.s=13∧d.d0=0∧j=K.H∧next=K.N∧H0 K (AtKd K tk) d.fu d.O a w)∨
 (d.s=12∧d.d0=1∧j=K.H∧next=K.N∧H0 K (K.Anc tk) d.fu d.O a w)∨
 (d.s=11∧d.d0=1∧j=K.H∧next=K.N∧H0 K (AtW1 K tk) d.fu d.O a w)∨
 (d.s=10∧d.d0=1∧j=K.H∧next=K.N∧H0 K (AtW2 K tk d.r) d.fu d.O a w)∨
 (d.s=9∧d.d0=1∧j=K.H∧next=K.N∧H0 K (AtMkW K tk) d.fu d.O a w)∨
 (d.s=8∧d.d0=1∧j=K.H∧next=K.N∧H0 K (AtW3 K tk) d.fu d.O a w)∨
 (d.s=7∧d.d0=1∧j=K.H∧next=K.N∧∃g,a={ g with status:= .blocked }∧∀w1,Rly K.rd (Lvx K) d.O w w1→AtW3 K tk d.O g w1)∨
 (d.s=6∧d.d0=1∧j=K.H∧next=K.N∧H0 K (AtW4 K tk) d.fu d.O a w)∨
 (d.s=5∧d.d0=1∧j=K.H∧next=K.N∧H0 K (AtKe K tk) d.fu d.O a w)∨
 (d.s=4∧d.d0=0∧j=K.H∧next=K.N∧H0 K (AtAcq K tk) d.fu d.O a w)∨
 (d.s=3∧d.d0=0∧j=K.H∧next=K.N∧H0 K (AtCl2 K tk) d.fu d.O a w)∨
 (d.s=2∧d.d0=0∧j=K.H∧next=K.N∧H0 K (AtRng K tk) d.fu d.O a w)∨
 (d.s=1∧d.d0=0∧j=K.H∧next=K.N∧H0 K (K.Fin tk) d.fu d.O a w)
end
section
variable {K:Cfg}{d:HD K.P}{m:MD}{g a x x':Goroutine}{w w1:World}{j next:Nat}{tk:Nat→Option Value}
theorem TolC.rely {i:Nat}{c:Frame}{cs:List Frame}{O:Nat→Prop}(h:TolC K i c cs O w)(hs:∀b,O b→w1.heap[b]?=w.heap[b]?):TolC K i c cs O w1:=
 fun O' w' v h1=>h O' w' v fun b hb=>⟨(h1 b hb).1,(h1 b hb).2.trans (hs b hb)⟩
theorem rw_of {C:Nat}(hC:w1.heap[C]?=w.heap[C]?)(hl:WgLive K.ty K.Wg w→WgLive K.ty K.Wg w1)(i:Nat) : @Go.ConcN.RW ⟨K.et⟩ K.ty K.Wg C 1 0 i w w1:=
 @Go.ConcN.RW.mk ⟨K.et⟩ K.ty K.Wg C 1 0 i w w1 (fun b hb=>absurd hb (Nat.not_lt_zero b)) hl (fun⟨cs,h1,h2⟩=>⟨cs,hC.trans h1,h2⟩) (by simp[World.cell?,hC])
theorem rw_trans {t:TypeId}{ty:TypeId}{Wg C n Low i:Nat}:∀a b c, @Go.ConcN.RW ⟨t⟩ ty Wg C n Low i a b → @Go.ConcN.RW ⟨t⟩ ty Wg C n Low i b c → @Go.ConcN.RW ⟨t⟩ ty Wg C n Low i a c:=fun _ _ _ h k => @Go.ConcN.RW.trans ⟨t⟩ _ _ _ _ _ _ _ _ _ h k
theorem HSit.rely(hK:HandOk K)(hC1:K.rd K.C1)(hC2:K.rd K.C2)(h:HSit K d g w)(hr:Rly K.rd (Lvx K) d.O w w1):HSit K d g w1:=by
 have c1:=hr.stb _ (Or.inl hC1)
 have c2:=hr.stb _ (Or.inl hC2)
 rcases h with⟨h1,h2,h3⟩|⟨h1,h2,h3⟩|⟨h1,h2,h3⟩|⟨h1,h2,h6,h3⟩|⟨h1,h2,h3⟩|⟨h1,h2,h3⟩|⟨h1,h2,h4,h3⟩|⟨h1,h2,h3⟩|⟨h1,h2,h4,h3⟩|⟨h1,h4,h3⟩
 ·exact Or.inl ⟨h1,h2,h3.rely hr⟩
 ·refine Or.inr (Or.inl ⟨h1,h2,?_⟩)
  obtain⟨fr,cs,V,f,B,c,bs,O1,Post,y,e1,e2,e3,a1,a2,a3,a4,a5,a6,a7,a8,a10,a9⟩:=h3
  refine⟨fr,cs,V,f,B,c,bs,O1,Post,y,e1,e2,e3,a1,a2,a3,a4.rely fun b hb=>?_,a5,a6,a7,a8,a10,a9.rely fun b hb=>hr.stb b (Or.inr ((a7 b).2 (Or.inl hb)))⟩
  rcases hb with hb|hb
  ·exact hr.stb b (Or.inr ((a7 b).2 (Or.inr hb)))
  ·exact hr.stb b (Or.inl (hK.reads _ b hb))
 ·exact Or.inr (Or.inr (Or.inl ⟨h1,h2,h3.rely hr⟩))
 ·exact Or.inr (Or.inr (Or.inr (Or.inl ⟨h1,h2,h6,h3.rely hr⟩)))
 ·exact Or.inr (Or.inr (Or.inr (Or.inr (Or.inl ⟨h1,h2,h3.rely hr⟩))))
 ·exact Or.inr (Or.inr (Or.inr (Or.inr (Or.inr (Or.inl ⟨h1,h2,h3.rely hr⟩)))))
 ·exact Or.inr (Or.inr (Or.inr (Or.inr (Or.inr (Or.inr (Or.inl ⟨h1,h2,h4,h3⟩))))))
 ·exact Or.inr (Or.inr (Or.inr (Or.inr (Or.inr (Or.inr (Or.inr (Or.inl ⟨h1,h2,h3.rely hr⟩)))))))
 ·exact Or.inr (Or.inr (Or.inr (Or.inr (Or.inr (Or.inr (Or.inr (Or.inr (Or.inl ⟨h1,h2,h4,Goes.rely rw_trans h3.1 (rw_of c1 hr.lv 0),Goes.rely rw_trans h3.2 (rw_of c2 hr.lv 0)⟩))))))))
 ·refine Or.inr (Or.inr (Or.inr (Or.inr (Or.inr (Or.inr (Or.inr (Or.inr (Or.inr ⟨h1,h4,?_⟩))))))))
  rcases h3 with h3|h3
  ·exact Or.inl (@Go.ConcN.WSit.rely ⟨K.et⟩ _ _ _ _ _ _ _ _ _ _ _ _ _ _ _ _ h3 (rw_of c1 hr.lv 0))
  ·exact Or.inr (@Go.ConcN.WSit.rely ⟨K.et⟩ _ _ _ _ _ _ _ _ _ _ _ _ _ _ _ _ h3 (rw_of c2 hr.lv 0))
theorem MSit.rely(h:MSit K j next tk m a w)(hr:Rly K.rd (Lvx K) m.O w w1):MSit K j next tk m a w1:=by
 rcases h with⟨h1,h2,h3,h4,h5,h6⟩|⟨h1,h2,h3,h4,h5,h6⟩|⟨h1,h2,h3,h4,h5,h6⟩|⟨h1,h2,h3,h4,h5,h6⟩|⟨h1,h2,h3,h4,h5,h6⟩|h
 ·exact Or.inl ⟨h1,h2,h3,h4,h5,h6.rely hr⟩
 ·exact Or.inr (Or.inl ⟨h1,h2,h3,h4,h5,h6.rely hr⟩)
 ·exact Or.inr (Or.inr (Or.inl ⟨h1,h2,h3,h4,h5,h6.rely hr⟩))
 ·exact Or.inr (Or.inr (Or.inr (Or.inl ⟨h1,h2,h3,h4,h5,h6.rely hr⟩)))
 ·exact Or.inr (Or.inr (Or.inr (Or.inr (Or.inl ⟨h1,h2,h3,h4,h5,h6.rely hr⟩))))
 ·refine Or.inr (Or.inr (Or.inr (Or.inr (Or.inr ?_))))
  rcases h with⟨h1,h2,h3,h6⟩|⟨h1,h2,h3,h4,fr,cs,e,hs,hg⟩|h
  ·exact Or.inl ⟨h1,h2,h3,h6.rely hr⟩
  ·exact Or.inr (Or.inl ⟨h1,h2,h3,h4,fr,cs,e,hs,fun w2 h2=>hg w2 (hr.trans h2)⟩)
  ·refine Or.inr (Or.inr ?_)
   rcases h with⟨h1,h2,h3,h4,h6⟩|⟨h1,h2,h3,h4,h6⟩|⟨h1,h2,h3,h4,h6⟩|⟨h1,h2,h3,h4,h6⟩|⟨h1,h2,h3,h4,h6⟩|⟨h1,h2,h3,h4,h6⟩|h
   ·exact Or.inl ⟨h1,h2,h3,h4,h6.rely hr⟩
   ·exact Or.inr (Or.inl ⟨h1,h2,h3,h4,h6.rely hr⟩)
   ·exact Or.inr (Or.inr (Or.inl ⟨h1,h2,h3,h4,h6.rely hr⟩))
   ·exact Or.inr (Or.inr (Or.inr (Or.inl ⟨h1,h2,h3,h4,h6.rely hr⟩)))
   ·exact Or.inr (Or.inr (Or.inr (Or.inr (Or.inl ⟨h1,h2,h3,h4,h6.rely hr⟩))))
   ·exact Or.inr (Or.inr (Or.inr (Or.inr (Or.inr (Or.inl ⟨h1,h2,h3,h4,h6.rely hr⟩)))))
   ·refine Or.inr (Or.inr (Or.inr (Or.inr (Or.inr (Or.inr ?_)))))
    rcases h with⟨h1,h2,h3,h4,g,e,hg⟩|⟨h1,h2,h3,h4,h6⟩|⟨h1,h2,h3,h4,h6⟩|⟨h1,h2,h3,h4,h6⟩|⟨h1,h2,h3,h4,h6⟩|⟨h1,h2,h3,h4,h6⟩|⟨h1,h2,h3,h4,h6⟩
    ·exact Or.inl ⟨h1,h2,h3,h4,g,e,fun w2 h2=>hg w2 (hr.trans h2)⟩
    ·exact Or.inr (Or.inl ⟨h1,h2,h3,h4,h6.rely hr⟩)
    ·exact Or.inr (Or.inr (Or.inl ⟨h1,h2,h3,h4,h6.rely hr⟩))
    ·exact Or.inr (Or.inr (Or.inr (Or.inl ⟨h1,h2,h3,h4,h6.rely hr⟩)))
    ·exact Or.inr (Or.inr (Or.inr (Or.inr (Or.inl ⟨h1,h2,h3,h4,h6.rely hr⟩))))
    ·exact Or.inr (Or.inr (Or.inr (Or.inr (Or.inr (Or.inl ⟨h1,h2,h3,h4,h6.rely hr⟩)))))
    ·exact Or.inr (Or.inr (Or.inr (Or.inr (Or.inr (Or.inr ⟨h1,h2,h3,h4,h6.rely hr⟩)))))
end
end
section
open Go.Conc
open Go.ConcR (KK WgAt stA smA rd wr mk Payload DC0)
open Go.ConcN (WgLive CTag WD RelBy)
theorem HG.running {P:Program}{main:Bool}{rd:Nat→Prop}{Lv:World→Prop}{Stop:(Nat→Prop)→Goroutine→World→Prop}{O:Nat→Prop}{n:Nat}{g:Goroutine}{w:World}(hS:∀O g w,Stop O g w→g.status = .running)(h:HG P main rd Lv Stop n O g w):g.status = .running:=by
 rcases h.cases with h|⟨_,_,_,_,_,h,_⟩
 ·exact hS _ _ _ h
 ·exact h
section
variable {K:Cfg}{d:HD K.P}{m:MD}{g a x x':Goroutine}{w w1 w':World}{j next:Nat}{tk:Nat→Option Value}
theorem run_rcv(O:Nat→Prop)(g:Goroutine)(w:World)(h:AtRcv K O g w):g.status = .running:=h.1
theorem run_snd(i:Nat)(v:Value)(O:Nat→Prop)(g:Goroutine)(w:World)(h:AtSnd K i v O g w):g.status = .running:=by obtain⟨_,_,rfl,_⟩:=h;rfl
theorem run_mnd(i:Nat)(O:Nat→Prop)(g:Goroutine)(w:World)(h:AtMnd K i O g w):g.status = .running:=by obtain⟨_,_,rfl,_⟩:=h;rfl
theorem run_rls {n:Nat}(h:Rls K n g w):g.status = .running:=Goes.running (fun _ _ x=>x.1) w (@Go.ConcN.RW.refl ⟨K.et⟩ _ _ _ _ _ _ w) h.1
theorem run_don(O:Nat→Prop)(g:Goroutine)(w:World)(h:AtDon K O g w):g.status = .running:=by obtain⟨_,h⟩:=h;exact run_rls h
theorem HSit.run(h:HSit K d g w)(h20:d.st≠20)(h1:d.st≠1):g.status = .running:=by
 rcases h with⟨_,_,h3⟩|⟨_,_,h3⟩|⟨_,_,h3⟩|⟨_,_,_,h3⟩|⟨_,_,h3⟩|⟨_,_,h3⟩|⟨e,_⟩|⟨_,_,h3⟩|⟨_,_,_,h3⟩|⟨h0,_,h3⟩
 ·exact HG.running (run_mnd _) h3
 ·obtain⟨_,_,_,_,_,_,_,_,_,_,_,_,rfl,_⟩:=h3;rfl
 ·exact HG.running (fun _ _ _ x=>x.1) h3
 ·exact HG.running (fun _ _ _ x=>x.1) h3
 ·exact HG.running (run_snd _ _) h3
 ·exact HG.running run_rcv h3
 ·exact absurd e h20
 ·exact HG.running run_don h3
 ·exact run_rls h3
 ·rcases h3 with h3|h3
  ·letI:Payload:=⟨K.et⟩
   exact Go.ConcN.WSit.running_of h3 h1
  ·letI:Payload:=⟨K.et⟩
   exact Go.ConcN.WSit.running_of h3 h1
theorem HSit.stat(h:HSit K d g w)(h20:d.st≠20):g.status = .running∨g.status = .finished:=by
 by_cases h1:d.st=1
 ·rcases h with⟨e,_⟩|⟨e,_⟩|⟨e,_⟩|⟨e,_⟩|⟨e,_⟩|⟨e,_⟩|⟨e,_⟩|⟨e,_⟩|⟨e,_⟩|⟨_,_,h3⟩
  ·omega
  ·omega
  ·omega
  ·omega
  ·omega
  ·omega
  ·omega
  ·omega
  ·omega
  ·rcases h3 with h3|h3
   ·exact @Go.ConcN.WSit.status ⟨K.et⟩ _ _ _ _ _ _ _ _ _ _ _ _ _ _ _ h3
   ·exact @Go.ConcN.WSit.status ⟨K.et⟩ _ _ _ _ _ _ _ _ _ _ _ _ _ _ _ h3
 ·exact Or.inl (h.run h20 h1)
theorem HSit.parked(h:HSit K d g w)(h20:d.st=20):(∀b, ¬d.O b)∧d.dd=0∧∃fr cs,g=parked (G fr cs) #[rcase K.cO K.zO] (.recv true)∧K.Rcv fr cs:=by
 rcases h with⟨e,_⟩|⟨e,_⟩|⟨e,_⟩|⟨e,_⟩|⟨e,_⟩|⟨e,_⟩|⟨_,h2,h3,h4⟩|⟨e,_⟩|⟨e,_⟩|⟨e,_⟩
 ·omega
 ·omega
 ·omega
 ·omega
 ·omega
 ·omega
 ·exact⟨h3,h2,h4⟩
 ·omega
 ·omega
 ·omega
theorem HSit.wake {s r:Nat}{tm:Bool}(h:HSit K d g w)(ho:w'.heap[K.cO]?=some (.chan 0 #[] false s r tm)∨d.st≠20):woken K.P x x' w' g=g:=by
 by_cases h20:d.st=20
 ·obtain⟨_,_,fr,cs,rfl,_⟩:=h.parked h20
  exact woken_recv_open x x' (ho.resolve_right (fun e=>e h20))
 ·unfold woken
  split
  ·exact again_running _ (h.stat h20)
  ·rfl
theorem HSit.wake2 {s r:Nat}{tm:Bool}(h:HSit K d g w)(h20:d.st=20)(hc:w'.heap[K.cO]?=some (.chan 0 #[] true s r tm))(hw:mayWake K.P x=true)(hs:x'.status = .running):HSit K { d with st:=21,fu:=0 } (woken K.P x x' w' g) w':=by
 obtain⟨_,hd,fr,cs,rfl,hR⟩:=h.parked h20
 refine Or.inr (Or.inr (Or.inr (Or.inr (Or.inr (Or.inl ⟨rfl,hd,fun w1 h1=>?_⟩)))))
 have e:woken K.P x x' w' (Go.Conc.parked (G fr cs) #[rcase K.cO K.zO] (.recv true))={ Go.Conc.parked (G fr cs) #[rcase K.cO K.zO] (.recv true)with status:= .running }:=by
  unfold woken
  rw[if_pos (by simp[hw,hs])]
  exact again_some_closed (k:=0) rfl hc
 rw[e]
 exact⟨rfl,rfl,hR⟩
end
structure Gst(P:Program) where
 j:Nat
 next:Nat
 nt:Nat
 tk:Nat→Option Value
 hs:Nat→HD P
 md:MD
 Dn:Nat→Prop
 ca:Nat→Bool
 cl:Nat→Bool
 q:Nat→Nat
 buf:Array Value
 sO:Nat
 rO:Nat
 sB:Nat
 rB:Nat
 tmO:Bool
 tmB:Bool
 st:Int
 sm:Int
section
variable (K:Cfg)(x:Gst K.P)
def ownF(g b:Nat):Prop:=(g=0∧x.md.O b)∨∃k,k<x.j∧g=K.nb+k∧(x.hs k).O b
def livF(g:Nat):Prop:=g=0∨(K.nb≤g∧g<K.nb+x.j)
def ShF(b:Nat):Prop:=b=K.Wg∨b=K.T
def SpF(b:Nat):Prop:=b=K.Wg∨b=K.T∨b=K.cO∨b=K.cB
theorem sh_sp {b:Nat}(h:ShF K b):SpF K b:=h.elim Or.inl fun e=>Or.inr (Or.inl e)
def wdF(k:Nat):WD:=⟨if 14≤(x.hs k).st then 7 else(x.hs k).st,(x.hs k).fu,(x.hs k).dd⟩
def tgF(m:MD):CTag:=
 if 20≤m.s then .sp m.r 5 else if m.s=19 then .sp m.r 4 else if 17≤m.s then .sp m.r 3 else if m.s=16 then .sp m.r 2 else if 13≤m.s then .kd else if m.s=12 then .anch else if m.s=11 then .w1 else if m.s=10 then .w2 m.r
 else if 8≤m.s then .w3 else if m.s=7 then .blk else if m.s=6 then .w4 else if m.s=5 then .ke else if m.s=4 then .acq else .ret
def rkF(H v:Nat)(m:MD):Nat:=
 if 16≤m.s then 9*H+200+40*m.r+m.s else if 14≤m.s then 9*H+137+m.s else if m.s=13 then 8*H+107 else if m.s=12 then 8*v+106 else if m.s=11 then 8*v+105 else if m.s=10 then 8*m.r+104
 else if m.s=9 then 101 else if 7≤m.s then 100 else if m.s=1 then 0 else 93+m.s
def hldF(k:Nat):Nat:=if 46≤(x.hs k).st then 1 else 0
def meaF:Mea K.P:=(100*(K.N-x.next)+10*(K.N-x.nt)+Go.ConcN.sumTo K.nb x.q+Go.ConcN.sumTo x.j (fun k=>(x.hs k).st)+rkF K.H (Go.ConcN.Vc x.j (wdF K x)) x.md,fun k=>((x.hs k).la,(x.hs k).fu),if x.md.s=7 then 0 else x.md.fu+1)
def OldT(Shun:Loc→Prop)(t:Trace):Prop:=∃t0 u,t=t0++u∧t0.HandedOver∧(∀i a,touchAt t0 i=some a→a.loc.isMemory=true→Knows t0 0 i∨(Shun a.loc∧a.kind = .atomic))∧∀op,op∈u→op.g=0∨(K.nb≤op.g∧op.g<K.nb+K.H)∨op.act.touch?=none
structure RelX(t:Trace)(k r:Nat):Prop where
 ge:K.p0≤r
 rel:RelBy (stA K.Wg) t (K.nb+k) r
 wg:∀i a,r<i→t.g? i=some (K.nb+k)→touchAt t i=some a→InB (fun b=>b=K.Wg) a.loc∧a.kind = .atomic
def NoRelP(t:Trace):Prop:=K.p0≤t.size∧∀i,K.p0≤i→t.act? i≠some (.mark (.release (stA K.Wg)))
structure CMem(w:World):Prop where
 rdx:Rdx K w
 own:∀g b,ownF K x g b→b<w.heap.size
 apt:Apt (SpF K) (ownF K x) K.rd
 ownS:∀g b,ownF K x g b→¬SpF K b∧¬x.Dn b
 rdS:∀b,K.rd b→¬SpF K b∧b<w.heap.size
 dnS:∀b,x.Dn b→¬SpF K b∧b<w.heap.size
 fix:w.tape=K.w0.tape∧w.os=K.w0.os∧w.output=K.w0.output
structure CTrs(Shun:Loc→Prop)(w:World)(t:Trace):Prop where
 trc:Trc (SpF K) (ownF K x) K.rd (livF K x) t
 seen:∀op,op∈t→LowT w.heap.size op.act
 deaf0:Deaf t 0=x.md.d0
 deafH:∀k,k<x.j→Deaf t (K.nb+k)=(x.hs k).dd
 above:∀i,K.nb+x.j≤i→Deaf t i=0
 norel:NoRelP K t
 rel:∀k,k<x.j→(x.hs k).st≤6→∃r,RelX K t k r
 acq:x.md.s≤3→∃q,t.act? q=some (.mark (.acquire (stA K.Wg)))∧t.g? q=some 0∧t.heard q∧∀k,k<x.j→∃r,RelX K t k r∧r<q
 old:OldT K Shun t
structure CSit(gs:Array Goroutine)(w:World)(t:Trace):Prop where
 size:gs.size=K.nb+x.j
 one:1≤K.nb
 jH:x.j≤K.H
 old:∀i g,0<i→i<K.nb→gs[i]?=some g→QuitsD K.P (x.q i) (Deaf t i) g
 hand:∀k,k<x.j→∃g,gs[K.nb+k]?=some g∧HSit K (x.hs k) g w
 main:∃a,gs[0]?=some a∧MSit K x.j x.next x.tk x.md a w
structure CPrt(w:World):Prop where
 wg:WgAt K.ty K.Wg w x.st x.sm
 mode:Go.ConcN.Mode x.j (wdF K x) (tgF x.md) x.st x.sm
 cho:w.heap[K.cO]?=some (.chan 0 #[] (decide (x.md.s<14)) x.sO x.rO x.tmO)
 chb:w.heap[K.cB]?=some (.chan K.N x.buf (decide (x.md.s<3)) x.sB x.rB x.tmB)
 tal:TalAt K w (Go.ConcN.sumTo K.N fun i=>if x.ca i then K.er i else 0:Nat) (Go.ConcN.sumTo K.N fun i=>if x.cl i then 1 else 0:Nat)
 nN:x.next≤K.N
 park:x.md.s≤14→∀k,k<x.j→(x.hs k).st≠20
 buf:∀y,y∈x.buf→∃i v,y=K.tv i v∧i<x.next∧K.GM i v w∧∀b,K.Mv v b→x.Dn b
 tk:∀i v,x.tk i=some v→K.GM i v w∧∀b,K.Mv v b→x.Dn b
 hold:∀k,k<x.j→46≤(x.hs k).st→(x.hs k).i<x.next
 two:∀k k',k<x.j→k'<x.j→46≤(x.hs k).st→46≤(x.hs k').st→(x.hs k).i=(x.hs k').i→k=k'
 cover:∀i,i<x.next→(∃v,x.tk i=some v)∨(∃v,K.tv i v∈x.buf)∨∃k,k<x.j∧46≤(x.hs k).st∧(x.hs k).i=i
 room:x.buf.size+Go.ConcN.sumTo x.j (hldF K x)+x.nt=x.next
 ca:∀i,i<K.N→(x.ca i=true↔i<x.next∧∀k,k<x.j→48≤(x.hs k).st→(x.hs k).i≠i)
 cl:∀i,i<K.N→(x.cl i=true↔K.ls i=true∧i<x.next∧∀k,k<x.j→47≤(x.hs k).st→(x.hs k).i≠i)
 emp:x.md.s=1→x.buf = #[]
 busy:14≤x.md.s→∀k,k<x.j→20≤(x.hs k).st
structure Cmp(Shun:Loc→Prop)(gs:Array Goroutine)(w:World)(t:Trace):Prop where
 mem:CMem K x w
 trs:CTrs K x Shun w t
 sit:CSit K x gs w t
 prt:CPrt K x w
end
end
section
open Go.Conc
open Go.ConcR (KK WgAt stA smA rd wr mk Payload DC0)
open Go.ConcN (WgLive CTag WD RelBy)
section
variable {K:Cfg}{m:MD}{a y y':Goroutine}{w':World}{j next:Nat}{tk:Nat→Option Value}
theorem woken_run2(h:a.status = .running):woken K.P y y' w' a=a:=by
 unfold woken
 split
 ·exact again_running _ (Or.inl h)
 ·rfl
theorem MSit.run(hM:MainOk K)(h:MSit K j next tk m a w')(h7:m.s≠7)(h14:m.s≠14):a.status = .running:=by
 have mk1:∀(mm:Mark) (Nx:(Nat→Prop)→Goroutine→World→Prop) (O:Nat→Prop) (g:Goroutine) (w:World),AtMk K mm Nx O g w→g.status = .running:=fun _ _ _ _ _ x=>x.1
 rcases h with⟨_,_,_,_,_,h⟩|⟨_,_,_,_,_,h⟩|⟨_,_,_,_,_,h⟩|⟨_,_,_,_,_,h⟩|⟨_,_,_,_,_,h⟩|⟨_,_,_,h⟩|⟨e,_⟩|h
 ·exact HG.running (mk1 _ _) h
 ·exact HG.running (fun _ _ _ x=>x.1) h
 ·exact HG.running (mk1 _ _) h
 ·exact HG.running (mk1 _ _) h
 ·exact HG.running (fun _ _ _ x=>x.1) h
 ·refine HG.running (fun _ _ _ x=>?_) h
  rcases x with⟨_,_,_,rfl,_⟩|⟨_,x⟩
  ·rfl
  ·exact x.1
 ·exact absurd e h14
 ·rcases h with⟨_,_,_,_,h⟩|⟨_,_,_,_,h⟩|⟨_,_,_,_,h⟩|⟨_,_,_,_,h⟩|⟨_,_,_,_,h⟩|⟨_,_,_,_,h⟩|h
  ·exact HG.running (mk1 _ _) h
  ·exact HG.running (fun _ _ _ x=>(hM.anc _ _ _ _ x).1) h
  ·exact HG.running (fun _ _ _ x=>x.1) h
  ·exact HG.running (fun _ _ _ x=>x.1) h
  ·exact HG.running (mk1 _ _) h
  ·exact HG.running (fun _ _ _ x=>x.1) h
  ·rcases h with⟨e,_⟩|⟨_,_,_,_,h⟩|⟨_,_,_,_,h⟩|⟨_,_,_,_,h⟩|⟨_,_,_,_,h⟩|⟨_,_,_,_,h⟩|⟨_,_,_,_,h⟩
   ·exact absurd e h7
   ·exact HG.running (fun _ _ _ x=>x.1) h
   ·exact HG.running (mk1 _ _) h
   ·exact HG.running (mk1 _ _) h
   ·exact HG.running (fun _ _ _ x=>x.1) h
   ·refine HG.running (fun _ _ _ x=>?_) h
    obtain⟨_,_,rfl,_⟩:=x
    rfl
   ·exact HG.running (fun _ _ _ x=>hM.fin _ _ _ _ x) h
theorem MSit.at14(h:MSit K j next tk m a w')(h14:m.s=14):m.d0=0∧j=K.H∧next<K.N∧∃fr cs,a=parked (G fr cs) #[scase K.cO (K.sv next) K.zT,rcase K.cB K.zB] .select∧K.Sel next m.O fr cs∧∀w1,Rly K.rd (Lvx K) m.O w' w1→K.Got tk m.O w1:=by
 rcases h with⟨e,_⟩|⟨e,_⟩|⟨e,_⟩|⟨e,_⟩|⟨e,_⟩|⟨e,_⟩|⟨_,h⟩|⟨e,_⟩|⟨e,_⟩|⟨e,_⟩|⟨e,_⟩|⟨e,_⟩|⟨e,_⟩|⟨e,_⟩|⟨e,_⟩|⟨e,_⟩|⟨e,_⟩|⟨e,_⟩|⟨e,_⟩|⟨e,_⟩
 all_goals first|exact h|(exfalso;omega)
theorem MSit.at7(h:MSit K j next tk m a w')(h7:m.s=7):m.d0=1∧j=K.H∧next=K.N∧∃g,a={ g with status:= .blocked }∧∀w1,Rly K.rd (Lvx K) m.O w' w1→AtW3 K tk m.O g w1:=by
 rcases h with⟨e,_⟩|⟨e,_⟩|⟨e,_⟩|⟨e,_⟩|⟨e,_⟩|⟨e,_⟩|⟨e,_⟩|⟨e,_⟩|⟨e,_⟩|⟨e,_⟩|⟨e,_⟩|⟨e,_⟩|⟨e,_⟩|⟨_,h⟩|⟨e,_⟩|⟨e,_⟩|⟨e,_⟩|⟨e,_⟩|⟨e,_⟩|⟨e,_⟩
 all_goals first|exact h|(exfalso;omega)
theorem woken_sel {c c' cap cap' s r s' r':Nat}{b b':Array Value}{tm tm':Bool}{v z z':Value}{g:Goroutine}{sh:CommShape}(h1:w'.heap[c]?=some (.chan cap b false s r tm))(h2:w'.heap[c']?=some (.chan cap' b' false s' r' tm')) :
  woken K.P y y' w' (parked g #[scase c v z,rcase c' z'] sh)=parked g #[scase c v z,rcase c' z'] sh:=by
 unfold woken
 split
 ·simp[Goroutine.again,parked,scase,rcase,h1,h2]
 ·rfl
theorem MSit.wake(hM:MainOk K)(h:MSit K j next tk m a w')(ho:m.s=14→(∃s r tm, w'.heap[K.cO]?=some (.chan 0 #[] false s r tm))∧∃cap b s r tm, w'.heap[K.cB]?=some (.chan cap b false s r tm)) :
  ∃m',(m'=m∨(m.s=7∧m'={ m with s:=8,fu:=0 }))∧MSit K j next tk m' (woken K.P y y' w' a) w'∧(mayWake K.P y=true→y'.status = .running→m'.s≠7):=by
 by_cases h7:m.s=7
 ·obtain⟨h1,h2,h3,g,rfl,hg⟩:=h.at7 h7
  have hg1:=hg w' (Rly.refl w')
  by_cases hw:(mayWake K.P y && y'.status != .blocked && y'.status != .waiting)=true
  ·refine⟨{ m with s:=8,fu:=0 },Or.inr ⟨h7,rfl⟩,?_,fun _ _=>by simp⟩
   have e:woken K.P y y' w' { g with status:= .blocked }=g:=by
    unfold woken
    rw[if_pos hw]
    have e1:=hg1.1
    have e2:=hg1.2.1
    obtain⟨gf,gc,gs,gd,go⟩:=g
    simp only at e1 e2
    subst e1 e2
    rfl
   rw[e]
   exact Or.inr (Or.inr (Or.inr (Or.inr (Or.inr (Or.inr (Or.inr (Or.inr (Or.inr (Or.inr (Or.inr (Or.inr (Or.inl ⟨rfl,h1,h2,h3,hg⟩))))))))))))
  ·refine⟨m,Or.inl rfl,?_,fun h1 h2=>absurd (by simp[h1,h2]) hw⟩
   have e:woken K.P y y' w' { g with status:= .blocked }={ g with status:= .blocked }:=by
    unfold woken
    rw[if_neg hw]
   rw[e]
   exact h
 ·refine⟨m,Or.inl rfl,?_,fun _ _=>h7⟩
  by_cases h14:m.s=14
  ·obtain⟨h1,h2,h3,fr,cs,rfl,hs,hg⟩:=h.at14 h14
   obtain⟨⟨_,_,_,e1⟩,_,_,_,_,_,e2⟩:=ho h14
   rw[woken_sel e1 e2]
   exact h
  ·rw[woken_run2 (h.run hM h7 h14)]
   exact h
end
section
variable {K:Cfg}{t u:Trace}{k r:Nat}
theorem RelX.appOther(h:RelX K t k r)(hu:∀op,op∈u→op.g≠K.nb+k):RelX K (t++u) k r:=by
 refine⟨h.ge,h.rel.appNot hu,fun i a hi hg ha=>?_⟩
 obtain⟨z,hz,hza⟩:=touch_of ha
 have hgz:z.g=K.nb+k:=by simpa [Trace.g?,hz]using hg
 rcases getElem?_append_cases hz with⟨hlt,hz'⟩|⟨_,hzu⟩
 ·exact h.wg i a hi (by simpa [Trace.g?,hz']using hgz) (by rw[touchAt_of hz'];exact hza)
 ·exact absurd hgz (hu z hzu)
theorem NoRelP.app(h:NoRelP K t)(hu:∀op,op∈u→op.act ≠ .mark (.release (stA K.Wg))):NoRelP K (t++u):=by
 refine⟨by rw[Array.size_append];have:=h.1;omega,fun i hi he=>?_⟩
 unfold Trace.act? at he
 obtain⟨z,hz,hza⟩:=Option.map_eq_some_iff.1 he
 rcases getElem?_append_cases hz with⟨_,hz'⟩|⟨_,hzu⟩
 ·exact h.2 i hi (by unfold Trace.act?;rw[hz'];simp[hza])
 ·exact hu z hzu hza
theorem OldT.app {Shun:Loc→Prop}(h:OldT K Shun t)(hu:∀op,op∈u→op.g=0∨(K.nb≤op.g∧op.g<K.nb+K.H)∨op.act.touch?=none):OldT K Shun (t++u):=by
 obtain⟨t0,v,rfl,h1,h2,h3⟩:=h
 exact⟨t0,v++u,Array.append_assoc ..,h1,h2,fun op hop=>(Array.mem_append.1 hop).elim (h3 op) (hu op)⟩
end
end
end Go.Proofs.YtedifobeggabnaaGreat
