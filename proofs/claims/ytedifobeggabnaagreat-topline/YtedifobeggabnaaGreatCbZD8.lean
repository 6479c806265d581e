/- Texts of ours, one behind the other: ZD8 ZD9 ZG1. -/
import Derived.Test.YtedifobeggabnaaGreatCbZL0
import Derived.Conc.WgGenN3
import Derived.Conc.CompanyDraw
namespace Go.Proofs.YtedifobeggabnaaGreat
section
open Go.Conc
open Go.ConcR (DC0)
section
variable {P:Program}{main:Bool}{rd:Nat→Prop}{Lv:World→Prop}{Stop:(Nat→Prop)→Goroutine→World→Prop}{O:Nat→Prop}{n m:Nat}{g g':Goroutine}{w:World}{b:Frame}{a:Act}{k:List Item}{cs:List Frame}{ops:Array Oper}{i:Nat}{rest:List Nat}{o:Oper}
theorem hg_more(h:HG P main rd Lv Stop n O g w):HG P main rd Lv Stop (n+1) O g w:=by
 induction n generalizing O g w with
 | zero=>exact Or.inl h
 | succ n ih=>
  rcases h with h|⟨hs,h⟩
  ·exact Or.inl h
  ·refine Or.inr ⟨hs,fun w1 h1=>?_⟩
   have:=h w1 h1
   cases hg:stepG P main g w1 with
   | go g' w' es=>
    rw[hg]at this
    exact⟨this.1,ih this.2⟩
   | _=>rw[hg]at this;exact this.elim
theorem hg_up(j:Nat)(h:HG P main rd Lv Stop n O g w):HG P main rd Lv Stop (n+j) O g w:=by
 induction j with
 | zero=>exact h
 | succ j ih=>exact hg_more ih
theorem goes_hg(h:Goes P main (Rly rd Lv O) DC0 (fun g w=>HG P main rd Lv Stop m O g w) n g w):HG P main rd Lv Stop (m+n) O g w:=by
 induction n generalizing g w with
 | zero=>exact h w (Rly.refl w)
 | succ n ih=>
  rcases h with h|⟨hs,h⟩
  ·exact hg_up (n+1) (h w (Rly.refl w))
  ·refine HG.step hs fun w1 h1=>?_
   have:=h w1 h1
   cases hg:stepG P main g w1 with
   | go g' w' es=>
    rw[hg]at this
    obtain⟨⟨e1,e2⟩,hn⟩:=this
    subst e1 e2
    exact⟨Stp.idle rd O _,by rw[grw_idle];exact ih hn⟩
   | _=>rw[hg]at this;exact this.elim
theorem hg_value(v:Value)(ho:ops[i]?=some o)(hw:Region.wanted o (yielded ops a.tmps)=true)(hk:b.kind ≠ .early)(hr:∀w1, Rly rd Lv O w w1→(execOp a.eval o).run P w1 = .ok (.value v) w1)(he:∀w1, Rly rd Lv O w w1→∀e, e∈(execOp a.eval o).events P w1 #[]→EvT rd O w1.heap.size e)
  (hn:HG P main rd Lv Stop n O (G (b.at (a.put o.dst v) (.inRegion ops rest::k)) cs) w):HG P main rd Lv Stop (n+1) O (G (b.at a (.inRegion ops (i::rest)::k)) cs) w:=by
 refine HG.step rfl fun w1 h1=>?_
 rw[stepG_value ho hw hk (hr w1 h1)]
 refine⟨⟨rfl,rfl,rfl,Nat.le_refl _,fun _ _ _=>rfl,fun e hm=>?_⟩,by rw[grw_idle];exact hn.rely h1⟩
 rw[grw_idle]
 exact he w1 h1 e (mem_listed hm)
theorem hg_load {bk off:Nat}(v:Value)(ho:ops[i]?=some o)(hw:Region.wanted o (yielded ops a.tmps)=true)(hk:b.kind ≠ .early)(hb:rd bk∨O bk)(hc:w.cell? ⟨bk, off, none⟩=some v)
  (hr:∀w1:World,w1.cell? ⟨bk,off,none⟩=some v→(execOp a.eval o).run P w1 = .ok (.value v) w1) (he:∀w1:World,w1.cell? ⟨bk,off,none⟩=some v→(execOp a.eval o).events P w1 #[] = #[⟨.cell ⟨bk,off,none⟩,false,false⟩])
  (hn:HG P main rd Lv Stop n O (G (b.at (a.put o.dst v) (.inRegion ops rest::k)) cs) w):HG P main rd Lv Stop (n+1) O (G (b.at a (.inRegion ops (i::rest)::k)) cs) w:=by
 have hc1:∀w1,Rly rd Lv O w w1→w1.cell? ⟨bk,off,none⟩=some v:=fun w1 h1=>by
  have e:w1.cell? ⟨bk,off,none⟩=w.cell? ⟨bk,off,none⟩:=by simp[World.cell?,h1.stb bk hb]
  rw[e];exact hc
 refine hg_value v ho hw hk (fun w1 h1=>hr w1 (hc1 w1 h1)) (fun w1 h1 e hm=>?_) hn
 rw[he w1 (hc1 w1 h1)]at hm
 have hm:e=⟨.cell ⟨bk,off,none⟩,false,false⟩:=by simpa using hm
 subst hm
 obtain⟨c,t,z,ex,_,_⟩:=load_cell (hc1 w1 h1)
 exact⟨rfl,lt_of_some ex,hb.elim (fun h=>Or.inr ⟨h,rfl⟩) Or.inl⟩
theorem hg_enter {f:FuncId}{args:Array Value}(ho:ops[i]?=some o)(hw:Region.wanted o (yielded ops a.tmps)=true)(hk:b.kind ≠ .early)(hr:∀w1:World, (execOp a.eval o).run P w1 = .ok (.enter f args) w1)(he:∀w1:World, (execOp a.eval o).events P w1 #[] = #[])
  (hn:HG P main rd Lv Stop n O (G (Frame.enter P f args .normal) (b.at a (.inRegion ops (i::rest)::k)::cs)) w):HG P main rd Lv Stop (n+1) O (G (b.at a (.inRegion ops (i::rest)::k)) cs) w:=by
 refine HG.step rfl fun w1 h1=>?_
 rw[stepG_enter ho hw hk (hr w1)]
 have e0:listed P b.fn a o w1 = #[]:=by unfold listed;rw[he w1,seen_none]
 rw[e0]
 exact⟨Stp.idle rd O w1,by rw[grw_idle];exact hn.rely h1⟩
theorem hg_new(obj:World→Obj)(ho:ops[i]?=some o)(hw:Region.wanted o (yielded ops a.tmps)=true)(hk:b.kind ≠ .early)(hr:∀w1, Rly rd Lv O w w1→(execOp a.eval o).run P w1 = .ok (.value (.pointer (some ⟨w1.heap.size, 0, none⟩))) { w1 with heap:=w1.heap.push (obj w1)})(he:∀w1, Rly rd Lv O w w1→(execOp a.eval o).events P w1 #[] = #[])
  (hn:∀w1,Rly rd Lv O w w1→HG P main rd Lv Stop n (fun x=>O x∨x=w1.heap.size) (G (b.at (a.put o.dst (.pointer (some ⟨w1.heap.size,0,none⟩))) (.inRegion ops rest::k)) cs) { w1 with heap:=w1.heap.push (obj w1)}):HG P main rd Lv Stop (n+1) O (G (b.at a (.inRegion ops (i::rest)::k)) cs) w:=by
 refine HG.step rfl fun w1 h1=>?_
 rw[stepG_value ho hw hk (hr w1 h1)]
 have eg:Grw O w1 { w1 with heap:=w1.heap.push (obj w1)}=fun x=>O x∨x=w1.heap.size:=by
  funext x
  have es:({ w1 with heap:=w1.heap.push (obj w1)}:World).heap.size=w1.heap.size+1:=Array.size_push ..
  refine propext ⟨fun h=>?_,fun h=>?_⟩
  ·rcases h with h|⟨c1,c2⟩
   ·exact Or.inl h
   ·exact Or.inr (by omega)
  ·rcases h with h|h
   ·exact Or.inl h
   ·exact Or.inr ⟨by omega,by omega⟩
 refine⟨⟨rfl,rfl,rfl,by show w1.heap.size≤(w1.heap.push (obj w1)).size;rw[Array.size_push];omega,fun x hx _=>?_,fun e hm=>?_⟩,by rw[eg];exact hn w1 h1⟩
 ·show(w1.heap.push (obj w1))[x]?=_
  rw[Array.getElem?_push,if_neg (by omega)]
 ·have:=mem_listed hm
  rw[he w1 h1]at this
  simp at this
theorem hg_store(f:World→World)(ho:ops[i]?=some o)(hw:Region.wanted o (yielded ops a.tmps)=true)(hk:b.kind ≠ .early)(hr:∀w1, Rly rd Lv O w w1→(execOp a.eval o).run P w1 = .ok .skip (f w1))
  (hf:∀w1,Rly rd Lv O w w1→(f w1).heap.size=w1.heap.size∧((f w1).tape=w1.tape∧(f w1).os=w1.os∧(f w1).output=w1.output)∧∀x, ¬O x→(f w1).heap[x]?=w1.heap[x]?) (he:∀w1,Rly rd Lv O w w1→∀e,e∈(execOp a.eval o).events P w1 #[]→EvT rd O w1.heap.size e)
  (hn:∀w1,Rly rd Lv O w w1→HG P main rd Lv Stop n O (G (b.at (a.put o.dst undef) (.inRegion ops rest::k)) cs) (f w1)):HG P main rd Lv Stop (n+1) O (G (b.at a (.inRegion ops (i::rest)::k)) cs) w:=by
 refine HG.step rfl fun w1 h1=>?_
 rw[stepG_none ho hw hk (hr w1 h1)]
 obtain⟨f1,⟨f2,f3,f4⟩,f5⟩:=hf w1 h1
 have eg:Grw O w1 (f w1)=O:=by
  funext x
  refine propext ⟨fun h=>?_,Or.inl⟩
  rcases h with h|⟨c1,c2⟩
  ·exact h
  ·omega
 refine⟨⟨f2,f3,f4,by omega,fun x _ hx=>f5 x hx,fun e hm=>?_⟩,by rw[eg];exact hn w1 h1⟩
 rw[eg,f1]
 exact he w1 h1 e (mem_listed hm)
end
end
section
open Go.Conc
def Val(ops:Array Oper):(Nat→Bool)→List Nat→Prop
 |D,[]=>∀i,i<ops.size→D i=false→∃o,ops[i]?=some o∧∃e,e∈o.after∧Region.binds .any e=true∧D e.on=false
 |D,i::l=>D i=false∧(∃o,ops[i]?=some o∧∀e,e∈o.after→Region.binds .any e=true→D e.on=true)∧Val ops (fun x=>D x || decide (x=i)) l
theorem ready_mem {ops:Array Oper}{L:Array Bool}{i:Nat}(_:L.size=ops.size):i∈Region.ready .any ops L↔i<ops.size∧L.getD i true=false∧∃o,ops[i]?=some o∧∀e,e∈o.after→Region.binds .any e=true→L.getD e.on false=true:=by
 unfold Region.ready
 rw[List.mem_filter,List.mem_range,Bool.and_eq_true,Bool.not_eq_true']
 refine⟨fun⟨h1,h2,h3⟩=>⟨h1,h2,?_⟩,fun⟨h1,h2,o,h3,h4⟩=>⟨h1,h2,?_⟩⟩
 ·have e:ops[i]?=some ops[i]:=Array.getElem?_eq_getElem h1
  rw[e]at h3 ⊢
  refine⟨_,rfl,fun x hx hb=>?_⟩
  have h3:ops[i].after.all (fun e => !Region.binds .any e || L.getD e.on false)=true:=h3
  have:=Array.all_eq_true_iff_forall_mem.1 h3 x hx
  simpa [hb]using this
 ·rw[h3]
  show o.after.all (fun e => !Region.binds .any e || L.getD e.on false)=true
  refine Array.all_eq_true_iff_forall_mem.2 fun x hx=>?_
  cases hb:Region.binds .any x with
  | false=>rfl
  | true=>simpa [hb]using h4 x hx hb
def lft(L:Array Bool):Nat:=(L.toList.filter (fun b => !b)).length
theorem lft_list:∀(l:List Bool) (i:Nat),i<l.length→l.getD i true=false→((l.set i true).filter (fun b => !b)).length+1=(l.filter (fun b => !b)).length
 |[],i,h,_=>by simp at h
 |x::l,0,_,h=>by
  have:x=false:=by simpa using h
  subst this
  simp
 |x::l,i+1,hi,h=>by
  have:=lft_list l i (by simpa using hi) (by simpa using h)
  simp only[List.set_cons_succ,List.filter_cons]
  cases x
  ·simp only[Bool.not_false,if_true,List.length_cons]
   omega
  ·simp only[Bool.not_true,Bool.false_eq_true,if_false]
   omega
theorem lft_set {L:Array Bool}{i:Nat}(hi:i<L.size)(h:L.getD i true=false):lft (L.setIfInBounds i true)+1=lft L:=by
 obtain⟨l⟩:=L
 unfold lft
 simp only[List.setIfInBounds_toArray]
 exact lft_list l i (by simpa using hi) (by simpa [Array.getD_eq_getD_getElem?,List.getD_eq_getElem?_getD]using h)
theorem lft_zero {L:Array Bool}(h:lft L=0)(i:Nat)(hi:i<L.size):L.getD i true=true:=by
 unfold lft at h
 have h:=List.length_eq_zero_iff.1 h
 rw[List.filter_eq_nil_iff]at h
 have:=h L[i] (by simp)
 simpa [Array.getD_eq_getD_getElem?,Array.getElem?_eq_getElem hi]using this
theorem val_go(ops:Array Oper)(hon:∀(i:Nat) (o:Oper) (e:Edge),ops[i]?=some o→e∈o.after→e.on<ops.size):∀(fuel t:Nat) (L:Array Bool),L.size=ops.size→lft L≤fuel→Val ops (fun i=>L.getD i true) (Region.linearise.go .any ops fuel t L []):=by
 intro fuel
 induction fuel with
 | zero=>
  intro t L hL hf
  simp only[Region.linearise.go,List.reverse_nil,Val]
  intro i hi h
  rw[lft_zero (by omega) i (by omega)]at h
  cases h
 | succ fuel ih=>
  intro t L hL hf
  simp only[Region.linearise.go]
  change Val ops (fun i=>L.getD i true) (match(Region.ready .any ops L)[t % (Region.ready .any ops L).length]? with
   | some i=>Region.linearise.go .any ops fuel (t / (Region.ready .any ops L).length) (L.setIfInBounds i true) [i]
   | none=>[].reverse)
  cases hi:(Region.ready .any ops L)[t % (Region.ready .any ops L).length]? with
  | none=>
   have hnil:Region.ready .any ops L=[]:=by
    cases hr:Region.ready .any ops L with
    | nil=>rfl
    | cons x xs=>
     rw[hr]at hi
     have hlt:t % (x::xs).length<(x::xs).length:=Nat.mod_lt _ (by simp)
     rw[List.getElem?_eq_getElem hlt]at hi
     cases hi
   simp only[List.reverse_nil,Val]
   intro i hi h
   have hno:i ∉ Region.ready .any ops L:=by rw[hnil];simp
   rw[ready_mem hL]at hno
   have e:ops[i]?=some ops[i]:=Array.getElem?_eq_getElem hi
   refine⟨_,e,Classical.byContradiction fun hc=>hno ⟨hi,h,_,e,fun x hx hb=>?_⟩⟩
   cases hd:L.getD x.on true with
   | false=>exact absurd ⟨x,hx,hb,hd⟩ hc
   | true=>
    have:=hon i _ x e hx
    have hlt:x.on<L.size:=by omega
    rw[Array.getD_eq_getD_getElem?,Array.getElem?_eq_getElem hlt]at hd ⊢
    exact hd
  | some i=>
   have hm:=List.mem_of_getElem? hi
   obtain⟨h1,h2,o,h3,h4⟩:=(ready_mem hL).1 hm
   simp only[]
   rw[linearise_go_acc,List.reverse_singleton,List.singleton_append]
   refine⟨h2,⟨o,h3,fun e he hb=>?_⟩,?_⟩
   ·show L.getD e.on true=true
    have:=h4 e he hb
    have hlt:e.on<L.size:=by have:=hon i o e h3 he;omega
    rw[Array.getD_eq_getD_getElem?,Array.getElem?_eq_getElem hlt]at this ⊢
    exact this
   ·have:=ih (t / (Region.ready .any ops L).length) (L.setIfInBounds i true) (by simpa using hL) (by have:=lft_set (L:=L) (i:=i) (by omega) h2;omega)
    have e:(fun x=>(L.setIfInBounds i true).getD x true)=fun x=>L.getD x true || decide (x=i):=by
     funext x
     by_cases hx:x=i
     ·subst hx
      rw[Array.getD_eq_getD_getElem?,Array.getElem?_setIfInBounds_self_of_lt (by omega)]
      simp
     ·rw[Array.getD_eq_getD_getElem?,Array.getElem?_setIfInBounds_ne (fun e=>hx e.symm), ←Array.getD_eq_getD_getElem?]
      simp[hx]
    rw[e]at this
    exact this
section
variable {P:Program}{main:Bool}{rd:Nat→Prop}{Lv:World→Prop}{Stop:(Nat→Prop)→Goroutine→World→Prop}{O:Nat→Prop}{n:Nat}{w:World}{b:Frame}{a:Act}{k:List Item}{cs:List Frame}{ops:Array Oper}
theorem hg_draw {id:Nat}(hm:P.follows .mixedOrders=true)(hon:∀(i:Nat) (o:Oper) (e:Edge), ops[i]?=some o→e∈o.after→e.on<ops.size)(hLv:∀w d, Lv w→Lv (w.at d))(h:∀l, Val ops (fun i=>decide (ops.size≤i)) l→HG P main rd Lv Stop n O (G (b.at a (.inRegion ops l::k)) cs) w) :
  HG P main rd Lv Stop (n+1) O (G (b.at a (.code (.region id ops true)::k)) cs) w:=by
 refine HG.step rfl fun w1 h1=>?_
 rw[stepG_region_draw]
 refine⟨⟨rfl,rfl,rfl,Nat.le_refl _,fun _ _ _=>rfl,fun e he=>by simp at he⟩,?_⟩
 have hv:Val ops (fun i=>decide (ops.size≤i)) (Region.schedule (P.follows .mixedOrders) ops (w1.tape w1.drawn (.order b.fn id))):=by
  simp only[Region.schedule,hm,Bool.true_or,if_true]
  have:=val_go ops hon ops.size (w1.tape w1.drawn (.order b.fn id)) (Array.replicate ops.size false) (by simp) (by simp[lft])
  have e:(fun i=>(Array.replicate ops.size false).getD i true)=fun i=>decide (ops.size≤i):=by
   funext i
   by_cases hi:i<ops.size
   ·simp[Array.getD_eq_getD_getElem?,hi]
   ·simp[Array.getD_eq_getD_getElem?,hi]
    omega
  rw[e]at this
  exact this
 have eg:Grw O w1 { w1 with drawn:=w1.drawn+1 }=O:=grw_idle (w:=w1) O
 rw[eg]
 exact(h _ hv).rely ⟨fun b hb=>h1.stb b hb,fun hl=>hLv w1 (w1.drawn+1) (h1.lv hl),h1.size⟩
end
end
section
open Go.Conc
section
variable {P:Program}{Lv:World→Prop}{Stop:(Nat→Prop)→Goroutine→World→Prop}{O:Nat→Prop}{n:Nat}{g:Goroutine}{w:World}
theorem evT_evO {N:Nat}{e:Event}(h:EvT noB O N e):EvO O N e:=by
 obtain⟨loc,wr,sy⟩:=e
 unfold EvT at h
 unfold EvO
 cases loc with
 | cell a=>
  obtain⟨_,h1,h2⟩:=h
  rcases h2 with h2|⟨h2,_⟩
  ·exact⟨h1,h2⟩
  ·exact h2.elim
 | obj r=>
  obtain⟨_,_,h1,h2⟩:=h
  exact⟨h1,h2.elim id fun h=>h.elim⟩
 | mark m=>exact h
 | output=>exact h
 | goroutines=>exact h
theorem hg_wk(hLv:∀w d,Lv w→Lv (w.at d))(h:HG P true noB Lv Stop n O g w):Wk P Stop O g w:=by
 induction n generalizing O g w with
 | zero=>exact Wk.stop fun d=>h _ (Rly.at w d (hLv w d))
 | succ n ih=>
  rcases h with h|⟨hs,h⟩
  ·exact Wk.stop fun d=>h _ (Rly.at w d (hLv w d))
  ·refine Wk.mk hs fun d=>?_
   have:=h _ (Rly.at w d (hLv w d))
   cases hg:stepG P true g (w.at d)with
   | go g' w' es=>
    rw[hg]at this
    obtain⟨h1,h2⟩:=this
    exact⟨g',w',es,_,rfl,⟨h1.tape,h1.os,h1.out,h1.size,h1.other,fun b=>Or.inl,fun b hb=>hb,fun e he=>evT_evO (h1.ev e he)⟩,ih h2⟩
   | _=>rw[hg]at this;exact this.elim
end
end
end Go.Proofs.YtedifobeggabnaaGreat
