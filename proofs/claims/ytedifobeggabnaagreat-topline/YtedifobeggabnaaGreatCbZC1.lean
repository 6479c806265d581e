/- Texts of ours, one behind the other: ZC1. -/
import Derived.Conc.CrowdSel
namespace Go.Proofs.YtedifobeggabnaaGreat
open Go.Conc
set_option linter.unusedSimpArgs false
section
variable {P:Program}{gs:Array Goroutine}{w w₁:World}{sl:Option (Nat×Nat)}{i j k:Nat}{g g₂ gj:Goroutine}{es:Array Event}{c c' cap cap' s r s' r':Nat}{buf:Array Value}{tm tm' closed:Bool}{v z z' zj:Value}
 {blocking:Bool} {shape shj:CommShape} {cs cases:Array CommCase}
theorem crowd_recv_sel(hi:gs[i]?=some g)(h:stepG P (i == 0) g w = .comm g₂ #[rcase c z] blocking shape w₁ es)(hc:w₁.heap[c]?=some (.chan cap #[] closed s r tm))
  (hij:j≠i) (hj:gs[j]?=some (parked gj cs shj)) (hk:cs[k]?=some (scase c v zj)) (hp:partners (gs.setIfInBounds i ph) c true=[(j,k)]) :
  runT P (crowd gs w sl) i=(.next (crowd ((gs.setIfInBounds j (gj.finishComm P cs shj k undef false)).setIfInBounds i (g₂.finishComm P #[rcase c z] shape 0 v true)) (w₁.setChan c cap #[] closed (s+1) (r+1) tm) sl),
   MemOp.ofEvents i g.frame.fn g.frame.place es ++ #[{ g:=j,fn:=gj.frame.fn,pos:=gj.frame.place,act:= .send c s },{ g:=i,fn:=g₂.frame.fn,pos:=g₂.frame.place,act:= .recv c r cap },
    { g:=j,fn:=gj.frame.fn,pos:=gj.frame.place,act:= .sendDone c s },{ g:=i,fn:=g₂.frame.fn,pos:=g₂.frame.place,act:= .recvDone c r }]):=by
 rw[runT_crowd_comm hi h]
 have hj':=stand_get (i:=i) hij hj
 have hfp:=finishPartner_at P (gs.setIfInBounds i ph) hj' (cs:=cs) (sh:=shj) rfl k undef
 have hgd:(gs.setIfInBounds i ph).getD j default=parked gj cs shj:=by rw[Array.getD_eq_getD_getElem?,hj'];rfl
 have hov:offeredValue (gs.setIfInBounds i ph) j k=v:=by simp[offeredValue,hj',parked,hk,scase]
 simp[communicate,ways,rcase,hc,hp,choose,Sem.run,Question.forced,bind,Sem.bind,pure,World.setChan,crowd,hfp,hgd,hov,set_stand2,finishComm_parked,scase,parked,hk]
 rfl
def Sel2(P:Program)(gs:Array Goroutine)(i:Nat)(g₂:Goroutine)(c c' cap' s r s' r':Nat)(tm tm':Bool)(buf:Array Value)(v z z':Value)(w₁:World)(sl:Option (Nat×Nat))(pre:Array MemOp)(res:Stepped×Array MemOp):Prop:=
 (buf.size=0∧partners (gs.setIfInBounds i ph) c false=[]∧res=(.next (crowd (gs.setIfInBounds i (parked g₂ #[scase c v z,rcase c' z'] .select)) w₁ sl),pre))∨
 (∃j gj zj shj d,j≠i∧gs[j]?=some (parked gj #[rcase c zj] shj)∧
  res=(.next (crowd ((gs.setIfInBounds j (gj.finishComm P #[rcase c zj] shj 0 v true)).setIfInBounds i (g₂.finishComm P #[scase c v z,rcase c' z'] .select 0 undef false)) ((w₁.at d).setChan c 0 #[] false (s+1) (r+1) tm) sl),
   pre ++ #[{ g:=i,fn:=g₂.frame.fn,pos:=g₂.frame.place,act:= .send c s },{ g:=j,fn:=gj.frame.fn,pos:=gj.frame.place,act:= .recv c r 0 },
    { g:=i,fn:=g₂.frame.fn,pos:=g₂.frame.place,act:= .sendDone c s },{ g:=j,fn:=gj.frame.fn,pos:=gj.frame.place,act:= .recvDone c r }]))∨
 (∃d, 0<buf.size∧res=(.next (crowd (gs.setIfInBounds i (g₂.finishComm P #[scase c v z, rcase c' z'] .select 1 (buf.getD 0 undef) true)) ((w₁.at d).setChan c' cap' (buf.extract 1 buf.size) false s' (r'+1) tm') sl),
   pre ++ #[{ g:=i,fn:=g₂.frame.fn,pos:=g₂.frame.place,act:= .recv c' r' cap' },{ g:=i,fn:=g₂.frame.fn,pos:=g₂.frame.place,act:= .recvDone c' r' }]))
theorem draw_ext(ps:List (Nat×Nat))(hne:ps≠[])(w:World)(what:String):∃b d,b<ps.length∧∀ {α:Type} (f:Nat→Sem α),((choose (.extern what ps.length)).bind f).run P w=(f b).run P (w.at d):=by
 have hlen:0<ps.length:=List.length_pos_iff.2 hne
 by_cases hf:(Question.extern what ps.length).forced=true
 ·refine⟨0,w.drawn,hlen,fun f=>?_⟩
  simp only[choose,Sem.bind,Sem.run,hf,if_true]
  rfl
 ·refine⟨(Question.extern what ps.length).cut (w.tape w.drawn (.extern what ps.length)),w.drawn+1,?_,fun f=>?_⟩
  ·simp only[Question.cut]
   rw[if_neg (by omega)]
   exact Nat.mod_lt _ hlen
  ·simp only[choose,Sem.bind,Sem.run,hf]
   rfl
theorem crowd_sel2 (hi : gs[i]? = some g) (h : stepG P (i == 0) g w = .comm g₂ #[scase c v z, rcase c' z'] true .select w₁ es) (hc : w₁.heap[c]? = some (.chan 0 #[] false s r tm)) (hc' : w₁.heap[c']? = some (.chan cap' buf false s' r' tm'))
   (hall:∀j k,(j,k)∈partners (gs.setIfInBounds i ph) c false→k=0∧j≠i∧∃gj zj shj,gs[j]?=some (parked gj #[rcase c zj] shj)) (hp':partners (gs.setIfInBounds i ph) c' true=[]) :
   Sel2 P gs i g₂ c c' cap' s r s' r' tm tm' buf v z z' w₁ sl (MemOp.ofEvents i g.frame.fn g.frame.place es) (runT P (crowd gs w sl) i):=by
 by_cases hb:buf.size=0
 · have hb0:buf = #[]:=Array.eq_empty_of_size_eq_zero hb
   subst hb0
   have hR:NoWays w₁ (gs.setIfInBounds i ph) (rcase c' z'):=ways_recv_none hc' hp'
   by_cases hps:partners (gs.setIfInBounds i ph) c false=[]
   · refine Or.inl ⟨rfl,hps,?_⟩
     refine crowd_waits hi h fun cc hcc=>?_
     simp only[List.mem_toArray,List.mem_cons,List.not_mem_nil,or_false]at hcc
     rcases hcc with rfl|rfl
     · exact ways_send_none hc (Nat.zero_le _) hps
     · exact hR
   · refine Or.inr (Or.inl ?_)
     generalize hq:partners (gs.setIfInBounds i ph) c false=ps at hps hall
     have hw:ways w₁ (gs.setIfInBounds i ph) (scase c v z)=ps.map fun(h,k)=>Way.partner h k:=by
       simp only[ways,scase,hc,hq]
       cases ps with
       | nil=>exact absurd rfl hps
       | cons p ps=>simp
     have hne:(ps.map fun(h,k)=>Way.partner h k)≠[]:=by
       cases ps with
       | nil=>exact absurd rfl hps
       | cons p ps=>simp
     have hready:=ready_one (cases := #[scase c v z,rcase c' z']) (k:=0) (cc:=scase c v z) (w₁:=w₁) (gs:=gs) (i:=i) rfl (by rw[hw];exact hne) (fun m x hm hx=>by
       match m,hm,hx with
       | 1,_,hx=>
         have e:x=rcase c' z':=(Option.some.inj hx).symm
         subst e
         exact hR
       | m+2,_,hx=>simp at hx)
     obtain ⟨b, d, hbl, hdraw⟩ := draw_ext (P := P) ps hps w₁ "which waiting goroutine is the partner"
     obtain⟨⟨j,k⟩,hjk⟩:∃p,ps[b]?=some p:=⟨ps[b],List.getElem?_eq_getElem hbl⟩
     obtain⟨rfl,hij,gj,zj,shj,hj⟩:=hall j k (List.mem_of_getElem? hjk)
     refine⟨j,gj,zj,shj,d,hij,hj,?_⟩
     have hj':=stand_get (i:=i) hij hj
     have hfp:=finishPartner_at P (gs.setIfInBounds i ph) hj' (cs := #[rcase c zj]) (sh:=shj) rfl 0 v
     have hgd:(gs.setIfInBounds i ph).getD j default=parked gj #[rcase c zj] shj:=by rw[Array.getD_eq_getD_getElem?,hj'];rfl
     have hgm:=getD_map_partner ps b (j,0) hjk
     have hlm:(ps.map fun(h,k)=>Way.partner h k).length=ps.length:=List.length_map ..
     rw[runT_crowd_comm hi h]
     unfold communicate
     simp only[hready,hw]
     rw[if_neg]
     · have e1:∀ {α:Type} (f:Nat→Sem α),((choose (.select 1)).bind f).run P w₁=(f 0).run P w₁:=fun f=>by simp[choose,Sem.bind,Sem.run,Question.forced]
       simp only[List.isEmpty_cons,List.length_cons,List.length_nil,Nat.zero_add,bind]
       rw[e1]
       simp only[List.getD_cons_zero,hlm]
       rw[hdraw]
       simp[Sem.run,pure,hgm,hjk,scase,hc,World.setChan,crowd,hfp,hgd,set_stand2,finishComm_parked,rcase,parked,World.at]
       rfl
     · rw[Bool.not_eq_true]
       exact any_ill fun cc hcc=>by
         simp only[List.mem_toArray,List.mem_cons,List.not_mem_nil,or_false]at hcc
         rcases hcc with rfl|rfl
         · exact made_send v z hc
         · exact made_recv z' hc'
 · have hb0:0<buf.size:=by omega
   by_cases hps:partners (gs.setIfInBounds i ph) c false=[]
   · refine Or.inr (Or.inr ⟨w₁.drawn,hb0,?_⟩)
     have:=crowd_sel_recv_buf (sl:=sl) hi h (k:=1) (c:=c') (z:=z') rfl (fun m x hm hx=>by
       match m,hm,hx with
       | 0,_,hx=>
         have e:x=scase c v z:=(Option.some.inj hx).symm
         subst e
         exact ways_send_none hc (Nat.zero_le _) hps
       | m+2,_,hx=>simp at hx) hc' hb0 hp'
     exact this
   · generalize hq:partners (gs.setIfInBounds i ph) c false=ps at hps hall
     have hw:ways w₁ (gs.setIfInBounds i ph) (scase c v z)=ps.map fun(h,k)=>Way.partner h k:=by
       simp only[ways,scase,hc,hq]
       cases ps with
       | nil=>exact absurd rfl hps
       | cons p ps=>simp
     have hwR:ways w₁ (gs.setIfInBounds i ph) (rcase c' z')=[.buffer]:=by simp[ways,rcase,hc',hb0]
     have hnb:(ps.map fun(h,k)=>Way.partner h k).isEmpty=false:=by
       cases ps with
       | nil=>exact absurd rfl hps
       | cons p ps=>rfl
     have hready:((#[scase c v z,rcase c' z'].zipIdx.toList.map fun(c,k)=>(k,c,ways w₁ (gs.setIfInBounds i ph) c)).filter fun(_,_,ws) => !ws.isEmpty)=[(0,scase c v z,ps.map fun(h,k)=>Way.partner h k),(1,rcase c' z',[.buffer])]:=by
       simp[hw,hwR,hnb]
     have e2:∃a,(a=0∨a=1)∧∀ {α:Type} (f:Nat→Sem α),((choose (.select 2)).bind f).run P w₁=(f a).run P (w₁.at (w₁.drawn+1)):=by
       refine⟨w₁.tape w₁.drawn (.select 2) % 2,by omega,fun f=>?_⟩
       simp[choose,Sem.bind,Sem.run,Question.forced,Question.cut]
       rfl
     obtain⟨a,ha,hsel⟩:=e2
     rcases ha with rfl|rfl
     · refine Or.inr (Or.inl ?_)
       obtain ⟨b, d, hbl, hdraw⟩ := draw_ext (P := P) ps hps (w₁.at (w₁.drawn + 1)) "which waiting goroutine is the partner"
       obtain⟨⟨j,k⟩,hjk⟩:∃p,ps[b]?=some p:=⟨ps[b],List.getElem?_eq_getElem hbl⟩
       obtain⟨rfl,hij,gj,zj,shj,hj⟩:=hall j k (List.mem_of_getElem? hjk)
       refine⟨j,gj,zj,shj,d,hij,hj,?_⟩
       have hj':=stand_get (i:=i) hij hj
       have hfp:=finishPartner_at P (gs.setIfInBounds i ph) hj' (cs := #[rcase c zj]) (sh:=shj) rfl 0 v
       have hgd:(gs.setIfInBounds i ph).getD j default=parked gj #[rcase c zj] shj:=by rw[Array.getD_eq_getD_getElem?,hj'];rfl
       have hgm:=getD_map_partner ps b (j,0) hjk
       have hlm:(ps.map fun(h,k)=>Way.partner h k).length=ps.length:=List.length_map ..
       rw[runT_crowd_comm hi h]
       unfold communicate
       simp only[hready]
       rw[if_neg]
       · simp only[List.isEmpty_cons,List.length_cons,List.length_nil,Nat.zero_add,Nat.reduceAdd,bind]
         rw[hsel]
         simp only[List.getD_cons_zero,hlm]
         rw[hdraw]
         simp[Sem.run,pure,hgm,hjk,scase,hc,World.setChan,crowd,hfp,hgd,set_stand2,finishComm_parked,rcase,parked,World.at]
         rfl
       · rw[Bool.not_eq_true]
         exact any_ill fun cc hcc=>by
           simp only[List.mem_toArray,List.mem_cons,List.not_mem_nil,or_false]at hcc
           rcases hcc with rfl|rfl
           · exact made_send v z hc
           · exact made_recv z' hc'
     · refine Or.inr (Or.inr ⟨w₁.drawn+1,hb0,?_⟩)
       rw[runT_crowd_comm hi h]
       unfold communicate
       simp only[hready]
       rw[if_neg]
       · simp only[List.isEmpty_cons,List.length_cons,List.length_nil,Nat.zero_add,Nat.reduceAdd,bind]
         rw[hsel]
         simp[Sem.run,Sem.bind,choose,Question.forced,pure,rcase,hc',hp',World.setChan,crowd,World.at]
       · rw[Bool.not_eq_true]
         exact any_ill fun cc hcc=>by
           simp only[List.mem_toArray,List.mem_cons,List.not_mem_nil,or_false]at hcc
           rcases hcc with rfl|rfl
           · exact made_send v z hc
           · exact made_recv z' hc'
end
end Go.Proofs.YtedifobeggabnaaGreat
