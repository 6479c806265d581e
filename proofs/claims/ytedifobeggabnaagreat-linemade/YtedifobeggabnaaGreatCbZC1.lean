/- Texts of ours, one behind the other: ZC1. -/
import Derived.Test.YtedifobeggabnaaGreatCbQ0
import Derived.Conc.CrowdSel
namespace Go.Proofs.YtedifobeggabnaaGreat
open Go.Conc
abbrev YS:=@Go.Conc.runT_crowd_comm
set_option linter.unusedSimpArgs false
section
variable {P:Program}{e:Array Goroutine}{w a:World}{sl:Option (Nat×Nat)}{i j k:Nat}{g b n:Goroutine}{D:Array Event}{c o A q s r F B:Nat}{l:Array Value}{C x d:Bool}{v z p t:Value}
 {y:Bool} {u f:CommShape} {cs cases:Array CommCase}
theorem vX(m:e[i]?=some g)(o:stepG P (i==0) g w=.comm b #[rcase c z] y u a D)(p:a.heap[c]?=some (.chan A #[] d s r C))(q:j≠i)(x:e[j]?=some (parked n cs f))(l:cs[k]?=some (scase c v t))(B:partners (e.setIfInBounds i ph) c true=[(j,k)]):runT P (crowd e w sl) i=(.next (crowd ((e.setIfInBounds j (n.finishComm P cs f k undef false)).setIfInBounds i (b.finishComm P #[rcase c z] u 0 v true)) (a.setChan c A #[] d (s+1) (r+1) C) sl),MemOp.ofEvents i g.frame.fn g.frame.place D ++ #[{ g:=j,fn:=n.frame.fn,pos:=n.frame.place,act:=.send c s },{ g:=i,fn:=b.frame.fn,pos:=b.frame.place,act:=.recv c r A },{ g:=j,fn:=n.frame.fn,pos:=n.frame.place,act:=.sendDone c s },{ g:=i,fn:=b.frame.fn,pos:=b.frame.place,act:=.recvDone c r }]):=by
 rw[YS m o];have h:=stand_get (i:=i) q x;have E:=finishPartner_at P (e.setIfInBounds i ph) h (cs:=cs) (sh:=f) X k undef;have F:(e.setIfInBounds i ph).getD j default=parked n cs f:=by rw[aw,h];rfl
 have G:offeredValue (e.setIfInBounds i ph) j k=v:=by simp[offeredValue,h,parked,l,scase]
 simp[communicate,ways,rcase,p,B,choose,Sem.run,Question.forced,bind,Sem.bind,pure,World.setChan,crowd,E,F,G,set_stand2,finishComm_parked,scase,parked,l];rfl
def VL(P:Program)(e:Array Goroutine)(i:Nat)(b:Goroutine)(c o q s r F B:Nat)(C x:Bool)(l:Array Value)(v z p:Value)(a:World)(sl:Option (Nat×Nat))(pre:Array MemOp)(h:Stepped×Array MemOp):Prop:=
 (l.size=0∧partners (e.setIfInBounds i ph) c false=[]∧h=(.next (crowd (e.setIfInBounds i (parked b #[scase c v z,rcase o p] .select)) a sl),pre))∨
 (∃j n t f d,j≠i∧e[j]?=some (parked n #[rcase c t] f)∧
  h=(.next (crowd ((e.setIfInBounds j (n.finishComm P #[rcase c t] f 0 v true)).setIfInBounds i (b.finishComm P #[scase c v z,rcase o p] .select 0 undef false)) ((a.at d).setChan c 0 #[] false (s+1) (r+1) C) sl),
   pre ++ #[{ g:=i,fn:=b.frame.fn,pos:=b.frame.place,act:=.send c s },{ g:=j,fn:=n.frame.fn,pos:=n.frame.place,act:=.recv c r 0 },
    { g:=i,fn:=b.frame.fn,pos:=b.frame.place,act:=.sendDone c s },{ g:=j,fn:=n.frame.fn,pos:=n.frame.place,act:=.recvDone c r }]))∨
 (∃d,0<l.size∧h=(.next (crowd (e.setIfInBounds i (b.finishComm P #[scase c v z,rcase o p] .select 1 (l.getD 0 undef) true)) ((a.at d).setChan o q (l.extract 1 l.size) false F (B+1) x) sl),
   pre ++ #[{ g:=i,fn:=b.frame.fn,pos:=b.frame.place,act:=.recv o B q },{ g:=i,fn:=b.frame.fn,pos:=b.frame.place,act:=.recvDone o B }]))
theorem Co(a:List (Nat×Nat))(f:a≠[])(w:World)(b:String):∃e d,e<a.length∧∀ {g:Type} (c:Nat->Sem g),((choose (.extern b a.length)).bind c).run P w=(c e).run P (w.at d):=by
 have e:=List.length_pos_iff.2 f;by_cases f:(Question.extern b a.length).forced=true
 ·refine⟨0,w.drawn,e,λc=>?_⟩;simp only[choose,Sem.bind,Sem.run,f,ek];rfl
 ·refine⟨(Question.extern b a.length).cut (w.tape w.drawn (.extern b a.length)),w.drawn+1,?_,λc=>?_⟩
  ·simp only[Question.cut];rw[af E];exact bZ _ e
  ·simp only[choose,Sem.bind,Sem.run,f];rfl
theorem EW (S : e[i]? = some g) (u : stepG P (i == 0) g w = .comm b #[scase c v z, rcase o p] true .select a D) (G : a.heap[c]? = some (.chan 0 #[] false s r C)) (K : a.heap[o]? = some (.chan q l false F B x))
   (W:∀j k,(j,k)∈partners (e.setIfInBounds i ph) c false->k=0∧j≠i∧∃n t f,e[j]?=some (parked n #[rcase c t] f)) (ab:partners (e.setIfInBounds i ph) o true=[]) :
   VL P e i b c o q s r F B C x l v z p a sl (MemOp.ofEvents i g.frame.fn g.frame.place D) (runT P (crowd e w sl) i):=by
 by_cases hb:l.size=0
 · have R:l = #[]:=oH hb
   subst R
   have hR:NoWays a (e.setIfInBounds i ph) (rcase o p):=ways_recv_none K ab
   by_cases y:partners (e.setIfInBounds i ph) c false=[]
   · refine I ⟨X,y,?_⟩
     refine crowd_waits S u λcc A=>?_
     simp only[aF,az,aD,bP]at A
     rcases A with rfl|rfl
     · exact ways_send_none G (fq _) y
     · exact hR
   · refine J (I ?_)
     generalize hq:partners (e.setIfInBounds i ph) c false=h at y W
     have Y:ways a (e.setIfInBounds i ph) (scase c v z)=h.map λ(u,k)=>Way.partner u k:=by
       simp only[ways,scase,G,hq]
       cases h with
       | nil=>exact absurd X y
       | cons M h=>simp
     have a4:(h.map λ(u,k)=>Way.partner u k)≠[]:=by
       cases h with
       | nil=>exact absurd X y
       | cons M h=>simp
     have Z:=ready_one (cases := #[scase c v z,rcase o p]) (k:=0) (cc:=scase c v z) (w₁:=a) (gs:=e) (i:=i) X (by rw[Y];exact a4) (λm ad hm E=>by
       match m,hm,E with
       | 1,_,E=>
         have ao:=(cC E).symm
         subst ao
         exact hR
       | m+2,_,E=>simp at E)
     obtain ⟨N, d, ar, av⟩ := Co (P := P) h y a "which waiting goroutine is the partner"
     obtain⟨⟨j,k⟩,O⟩:∃M,h[N]?=some M:=⟨h[N],aE ar⟩
     obtain⟨rfl,T,n,t,f,U⟩:=W j k (BH O)
     refine⟨j,n,t,f,d,T,U,?_⟩
     have V:=stand_get (i:=i) T U
     have ax:=finishPartner_at P (e.setIfInBounds i ph) V (cs := #[rcase c t]) (sh:=f) X 0 v
     have a0:(e.setIfInBounds i ph).getD j default=parked n #[rcase c t] f:=by rw[aw,V];rfl
     have a1:=getD_map_partner h N (j,0) O
     have a2:(h.map λ(u,k)=>Way.partner u k).length=h.length:=gp ..
     rw[YS S u]
     unfold communicate
     simp only[Z,Y]
     rw[af]
     · have e1:∀ {α:Type} (Q:Nat->Sem α),((choose (.select 1)).bind Q).run P a=(Q 0).run P a:=λQ=>by simp[choose,Sem.bind,Sem.run,Question.forced]
       simp only[KN,jw,RM,aW,bind]
       rw[e1]
       simp only[List.getD_cons_zero,a2]
       rw[av]
       simp[Sem.run,pure,a1,O,scase,G,World.setChan,crowd,ax,a0,set_stand2,finishComm_parked,rcase,parked,World.at]
       rfl
     · rw[gJ]
       exact any_ill λcc A=>by
         simp only[aF,az,aD,bP]at A
         rcases A with rfl|rfl
         · exact made_send v z G
         · exact made_recv p K
 · have R:0<l.size:=by omega
   by_cases y:partners (e.setIfInBounds i ph) c false=[]
   · refine J (J ⟨a.drawn,R,?_⟩)
     have:=crowd_sel_recv_buf (sl:=sl) S u (k:=1) (c:=o) (z:=p) X (λm ad hm E=>by
       match m,hm,E with
       | 0,_,E=>
         have ao:=(cC E).symm
         subst ao
         exact ways_send_none G (fq _) y
       | m+2,_,E=>simp at E) K R ab
     exact this
   · generalize hq:partners (e.setIfInBounds i ph) c false=h at y W
     have Y:ways a (e.setIfInBounds i ph) (scase c v z)=h.map λ(u,k)=>Way.partner u k:=by
       simp only[ways,scase,G,hq]
       cases h with
       | nil=>exact absurd X y
       | cons M h=>simp
     have a5:ways a (e.setIfInBounds i ph) (rcase o p)=[.buffer]:=by simp[ways,rcase,K,R]
     have a6:(h.map λ(u,k)=>Way.partner u k).isEmpty=false:=by
       cases h with
       | nil=>exact absurd X y
       | cons M h=>rfl
     have Z:((#[scase c v z,rcase o p].zipIdx.toList.map λ(c,k)=>(k,c,ways a (e.setIfInBounds i ph) c)).filter λ(_,_,E) => !E.isEmpty)=[(0,scase c v z,h.map λ(u,k)=>Way.partner u k),(1,rcase o p,[.buffer])]:=by
       simp[Y,a5,a6]
     have Y:∃E,(E=0∨E=1)∧∀ {α:Type} (Q:Nat->Sem α),((choose (.select 2)).bind Q).run P a=(Q E).run P (a.at (a.drawn+1)):=by
       refine⟨a.tape a.drawn (.select 2) % 2,by omega,λQ=>?_⟩
       simp[choose,Sem.bind,Sem.run,Question.forced,Question.cut]
       rfl
     have⟨E,ha,a3⟩:=Y
     rcases ha with rfl|rfl
     · refine J (I ?_)
       obtain ⟨N, d, ar, av⟩ := Co (P := P) h y (a.at (a.drawn + 1)) "which waiting goroutine is the partner"
       obtain⟨⟨j,k⟩,O⟩:∃M,h[N]?=some M:=⟨h[N],aE ar⟩
       obtain⟨rfl,T,n,t,f,U⟩:=W j k (BH O)
       refine⟨j,n,t,f,d,T,U,?_⟩
       have V:=stand_get (i:=i) T U
       have ax:=finishPartner_at P (e.setIfInBounds i ph) V (cs := #[rcase c t]) (sh:=f) X 0 v
       have a0:(e.setIfInBounds i ph).getD j default=parked n #[rcase c t] f:=by rw[aw,V];rfl
       have a1:=getD_map_partner h N (j,0) O
       have a2:(h.map λ(u,k)=>Way.partner u k).length=h.length:=gp ..
       rw[YS S u]
       unfold communicate
       simp only[Z]
       rw[af]
       · simp only[KN,jw,RM,aW,Nat.reduceAdd,bind]
         rw[a3]
         simp only[List.getD_cons_zero,a2]
         rw[av]
         simp[Sem.run,pure,a1,O,scase,G,World.setChan,crowd,ax,a0,set_stand2,finishComm_parked,rcase,parked,World.at]
         rfl
       · rw[gJ]
         exact any_ill λcc A=>by
           simp only[aF,az,aD,bP]at A
           rcases A with rfl|rfl
           · exact made_send v z G
           · exact made_recv p K
     · refine J (J ⟨a.drawn+1,R,?_⟩)
       rw[YS S u]
       unfold communicate
       simp only[Z]
       rw[af]
       · simp only[KN,jw,RM,aW,Nat.reduceAdd,bind]
         rw[a3]
         simp[Sem.run,Sem.bind,choose,Question.forced,pure,rcase,K,ab,World.setChan,crowd,World.at]
       · rw[gJ]
         exact any_ill λcc A=>by
           simp only[aF,az,aD,bP]at A
           rcases A with rfl|rfl
           · exact made_send v z G
           · exact made_recv p K
