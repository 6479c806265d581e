/- Texts of ours, one behind the other: ZK1. -/
import Derived.Test.YtedifobeggabnaaGreatCbZJ1
import Derived.Test.YtedifobeggabnaaGreatCbZK0
namespace Go.Proofs.YtedifobeggabnaaGreat
open Go.RowKit Go.Sort
def cnA(l:List (Nat×Nat×Nat))(i:Nat):Nat:=ct (fun r=>decide (naL l r=i)) l.length
theorem cnA_snoc(l:List (Nat×Nat×Nat))(p:Nat×Nat×Nat)(i:Nat):cnA (l++[p]) i=cnA l i+if p.1=i then 1 else 0:=by
 unfold cnA
 rw[List.length_append]
 show ct _ (l.length+1)=_
 have h0:naL (l++[p]) l.length=p.1:=by
  unfold naL
  simp[List.getD_eq_getElem?_getD]
 have h1:ct (fun r=>decide (naL (l++[p]) r=i)) l.length=ct (fun r=>decide (naL l r=i)) l.length:=ct_same _ fun r hr=>by
  have:naL (l++[p]) r=naL l r:=by
   unfold naL
   rw[List.getD_eq_getElem?_getD,List.getD_eq_getElem?_getD,List.getElem?_append_left hr]
  rw[this]
 show ct _ l.length+(if decide (naL (l++[p]) l.length=i)=true then 1 else 0)=_
 rw[h1,h0]
 simp
def NzB(N n q:Nat)(l:List (Nat×Nat×Nat)):Prop:=∀p,p∈l→p.1<N∧p.2.1<n∧p.2.2<q
theorem NzB.at {N n q:Nat}{l:List (Nat×Nat×Nat)}(h:NzB N n q l)(r:Nat)(hr:r<l.length):naL l r<N∧npL l r<n∧0≤nvL l r∧nvL l r<(q:Int):=by
 have e:l.getD r (0,0,0)=l[r]:=by rw[List.getD_eq_getElem?_getD,List.getElem?_eq_getElem hr];rfl
 have:=h _ (List.getElem_mem hr)
 unfold naL npL nvL
 rw[e]
 exact⟨this.1,this.2.1,by omega,by omega⟩
section
variable {D:FD}{n k N L i:Nat}{xs:Nat→Nat}{av:Nat→Nat→Nat}{na np:Nat→Nat}{nv:Nat→Int}{Y:Nat→Nat→Int}
theorem nz_count:∀r,ct (fun j => !decide (Y i j=nzW D Y na np nv r i j)) n≤ct (fun r=>decide (na r=i)) r
 | 0=>by
  rw[ct_none n (fun j _=>by show(!decide (Y i j=Y i j))=false;simp)]
  omega
 |r+1=>by
  have ih:=nz_count r
  show ct _ n≤ct _ r+if decide (na r=i)=true then 1 else 0
  by_cases e:i=na r
  ·rw[if_pos (by simp[e])]
   have h1:=ct_one1 (p:=fun j => !decide (Y i j=nzW D Y na np nv (r+1) i j)) (p':=fun j => !decide (Y i j=nzW D Y na np nv r i j)) (np r) n (fun j hj hne hp=>by
    have e2:nzW D Y na np nv (r+1) i j=nzW D Y na np nv r i j:=by
     show(if i=na r then dst D (nzW D Y na np nv r i) (np r) (nv r)else nzW D Y na np nv r i:Nat→Int) j=_
     rw[if_pos e]
     exact if_neg hne
    rw[e2]at hp
    exact hp)
   have:(if np r<n then 1 else 0:Nat)≤1:=by split<;>omega
   omega
  ·have e2:nzW D Y na np nv (r+1) i=nzW D Y na np nv r i:=if_neg e
   rw[e2]
   omega
theorem nz_here(hY:∀i j,0≤Y i j):∀r,(∀s,s<r→0≤nv s)→∀i j,0≤nzW D Y na np nv r i j
 | 0,_=>hY
 |r+1,hv=>fun i j=>by
  have ih:=nz_here hY r (fun s hs=>hv s (by omega))
  show 0≤(if i=na r then dst D (nzW D Y na np nv r i) (np r) (nv r)else nzW D Y na np nv r i:Nat→Int) j
  split
  ·show 0≤(if j=np r then(if nv r = -1∨nzW D Y na np nv r i (np r) = -1 then -1 else((sumD D.p D.q (nzW D Y na np nv r i (np r)).toNat (nv r).toNat:Nat):Int))else nzW D Y na np nv r i j)
   split
   ·rw[if_neg]
    ·omega
    ·have h1:=hv r (by omega)
     have h2:=ih i (np r)
     omega
   ·exact ih i j
  ·exact ih i j
theorem near_all {l:List (Nat×Nat×Nat)}{T:Nat}(hT:2*T+k≤n)(hk:k≤n)(hL:cnA l i≤T)(hv:NzB N n D.q l)(ha:El D (av i))(hb:Bd k (av i)){m:Nat}{c' y':Nat→Nat}(hH:Heard D n xs (nzW D (fun i j=>((D.ev (av i) (xs j) k:Nat):Int)) (naL l) (npL l) (nvL l) l.length i) m c' y'):NearH D m k c' y' (av i):=by
 have hge:=nz_here (D:=D) (Y:=fun i j=>((D.ev (av i) (xs j) k:Nat):Int)) (na:=naL l) (np:=npL l) (nv:=nvL l) (fun i j=>by show(0:Int)≤((D.ev (av i) (xs j) k:Nat):Int);omega) l.length (fun s hs=>(hv.at s hs).2.2.1) i
 have hm:m=n:=by
  rw[hH.many]
  exact ct_all n fun j hj=>by
   have:=hge j
   rw[decide_eq_false (by omega)];rfl
 have h2:ofs D k m c' y' (av i)≤T:=by
  rw[hH.ofs]
  refine Nat.le_trans ?_ (Nat.le_trans (nz_count (D:=D) (n:=n) (i:=i) (na:=naL l) (np:=npL l) (nv:=nvL l) (Y:=fun i j=>((D.ev (av i) (xs j) k:Nat):Int)) l.length) hL)
  exact ct_mono n fun j hj h=>by
   rw[Bool.and_eq_true]at h
   exact h.2
 exact⟨ha,hb,by omega,by omega⟩
theorem out_all {l:List (Nat×Nat×Nat)}{T:Nat}{m:Nat→Nat}{c' y' am:Nat→Nat→Nat}{er:Nat→Nat}{ls:Nat→Bool}(hD:D∈fieldsL)(hT:2*T+k≤n)(hk:k≤n)(hL:∀i, i<N→cnA l i≤T)(hv:NzB N n D.q l)(ha:∀i, i<N→El D (av i)∧Bd k (av i))
  (hW:WOut D n k N xs (nzW D (fun i j=>((D.ev (av i) (xs j) k:Nat):Int)) (naL l) (npL l) (nvL l) l.length) m c' y' am er ls) (hi:i<N) :
  ls i=false∧am i=av i∧er i=ct (fun j => !decide (nzW D (fun i j=>((D.ev (av i) (xs j) k:Nat):Int)) (naL l) (npL l) (nvL l) l.length i j = -1) && !decide (((D.ev (av i) (xs j) k:Nat):Int)=nzW D (fun i j=>((D.ev (av i) (xs j) k:Nat):Int)) (naL l) (npL l) (nvL l) l.length i j)) n:=by
 have hn:=near_all (c':=c' i) (y':=y' i) hT hk (hL i hi) hv (ha i hi).1 (ha i hi).2 (hW.hrd i hi)
 rcases hW.out i hi with⟨h1,h2,h3⟩|⟨_,h2,_⟩
 ·have e:=NearH.one hD (hW.hrd i hi) h2 hn
  refine⟨h1,e,?_⟩
  rw[h3,e]
  exact(hW.hrd i hi).ofs k (av i)
 ·exact absurd hn (h2 _)
theorem sumTo_same {f g:Nat→Nat}:∀n,(∀i,i<n→f i=g i)→Go.ConcN.sumTo n f=Go.ConcN.sumTo n g
 | 0,_=>rfl
 |n+1,h=>by
  simp only[Go.ConcN.sumTo]
  rw[sumTo_same n (fun i hi=>h i (by omega)),h n (by omega)]
end
end Go.Proofs.YtedifobeggabnaaGreat
