/- Texts of ours, one behind the other: ZK0. -/
import Derived.Test.YtedifobeggabnaaGreatCbZI0
import Derived.Test.YtedifobeggabnaaGreatCbQ1
import Derived.Test.YtedifobeggabnaaGreatCbL10
namespace Go.Proofs.YtedifobeggabnaaGreat
open Go.RowKit Go.Sort
theorem Tryz.infoNz:(Tryz.prog.info? 47).map (fun i=>(i.zero,i.size,i.bytes))=some (some (.agg #[.int .i64 0,.int .i64 0,.int .i64 0]),3,24):=by kernel_rfl
def nzc(l:List (Nat×Nat×Nat)):List Value:=l.flatMap fun p=>[.int .i64 (p.1:Nat),.int .i64 (p.2.1:Nat),.int .i64 (p.2.2:Nat)]
theorem nzc_get:∀(l:List (Nat×Nat×Nat)) (a:Nat),a<l.length→(nzc l)[a*3]?=some (.int .i64 ((l.getD a (0,0,0)).1:Nat))∧(nzc l)[a*3+1]?=some (.int .i64 ((l.getD a (0,0,0)).2.1:Nat))∧(nzc l)[a*3+2]?=some (.int .i64 ((l.getD a (0,0,0)).2.2:Nat))
 |[],a,h=>absurd h (by simp)
 |x::l,0,_=>⟨rfl,rfl,rfl⟩
 |x::l,a+1,h=>by
  have:=nzc_get l a (by rw[List.length_cons]at h;omega)
  show(Value.int .i64 (x.1:Nat)::Value.int .i64 (x.2.1:Nat)::Value.int .i64 (x.2.2:Nat)::nzc l)[(a+1)*3]?=_∧(Value.int .i64 (x.1:Nat)::Value.int .i64 (x.2.1:Nat)::Value.int .i64 (x.2.2:Nat)::nzc l)[(a+1)*3+1]?=_∧(Value.int .i64 (x.1:Nat)::Value.int .i64 (x.2.1:Nat)::Value.int .i64 (x.2.2:Nat)::nzc l)[(a+1)*3+2]?=_
  rw[show(a+1)*3=a*3+1+1+1 from by omega]
  iterate 9 rw[List.getElem?_cons_succ]
  exact this
theorem nzc_app(l m:List (Nat×Nat×Nat)):nzc (l++m)=nzc l++nzc m:=by
 unfold nzc
 rw[List.flatMap_append]
def OwnN(base:Nat)(v:Value)(l:List (Nat×Nat×Nat))(w:World):Prop:=w.ownsRow base 47 3 v l.length (nzc l)
theorem OwnN.nil(base:Nat)(w:World):OwnN base (.slice none 0 0) [] w:=World.ownsRow_nil _ _ _ _
theorem OwnN.below {base B:Nat}{v:Value}{l:List (Nat×Nat×Nat)}{w w':World}(h:OwnN base v l w)(hb:Below B w w')(hB:w.heap.size≤B):OwnN base v l w':=by
 obtain⟨h1,h2⟩:=h
 refine⟨h1,?_⟩
 rcases h2 with h2|⟨g,cap,cur,hv,hg,hh,r⟩
 ·exact Or.inl h2
 ·exact Or.inr ⟨g,cap,cur,hv,hg,by rw[hb.block g (Nat.lt_of_lt_of_le (lt_of_block hh) hB)];exact hh,r⟩
def naL(l:List (Nat×Nat×Nat))(r:Nat):Nat:=(l.getD r (0,0,0)).1
def npL(l:List (Nat×Nat×Nat))(r:Nat):Nat:=(l.getD r (0,0,0)).2.1
def nvL(l:List (Nat×Nat×Nat))(r:Nat):Int:=((l.getD r (0,0,0)).2.2:Nat)
theorem OwnN.nza {base:Nat}{v:Value}{l:List (Nat×Nat×Nat)}{w:World}(h:OwnN base v l w):∃no cap,v = .slice no l.length cap∧NzA no l.length (naL l) (npL l) (nvL l) w:=by
 rcases h.2 with⟨h1,h2⟩|⟨g,cap,cur,hv,hg,hh,hle,hcm,hsz,htake⟩
 ·exact⟨none,0,by rw[h1,h2],fun j hj=>absurd hj (by omega)⟩
 ·have key:∀j k, j<l.length→k<3→w.cell? ⟨g, 0+j*3+k, none⟩=(nzc l)[j*3+k]?:=fun j k hj hk=>by
   rw[Nat.zero_add,cell_of_row w g (j*3+k) cur 47 (0,0) hh, ←Array.getElem?_toList, ←htake,List.getElem?_take,if_pos (by omega)]
  exact⟨_,cap,hv,fun j hj=>⟨g,0,rfl,lt_of_block hh,(key j 0 hj (by omega)).trans (nzc_get l j hj).1,(key j 1 hj (by omega)).trans (nzc_get l j hj).2.1,(key j 2 hj (by omega)).trans (nzc_get l j hj).2.2⟩⟩
theorem append_n {ops:Array Oper}{rest:List Oper}{o:Oper}{a:Act}{w:World}{Q:Exit→Act→World→Prop}(hgd:o.guard=none)(s x:Operand)
  (ho:o.op = .call { callee:= .builtin .append,args := #[s,x],argTypes := #[24,24]})
  (base:Nat) (v:Value) (l:List (Nat×Nat×Nat)) (hs:a.eval s=v) (hown:OwnN base v l w) (g:Nat) (c:Nat) (p:Nat×Nat×Nat) (hx:a.eval x = .slice (some ⟨g,0,none⟩) 1 c) (hc0:w.cell? ⟨g,0,none⟩=some (.int .i64 (p.1:Nat))) (hc1:w.cell? ⟨g,1,none⟩=some (.int .i64 (p.2.1:Nat))) (hc2:w.cell? ⟨g,2,none⟩=some (.int .i64 (p.2.2:Nat)))
  (hlen:l.length≤1000000) (hbase:base≤w.heap.size)
  (h:∀v' w',OwnN base v' (l++[p]) w'→w.grownBy w' v.ownBlock→wpList Tryz.prog ops Q rest (a.put o.dst v') w'):wpList Tryz.prog ops Q (o::rest) a w:=by
 obtain⟨i0,hi,hz0,hz1,hz2⟩:=info_parts Tryz.infoNz
 refine wpList_append_own _ hgd s x 24 ho base 47 i0 (.agg #[.int .i64 0,.int .i64 0,.int .i64 0]) 3 24 Tryz.underlying24 hi hz0 hz1 hz2 rfl (by decide) v l.length _ hs hown ⟨g,0,none⟩ 1 c [.int .i64 (p.1:Nat),.int .i64 (p.2.1:Nat),.int .i64 (p.2.2:Nat)] hx rfl ?_ ?_ ?_ ?_ hbase ?_
 ·intro j u hj
  match j,hj with
  | 0,hj=>
   simp at hj;subst hj
   exact hc0
  | 1,hj=>
   simp at hj;subst hj
   exact hc1
  | 2,hj=>
   simp at hj;subst hj
   exact hc2
 ·intro u hu
  simp at hu
  rcases hu with rfl|rfl|rfl<;>rfl
 ·unfold maxLen;omega
 ·omega
 ·intro v' w' hown' hgrow _
  refine h v' w' ?_ hgrow
  unfold OwnN
  rw[List.length_append,nzc_app]
  exact hown'
end Go.Proofs.YtedifobeggabnaaGreat
