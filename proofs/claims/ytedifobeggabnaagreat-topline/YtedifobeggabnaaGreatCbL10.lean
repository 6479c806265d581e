/- Texts of ours, one behind the other: L10 O1 K1 K2 K3 J1 S1 S2 T1 W9 T2 T4 T5 T6 T7 T8 T3 X1 X2 X3 X4 X5 X6 X7 X8 X9 X10 X11 S3 X12 X13 X14 X15 X16 S4 T9 X17 X18 S5 T10 X19 X20 S6 O2 O3 L11 L12 L13 L14 U23 H1 H2 H3 H4 K4 S8 Y1 Y2 Y3 S9 Y4 W10 Y5 S10 S11. -/
import Derived.Test.YtedifobeggabnaaGreatCbL9
import Derived.Test.YtedifobeggabnaaGreatChecked
import Derived.ProofKit
import Derived.OpenShut
import Derived.ChangeOld
import Derived.ChangeSlices
import Derived.SizedLaws
import Derived.Carry
import Derived.Test.YtedifobeggabnaaGreatCbV7
import Derived.Shelf.Abstract
import Derived.BigRegion
import Derived.Test.YtedifobeggabnaaGreatCbL1
import Derived.Test.YtedifobeggabnaaGreatCbR5
import Derived.Maps.AppendAt
import Derived.Deep.AppendLies
import Derived.Test.YtedifobeggabnaaGreatCbN1
namespace Go.Proofs.YtedifobeggabnaaGreat
section
open Go.RowKit Go.Sort
structure ArgL(ao:Option Addr)(n cap:Nat)(z:Nat→Int)(w:World):Prop where
 sl:SlZ ao n z w
 lt:LtB ao w.heap.size
 nil:ao=none→cap=0
 le:n≤cap
 cap:cap≤9223372036854775807
theorem ArgL.arg {ao:Option Addr}{n cap:Nat}{z:Nat→Int}{w:World}(h:ArgL ao n cap z w)(hn:n≤1000000):Arg ao n cap z w:=⟨h.sl,h.lt,hn,h.nil,h.le,h.cap⟩
end
section
open Go.ChangeShapes Go.WideShapes Go.ChangeAt Go.RowKit
theorem Tryz.cellsInt:Tryz.prog.cellsOf 3=1:=by kernel_rfl
theorem Tryz.bytesInt:Tryz.prog.bytesOf 3=8:=by kernel_rfl
theorem Tryz.laidOut':laidOutB Tryz.prog=true:=by kernel_rfl
set_option maxRecDepth 100000 in
theorem open_list {H:Type}{enc:TypeId×Value→H}{W:World}{base:Nat}{v:Value}{d:DataW H}{p:List MemPlace}(hok:Value.okWide Tryz.prog W .any base 22 v)
  (h:DataW.Trod enc Tryz.prog W 0 (fun _=>true) true 22 v d p) :
  ∃ao n ca z,v = .slice ao n ca∧ArgL ao n ca z W∧((d = .nil∧ca=0)∨∃es sp,d = .slice es sp∧es.length+sp.length=ca):=by
 obtain⟨a0,len,cap,rfl⟩:=okWide_slice Tryz.underlying22 hok
 obtain⟨fuel,hf⟩:=h
 rcases open_ints Tryz.underlying22 Tryz.underlying3 Tryz.cellsInt hf with⟨hcs,hx⟩|⟨a,len',cap',zs,hcs,_,hl,hm,hz,hx,hcell,_⟩
 ·simp[Value.cells]at hcs
  obtain⟨rfl,rfl,rfl⟩:=hcs
  simp only[Prod.mk.injEq]at hx
  exact⟨none,0,0,fun _=>0,rfl,⟨fun j hj=>by omega,fun x hx=>(by cases hx),fun _=>rfl,Nat.le_refl _,by omega⟩,Or.inl ⟨hx.1,rfl⟩⟩
 ·simp[Value.cells]at hcs
  obtain⟨rfl,rfl,rfl⟩:=hcs
  simp only[Prod.mk.injEq]at hx
  simp only[if_true]at hz
  have hhas:a.spot=none∧a.block<W.heap.size:=by
   have h1:W.has Tryz.prog .any base a 3 cap:=by
    unfold Value.okWide at hok
    rw[Tryz.underlying22]at hok
    simp only at hok
    unfold Cell.okWide at hok
    rw[Tryz.underlying22]at hok
    simp only at hok
    unfold Cell.ok at hok
    rw[Tryz.underlying22]at hok
    exact hok.2.2
   obtain⟨_,h2,row,cells,h3,_⟩:=h1
   refine⟨h2,?_⟩
   rcases Nat.lt_or_ge a.block W.heap.size with e|e
   ·exact e
   ·exfalso
    have:W.heap[a.block]?=none:=Array.getElem?_eq_none e
    simp[World.shape?,this]at h3
  obtain⟨b,off,spot⟩:=a
  obtain⟨hs,hlt⟩:=hhas
  simp only at hs hlt
  subst hs
  refine⟨some ⟨b,off,none⟩,len,cap,fun j=>zs.getD j 0,rfl,⟨fun j hj=>⟨b,off,rfl,?_⟩,fun x hx=>(by cases hx;exact hlt),fun e=>(by cases e),hl,hm⟩,Or.inr ⟨_,_,hx.1,?_⟩⟩
  ·have:=hcell j (by omega)
   rwa [add_off]at this
  ·simp[lits]
   omega
theorem sized_list {H:Type}{ts:List TypeId}{ds:List (DataW H)}{d:DataW H}{ca j:Nat}(h:(DataW.weightsEach Tryz.prog ts ds).all (· ≤ reachBytes)=true)(ht:ts[j]?=some 22)(hd:ds[j]?=some d)
  (hc:(d = .nil∧ca=0)∨∃es sp,d = .slice es sp∧es.length+sp.length=ca):ca≤17592186044416:=by
 rcases hc with⟨_,rfl⟩|⟨es,sp,rfl,rfl⟩
 ·omega
 ·have:=sized_slice h ht hd Tryz.underlying22
  rw[Tryz.bytesInt]at this
  unfold reachBytes at this
  omega
end
section
open Go.RowKit Go.Sort
def I64(r:Int):Prop := -9223372036854775808≤r∧r≤9223372036854775807
theorem i64_wrap(x:Int):I64 (IntKind.i64.wrap x):=by
 unfold I64
 rw[IntKind.wrap_i64]
 omega
set_option maxHeartbeats 2000000 in
theorem raw_any {ao:Option Addr}{n ca:Nat}{z:Nat→Int}{w:World}(h:Arg ao n ca z w)(hn:n≤1000)(i:Nat)(hi:i≤1000000) :
  Calls Tryz.prog 17 #[.slice ao n ca,.int .i64 i] w fun e w'=>(∃r,e = .returned (.int .i64 r)∧I64 r)∧∃k,w'=w.drewN k:=by
 have HA:Hid (Arg ao n ca z w):=h
 clear h
 by_cases h0:n=0
 ·have hz:((n:Int) == 0)=true:=by rw[h0];rfl
  clear h0
  go_enter Tryz.func17,Tryz.ntmps17
  go_wp2
  go_ret
  exact⟨⟨_,rfl,by unfold I64;omega⟩,0,rfl⟩
 ·have hz:((n:Int) == 0)=false:=by rw[beq_eq_false_iff_ne];omega
  obtain⟨j,hj⟩:∃j,j=i % n:=⟨_,rfl⟩
  obtain⟨d,hd⟩:∃d,d=i / n:=⟨_,rfl⟩
  have hjn:j<n:=by rw[hj];exact Nat.mod_lt _ (by omega)
  have hdi:d≤i:=by rw[hd];exact Nat.div_le_self _ _
  have hm:(i:Int).tmod (n:Int)=(j:Int):=by rw[Int.tmod_eq_emod_of_nonneg (by omega),hj];rfl
  have hq:(i:Int).tdiv (n:Int)=(d:Int):=by rw[Int.tdiv_eq_ediv_of_nonneg (by omega),hd];rfl
  obtain⟨b,off,rfl,hc⟩:=HA.out.sl j hjn
  obtain⟨x,hx⟩:∃x,x=z j:=⟨_,rfl⟩
  rw[←hx]at hc
  obtain⟨s,hs⟩:∃s,IntKind.i64.wrap (x+(d:Int)*7919)=s:=⟨_,rfl⟩
  have HS:Hid (I64 s):=by show I64 s;rw[←hs];exact i64_wrap _
  have hn0:¬(n:Int)=0:=by omega
  have hjn':(j:Int)<(n:Int):=by omega
  have hj0:(0:Int)≤(j:Int):=by omega
  clear hj hd hx h0
  go_enter Tryz.func17,Tryz.ntmps17
  go_wp2
  go_quiet (fail)
  go_wp2
  go_ret
  exact⟨⟨_,rfl,by first|exact HS.out|exact i64_wrap _⟩,_,rfl⟩
def Blw(q k:Nat)(z:Nat→Int):Prop:=∀j,j<k→0≤z j∧z j<(q:Int)
set_option maxHeartbeats 4000000 in
set_option maxRecDepth 100000 in
theorem numbers_any {ao:Option Addr}{n ca:Nat}{z:Nat→Int}{w:World}(h:Arg ao n ca z w)(hn:n≤1000)(f q k:Nat)(hf:f≤100000)(hq:1≤q)(hq2:q≤100000)(hk:k≤100000) :
  Calls Tryz.prog 16 #[.slice ao n ca,.int .i64 f,.int .i64 q,.int .i64 k] w fun e w'=>∃v y,e = .returned v∧OwnI w.heap.size v (zl k y) w'∧Blw q k y∧Below w.heap.size w w':=by
 have HA:Hid (Arg ao n ca z w):=h
 clear h
 go_enter Tryz.func16,Tryz.ntmps16
 go_wp2
 go_loopw [9,10] (fun vl i wr=>∃(r:Nat) (y:Nat→Int),r≤k∧i = .int .i64 r∧Hid (OwnI w.heap.size vl (zl r y) wr∧Blw q r y∧Below w.heap.size w wr)) (fun _ i _=>k-(intOf i).toNat)
 case atStart=>exact⟨0,fun _=>0,by omega,rfl,OwnI.nil _ _,fun j hj=>by omega,Below.refl _ _⟩
 case round=>
  obtain⟨r,y,hr,rfl,HG⟩:=hrel
  have hsz:=HG.out.2.2.size
  by_cases hlt:r<k
  ·have hib:(r:Int)<(k:Int):=by omega
   have HR:Hid (Calls Tryz.prog 17 #[.slice ao n ca,.int .i64 ((f:Int)+(r:Int))] wr fun e w'=>(∃x,e = .returned (.int .i64 x)∧I64 x)∧∃k,w'=wr.drewN k):=by
    have h:=raw_any (HA.out.below HG.out.2.2) hn (f+r) (by omega)
    rw[Int.natCast_add]at h;exact h
   go_wp2_with fail
   refine HR.out.mono ?_
   rintro e w1 ⟨⟨x,rfl,hx⟩,k1,hw1⟩
   have HG1:Hid (OwnI w.heap.size u9 (zl r y) w1∧Below w.heap.size w w1):=by rw[hw1];exact⟨HG.out.1.drewN _,below_drewN2 HG.out.2.2 _⟩
   have hsz1:=HG1.out.2.size
   clear hw1
   have hp1:=pick_lo x (q:Int) (by omega)
   have hp2:=pick_hi x (q:Int) (by omega)
   obtain⟨p,hp⟩:∃p,p=pick x (q:Int):=⟨_,rfl⟩
   have HP:Hid (∀w:World,Calls Tryz.prog 15 #[.int .i64 x,.int .i64 q] w fun e w'=>e = .returned (.int .i64 p)∧w'=w):=fun w=>by rw[hp];exact pick_any x q w hx.1 hx.2 (by omega) (by omega)
   rw[←hp]at hp1 hp2
   clear hp hx HR
   go_wp2_with (first
    |(go_at_call 15;refine(HP.out _).mono ?_;rintro e w' ⟨rfl,hw⟩;have hw:=hw.symm;subst hw)
    |(at_builtin;refine append_int rfl _ _ rfl w.heap.size _ (zl r y) rfl (HG1.out.1.alloc _) ⟨_,0,none⟩ 1 p rfl (by simp) (by rw[zl_len];omega) (by simp;omega) ?_;intro v2 w3 hown3 hgrow3))
   have HX:Hid (OwnI w.heap.size v2 (zl (r+1) (fun j=>if j=r then p else y j)) w3∧Blw q (r+1) (fun j=>if j=r then p else y j)∧Below w.heap.size w w3):=by
    refine⟨?_,fun j hj=>?_,(HG1.out.2.alloc hsz1 _).grown hgrow3 (by simp;omega) (fun k hk=>(HG1.out.1.lt k hk).1)⟩
    ·rw[zl_succ,zl_congr (y:=y) (fun j hj=>by show(if j=r then p else y j)=y j;rw[if_neg (by omega)])]
     show OwnI w.heap.size v2 (zl r y++[if r=r then p else y r]) w3
     rw[if_pos rfl];exact hown3
    ·show 0≤(if j=r then p else y j)∧(if j=r then p else y j)<(q:Int)
     by_cases e:j=r
     ·rw[if_pos e];exact⟨hp1,hp2⟩
     ·rw[if_neg e];exact HG.out.2.1 j (by omega)
   clear hown3 hgrow3
   go_roundw
   case rel=>exact⟨r+1,_,by omega,by go_num,HX.out⟩
   case measure=>simp[intOf];omega
  ·have hib:¬(r:Int)<(k:Int):=by omega
   have e:r=k:=by omega
   subst e
   go_wp2
   go_ret
   exact⟨_,rfl,y,HG.out.1,HG.out.2.1,HG.out.2.2⟩
def Perm'(q:Nat)(c:Nat→Nat):Prop:=(∀j,j<q→c j<q)∧∀i j,i<j→j<q→c i≠c j
def swp(c:Nat→Nat)(i k:Nat):Nat→Nat:=fun j=>if j=k then c i else if j=i then c k else c j
theorem swp_perm {q:Nat}{c:Nat→Nat}{i k:Nat}(h:Perm' q c)(hi:i<q)(hk:k<q):Perm' q (swp c i k):=by
 have inj:∀a b,a<q→b<q→c a=c b→a=b:=by
  intro a b ha hb e
  rcases Nat.lt_trichotomy a b with h1|h1|h1
  ·exact absurd e (h.2 a b h1 hb)
  ·exact h1
  ·exact absurd e.symm (h.2 b a h1 ha)
 refine⟨fun j hj=>?_,fun a b hab hb e=>?_⟩
 ·unfold swp
  split
  ·exact h.1 i hi
  ·split
   ·exact h.1 k hk
   ·exact h.1 j hj
 ·unfold swp at e
  have ha:a<q:=by omega
  by_cases e1:a=k
  ·rw[if_pos e1]at e
   rw[if_neg (by omega)]at e
   by_cases e2:b=i
   ·rw[if_pos e2]at e
    have:=inj i k hi hk e
    omega
   ·rw[if_neg e2]at e
    have:=inj i b hi hb e
    omega
  ·rw[if_neg e1]at e
   by_cases e2:a=i
   ·rw[if_pos e2]at e
    by_cases e3:b=k
    ·rw[if_pos e3]at e
     have:=inj k i hk hi e
     omega
    ·rw[if_neg e3,if_neg (by omega)]at e
     have:=inj k b hk hb e
     omega
   ·rw[if_neg e2]at e
    by_cases e3:b=k
    ·rw[if_pos e3]at e
     have:=inj a i ha hi e
     omega
    ·rw[if_neg e3]at e
     by_cases e4:b=i
     ·rw[if_pos e4]at e
      have:=inj a k ha hk e
      omega
     ·rw[if_neg e4]at e
      have:=inj a b ha hb e
      omega
theorem OwnI.argL {base:Nat}{v:Value}{n:Nat}{y:Nat→Int}{w:World}(h:OwnI base v (zl n y) w):∃ao ca,v = .slice ao n ca∧ArgL ao n ca y w:=by
 rcases h.2 with⟨h1,h2⟩|⟨g,cap,cur,hv,hg,hh,hle,hcm,hsz,htake⟩
 ·rw[zl_len]at h2
  subst h2
  exact⟨none,0,h1,fun j hj=>by omega,fun x hx=>(by cases hx),fun _=>rfl,Nat.le_refl _,by omega⟩
 ·rw[zl_len]at hv hle
  refine⟨_,cap,hv,fun j hj=>⟨g,0,rfl,?_⟩,fun x hx=>(by cases hx;exact lt_of_block hh),fun e=>(by cases e),hle,by unfold maxLen at hcm;omega⟩
  obtain⟨g',cap',e,_,_,hc,_⟩:=h.at (fun e=>by
   have:=congrArg List.length e
   rw[zl_len]at this
   simp at this
   omega)
  rw[zl_len,hv]at e
  cases e
  rw[Nat.zero_add]
  have:=hc j (by rw[zl_len];exact hj)
  rwa [zl_getD n y j hj]at this
end
section
open Go.RowKit
end
section
open Go.RowKit Go.Sort
end
section
open Go.RowKit
def vl(n:Nat)(vs:Nat→Value):List Value:=(List.range n).map vs
theorem vl_len(n:Nat)(vs:Nat→Value):(vl n vs).length=n:=by simp[vl]
theorem vl_get(n:Nat)(vs:Nat→Value)(j:Nat)(hj:j<n):(vl n vs)[j]?=some (vs j):=by
 unfold vl
 rw[List.getElem?_map,List.getElem?_range hj];rfl
end
section
open Go.RowKit Go.Sort
theorem cell_lt {w:World}{a:Addr}{v:Value}(h:w.cell? a=some v):a.block<w.heap.size:=by
 rcases Nat.lt_or_ge a.block w.heap.size with e|e
 ·exact e
 ·exfalso
  have h1:w.heap[a.block]?=none:=Array.getElem?_eq_none e
  simp[World.cell?,h1]at h
theorem OwnI.apart {base base':Nat}{u v:Value}{l:List Int}{l':List Value}{w:World}(h:OwnI base u l w)(h':OwnV base' v l' w):u.ownBlock=none∨u.ownBlock≠v.ownBlock:=by
 rcases h.2 with⟨h1,_⟩|⟨g,cap,cur,hv,_,hh,_⟩
 ·left;rw[h1];rfl
 ·right
  rcases h'.2 with⟨h2,_⟩|⟨g',cap',cur',hv',_,hh',_⟩
  ·rw[hv,h2];intro e;cases e
  ·rw[hv,hv']
   intro e
   have e:some g=some g':=e
   cases e
   rw[hh]at hh'
   simp at hh'
end
section
open Go.RowKit
set_option maxHeartbeats 2000000 in
set_option maxRecDepth 100000 in
theorem indexInts_any {gf:Nat}{lb:Array Value}(eg:∀args w, (callFunc gf args).run Tryz.prog w = .ok (.enter gf args) w){ao:Option Addr}{n cap:Nat}{z:Nat→Int}{p:Nat→Bool}{w:World}
  (hs:SlZ ao n z w) (hn:n≤1000000) (hp:∀j,j<n→Calls Tryz.prog gf (#[.int .i64 (z j)]++lb) w fun e w'=>e = .returned (.bool (p j))∧w'=w) :
  Calls Tryz.prog 128 #[.slice ao n cap,.func (.func gf) #[] lb] w fun e w'=>w'=w∧((∃i:Nat,i<n∧p i=true∧(∀j,j<i→p j=false)∧e = .returned (.int .i64 i))∨((∀j,j<n→p j=false)∧e = .returned (.int .i64 (-1)))):=by
 have HS:Hid (SlZ ao n z w∧∀j,j<n→Calls Tryz.prog gf (#[.int .i64 (z j)]++lb) w fun e w'=>e = .returned (.bool (p j))∧w'=w):=⟨hs,hp⟩
 clear hs hp
 go_enter Tryz.func128,Tryz.ntmps128
 go_wp2
 go_loopw [5,8] (fun _ i wr=>∃r:Nat,r≤n∧i = .int .i64 r∧Hid (∀j,j<r→p j=false)∧wr=w) (fun _ i _=>n-(intOf i).toNat)
 case atStart=>exact⟨0,by omega,rfl,(show Hid _ from fun j hj=>by omega),rfl⟩
 case round=>
  obtain⟨r,hr,rfl,HH,rfl⟩:=hrel
  by_cases hlt:r<n
  ·obtain⟨b,off,rfl,hcz⟩:=HS.out.1 r hlt
   have hib:(r:Int)<(n:Int):=by omega
   have hcall:=HS.out.2 r hlt
   by_cases hh:p r=true
   ·have HV:Hid (p r=true):=hh
    rw[hh]at hcall
    clear hh
    go_wp2_with (go_at_fn gf;refine hcall.mono ?_;rintro e w' ⟨rfl,hw⟩;have hw:=hw.symm;subst hw)
    go_ret
    exact⟨rfl,Or.inl ⟨r,hlt,HV.out,HH.out,rfl⟩⟩
   ·have hh':p r=false:=by simpa using hh
    have HV:Hid (∀j,j<r+1→p j=false):=fun j hj=>by
     by_cases e:j=r
     ·rw[e];exact hh'
     ·exact HH.out j (by omega)
    rw[hh']at hcall
    clear hh hh'
    go_wp2_with (go_at_fn gf;refine hcall.mono ?_;rintro e w' ⟨rfl,hw⟩;have hw:=hw.symm;subst hw)
    go_roundw
    case rel=>exact⟨r+1,by omega,by go_num,HV.out,by first|rfl|trivial⟩
    case measure=>simp[intOf];omega
  ·have HV:Hid (∀j,j<n→p j=false):=fun j hj=>HH.out j (by omega)
   go_wp2
   go_ret
   exact⟨rfl,Or.inr ⟨HV.out,rfl⟩⟩
theorem make_sls {ops:Array Oper}{rest:List Oper}{o:Oper}{a:Act}{w:World}{Q:Exit→Act→World→Prop}
  (hg:o.guard=none) (l c:Operand) (hop:o.op=Op.makeSlice 23 l c) (C:Int) (n:Nat) (hl:a.eval l = .int .i64 C) (hc:a.eval c = .int .i64 C) (hC:C=(n:Int)) (hn:n≤1000000)
  (hK:∀w',RowF w.heap.size n 22 (fun _=> .slice none 0 0) w'→w.grownBy w' none→wpList Tryz.prog ops Q rest (a.put o.dst (.slice (some ⟨w.heap.size,0,none⟩) n n)) w') :
  wpList Tryz.prog ops Q (o::rest) a w:=by
 obtain⟨i0,hi,hz0,hz1,hz2⟩:=info_parts Tryz.infoSl
 refine wpList_make_full w hg l c 23 hop w.heap.size 22 i0 (.slice none 0 0) 1 Tryz.underlying23 hi hz0 hz1 .i64 .i64 C C n hl hc hC hC (by rw[hz2];omega) (by unfold maxLen;omega) (Nat.le_refl _) ?_
 intro w' hown hgrow
 refine hK w' ?_ hgrow
 have e:(madeCells (Value.slice none 0 0).cells (n*1)).toList=List.replicate n (.slice none 0 0):=by
  rw[Nat.mul_one];exact toList_madeCells_one _ _
 rw[e]at hown
 rcases hown.2 with⟨h1,_⟩|⟨g,cap,cur,hv,_,hh,_,_,hsz,htake⟩
 ·simp at h1
 ·simp only[Value.slice.injEq,Option.some.injEq,Addr.mk.injEq,and_true,true_and]at hv
  obtain⟨rfl,rfl⟩:=hv
  refine⟨cur,hh,by omega,fun o ho=>?_⟩
  have h3:(cur.toList.take (n*1))[o]?=(List.replicate n (Value.slice none 0 0))[o]?:=by rw[htake]
  rw[List.getElem?_take,if_pos (by omega),List.getElem?_replicate,if_pos ho]at h3
  rw[←Array.getElem?_toList];exact h3
theorem OwnI.same {base:Nat}{v:Value}{l:List Int}{w w':World}(h:OwnI base v l w)(hb:∀k,v.ownBlock=some k→w'.heap[k]?=w.heap[k]?):OwnI base v l w':=by
 obtain⟨h1,h2⟩:=h
 refine⟨h1,?_⟩
 rcases h2 with h2|⟨g,cap,cur,hv,hg,hh,r⟩
 ·exact Or.inl h2
 ·exact Or.inr ⟨g,cap,cur,hv,hg,by rw[hb g (by rw[hv];rfl)];exact hh,r⟩
end
section
open Go.RowKit Go.Sort
end
section
open Go.RowKit
set_option maxHeartbeats 2000000 in
set_option maxRecDepth 100000 in
theorem indexI_any {ao:Option Addr}{n ca:Nat}{z:Nat→Int}{w:World}(x:Int)(hs:SlZ ao n z w)(hn:n≤1000000) :
  Calls Tryz.prog 65 #[.slice ao n ca,.int .i64 x] w fun e w'=>w'=w∧((∃i:Nat,i<n∧z i=x∧e = .returned (.int .i64 i))∨((∀j,j<n→z j≠x)∧e = .returned (.int .i64 (-1)))):=by
 have HS:Hid (SlZ ao n z w):=hs
 clear hs
 go_enter Tryz.func65,Tryz.ntmps65
 go_wp2
 go_loopw [5,8] (fun _ i wr=>∃r:Nat,r≤n∧i = .int .i64 r∧Hid (∀j,j<r→z j≠x)∧wr=w) (fun _ i _=>n-(intOf i).toNat)
 case atStart=>exact⟨0,by omega,rfl,(show Hid _ from fun j hj=>by omega),rfl⟩
 case round=>
  obtain⟨r,hr,rfl,HH,rfl⟩:=hrel
  by_cases hlt:r<n
  ·obtain⟨b,off,rfl,hcz⟩:=HS.out r hlt
   have hib:(r:Int)<(n:Int):=by omega
   obtain⟨y,hy⟩:∃y,y=z r:=⟨_,rfl⟩
   rw[←hy]at hcz
   by_cases he:x=y
   ·have hb:(x == y)=true:=beq_iff_eq.2 he
    have HV:Hid (z r=x):=by rw[←hy,he];rfl
    clear he hy
    go_wp2
    go_ret
    exact⟨rfl,Or.inl ⟨r,hlt,HV.out,rfl⟩⟩
   ·have hb:(x == y)=false:=beq_eq_false_iff_ne.2 he
    have HV:Hid (∀j,j<r+1→z j≠x):=fun j hj=>by
     by_cases e:j=r
     ·rw[e, ←hy];exact fun e=>he e.symm
     ·exact HH.out j (by omega)
    clear he hy
    go_wp2
    go_roundw
    case rel=>exact⟨r+1,by omega,by go_num,HV.out,by first|rfl|trivial⟩
    case measure=>simp[intOf];omega
  ·have HV:Hid (∀j,j<n→z j≠x):=fun j hj=>HH.out j (by omega)
   go_wp2
   go_ret
   exact⟨rfl,Or.inr ⟨HV.out,rfl⟩⟩
set_option maxHeartbeats 2000000 in
set_option maxRecDepth 100000 in
theorem contains_any {ao:Option Addr}{n ca:Nat}{z:Nat→Int}{w:World}(x:Int)(hs:SlZ ao n z w)(hn:n≤1000000) :
  Calls Tryz.prog 46 #[.slice ao n ca,.int .i64 x] w fun e w'=>e = .returned (.bool (decide (x∈zl n z)))∧w'=w:=by
 have HS:Hid (SlZ ao n z w):=hs
 clear hs
 go_enter Tryz.func46,Tryz.ntmps46
 go_wp2_with fail
 refine(indexI_any x HS.out hn).mono ?_
 rintro e w' ⟨hw,⟨i,hi,hz,rfl⟩|⟨hz,rfl⟩⟩
 ·have hw:=hw.symm
  subst hw
  have hge:(0:Int)≤(i:Int):=by omega
  have HV:Hid (decide (x∈zl n z)=true):=by
   show _=_
   rw[decide_eq_true_eq];exact zl_mem.2 ⟨i,hi,hz⟩
  clear hz
  go_wp2
  go_ret
  exact⟨by rw[HV.out];rfl,rfl⟩
 ·have hw:=hw.symm
  subst hw
  have HV:Hid (decide (x∈zl n z)=false):=by
   show _=_
   rw[decide_eq_false_iff_not]
   intro h
   obtain⟨j,hj,e⟩:=zl_mem.1 h
   exact hz j hj e
  clear hz
  go_wp2
  go_ret
  exact⟨by rw[HV.out];rfl,rfl⟩
end
section
open Go.RowKit Go.Sort
end
section
open Go.RowKit
end
section
open Go.ChangeShapes Go.WideShapes Go.ChangeAt Go.RowKit
end
section
open Go.RowKit Go.Sort
theorem zc_nat {n:Nat}{c:Nat→Nat}(h:Bd n c):zc n (fun j=>((c j:Nat):Int))=c:=by
 funext j
 unfold zc
 by_cases e:j<n
 ·rw[if_pos e];simp
 ·rw[if_neg e,h j (by omega)]
theorem chk_nat {D:FD}{n:Nat}{c:Nat→Nat}(h:El D c)(hn:n≤128):D.chk n (fun j=>((c j:Nat):Int))=0:=by
 unfold FD.chk
 rw[if_neg (by omega),if_pos (allHas_iff.2 (fun j _=>has_of_lt (h j)))]
theorem OwnP.arg {base n:Nat}{v:Value}{c:Nat→Nat}{w:World}(h:OwnP base v n c w)(hn:n≤1000000):∃so sc,v = .slice so n sc∧Arg so n sc (fun j=>((c j:Nat):Int)) w:=by
 obtain⟨so,sc,rfl,h1,h2,_,h4,h5,h6⟩:=h.open
 exact⟨so,sc,rfl,h6,h4,hn,h5,h1,h2⟩
theorem arg_nil(w:World)(z:Nat→Int):Arg none 0 0 z w:=⟨fun j hj=>absurd hj (by omega),fun x hx=>(by cases hx),by omega,fun _=>rfl,by omega,by omega⟩
structure MkS(base q c i:Nat)(v:Value)(vs:Nat→Value)(Z:Nat→Nat→Int)(w:World):Prop where
 own:OwnV base v (vl i vs) w
 row:∀j,j<i→OwnI base (vs j) (zl c (Z j)) w
 blw:∀j,j<i→Blw q c (Z j)
theorem MkS.below {base q c i:Nat}{v:Value}{vs:Nat→Value}{Z:Nat→Nat→Int}{w w':World}(h:MkS base q c i v vs Z w)(hb:Below w.heap.size w w'):MkS base q c i v vs Z w':=
 ⟨h.own.below hb (Nat.le_refl _),fun j hj=>(h.row j hj).below hb (fun k hk=>((h.row j hj).lt k hk).2),h.blw⟩
theorem MkS.push {base q c i:Nat}{v v' u:Value}{vs:Nat→Value}{Z:Nat→Nat→Int}{y:Nat→Int}{w w':World}(h:MkS base q c i v vs Z w)(hu:OwnI base u (zl c y) w)(hy:Blw q c y)(ho:OwnV base v' (vl i vs++[u]) w')(hg:w.grownBy w' v.ownBlock) :
  MkS base q c (i+1) v' (fun j=>if j=i then u else vs j) (fun j=>if j=i then y else Z j) w':=by
 refine⟨?_,fun j hj=>?_,fun j hj=>?_⟩
 ·have e:vl (i+1) (fun j=>if j=i then u else vs j)=vl i vs++[u]:=by
   unfold vl
   rw[List.range_succ,List.map_append]
   congr 1
   ·exact List.map_congr_left (fun j hj=>by rw[if_neg (by have:=List.mem_range.1 hj;omega)])
   ·simp
  rw[e];exact ho
 ·by_cases e:j=i
  ·simp only[if_pos e];exact hu.kept hg (hu.apart h.own)
  ·simp only[if_neg e];exact(h.row j (by omega)).kept hg ((h.row j (by omega)).apart h.own)
 ·by_cases e:j=i
  ·simp only[if_pos e];exact hy
  ·simp only[if_neg e];exact h.blw j (by omega)
end
section
open Go.RowKit Go.Sort
set_option maxHeartbeats 4000000 in
set_option maxRecDepth 100000 in
theorem eless_any {F T:Nat}{D:FD}(hD:D∈fieldsL){g:Nat→Value}{w:World}(hat:FAt F T D g w){ao bo:Option Addr}{n m ca cb t:Nat}{a b:Nat→Nat}(hn:n≤1000)(hm:m≤1000)(ha:El D a)(hb:El D b)(hbn:Bd n a)(hbm:Bd m b)(hA:Sl ao n a w)(hB:Sl bo m b w)(hla:LtB ao w.heap.size)(hlb:LtB bo w.heap.size)(ht:t<D.q) :
  Calls Tryz.prog 110 #[.pointer (some ⟨F,0,none⟩),.slice ao n ca,.int .i64 (t:Nat),.slice bo m cb] w fun e w'=>
   e = .returned (.slice (some ⟨w.heap.size,0,none⟩) (max n m) (max n m))∧Row w.heap.size (max n m) (psub D a (pscale D t b)) w'∧Below w.heap.size w w':=by
 have HF:Hid (FAt F T D g w∧D∈fieldsL∧Sl ao n a w∧Sl bo m b w∧El D a∧El D b∧Bd n a∧Bd m b∧LtB ao w.heap.size∧LtB bo w.heap.size):=⟨hat,hD,hA,hB,ha,hb,hbn,hbm,hla,hlb⟩
 clear hat hD hA hB ha hb hbn hbm hla hlb
 obtain⟨N,hN⟩:∃N,N=max n m:=⟨_,rfl⟩
 rw[←hN]
 have hN2:N≤1000:=by omega
 have hnN:n≤N:=by omega
 have hmN:m≤N:=by omega
 have hmax:(if(n:Int)<(m:Int)then(m:Int)else(n:Int))=(N:Int):=by split<;>omega
 have HN:Hid (N=max n m):=hN
 clear hN
 go_enter Tryz.func110,Tryz.ntmps110
 go_wp2_with (first
  |(at_make;refine make_int rfl _ _ rfl _ N rfl rfl (by have:=HN.out;omega) (by omega) ?_;intro w1 hown1 hgrow1)
  |(show wpList _ _ _ (Oper.mk (some 20) _ _ _ _ _::_) _ _;(refine copy_int rfl _ _ rfl w.heap.size N N n ca ao rfl rfl pnil a (row_zeros hown1) (HF.out.2.2.1.below (below_grown hgrow1 (Nat.le_refl _) (fun k hk=>by simp at hk)) HF.out.2.2.2.2.2.2.2.2.1) hnN w.heap.size w (below_grown hgrow1 (Nat.le_refl _) (fun k hk=>by simp at hk)) (Nat.le_refl _) ?_);intro w2 hrow2 hb2))
 all_goals
  have HB1:Hid (Below w.heap.size w w2∧Row w.heap.size N a w2):=⟨hb2,hrow2.congr (fun k _=>by show(if k<n then a k else pnil k)=a k;split;rfl;exact(HF.out.2.2.2.2.2.2.1 k (by omega)).symm)⟩
  clear hown1 hgrow1 hb2 hrow2
  obtain⟨gr,hg⟩:∃g,g=w.heap.size:=⟨_,rfl⟩
  have HB2:Hid (Below w.heap.size w w2∧Row gr N a w2∧gr=w.heap.size):=by rw[hg];exact⟨HB1.out.1,HB1.out.2,rfl⟩
  rw[←hg]
  have hgD:w.heap.size≤gr:=by omega
  clear HB1 hg
  go_loopw [23] (fun i wr=>∃r:Nat,r≤m∧i = .int .i64 r∧Hid (Row gr N (fun k=>if k<r then D.sb (a k) (D.mul t (b k))else a k) wr∧Below w.heap.size w wr)) (fun i _=>m-(intOf i).toNat)
  case atStart=>exact⟨0,by omega,rfl,HB2.out.2.1.congr (fun k _=>by rw[if_neg (by omega)]),HB2.out.1⟩
  case round=>
   obtain⟨r,hr,rfl,HG⟩:=hrel
   rename World=>wr
   by_cases hlt:r<m
   ·obtain⟨bb,offb,rfl,hcb⟩:=(HF.out.2.2.2.1.below HG.out.2 HF.out.2.2.2.2.2.2.2.2.2) r hlt
    have hco:wr.cell? ⟨gr,r,none⟩=some (.int .i64 (a r:Nat)):=by
     have h:=HG.out.1.cell r (by omega)
     rw[if_neg (by omega)]at h;exact h
    have hfo:=HG.out.1.free r
    obtain⟨ax,hax⟩:∃ax,ax=a r:=⟨_,rfl⟩
    obtain⟨bx,hbx⟩:∃bx,bx=b r:=⟨_,rfl⟩
    rw[←hax]at hco
    rw[←hbx]at hcb
    obtain⟨y,hy⟩:∃y,y=D.mul t bx:=⟨_,rfl⟩
    obtain⟨u,hu⟩:∃u,u=D.sb ax y:=⟨_,rfl⟩
    have F':=fld HF.out.2.1
    have hatr:=HF.out.1.below HG.out.2 HF.out.1.ltF HF.out.1.ltT
    have HC1:Hid (∀d,Calls Tryz.prog 67 #[.pointer (some ⟨F,0,none⟩),.int .i64 (t:Nat),.int .i64 (bx:Nat)] (wr.drewN d) fun e w'=>e = .returned (.int .i64 (y:Nat))∧∃k,w'=(wr.drewN d).drewN k):=fun d=>by
     rw[hy];exact mul_nat HF.out.2.1 (hatr.drewN d) ht (by rw[hbx];exact HF.out.2.2.2.2.2.1 r)
    have HC2:Hid (∀d,Calls Tryz.prog 126 #[.pointer (some ⟨F,0,none⟩),.int .i64 (ax:Nat),.int .i64 (y:Nat)] (wr.drewN d) fun e w'=>e = .returned (.int .i64 (u:Nat))∧∃k,w'=(wr.drewN d).drewN k):=fun d=>by
     rw[hu];exact sub_nat HF.out.2.1 (hatr.drewN d) (by rw[hax];exact HF.out.2.2.2.2.1 r) (by rw[hy];exact F'.mul_lt _ _)
    have HV:Hid (∀k,k<N→(if k<r+1 then D.sb (a k) (D.mul t (b k))else a k)=if k=r then u else if k<r then D.sb (a k) (D.mul t (b k))else a k):=fun k _=>by
     rw[hu,hy,hax,hbx]
     by_cases e:k=r
     ·rw[if_pos e,if_pos (by omega),e]
     ·rw[if_neg e]
      by_cases e2:k<r
      ·rw[if_pos e2,if_pos (by omega)]
      ·rw[if_neg e2,if_neg (by omega)]
    have hib:(r:Int)<(N:Int):=by omega
    have hib2:(r:Int)<(m:Int):=by omega
    clear hax hbx hy hu F' hatr
    go_wp2
    refine quiet_tail 13 (by kernel_rfl) (by kernel_rfl) ?_
    simp only[List.take_succ_cons,List.take_zero,List.drop_succ_cons,List.drop_zero]
    repeat(go_big_quiet_step (first|(go_at_call 67;exact Calls.quiet_of (HC1.out _))|(go_at_call 126;exact Calls.quiet_of (HC2.out _))|fail))
    refine wpQuiet_nil ?_
    intro _ hw'
    obtain⟨nq,hw''⟩:=hw'
    subst hw''
    go_wp2
    go_roundw
    case rel=>exact⟨r+1,by omega,by go_num,(HG.out.1.drewN nq).store r u HV.out,(below_drewN2 HG.out.2 nq).setCell hgD _⟩
    case measure=>simp[intOf];omega
   ·have hib2:¬(r:Int)<(m:Int):=by omega
    have HE:Hid (Row gr N (psub D a (pscale D t b)) wr):=HG.out.1.congr (fun k _=>by
     show(if k<r then D.sb (a k) (D.mul t (b k))else a k)=D.sb (a k) (D.mul t (b k))
     split
     ·rfl
     ·rw[HF.out.2.2.2.2.2.2.2.1 k (by omega),mul0 (fld HF.out.2.1),sb_zero (fld HF.out.2.1) (HF.out.2.2.2.2.1 k)])
    go_wp2
    go_ret
    refine⟨by rw[←HB2.out.2.2];rfl,?_,HG.out.2⟩
    rw[←HB2.out.2.2];exact HE.out
theorem step_append_int_at {ops:Array Oper}{o:Oper}{a:Act}{w:World}{K:Act→World→Prop}{Q:Exit→Act→World→Prop}{E:Prop}(hgd:o.guard=none)(s x:Operand)
  (ho:o.op = .call { callee:= .builtin .append,args := #[s,x],argTypes := #[22,22]})
  (base:Nat) (v:Value) (l:List Int) (hs:a.eval s=v) (hown:OwnI base v l w) (ad:Addr) (c:Nat) (y:Int) (hx:a.eval x = .slice (some ad) 1 c) (hcell:w.cell? ad=some (.int .i64 y))
  (hlen:l.length≤1000000) (hbase:base≤w.heap.size)
  (h:∀g cap w',OwnI base (.slice (some ⟨g,0,none⟩) (l.length+1) cap) (l++[y]) w'→w.grownBy w' v.ownBlock→(Value.ownBlock (.slice (some ⟨g,0,none⟩) (l.length+1) cap)=v.ownBlock∨Value.ownBlock (.slice (some ⟨g,0,none⟩) (l.length+1) cap)=some w.heap.size)→K (a.put o.dst (.slice (some ⟨g,0,none⟩) (l.length+1) cap)) w') :
  if Region.wanted o (yielded ops a.tmps)=true then Oper.wp Tryz.prog o a w K Q else E:=by
 obtain⟨i0,hi,hz0,hz1,hz2⟩:=info_parts Tryz.infoInt
 refine step_append_lies w hgd s x 22 ho base 3 i0 (.int .i64 0) 1 8 Tryz.underlying22 hi hz0 hz1 hz2 rfl (by decide) v l.length _ hs hown ad 1 c [.int .i64 y] hx rfl ?_ ?_ (by omega) ?_ ?_ hbase _ rfl ?_
 ·intro j u hj
  match j,hj with
  | 0,hj=>
   simp at hj;subst hj
   have:ad.add 0=ad:=by cases ad with|mk b o s=>cases s<;>simp[Addr.add]
   rw[this];exact hcell
 ·intro u hu;simp at hu;subst hu;rfl
 ·unfold maxLen;omega
 ·omega
 ·intro g cap w' hown' hgrow hat _
  refine h g cap w' ?_ hgrow ?_
  ·unfold OwnI
   rw[List.map_append,List.length_append]
   exact hown'
  ·rcases hat with e|e
   ·exact Or.inl e.symm
   ·exact Or.inr (by rw[e];rfl)
theorem ng_ad {D:FD}(F:Fld D){a b:Nat}(ha:a<D.q)(hb:b<D.q):D.ng (D.ad a b)=D.ad (D.ng a) (D.ng b):=by
 have h1:D.ad (D.ad a b) (D.ad (D.ng a) (D.ng b))=0:=by
  rw[ad4 F ha hb (ng_lt F ha) (ng_lt F hb),ad_ng F ha,ad_ng F hb,ad_zero F (zero_lt' F)]
 exact(ad_cancel F (ad_lt F ha hb) (ad_lt F (ng_lt F ha) (ng_lt F hb)) (ng_lt F (ad_lt F ha hb)) (h1.trans (ad_ng F (ad_lt F ha hb)).symm)).symm
def ct(p:Nat→Bool):Nat→Nat
 | 0=>0
 |n+1=>ct p n+if p n=true then 1 else 0
theorem ct_none {p:Nat→Bool}:∀n,(∀i,i<n→p i=false)→ct p n=0
 | 0,_=>rfl
 |n+1,h=>by
  show ct p n+(if p n=true then 1 else 0)=0
  rw[ct_none n (fun i hi=>h i (by omega)),h n (by omega)];rfl
theorem ct_one1 {p p':Nat→Bool}(i0:Nat):∀n,(∀i,i<n→i≠i0→p i=true→p' i=true)→ct p n≤ct p' n+if i0<n then 1 else 0
 | 0,_=>by simp[ct]
 |n+1,h=>by
  show ct p n+(if p n=true then 1 else 0)≤ct p' n+(if p' n=true then 1 else 0)+if i0<n+1 then 1 else 0
  have ih:=ct_one1 i0 n (fun i hi=>h i (by omega))
  by_cases e:i0=n
  ·rw[if_neg (by omega)]at ih
   rw[if_pos (show i0<n+1 by omega)]
   split<;>split<;>omega
  ·have h1:=h n (by omega) (fun x=>e x.symm)
   by_cases hp:p n=true
   ·rw[if_pos hp,if_pos (h1 hp)]
    by_cases hi:i0<n
    ·rw[if_pos hi]at ih;rw[if_pos (show i0<n+1 by omega)];omega
    ·rw[if_neg hi]at ih;split<;>omega
   ·rw[if_neg hp]
    by_cases hi:i0<n
    ·rw[if_pos hi]at ih;rw[if_pos (show i0<n+1 by omega)];omega
    ·rw[if_neg hi]at ih;omega
theorem ct_not(p:Nat→Bool):∀n,ct p n+ct (fun i => !p i) n=n
 | 0=>rfl
 |n+1=>by
  show ct p n+(if p n=true then 1 else 0)+(ct (fun i => !p i) n+if(!p n)=true then 1 else 0)=n+1
  have:=ct_not p n
  cases p n<;>simp<;>omega
theorem ev_sub {D:FD}(F:Fld D){a b:Nat→Nat}(x:Nat)(ha:El D a)(hb:El D b):∀n,D.ev (psub D a b) x n=D.sb (D.ev a x n) (D.ev b x n)
 | 0=>(sb_self F (zero_lt' F)).symm
 |n+1=>by
  show D.ad (D.ev (psub D a b) x n) (D.mul (D.sb (a n) (b n)) (D.xp x n))=D.sb (D.ad (D.ev a x n) (D.mul (a n) (D.xp x n))) (D.ad (D.ev b x n) (D.mul (b n) (D.xp x n)))
  rw[ev_sub F x ha hb n,sb_mul F (ha n) (hb n)]
  have h1:=ev_lt F a x n
  have h2:=ev_lt F b x n
  have h3:=F.mul_lt (a n) (D.xp x n)
  have h4:=F.mul_lt (b n) (D.xp x n)
  unfold FD.sb
  rw[ng_ad F h2 h4,ad4 F h1 (ng_lt F h2) h3 (ng_lt F h4)]
def xmr(D:FD)(r:Nat):Nat→Nat:=fun j=>if j=0 then D.ng r else if j=1 then 1 else 0
theorem xmr_el {D:FD}(F:Fld D){r:Nat}(hr:r<D.q):El D (xmr D r):=fun j=>by
 unfold xmr
 split
 ·exact ng_lt F hr
 ·split
  ·exact one_lt' F
  ·exact zero_lt' F
theorem xmr_bd {D:FD}(r:Nat):Bd 2 (xmr D r):=fun j hj=>by
 unfold xmr
 rw[if_neg (by omega),if_neg (by omega)]
theorem xmr_ev {D:FD}(F:Fld D){r x:Nat}(hr:r<D.q)(hx:x<D.q):D.ev (xmr D r) x 2=D.sb x r:=by
 show D.ad (D.ad 0 (D.mul (D.ng r) 1)) (D.mul 1 (D.mul 1 x))=D.ad x (D.ng r)
 rw[mul1 F (ng_lt F hr),omul F (F.mul_lt _ _),omul F hx,zero_ad F (ng_lt F hr),ad_comm F]
theorem root_out {D:FD}(F:Fld D){d:Nat→Nat}{k r:Nat}(hd:El D d)(hb:Bd (k+1) d)(hr:r<D.q)(h0:D.ev d r (k+1)=0):∃Q,El D Q∧Bd k Q∧d=pmul D k Q (xmr D r):=by
 have hi:D.mul (xmr D r 1) 1=1:=mul1 F (one_lt' F)
 have h1:=div_is F (b:=xmr D r) (l:=1) (inv:=1) k hd
 have hR:=divR_bd F (xmr_el F hr) (xmr_bd r) hi k hd hb
 obtain⟨Q,hQ⟩:∃Q,Q=divQ D (xmr D r) 1 1 k d:=⟨_,rfl⟩
 obtain⟨R,hRe⟩:∃R,R=divR D (xmr D r) 1 1 k d:=⟨_,rfl⟩
 rw[←hQ, ←hRe]at h1
 rw[←hRe]at hR
 have eQ:El D Q:=by rw[hQ];exact el_divQ F k d
 have bQ:Bd k Q:=by rw[hQ];exact divQ_bd k d
 have eR:El D R:=by rw[hRe];exact el_divR F k hd
 have h2:D.ev d r (k+2)=0:=by rw[ev_from F r hb (by omega)];exact h0
 rw[←h1,ev_add F r (el_mul F _ _ _) eR,ev_mul F r (xmr_bd r) (xmr_el F hr) k (k+2) (Nat.le_refl _),xmr_ev F hr hr,sb_self F hr,mul0 F,zero_ad F (ev_lt F _ _ _),ev_from F r hR (by omega)]at h2
 have h3:R 0=0:=by
  have h2:D.ad 0 (D.mul (R 0) 1)=0:=h2
  rw[zero_ad F (F.mul_lt _ _),mul1 F (eR 0)]at h2;exact h2
 have h4:R=pnil:=by
  funext j
  cases j with
  | zero=>exact h3
  | succ j=>exact hR _ (by omega)
 refine⟨Q,eQ,bQ,?_⟩
 rw[h4]at h1
 rw[←h1]
 funext j
 exact ad_zero F (el_mul F _ _ _ _)
theorem few_roots {D:FD}(F:Fld D){xs:Nat→Nat}{n:Nat}(hx:∀i,i<n→xs i<D.q)(hne:∀i j,i<n→j<n→i≠j→xs i≠xs j):∀k {d:Nat→Nat},El D d→Bd k d→d≠pnil→ct (fun i=>decide (D.ev d (xs i) k=0)) n<k
 | 0,d,_,hb,h0=>absurd (bd_nil_of hb) h0
 |k+1,d,hd,hb,h0=>by
  by_cases h:∃i,i<n∧D.ev d (xs i) (k+1)=0
  ·obtain⟨i0,hi0,hr⟩:=h
   obtain⟨Q,eQ,bQ,hQ⟩:=root_out F hd hb (hx i0 hi0) hr
   have hQ0:Q≠pnil:=fun e=>h0 (by
    rw[hQ,e]
    funext j
    have:∀m,pmul D m pnil (xmr D (xs i0)) j=0:=fun m=>by
     induction m with
     | zero=>rfl
     | succ m ih=>
      show D.ad (pmul D m pnil (xmr D (xs i0)) j) (psh m (pscale D 0 (xmr D (xs i0))) j)=0
      rw[ih]
      unfold psh pscale
      split
      ·rw[zmul F,ad_zero F (zero_lt' F)]
      ·rw[ad_zero F (zero_lt' F)]
    exact this k)
   have ih:=few_roots F hx hne k eQ bQ hQ0
   have h1:=ct_one1 (p:=fun i=>decide (D.ev d (xs i) (k+1)=0)) (p':=fun i=>decide (D.ev Q (xs i) k=0)) i0 n (fun i hi hne' hp=>by
    have hp:D.ev d (xs i) (k+1)=0:=of_decide_eq_true hp
    refine decide_eq_true ?_
    have h2:D.ev d (xs i) (k+2)=0:=by rw[ev_from F _ hb (by omega)];exact hp
    rw[hQ,ev_mul F _ (xmr_bd _) (xmr_el F (hx i0 hi0)) k (k+2) (Nat.le_refl _),xmr_ev F (hx i0 hi0) (hx i hi)]at h2
    by_cases e:D.ev Q (xs i) k=0
    ·exact e
    ·exfalso
     have h3:D.sb (xs i) (xs i0)=0:=mul_cancel F e (sb_lt F (hx i hi) (hx i0 hi0)) (zero_lt' F) (h2.trans (mul0 F _).symm)
     exact hne i i0 hi hi0 hne' (sb_eq_zero F (hx i hi) (hx i0 hi0) h3))
   rw[if_pos hi0]at h1
   omega
  ·rw[ct_none n (fun i hi=>decide_eq_false (fun e=>h ⟨i,hi,e⟩))]
   omega
theorem far_apart {D:FD}(F:Fld D){xs a b:Nat→Nat}{n k:Nat}(hx:∀i,i<n→xs i<D.q)(hne:∀i j,i<n→j<n→i≠j→xs i≠xs j)(ha:El D a)(hb:El D b)(hba:Bd k a)(hbb:Bd k b)(h:a≠b):n<k+ct (fun i => !decide (D.ev a (xs i) k=D.ev b (xs i) k)) n:=by
 have h1:=few_roots F hx hne k (el_sub F ha hb) (fun j hj=>by show D.sb (a j) (b j)=0;rw[hba j hj,hbb j hj,sb_self F (zero_lt' F)]) (fun e=>h (by
  funext j
  exact sb_eq_zero F (ha j) (hb j) (congrFun e j)))
 have h2:=ct_not (fun i=>decide (D.ev a (xs i) k=D.ev b (xs i) k)) n
 have e:(fun i=>decide (D.ev (psub D a b) (xs i) k=0))=fun i=>decide (D.ev a (xs i) k=D.ev b (xs i) k):=by
  funext i
  rw[ev_sub F _ ha hb]
  refine decide_eq_decide.2 ⟨fun e=>sb_eq_zero F (ev_lt F _ _ _) (ev_lt F _ _ _) e,fun e=>by rw[e,sb_self F (ev_lt F _ _ _)]⟩
 rw[e]at h1
 omega
end
end Go.Proofs.YtedifobeggabnaaGreat
