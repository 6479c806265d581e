/- Texts of ours, one behind the other: M1 W1 A2 A3 A4 A5 A6 A7 A8 A9. -/
import Derived.WalkKit
import Derived.Laws.Rows
import Derived.Deep.QuietTactic
import Derived.BigQuiet
import Derived.Test.YtedifobeggabnaaGreatCbA1
import Derived.RegionTactic
import Derived.BigRegion
import Derived.Deep.LoopGhost
import Derived.Laws.Tables
namespace Go.Proofs.YtedifobeggabnaaGreat
def sumFrom(p q a b:Nat):Nat→Nat→Nat
 | 0,_=>0
 |k+1,u=>if u<q then(a / u+b / u) % p*u+sumFrom p q a b k (u*p)else 0
def sumD(p q a b:Nat):Nat:=sumFrom p q a b 7 1
theorem sumFrom_lo(p q a b k u:Nat)(h:u<q):sumFrom p q a b (k+1) u=(a / u+b / u) % p*u+sumFrom p q a b k (u*p):=by
 rw[sumFrom,if_pos h]
theorem sumFrom_hi(p q a b k u:Nat)(h:¬u<q):sumFrom p q a b k u=0:=by
 cases k with
 | zero=>rfl
 | succ k=>rw[sumFrom,if_neg h]
theorem sumFrom_le(p q a b:Nat)(hp:0<p)(hp2:p≤64)(hq:q≤64):∀k u,sumFrom p q a b k u≤k*4096
 | 0,_=>by simp[sumFrom]
 |k+1,u=>by
  rw[sumFrom]
  split
  ·have h3:(a / u+b / u) % p<p:=Nat.mod_lt _ hp
   have h4:(a / u+b / u) % p*u≤64*64:=Nat.mul_le_mul (by omega) (by omega)
   have:=sumFrom_le p q a b hp hp2 hq k (u*p)
   omega
  ·omega
theorem sumD_le(p q a b:Nat)(hp:0<p)(hp2:p≤64)(hq:q≤64):sumD p q a b≤28672:=sumFrom_le p q a b hp hp2 hq 7 1
def negFrom(p q a:Nat):Nat→Nat→Nat
 | 0,_=>0
 |k+1,u=>if u<q then(p-a / u % p) % p*u+negFrom p q a k (u*p)else 0
def negD(p q a:Nat):Nat:=negFrom p q a 7 1
theorem negFrom_lo(p q a k u:Nat)(h:u<q):negFrom p q a (k+1) u=(p-a / u % p) % p*u+negFrom p q a k (u*p):=by
 rw[negFrom,if_pos h]
theorem negFrom_hi(p q a k u:Nat)(h:¬u<q):negFrom p q a k u=0:=by
 cases k with
 | zero=>rfl
 | succ k=>rw[negFrom,if_neg h]
theorem negFrom_le(p q a:Nat)(hp:0<p)(hp2:p≤64)(hq:q≤64):∀k u,negFrom p q a k u≤k*4096
 | 0,_=>by simp[negFrom]
 |k+1,u=>by
  rw[negFrom]
  split
  ·have h3:(p-a / u % p) % p<p:=Nat.mod_lt _ hp
   have h4:(p-a / u % p) % p*u≤64*64:=Nat.mul_le_mul (by omega) (by omega)
   have:=negFrom_le p q a hp hp2 hq k (u*p)
   omega
  ·omega
theorem negD_le(p q a:Nat)(hp:0<p)(hp2:p≤64)(hq:q≤64):negD p q a≤28672:=negFrom_le p q a hp hp2 hq 7 1
def Two(p q:Nat):Prop:=p=2→(∀a b,a<q→b<q→sumD p q a b=a ^^^ b)∧∀a,a<q→negD p q a=a
def again(st:Nat→Nat):Nat→Nat→Nat
 | 0,a=>a
 |k+1,a=>st (again st k a)
def timesX(p q low a:Nat):Nat:=again (fun r=>sumD p q r (negD p q low)) (a*p / q) (a*p % q)
theorem again_lt(st:Nat→Nat)(q:Nat)(h:∀a,a<q→st a<q):∀k a,a<q→again st k a<q
 | 0,_,ha=>ha
 |k+1,a,ha=>h _ (again_lt st q h k a ha)
theorem timesX_lt {p q low a:Nat}(hsum:∀a b,a<q→b<q→sumD p q a b<q)(hneg:∀a,a<q→negD p q a<q)(hl:low<q)(hq:0<q):timesX p q low a<q:=
 again_lt _ q (fun r hr=>hsum r _ hr (hneg low hl)) _ _ (Nat.mod_lt _ hq)
def Full(st:Nat→Nat)(n:Nat):Prop:=∀k,k<n→again st k 1≠0∧∀j,j<k→again st j 1≠again st k 1
theorem mul_gt(y p:Nat)(hy:1≤y)(hp:2≤p):y<y*p:=by
 have:y*2≤y*p:=Nat.mul_le_mul_left y hp
 omega
section
open Go.RowKit
def RowF(T n:Nat)(t:TypeId)(f:Nat→Value)(w:World):Prop:=
 ∃cs:Array Value,w.heap[T]?=some (.cells cs t (0,0))∧cs.size=n∧∀o,o<n→cs[o]?=some (f o)
def upd(f:Nat→Value)(o:Nat)(v:Value):Nat→Value:=fun i=>if i=o then v else f i
theorem upd_at(f:Nat→Value)(o:Nat)(v:Value):upd f o v o=v:=if_pos rfl
theorem upd_ne(f:Nat→Value)(o:Nat)(v:Value){i:Nat}(h:i≠o):upd f o v i=f i:=if_neg h
theorem RowF.cell {T n:Nat}{t:TypeId}{f:Nat→Value}{w:World}(h:RowF T n t f w)(o:Nat)(ho:o<n):w.cell? ⟨T,o,none⟩=some (f o):=by
 obtain⟨cs,h1,h2,h3⟩:=h
 rw[cell_of_row w T o cs t (0,0) h1];exact h3 o ho
theorem RowF.free {T n:Nat}{t:TypeId}{f:Nat→Value}{w:World}(h:RowF T n t f w)(o:Nat):w.frozen? ⟨T,o,none⟩=false:=by
 obtain⟨cs,h1,h2,h3⟩:=h
 exact frozen_of_row w T o cs t h1
theorem RowF.lt {T n:Nat}{t:TypeId}{f:Nat→Value}{w:World}(h:RowF T n t f w):T<w.heap.size:=by
 obtain⟨cs,h1,h2,h3⟩:=h
 exact lt_of_block h1
theorem RowF.other {T n:Nat}{t:TypeId}{f:Nat→Value}{w w':World}(h:RowF T n t f w)(e:w'.heap[T]?=w.heap[T]?):RowF T n t f w':=by
 obtain⟨cs,h1,h2,h3⟩:=h
 exact⟨cs,e.trans h1,h2,h3⟩
theorem RowF.congr {T n:Nat}{t:TypeId}{f g:Nat→Value}{w:World}(h:RowF T n t f w)(e:∀o,o<n→f o=g o):RowF T n t g w:=by
 obtain⟨cs,h1,h2,h3⟩:=h
 exact⟨cs,h1,h2,fun o ho=>by rw[h3 o ho,e o ho]⟩
theorem RowF.store {T n:Nat}{t:TypeId}{f:Nat→Value}{w:World}(h:RowF T n t f w)(o:Nat)(v:Value):RowF T n t (upd f o v) (w.setCell ⟨T,o,none⟩ v):=by
 obtain⟨cs,h1,h2,h3⟩:=h
 have hlt:=lt_of_block h1
 have h':w.heap[T] = .cells cs t (0,0):=by simpa [Array.getElem?_eq_getElem hlt]using h1
 refine⟨cs.setIfInBounds o v,?_,by simpa using h2,?_⟩
 ·show(w.heap.modify T _)[T]?=_
  rw[Array.getElem?_eq_getElem (by simpa using hlt),Array.getElem_modify_self,h']
  rfl
 ·intro i hi
  unfold upd
  rw[Array.getElem?_setIfInBounds]
  by_cases e:o=i
  ·subst e;simp[h2,hi]
  ·rw[if_neg e,if_neg (fun h=>e h.symm)];exact h3 i hi
theorem RowF.alloc {T n:Nat}{t:TypeId}{f:Nat→Value}{w:World}(h:RowF T n t f w)(o:Obj):RowF T n t f (w.alloc o):=
 h.other (Below.heap_alloc w o T h.lt)
theorem RowF.drewN {T n:Nat}{t:TypeId}{f:Nat→Value}{w:World}(h:RowF T n t f w)(k:Nat):RowF T n t f (w.drewN k):=
 h.other rfl
theorem RowF.drew {T n:Nat}{t:TypeId}{f:Nat→Value}{w:World}(h:RowF T n t f w):RowF T n t f w.drew:=
 h.other rfl
theorem RowF.setOther {T n:Nat}{t:TypeId}{f:Nat→Value}{w:World}(h:RowF T n t f w)(a:Addr)(ha:T≠a.block)(v:Value):RowF T n t f (w.setCell a v):=
 h.other (Below.heap_setCell w a v T ha)
theorem RowF.below {T n B:Nat}{t:TypeId}{f:Nat→Value}{w w':World}(h:RowF T n t f w)(hb:Below B w w')(hT:T<B):RowF T n t f w':=
 h.other (hb.block T hT)
theorem grown_refl(w:World)(row:Option Nat):w.grownBy w row:=⟨rfl,rfl,rfl,Nat.le_refl _,fun _ _ _=>rfl⟩
theorem grown_trans {a b c:World}{row:Option Nat}(h:a.grownBy b row)(k:b.grownBy c row):a.grownBy c row:=
 ⟨k.os.trans h.os,k.tape.trans h.tape,k.output.trans h.output,Nat.le_trans h.size k.size,fun i hi hn=>(k.block i (Nat.lt_of_lt_of_le hi h.size) hn).trans (h.block i hi hn)⟩
theorem grown_drewN {a b:World}{row:Option Nat}(h:a.grownBy b row)(n:Nat):a.grownBy (b.drewN n) row:=
 ⟨h.os,h.tape,h.output,h.size,h.block⟩
theorem grown_drew {a b:World}{row:Option Nat}(h:a.grownBy b row):a.grownBy b.drew row:=
 ⟨h.os,h.tape,h.output,h.size,h.block⟩
theorem grown_set {a b:World}{T:Nat}(h:a.grownBy b (some T))(o:Nat)(v:Value):a.grownBy (b.setCell ⟨T,o,none⟩ v) (some T):=
 grown_trans h ⟨rfl,rfl,rfl,by simp[World.setCell],fun i _ hn=>Below.heap_setCell _ _ _ _ (fun e=>hn (by simp[e]))⟩
theorem below_grown {a b:World}{B:Nat}{row:Option Nat}(h:a.grownBy b row)(hB:B≤a.heap.size)(hr:∀k,row=some k→B≤k):Below B a b:=
 (Below.refl B a).grown h hB hr
theorem w_nat(a:Nat)(h:a≤9223372036854775807):wrap64 (a:Int)=(a:Int):=by unfold wrap64;omega
theorem w_quo(a b:Nat)(h:a≤9223372036854775807):wrap64 ((a:Int) / (b:Int))=((a / b:Nat):Int):=
 w_nat (a / b) (Nat.le_trans (Nat.div_le_self a b) h)
theorem sum_step(x a b y p:Nat)(hx:x≤28672)(h1:a / y≤64)(h2:b / y≤64)(h4:(a / y+b / y) % p*y≤64*64)(ha:a<64)(hb:b<64) :
  wrap64 ((x:Int)+wrap64 ((wrap64 (wrap64 ((a:Int) / (y:Int))+wrap64 ((b:Int) / (y:Int)))).tmod (p:Int)*(y:Int)))=((x+(a / y+b / y) % p*y:Nat):Int):=by
 rw[w_quo a y (by omega),w_quo b y (by omega)]
 have e1:wrap64 (((a / y:Nat):Int)+((b / y:Nat):Int))=((a / y+b / y:Nat):Int):=w_nat (a / y+b / y) (by omega)
 rw[e1]
 have e2:(((a / y+b / y:Nat):Int).tmod (p:Int)*(y:Int))=(((a / y+b / y) % p*y:Nat):Int):=rfl
 rw[e2,w_nat _ (by omega)]
 exact w_nat (x+(a / y+b / y) % p*y) (by omega)
theorem xor64_chk:((List.range 64).all fun a=>(List.range 64).all fun b=>bits .xor .i64 (a:Int) (b:Int) == ((a ^^^ b:Nat):Int))=true:=by decide +kernel
theorem xor64_nat(a b:Nat)(ha:a<64)(hb:b<64):bits .xor .i64 (a:Int) (b:Int)=((a ^^^ b:Nat):Int):=by
 have h:=List.all_eq_true.1 xor64_chk a (List.mem_range.2 ha)
 exact beq_iff_eq.1 (List.all_eq_true.1 h b (List.mem_range.2 hb))
set_option maxHeartbeats 1000000 in
theorem sum_any(T p q a b:Nat)(w:World)(hp:2≤p)(hp2:p≤64)(hq:q≤64)(ha:a<q)(hb:b<q)(htwo:Two p q)
  (hc0:w.cell? ⟨T,0,none⟩=some (.int .i64 q)) (hc1:w.cell? ⟨T,1,none⟩=some (.int .i64 p)) :
  Calls Tryz.prog 94 #[.pointer (some ⟨T,0,none⟩),.int .i64 a,.int .i64 b] w fun e w'=>e = .returned (.int .i64 (sumD p q a b))∧∃n,w'=w.drewN n:=by
 by_cases h2:p=2
 ·have HV:Hid (sumD p q a b=a ^^^ b):=(htwo h2).1 a b ha hb
  have HX:Hid (bits .xor .i64 (a:Int) (b:Int)=((a ^^^ b:Nat):Int)):=xor64_nat a b (by omega) (by omega)
  have hz:((p:Int) == 2)=true:=by rw[h2];rfl
  clear htwo h2
  go_enter Tryz.func94,Tryz.ntmps94
  go_wp2
  go_ret
  exact⟨ret_int (by rw[HV.out, ←HX.out]),0,rfl⟩
 have hz:((p:Int) == 2)=false:=by rw[beq_eq_false_iff_ne];omega
 clear htwo h2
 have hD:=sumD_le p q a b (by omega) hp2 hq
 go_enter Tryz.func94,Tryz.ntmps94
 go_wp2
 go_loopw [7,8] (fun s u wr=>∃j x y:Nat,1≤y∧y≤4096∧x≤28672∧2 ^ j≤y∧s = .int .i64 x∧u = .int .i64 y∧Hid (x+sumFrom p q a b (7-j) y=sumD p q a b)∧∃n,wr=w.drewN n) (fun _ u _=>64-(intOf u).toNat)
 case atStart=>exact⟨0,0,1,by omega,by omega,by omega,by omega,rfl,rfl,by simp[Hid,sumD],0,rfl⟩
 case round=>
  obtain⟨j,x,y,hy1,hy,hx,hj,rfl,rfl,HS,n,rfl⟩:=hrel
  by_cases hlt:y<q
  ·have HJ:Hid (2 ^ j≤y):=hj
   clear hj
   have h1:a / y≤64:=Nat.le_trans (Nat.div_le_self _ _) (by omega)
   have h2:b / y≤64:=Nat.le_trans (Nat.div_le_self _ _) (by omega)
   have h3:(a / y+b / y) % p<p:=Nat.mod_lt _ (by omega)
   have h4:(a / y+b / y) % p*y≤64*64:=Nat.mul_le_mul (by omega) (by omega)
   have h5:y*p≤64*64:=Nat.mul_le_mul (by omega) (by omega)
   have h6:=mul_gt y p hy1 hp
   have HR:Hid (j<7∧2 ^ (j+1)≤y*p∧x+(a / y+b / y) % p*y+sumFrom p q a b (7-(j+1)) (y*p)=sumD p q a b):=by
    have hj7:j<7:=by
     rcases Nat.lt_or_ge j 7 with h|h
     ·exact h
     ·have:2 ^ 7≤2 ^ j:=Nat.pow_le_pow_right (by omega) h
      have:=HJ.out
      omega
    refine⟨hj7,by rw[Nat.pow_succ];exact Nat.mul_le_mul HJ.out hp,?_⟩
    have:=HS.out
    rw[show 7-j=(7-(j+1))+1 from by omega,sumFrom_lo p q a b _ y hlt]at this
    omega
   clear HJ
   go_wp2
   go_quiet (fail)
   go_wp2
   go_roundw
   case rel=>exact⟨j+1,x+(a / y+b / y) % p*y,y*p,by omega,by omega,by have:=HR.out.2.2;omega,HR.out.2.1,by rw[sum_step x a b y p hx h1 h2 h4 (by omega) (by omega)],by go_num,HR.out.2.2,_,rfl⟩
   case measure=>
    show 64-(((y*p:Nat):Int)).toNat<64-((y:Nat):Int).toNat
    rw[Int.toNat_natCast,Int.toNat_natCast];omega
  ·have HV:Hid (x=sumD p q a b):=by have:=HS.out;rw[sumFrom_hi _ _ _ _ _ _ hlt]at this;show x=_;omega
   go_wp2
   go_ret
   exact⟨ret_int (by rw[HV.out]),_,rfl⟩
def SumsOk(p q:Nat):Prop:=(∀a b,a<q→b<q→sumD p q a b<q)∧(∀a b c,a<q→b<q→c<q→sumD p q a b=0→sumD p q a c=0→b=c)
theorem neg_step(x a y p:Nat)(hx:x≤28672)(hp:2≤p)(hp2:p≤64)(h4:(p-a / y % p) % p*y≤64*64)(ha:a<64) :
  wrap64 ((x:Int)+wrap64 ((wrap64 ((p:Int)-(wrap64 ((a:Int) / (y:Int))).tmod (p:Int))).tmod (p:Int)*(y:Int)))=((x+(p-a / y % p) % p*y:Nat):Int):=by
 rw[w_quo a y (by omega)]
 have hm:a / y % p<p:=Nat.mod_lt _ (by omega)
 have e0:((a / y:Nat):Int).tmod (p:Int)=((a / y % p:Nat):Int):=rfl
 have e1:wrap64 ((p:Int)-((a / y % p:Nat):Int))=((p-a / y % p:Nat):Int):=by
  rw[show(p:Int)-((a / y % p:Nat):Int)=((p-a / y % p:Nat):Int)from by omega]
  exact w_nat _ (by omega)
 rw[e0,e1]
 have e2:(((p-a / y % p:Nat):Int).tmod (p:Int)*(y:Int))=(((p-a / y % p) % p*y:Nat):Int):=rfl
 rw[e2,w_nat _ (by omega)]
 exact w_nat (x+(p-a / y % p) % p*y) (by omega)
set_option maxHeartbeats 1000000 in
theorem opposite_any(T p q a:Nat)(w:World)(hp:2≤p)(hp2:p≤64)(hq:q≤64)(ha:a<q)(htwo:Two p q)
  (hc0:w.cell? ⟨T,0,none⟩=some (.int .i64 q)) (hc1:w.cell? ⟨T,1,none⟩=some (.int .i64 p)) :
  Calls Tryz.prog 127 #[.pointer (some ⟨T,0,none⟩),.int .i64 a] w fun e w'=>e = .returned (.int .i64 (negD p q a))∧∃n,w'=w.drewN n:=by
 by_cases h2:p=2
 ·have HV:Hid (negD p q a=a):=(htwo h2).2 a ha
  have hz:((p:Int) == 2)=true:=by rw[h2];rfl
  clear htwo h2
  go_enter Tryz.func127,Tryz.ntmps127
  go_wp2
  go_ret
  exact⟨ret_int (by rw[HV.out]),0,rfl⟩
 have hz:((p:Int) == 2)=false:=by rw[beq_eq_false_iff_ne];omega
 clear htwo h2
 have hD:=negD_le p q a (by omega) hp2 hq
 go_enter Tryz.func127,Tryz.ntmps127
 go_wp2
 go_loopw [5,6] (fun s u wr=>∃j x y:Nat,1≤y∧y≤4096∧x≤28672∧2 ^ j≤y∧s = .int .i64 x∧u = .int .i64 y∧Hid (x+negFrom p q a (7-j) y=negD p q a)∧∃n,wr=w.drewN n) (fun _ u _=>64-(intOf u).toNat)
 case atStart=>exact⟨0,0,1,by omega,by omega,by omega,by omega,rfl,rfl,by simp[Hid,negD],0,rfl⟩
 case round=>
  obtain⟨j,x,y,hy1,hy,hx,hj,rfl,rfl,HS,n,rfl⟩:=hrel
  by_cases hlt:y<q
  ·have HJ:Hid (2 ^ j≤y):=hj
   clear hj
   have h1:a / y≤64:=Nat.le_trans (Nat.div_le_self _ _) (by omega)
   have h3:(p-a / y % p) % p<p:=Nat.mod_lt _ (by omega)
   have h4:(p-a / y % p) % p*y≤64*64:=Nat.mul_le_mul (by omega) (by omega)
   have h5:y*p≤64*64:=Nat.mul_le_mul (by omega) (by omega)
   have h6:=mul_gt y p hy1 hp
   have h7:a / y % p<p:=Nat.mod_lt _ (by omega)
   have HR:Hid (j<7∧2 ^ (j+1)≤y*p∧x+(p-a / y % p) % p*y+negFrom p q a (7-(j+1)) (y*p)=negD p q a):=by
    have hj7:j<7:=by
     rcases Nat.lt_or_ge j 7 with h|h
     ·exact h
     ·have:2 ^ 7≤2 ^ j:=Nat.pow_le_pow_right (by omega) h
      have:=HJ.out
      omega
    refine⟨hj7,by rw[Nat.pow_succ];exact Nat.mul_le_mul HJ.out hp,?_⟩
    have:=HS.out
    rw[show 7-j=(7-(j+1))+1 from by omega,negFrom_lo p q a _ y hlt]at this
    omega
   clear HJ
   go_wp2
   go_quiet (fail)
   go_wp2
   go_roundw
   case rel=>exact⟨j+1,x+(p-a / y % p) % p*y,y*p,by omega,by omega,by have:=HR.out.2.2;omega,HR.out.2.1,by rw[neg_step x a y p hx hp hp2 h4 (by omega)],by go_num,HR.out.2.2,_,rfl⟩
   case measure=>
    show 64-(((y*p:Nat):Int)).toNat<64-((y:Nat):Int).toNat
    rw[Int.toNat_natCast,Int.toNat_natCast];omega
  ·have HV:Hid (x=negD p q a):=by have:=HS.out;rw[negFrom_hi _ _ _ _ _ hlt]at this;show x=_;omega
   go_wp2
   go_ret
   exact⟨ret_int (by rw[HV.out]),_,rfl⟩
structure TabS(p q:Nat)(g:Nat→Value):Prop where
 c0:g 0 = .int .i64 q
 c1:g 1 = .int .i64 p
 two:Two p q
theorem TabS.congr {p q:Nat}{f g:Nat→Value}(h:TabS p q f)(e:∀o,o<5→o≠2→o≠3→o≠4→g o=f o):TabS p q g:=
 ⟨(e 0 (by omega) (by omega) (by omega) (by omega)).trans h.c0,(e 1 (by omega) (by omega) (by omega) (by omega)).trans h.c1,h.two⟩
set_option maxHeartbeats 2000000 in
theorem timesX_any (T p q a low : Nat) (f : Nat → Value) (w : World) (hp1 : 2 ≤ p) (hp2 : p ≤ 64) (hq0 : 1 ≤ q) (hq : q ≤ 64) (ha : a < q) (hl : low < q)
   (hsum:∀a b,a<q→b<q→sumD p q a b<q) (hneg:∀a,a<q→negD p q a<q)
   (hr:RowF T 133 119 f w) (ht:TabS p q f) :
   Calls Tryz.prog 115 #[.pointer (some ⟨T,0,none⟩),.int .i64 a,.int .i64 low] w fun e w'=>e = .returned (.int .i64 (timesX p q low a))∧∃n,w'=w.drewN n:=by
 have hc0:w.cell? ⟨T,0,none⟩=some (.int .i64 q):=by rw[hr.cell 0 (by omega),ht.c0]
 have hc1:w.cell? ⟨T,1,none⟩=some (.int .i64 p):=by rw[hr.cell 1 (by omega),ht.c1]
 have HR:Hid (Two p q):=ht.two
 have HS:Hid (∀a b,a<q→b<q→sumD p q a b<q):=hsum
 have hn:=hneg low hl
 clear hr ht hsum hneg
 have h1:a*p≤64*64:=Nat.mul_le_mul (by omega) (by omega)
 have h2:a*p / q≤64*64:=Nat.le_trans (Nat.div_le_self _ _) h1
 have h3:a*p % q<q:=Nat.mod_lt _ (by omega)
 have h4:(a:Int)*(p:Int)≤4096:=by rw[←Int.natCast_mul];omega
 have h5:0≤(a:Int)*(p:Int):=by rw[←Int.natCast_mul];omega
 go_enter Tryz.func115,Tryz.ntmps115
 go_wp2
 go_quiet (fail)
 go_wp2
 go_loopw [8,32] (fun r i wr=>∃k x:Nat,k≤a*p / q∧x<q∧r = .int .i64 x∧i = .int .i64 k∧Hid (x=again (fun r=>sumD p q r (negD p q low)) k (a*p % q))∧∃n,wr=w.drewN n) (fun _ i _=>a*p / q-(intOf i).toNat)
 case atStart=>exact⟨0,a*p % q,Nat.zero_le _,h3,rfl,rfl,rfl,nq,rfl⟩
 case round=>
   obtain⟨k,x,hk,hx,rfl,rfl,HX,n,rfl⟩:=hrel
   have hs:=HS.out x (negD p q low) hx hn
   by_cases hlt:k<a*p / q
   · have hi:(k:Int)<(a:Int)*(p:Int) / (q:Int):=by rw[←Int.natCast_mul, ←Int.natCast_ediv];omega
     go_wp2_with fail
     refine(opposite_any T p q low _ hp1 hp2 hq hl HR.out (by exact hc0) (by exact hc1)).mono ?_
     rintro e w' ⟨rfl,n1,rfl⟩
     go_wp2_with fail
     refine(sum_any T p q x (negD p q low) _ hp1 hp2 hq hx hn HR.out (by exact hc0) (by exact hc1)).mono ?_
     rintro e w' ⟨rfl,n2,rfl⟩
     go_wp2
     go_roundw
     case rel=>exact⟨k+1,sumD p q x (negD p q low),by omega,hs,by go_num,rfl,by rw[HX.out];rfl,_,by first|rfl|rw[World.drewN_drewN]|rw[World.drewN_drewN,World.drewN_drewN]⟩
     case measure=>simp[intOf];omega
   · have hi:¬(k:Int)<(a:Int)*(p:Int) / (q:Int):=by rw[←Int.natCast_mul, ←Int.natCast_ediv];omega
     have HV : Hid (x = timesX p q low a) := by have : k = a * p / q := by omega
                                                subst this;exact HX.out
     go_wp2
     go_ret
     exact⟨ret_int (by rw[HV.out]),_,rfl⟩
structure Pows(st:Nat→Nat)(n:Nat)(g:Nat→Value):Prop where
 pow:∀k,k<n→g (5+k) = .int .i64 (again st k 1)
 log:∀k,k<n→g (69+again st k 1) = .int .i64 k
 no:∀x,x<64→(∀k,k<n→again st k 1≠x)→g (69+x) = .int .i64 (-1)
theorem Pows.congr {st:Nat→Nat}{n:Nat}{f g:Nat→Value}(h:Pows st n f)(e:∀o,5≤o→g o=f o):Pows st n g:=
 ⟨fun k hk=>(e _ (by omega)).trans (h.pow k hk),fun k hk=>(e _ (by omega)).trans (h.log k hk),fun x hx hn=>(e _ (by omega)).trans (h.no x hx hn)⟩
theorem full_step {st:Nat→Nat}{k x:Nat}(h:Full st k)(hx:x=again st k 1)(h0:¬x=0)(hj:∀j,j<k→again st j 1≠x):Full st (k+1):=by
 intro i hi
 by_cases e:i=k
 ·subst e;exact⟨by rw[←hx];exact h0,fun j hji=>by rw[←hx];exact hj j hji⟩
 ·exact h i (by omega)
theorem pows_step {st:Nat→Nat}{k x:Nat}{g:Nat→Value}(hk:k<64)(hx64:x<64)(hx:x=again st k 1)(hj:∀j, j<k→again st j 1≠x)(h:Pows st k g) :
  Pows st (k+1) (upd (upd g (5+k) (.int .i64 x)) (69+x) (.int .i64 k)):=by
 refine⟨fun i hi=>?_,fun i hi=>?_,fun y hy hn=>?_⟩
 ·rw[upd_ne _ _ _ (by omega)]
  by_cases e:i=k
  ·subst e;rw[upd_at,hx]
  ·rw[upd_ne _ _ _ (by omega)];exact h.pow i (by omega)
 ·by_cases e:i=k
  ·subst e;rw[←hx,upd_at]
  ·have:=hj i (by omega)
   rw[upd_ne _ _ _ (by omega),upd_ne _ _ _ (by omega)];exact h.log i (by omega)
 ·have h1:=hn k (by omega)
  rw[←hx]at h1
  rw[upd_ne _ _ _ (by omega),upd_ne _ _ _ (by omega)]
  exact h.no y hy fun j hj=>hn j (by omega)
theorem run112(args:Array Value)(w1:World):Sem.run Tryz.prog (callFunc 113 args) w1 = .ok (.enter 113 args) w1:=by
 go_simp
theorem run113(args:Array Value)(w1:World):Sem.run Tryz.prog (callFunc 114 args) w1 = .ok (.enter 114 args) w1:=by
 go_simp
set_option maxHeartbeats 2000000 in
set_option maxRecDepth 100000 in
theorem layPowers_any(T K q:Nat)(cp:Array Value)(st:Nat→Nat)(f:Nat→Value)(w:World)(hq2:2≤q)(hq:q≤64)(hst:∀a, a<q→st a<q)
  (hrun:∀(args:Array Value) (w1:World),Sem.run Tryz.prog (callFunc K args) w1 = .ok (.enter K args) w1)
  (hr:RowF T 133 119 f w) (h0:f 0 = .int .i64 q)
  (hstep:∀(a:Nat) (g:Nat→Value) (w1:World),a<q→RowF T 133 119 g w1→(∀o,o<5→g o=f o)→w.grownBy w1 (some T)→
   Calls Tryz.prog K (#[.int .i64 a]++cp) w1 fun e w'=>e = .returned (.int .i64 (st a))∧∃n,w'=w1.drewN n) :
  Calls Tryz.prog 112 #[.pointer (some ⟨T,0,none⟩),.func (.func K) #[] cp] w fun e w'=>∃g,RowF T 133 119 g w'∧(∀o,o<5→g o=f o)∧w.grownBy w' (some T)∧
   ((Full st (q-1)∧Pows st (q-1) g∧e = .returned (.bool true))∨(¬Full st (q-1)∧e = .returned (.bool false))):=by
 have HR:Hid (RowF T 133 119 f w):=hr
 have H0:Hid (f 0 = .int .i64 q):=h0
 have HT:Hid (∀a,a<q→st a<q):=hst
 have HP:Hid (∀(a:Nat) (g:Nat→Value) (w1:World), a<q→RowF T 133 119 g w1→(∀o, o<5→g o=f o)→w.grownBy w1 (some T)→
   Calls Tryz.prog K (#[.int .i64 a]++cp) w1 fun e w'=>e = .returned (.int .i64 (st a))∧∃n,w'=w1.drewN n):=hstep
 clear hr h0 hst hstep
 go_enter Tryz.func112,Tryz.ntmps112
 go_wp2
 go_loopw [8] (fun i wr=>∃(k:Nat) (g:Nat→Value),k≤64∧i = .int .i64 k∧RowF T 133 119 g wr∧(∀o,o<5→g o=f o)∧(∀x,x<k→g (69+x) = .int .i64 (-1))∧w.grownBy wr (some T)) (fun i _=>64-(intOf i).toNat)
 case atStart=>exact⟨0,f,by omega,rfl,HR.out,fun _ _=>rfl,fun x hx=>by omega,grown_refl _ _⟩
 case round=>
  obtain⟨k,g,hk,rfl,hrow,hsame,hno,hgrow⟩:=hrel
  have hfree:∀o,wr.frozen? ⟨T,o,none⟩=false:=hrow.free
  have hc0:wr.cell? ⟨T,0,none⟩=some (.int .i64 q):=by rw[hrow.cell 0 (by omega),hsame 0 (by omega),H0.out]
  have HG:Hid (RowF T 133 119 g wr∧(∀o,o<5→g o=f o)∧(∀x,x<k→g (69+x) = .int .i64 (-1))∧w.grownBy wr (some T)):=⟨hrow,hsame,hno,hgrow⟩
  clear hrow hsame hno hgrow
  by_cases hlt:k<64
  ·have hcs:wr.cell? ⟨T,69+k,none⟩=some (g (69+k)):=HG.out.1.cell _ (by omega)
   go_wp2
   go_roundw
   case rel=>exact⟨k+1,_,by omega,by go_num,HG.out.1.store _ _,fun o ho=>(upd_ne _ _ _ (by omega)).trans (HG.out.2.1 o ho),fun x hx=>if e:x=k then by rw[e,upd_at]else(upd_ne _ _ _ (by omega)).trans (HG.out.2.2.1 x (by omega)),grown_set HG.out.2.2.2 _ _⟩
   case measure=>simp[intOf];omega
  ·have HK:Hid (∀x,x<64→g (69+x) = .int .i64 (-1)):=fun x hx=>HG.out.2.2.1 x (by omega)
   clear hfree
   go_wp2
   go_loopw [6,22] (fun a i wr=>∃(k x:Nat) (g:Nat→Value),k≤q-1∧x<q∧i = .int .i64 k∧a = .int .i64 x∧Hid (x=again st k 1)∧RowF T 133 119 g wr∧(∀o,o<5→g o=f o)∧Full st k∧Pows st k g∧w.grownBy wr (some T)) (fun _ i _=>q-(intOf i).toNat)
   case atStart=>exact⟨0,1,g,by omega,by omega,rfl,rfl,rfl,HG.out.1,HG.out.2.1,fun k hk=>by omega,⟨fun k hk=>by omega,fun k hk=>by omega,fun x hx _=>HK.out x hx⟩,HG.out.2.2.2⟩
   case round=>
    clear HG hc0 HK
    obtain⟨k,x,g,hk,hx,rfl,rfl,HX,hrow,hsame,hfull,hpows,hgrow⟩:=hrel
    have hfree:∀o,wr.frozen? ⟨T,o,none⟩=false:=hrow.free
    have HG:Hid (RowF T 133 119 g wr∧(∀o,o<5→g o=f o)∧Full st k∧Pows st k g∧w.grownBy wr (some T)):=⟨hrow,hsame,hfull,hpows,hgrow⟩
    clear hrow hsame hfull hpows hgrow
    by_cases hlt:k<q-1
    ·by_cases hx0:x=0
     ·have HN:Hid (¬Full st (q-1)):=fun h=>(h k hlt).1 (by rw[←HX.out,hx0])
      subst hx0
      go_wp2
      go_ret
      exact⟨g,HG.out.1,HG.out.2.1,HG.out.2.2.2.2,Or.inr ⟨HN.out,rfl⟩⟩
     ·have hb0:((x:Int) == 0)=false:=by rw[beq_eq_false_iff_ne];exact_mod_cast hx0
      by_cases hseen:∃j,j<k∧again st j 1=x
      ·obtain⟨j,hj,hjx⟩:=hseen
       have hcl:wr.cell? ⟨T,69+x,none⟩=some (.int .i64 j):=by rw[HG.out.1.cell _ (by omega), ←hjx,HG.out.2.2.2.1.log j hj]
       have hb1:((j:Int) != -1)=true:=by rw[bne_iff_ne];omega
       have HN:Hid (¬Full st (q-1)):=fun h=>(h k hlt).2 j hj (by rw[hjx];exact HX.out)
       clear hjx
       go_wp2
       go_ret
       exact⟨g,HG.out.1,HG.out.2.1,HG.out.2.2.2.2,Or.inr ⟨HN.out,rfl⟩⟩
      ·have hcl:wr.cell? ⟨T,69+x,none⟩=some (.int .i64 (-1)):=by rw[HG.out.1.cell _ (by omega),HG.out.2.2.2.1.no x (by omega) (fun j hj e=>hseen ⟨j,hj,e⟩)]
       have hcp:wr.cell? ⟨T,5+k,none⟩=some (g (5+k)):=HG.out.1.cell _ (by omega)
       have HJ:Hid (∀j,j<k→again st j 1≠x):=fun j hj e=>hseen ⟨j,hj,e⟩
       clear hseen
       go_wp2
       go_region
       go_wp2_with fail
       refine(HP.out x _ _ hx ((HG.out.1.store _ _).store _ _).drew (fun o ho=>((upd_ne _ _ _ (by omega)).trans (upd_ne _ _ _ (by omega))).trans (HG.out.2.1 o ho)) (grown_drew (grown_set (grown_set HG.out.2.2.2.2 _ _) _ _))).mono ?_
       rintro e w' ⟨rfl,n,rfl⟩
       go_wp2
       go_roundw
       case rel=>exact⟨k+1,st x,_,by omega,HT.out x hx,by go_num,by go_num,by rw[HX.out];rfl,((HG.out.1.store _ _).store _ _).drewN _,fun o ho=>((upd_ne _ _ _ (by omega)).trans (upd_ne _ _ _ (by omega))).trans (HG.out.2.1 o ho),full_step HG.out.2.2.1 HX.out hx0 HJ.out,pows_step (by omega) (by omega) HX.out HJ.out HG.out.2.2.2.1,grown_drewN (grown_set (grown_set HG.out.2.2.2.2 _ _) _ _) _⟩
       case measure=>simp[intOf];omega
    ·have e:k=q-1:=by omega
     have HF:Hid (Full st (q-1)∧Pows st (q-1) g):=by rw[←e];exact⟨HG.out.2.2.1,HG.out.2.2.2.1⟩
     clear e
     go_wp2
     go_ret
     exact⟨g,HG.out.1,HG.out.2.1,HG.out.2.2.2.2,Or.inl ⟨HF.out.1,HF.out.2,rfl⟩⟩
set_option maxHeartbeats 1000000 in
theorem byNumber_step(T G P a g p:Nat)(w:World)(ha:a<64)(hg:g<64)(hp1:1≤p)(hp:p≤64)
  (hcg:w.cell? ⟨G,0,none⟩=some (.int .i64 g)) (hcp:w.cell? ⟨P,0,none⟩=some (.pointer (some ⟨T,0,none⟩))) (hc1:w.cell? ⟨T,1,none⟩=some (.int .i64 p)) :
  Calls Tryz.prog 113 #[.int .i64 a,.pointer (some ⟨G,0,none⟩),.pointer (some ⟨P,0,none⟩)] w fun e w'=>e = .returned (.int .i64 ((a*g % p:Nat):Int))∧∃n,w'=w.drewN n:=by
 have h1:a*g≤64*64:=Nat.mul_le_mul (by omega) (by omega)
 have h4:(a:Int)*(g:Int)≤4096:=by rw[←Int.natCast_mul];omega
 have h5:0≤(a:Int)*(g:Int):=by rw[←Int.natCast_mul];omega
 go_enter Tryz.func113,Tryz.ntmps113
 go_wp2
 go_quiet (fail)
 go_wp2
 go_ret
 exact⟨ret_int (by rw[←Int.natCast_mul, ←Int.natCast_emod]),_,rfl⟩
theorem two_new {w:World}(o:Obj):(w.alloc o).heap[w.heap.size]?=some o:=by
 show(w.heap.push o)[w.heap.size]?=some o
 simp
set_option maxHeartbeats 2000000 in
set_option maxRecDepth 100000 in
theorem layByNumber_any(T q gen:Nat)(f:Nat→Value)(w:World)(hq2:2≤q)(hq:q≤64)
  (hr:RowF T 133 119 f w) (h0:f 0 = .int .i64 q) (h1:f 1 = .int .i64 q)
  (hg1:1≤gen) (hgq:gen<q) (hgen:Full (fun a=>a*gen % q) (q-1)) (hleast:∀g,1≤g→g<gen→¬Full (fun a=>a*g % q) (q-1)) :
  Calls Tryz.prog 92 #[.pointer (some ⟨T,0,none⟩)] w fun e w'=>e = .returned (.tuple #[])∧∃g,RowF T 133 119 g w'∧(∀o,o<5→o≠4→g o=f o)∧g 4 = .int .i64 gen ∧
   Pows (fun a=>a*gen % q) (q-1) g∧w.grownBy w' (some T):=by
 have HR:Hid (RowF T 133 119 f w):=hr
 have hT:=hr.lt
 have H0:Hid (f 0 = .int .i64 q∧f 1 = .int .i64 q):=⟨h0,h1⟩
 have HN:Hid (Full (fun a=>a*gen % q) (q-1)∧∀g,1≤g→g<gen→¬Full (fun a=>a*g % q) (q-1)):=⟨hgen,hleast⟩
 clear hr h0 h1 hgen hleast
 go_enter Tryz.func92,Tryz.ntmps92
 go_wp2
 go_loopg [2] (q-1) (fun k pg wr=>∃(g G:Nat) (f':Nat→Value), k=q-g∧1≤g∧g≤gen∧w.heap.size<G∧pg = .pointer (some ⟨G, 0, none⟩)∧wr.heap[G]?=some (.cells #[.int .i64 g] 3 (0, 0))∧
   wr.heap[w.heap.size]?=some (.cells #[.pointer (some ⟨T,0,none⟩)] 113 (0,0))∧RowF T 133 119 f' wr∧(∀o,o<5→f' o=f o)∧w.grownBy wr (some T))
 case atStart=>
  refine⟨1,w.heap.size+1,f,rfl,by omega,hg1,by omega,rfl,?_,?_,(HR.out.alloc _).alloc _,fun _ _=>rfl,grown_trans (World.grownBy_alloc _ _ _) (World.grownBy_alloc _ _ _)⟩
  ·have:=two_new (w:=w.alloc (.cells #[.pointer (some ⟨T,0,none⟩)] 113)) (.cells #[.int .i64 1] 3)
   simpa using this
  ·rw[Below.heap_alloc _ _ _ (by simp)];exact two_new _
 case round=>
  obtain⟨g,G,f',hk,hg,hgg,hG,rfl,hbG,hbP,hrow,hsame,hgrow⟩:=hrel
  have hcG:=cell_of_one hbG
  have hfG:=free_of_one hbG
  have hcP:=cell_of_one hbP
  have hltG:=lt_of_block hbG
  have hc0:wr.cell? ⟨T,0,none⟩=some (.int .i64 q):=by rw[hrow.cell 0 (by omega),hsame 0 (by omega),H0.out.1]
  have HG:Hid (gk=q-g∧wr.heap[G]?=some (.cells #[.int .i64 g] 3 (0,0))∧
   wr.heap[w.heap.size]?=some (.cells #[.pointer (some ⟨T,0,none⟩)] 113 (0,0))∧RowF T 133 119 f' wr∧(∀o,o<5→f' o=f o)∧w.grownBy wr (some T)):=⟨hk,hbG,hbP,hrow,hsame,hgrow⟩
  clear hk hbG hbP hrow hsame hgrow
  go_wp2
  go_quiet (fail)
  go_wp2_with fail
  refine(layPowers_any T 113 q #[.pointer (some ⟨G,0,none⟩),.pointer (some ⟨w.heap.size,0,none⟩)] (fun a=>a*g % q) f' (wr.drewN nq) hq2 hq (fun a _=>Nat.mod_lt _ (by omega)) run112 (HG.out.2.2.2.1.drewN nq) (by rw[HG.out.2.2.2.2.1 0 (by omega),H0.out.1]) ?_).mono ?_
  ·intro a g1 w1 ha hrow1 hsame1 hgrow1
   have e1:w1.heap[G]?=wr.heap[G]?:=hgrow1.block G hltG (by simp;omega)
   have e2:w1.heap[w.heap.size]?=wr.heap[w.heap.size]?:=hgrow1.block _ (by have:=HG.out.2.2.2.2.2.size;show _<wr.heap.size;omega) (by simp;omega)
   exact byNumber_step T G w.heap.size a g q w1 (by omega) (by omega) (by omega) hq (cell_of_one (e1.trans HG.out.2.1)) (cell_of_one (e2.trans HG.out.2.2.1)) (by rw[hrow1.cell 1 (by omega),hsame1 1 (by omega),HG.out.2.2.2.2.1 1 (by omega),H0.out.2])
  ·rintro e w' ⟨f2,hrow2,hsame2,hgrow2,hres⟩
   have e1:w'.heap[G]?=wr.heap[G]?:=hgrow2.block G hltG (by simp;omega)
   have e2:w'.heap[w.heap.size]?=wr.heap[w.heap.size]?:=hgrow2.block _ (by have:=HG.out.2.2.2.2.2.size;show _<wr.heap.size;omega) (by simp;omega)
   have hbG:=e1.trans HG.out.2.1
   have hbP:=e2.trans HG.out.2.2.1
   have hgrow3:w.grownBy w' (some T):=grown_trans (grown_drewN HG.out.2.2.2.2.2 nq) hgrow2
   have hcG':=cell_of_one hbG
   have hcP':=cell_of_one hbP
   have hfree:=hrow2.free
   have hc4:=hrow2.cell 4 (by omega)
   have hlt':=lt_of_block hbG
   clear hcG hfG hcP hc0 e1 e2
   by_cases hgq':g=gen
   ·rcases hres with⟨hfull,hpows,rfl⟩|⟨hn,rfl⟩
    ·have HH:Hid (RowF T 133 119 f2 w'∧(∀o,o<5→f2 o=f' o)∧Pows (fun a=>a*g % q) (q-1) f2∧w.grownBy w' (some T)∧g=gen):=⟨hrow2,hsame2,hpows,hgrow3,hgq'⟩
     clear hrow2 hsame2 hgrow2 hfull hpows hgrow3 hbG hbP hgq'
     go_wp2
     refine bodyPost_ret (results_none rfl _ _ _) rfl ?_
     exact⟨rfl,_,HH.out.1.store _ _,fun o ho ho4=>(upd_ne _ _ _ ho4).trans ((HH.out.2.1 o ho).trans (HG.out.2.2.2.2.1 o ho)),by rw[upd_at,HH.out.2.2.2.2],HH.out.2.2.2.2▸HH.out.2.2.1.congr (fun o ho=>upd_ne _ _ _ (by omega)),grown_set HH.out.2.2.2.1 _ _⟩
    ·exact absurd (hgq'▸HN.out.1) hn
   ·rcases hres with⟨hfull,hpows,rfl⟩|⟨hn,rfl⟩
    ·exact absurd hfull (HN.out.2 g hg (by omega))
    ·have HH:Hid (RowF T 133 119 f2 w'∧(∀o,o<5→f2 o=f' o)∧w.grownBy w' (some T)∧w'.heap[G]?=some (.cells #[.int .i64 g] 3 (0,0))∧w'.heap[w.heap.size]?=some (.cells #[.pointer (some ⟨T,0,none⟩)] 113 (0,0))):=⟨hrow2,hsame2,hgrow3,hbG,hbP⟩
     clear hrow2 hsame2 hgrow2 hn hgrow3 hbG hbP
     go_wp2
     go_roundg (q-(g+1))
     case measure=>rw[HG.out.1];omega
     case rel=>
      refine⟨g+1,w'.heap.size,f2,rfl,by omega,by omega,by omega,rfl,?_,?_,HH.out.1.alloc _,fun o ho=>(HH.out.2.1 o ho).trans (HG.out.2.2.2.2.1 o ho),grown_trans HH.out.2.2.1 (World.grownBy_alloc _ _ _)⟩
      ·exact two_new _
      ·rw[Below.heap_alloc _ _ _ (by omega)];exact HH.out.2.2.2.2
set_option maxHeartbeats 1000000 in
theorem byModulus_step(T P L a low p q:Nat)(f:Nat→Value)(w:World)(hp1:2≤p)(hp2:p≤64)(hq0:1≤q)(hq:q≤64)(ha:a<q)(hl:low<q)
  (hsum:∀a b,a<q→b<q→sumD p q a b<q) (hneg:∀a,a<q→negD p q a<q)
  (hr:RowF T 133 119 f w) (ht:TabS p q f)
  (hcp:w.cell? ⟨P,0,none⟩=some (.pointer (some ⟨T,0,none⟩))) (hcl:w.cell? ⟨L,0,none⟩=some (.int .i64 low)) :
  Calls Tryz.prog 114 #[.int .i64 a,.pointer (some ⟨P,0,none⟩),.pointer (some ⟨L,0,none⟩)] w fun e w'=>e = .returned (.int .i64 (timesX p q low a))∧∃n,w'=w.drewN n:=by
 have HT:Hid (Calls Tryz.prog 115 #[.pointer (some ⟨T,0,none⟩),.int .i64 a,.int .i64 low] w fun e w'=>e = .returned (.int .i64 (timesX p q low a))∧∃n,w'=w.drewN n):=
  timesX_any T p q a low f w hp1 hp2 hq0 hq ha hl hsum hneg hr ht
 clear hsum hneg hr ht
 go_enter Tryz.func114,Tryz.ntmps114
 go_wp2_with fail
 refine HT.out.mono ?_
 rintro e w' ⟨rfl,n,rfl⟩
 go_wp2
 go_ret
 exact⟨rfl,n,rfl⟩
set_option maxHeartbeats 2000000 in
set_option maxRecDepth 100000 in
theorem layByModulus_any(T p q low:Nat)(f:Nat→Value)(w:World)(hp1:2≤p)(hp2:p≤64)(hq2:2≤q)(hq:q≤64)
  (hsum:∀a b,a<q→b<q→sumD p q a b<q) (hneg:∀a,a<q→negD p q a<q)
  (hr:RowF T 133 119 f w) (ht:TabS p q f)
  (hlq:low<q) (hlow:Full (timesX p q low) (q-1)) (hleast:∀l,l<low→¬Full (timesX p q l) (q-1)) :
  Calls Tryz.prog 93 #[.pointer (some ⟨T,0,none⟩)] w fun e w'=>e = .returned (.tuple #[])∧∃g,RowF T 133 119 g w'∧(∀o,o<5→o≠3→o≠4→g o=f o)∧g 3 = .int .i64 low∧g 4 = .int .i64 p ∧
   Pows (timesX p q low) (q-1) g∧w.grownBy w' (some T):=by
 have hT:=hr.lt
 have hc0:w.cell? ⟨T,0,none⟩=some (.int .i64 q):=by rw[hr.cell 0 (by omega),ht.c0]
 have hc1:w.cell? ⟨T,1,none⟩=some (.int .i64 p):=by rw[hr.cell 1 (by omega),ht.c1]
 have hc4:w.cell? ⟨T,4,none⟩=some (f 4):=hr.cell 4 (by omega)
 have hfree:∀o,w.frozen? ⟨T,o,none⟩=false:=hr.free
 have HR:Hid (RowF T 133 119 f w∧TabS p q f):=⟨hr,ht⟩
 have HS:Hid ((∀a b,a<q→b<q→sumD p q a b<q)∧(∀a,a<q→negD p q a<q)):=⟨hsum,hneg⟩
 have HN:Hid (Full (timesX p q low) (q-1)∧∀l,l<low→¬Full (timesX p q l) (q-1)):=⟨hlow,hleast⟩
 clear hr ht hlow hleast hsum hneg
 go_enter Tryz.func93,Tryz.ntmps93
 go_wp2
 go_region
 go_wp2
 go_loopg [14] q (fun k i wr=>∃(l:Nat) (f':Nat→Value), k=q-l∧l≤low∧i = .int .i64 l ∧
   wr.heap[w.heap.size]?=some (.cells #[.pointer (some ⟨T,0,none⟩)] 113 (0,0))∧RowF T 133 119 f' wr∧(∀o,o<5→o≠4→f' o=f o)∧f' 4 = .int .i64 p∧w.grownBy wr (some T))
 case atStart=>
  refine⟨0,upd f 4 (.int .i64 p),rfl,by omega,rfl,?_,((HR.out.1.store _ _).alloc _).drew,fun o _ ho4=>upd_ne _ _ _ ho4,upd_at _ _ _,grown_drew (grown_trans (grown_set (grown_refl _ _) _ _) (World.grownBy_alloc _ _ _))⟩
  have:=two_new (w:=w.setCell ⟨T,4,none⟩ (.int .i64 p)) (.cells #[.pointer (some ⟨T,0,none⟩)] 113)
  rw[show(w.setCell ⟨T,4,none⟩ (.int .i64 p)).heap.size=w.heap.size from by simp]at this
  exact this
 case round=>
  clear hc0 hc1 hc4 hfree
  obtain⟨l,f',hk,hll,rfl,hbP,hrow,hsame,hf4,hgrow⟩:=hrel
  have hcP:=cell_of_one hbP
  have hsz:=hgrow.size
  have hPl:=lt_of_block hbP
  have HG:Hid (gk=q-l ∧
   wr.heap[w.heap.size]?=some (.cells #[.pointer (some ⟨T,0,none⟩)] 113 (0,0))∧RowF T 133 119 f' wr∧(∀o,o<5→o≠4→f' o=f o)∧f' 4 = .int .i64 p∧w.grownBy wr (some T)):=⟨hk,hbP,hrow,hsame,hf4,hgrow⟩
  clear hk hbP hrow hsame hgrow hf4
  go_wp2_with fail
  have hnL:=two_new (w:=wr) (.cells #[.int .i64 l] 3)
  refine(layPowers_any T 114 q #[.pointer (some ⟨w.heap.size,0,none⟩),.pointer (some ⟨wr.heap.size,0,none⟩)] (timesX p q l) f' (wr.alloc (.cells #[.int .i64 l] 3)) hq2 hq (fun a ha=>timesX_lt HS.out.1 HS.out.2 (by omega) (by omega)) run113 (HG.out.2.2.1.alloc _) (by rw[HG.out.2.2.2.1 0 (by omega) (by omega),HR.out.2.c0]) ?_).mono ?_
  ·intro a g1 w1 ha hrow1 hsame1 hgrow1
   have e1:w1.heap[wr.heap.size]?=some (.cells #[.int .i64 l] 3 (0,0)):=(hgrow1.block wr.heap.size (by simp) (by simp;omega)).trans hnL
   have e2:w1.heap[w.heap.size]?=wr.heap[w.heap.size]?:=(hgrow1.block _ (by simp;omega) (by simp;omega)).trans (Below.heap_alloc _ _ _ hPl)
   exact byModulus_step T w.heap.size wr.heap.size a l p q g1 w1 hp1 hp2 (by omega) hq ha (by omega) HS.out.1 HS.out.2 hrow1 (HR.out.2.congr (fun o ho h2 h3 h4=>(hsame1 o ho).trans (HG.out.2.2.2.1 o ho h4))) (cell_of_one (e2.trans HG.out.2.1)) (cell_of_one e1)
  ·rintro e w' ⟨f2,hrow2,hsame2,hgrow2,hres⟩
   have e1:w'.heap[wr.heap.size]?=some (.cells #[.int .i64 l] 3 (0,0)):=(hgrow2.block wr.heap.size (by simp) (by simp;omega)).trans hnL
   have e2:w'.heap[w.heap.size]?=wr.heap[w.heap.size]?:=(hgrow2.block _ (by simp;omega) (by simp;omega)).trans (Below.heap_alloc _ _ _ hPl)
   have hbP:=e2.trans HG.out.2.1
   have hgrow3:w.grownBy w' (some T):=grown_trans (grown_trans HG.out.2.2.2.2.2 (World.grownBy_alloc _ _ _)) hgrow2
   have hcL':=cell_of_one e1
   have hcP':=cell_of_one hbP
   have hfree:=hrow2.free
   have hc3:=hrow2.cell 3 (by omega)
   clear hcP e1 e2 hnL
   by_cases hgq':l=low
   ·rcases hres with⟨hfull,hpows,rfl⟩|⟨hn,rfl⟩
    ·have HH:Hid (RowF T 133 119 f2 w'∧(∀o,o<5→f2 o=f' o)∧Pows (timesX p q l) (q-1) f2∧w.grownBy w' (some T)∧l=low):=⟨hrow2,hsame2,hpows,hgrow3,hgq'⟩
     clear hrow2 hsame2 hgrow2 hfull hpows hgrow3 hbP hgq'
     go_wp2
     refine bodyPost_ret (results_none rfl _ _ _) rfl ?_
     exact⟨rfl,_,HH.out.1.store _ _,fun o ho ho3 ho4=>(upd_ne _ _ _ ho3).trans ((HH.out.2.1 o ho).trans (HG.out.2.2.2.1 o ho ho4)),by rw[upd_at,HH.out.2.2.2.2],(upd_ne _ _ _ (by omega)).trans ((HH.out.2.1 4 (by omega)).trans HG.out.2.2.2.2.1),HH.out.2.2.2.2▸HH.out.2.2.1.congr (fun o ho=>upd_ne _ _ _ (by omega)),grown_set HH.out.2.2.2.1 _ _⟩
    ·exact absurd (hgq'▸HN.out.1) hn
   ·rcases hres with⟨hfull,hpows,rfl⟩|⟨hn,rfl⟩
    ·exact absurd hfull (HN.out.2 l (by omega))
    ·have HH:Hid (RowF T 133 119 f2 w'∧(∀o,o<5→f2 o=f' o)∧w.grownBy w' (some T)∧w'.heap[w.heap.size]?=some (.cells #[.pointer (some ⟨T,0,none⟩)] 113 (0,0))):=⟨hrow2,hsame2,hgrow3,hbP⟩
     clear hrow2 hsame2 hgrow2 hn hgrow3 hbP
     go_wp2
     go_roundg (q-(l+1))
     case measure=>rw[HG.out.1];omega
     case rel=>exact⟨l+1,f2,rfl,by omega,by go_num,HH.out.2.2.2,HH.out.1,fun o ho ho4=>(HH.out.2.1 o ho).trans (HG.out.2.2.2.1 o ho ho4),(HH.out.2.1 4 (by omega)).trans HG.out.2.2.2.2.1,HH.out.2.2.1⟩
set_option maxHeartbeats 1000000 in
theorem primePower_any(q:Nat)(w:World)(h2:2≤q)(h64:q≤64) :
  Calls Tryz.prog 91 #[.int .i64 q] w fun e w'=>e = .returned (.tuple #[.int .i64 (pp q).1,.int .i64 (pp q).2])∧w'=w:=by
 go_enter Tryz.func91,Tryz.ntmps91
 go_wp2
 go_loop [2] (fun p=>∃k:Nat,2≤k∧k≤q∧p = .int .i64 k∧Hid (∀r<k,2≤r→¬q % r=0)) (fun p=>q-(intOf p).toNat)
 case atStart=>exact⟨2,by omega,h2,rfl,fun r h h'=>by omega⟩
 case round=>
  obtain⟨k,hk,hkq,rfl,HN⟩:=hrel
  by_cases hd:q % k=0
  ·have hz:((q:Int) % (k:Int) != 0)=false:=by simp;exact_mod_cast hd
   have HD:Hid (q % k=0):=hd
   clear hd
   go_wp2
   go_loop [0,3] (fun a m=>∃j x:Nat,j≤6∧1≤x∧x≤64∧a = .int .i64 x∧m = .int .i64 j∧Hid (q % k ^ j=0∧x=q / k ^ j)) (fun a _=>(intOf a).toNat)
   case atStart=>exact⟨0,q,by omega,by omega,by omega,rfl,rfl,by simp[Hid,Nat.mod_one]⟩
   case round=>
    obtain⟨j,x,hj,hx1,hx,rfl,rfl,HX⟩:=hrel
    by_cases hd:x % k=0
    ·have hz:((x:Int) % (k:Int) == 0)=true:=by simp;exact_mod_cast hd
     have HE:Hid (x % k=0):=hd
     clear hd
     have hq1:1≤x / k:=Nat.div_pos (Nat.le_of_dvd (by omega) (Nat.dvd_of_mod_eq_zero HE.out)) (by omega)
     have hq2:x / k<x:=Nat.div_lt_self (by omega) (by omega)
     have hj6:j+1<7:=pow_le_of_dvd q k (j+1) (by omega) h2 hk (cut_step q k j HX.out.1 (by rw[←HX.out.2];exact HE.out))
     go_wp2
     go_round
     case rel=>exact⟨j+1,x / k,by omega,hq1,by omega,rfl,by go_num,cut_step q k j HX.out.1 (by rw[←HX.out.2];exact HE.out),by rw[HX.out.2,Nat.div_div_eq_div_mul,Nat.pow_succ]⟩
     case measure=>
      show(((x / k:Nat):Int)).toNat<((x:Nat):Int).toNat
      rw[Int.toNat_natCast,Int.toNat_natCast];exact hq2
    ·have hz:((x:Int) % (k:Int) == 0)=false:=by rw[beq_eq_false_iff_ne];exact_mod_cast hd
     have HE:Hid (¬x % k=0):=hd
     clear hd
     have HP:Hid ((x=1→pp q=(k,j))∧(x≠1→pp q=(0,0))):=prime_end q k j (by omega) h2 (by omega) hk HD.out HN.out HX.out.1 (by rw[←HX.out.2];exact HE.out) x HX.out.2
     by_cases h1:x=1
     ·have hb:((x:Int) != 1)=false:=by rw[h1];rfl
      have HV:Hid (pp q=(k,j)):=HP.out.1 h1
      clear h1
      go_wp2
      go_ret2
      exact⟨ret_int2 (by rw[HV.out]) (by rw[HV.out]),rfl⟩
     ·have hb:((x:Int) != 1)=true:=by rw[bne_iff_ne];exact_mod_cast h1
      have HV:Hid (pp q=(0,0)):=HP.out.2 h1
      clear h1
      go_wp2
      go_ret2
      exact⟨ret_int2 (by rw[HV.out];rfl) (by rw[HV.out];rfl),rfl⟩
  ·have hz:((q:Int) % (k:Int) != 0)=true:=by rw[bne_iff_ne];exact_mod_cast hd
   have HD:Hid (¬q % k=0):=hd
   clear hd
   have hne:k≠q:=by intro e;subst e;exact HD.out (Nat.mod_self _)
   go_wp2
   go_round
   case rel=>exact⟨k+1,by omega,by omega,by go_num,fun r h h'=>if e:r=k then e▸HD.out else HN.out r (by omega) h'⟩
   case measure=>simp[intOf];omega
set_option maxRecDepth 1000000 in
theorem zero_size:Tryz.zeroCells119.size=133:=by kernel_rfl
theorem zero_three:Tryz.zeroCells119[3]?=some (.int .i64 0):=by kernel_rfl
theorem row_new(q p m:Nat)(w:World):∃f:Nat→Value, RowF w.heap.size 133 119 f (w.alloc (.cells (((Tryz.zeroCells119.setIfInBounds 0 (.int .i64 q)).setIfInBounds 1 (.int .i64 p)).setIfInBounds 2 (.int .i64 m)) 119))∧
  f 0 = .int .i64 q∧f 1 = .int .i64 p∧f 2 = .int .i64 m∧f 3 = .int .i64 0:=by
 have hs:=zero_size
 have h3:=zero_three
 generalize Tryz.zeroCells119=c at *
 refine⟨fun o=>((((c.setIfInBounds 0 (.int .i64 q)).setIfInBounds 1 (.int .i64 p)).setIfInBounds 2 (.int .i64 m))[o]?).getD (.int .i64 0),⟨_,two_new _,by simpa using hs,?_⟩,?_,?_,?_,?_⟩
 ·intro o ho
  show _=some (Option.getD _ _)
  rw[Array.getElem?_eq_getElem (by simpa [hs]using ho)];rfl
 ·simp[hs]
 ·simp[hs]
 ·simp[hs]
 ·show Option.getD _ _=_
  rw[Array.getElem?_setIfInBounds_ne (by omega),Array.getElem?_setIfInBounds_ne (by omega),Array.getElem?_setIfInBounds_ne (by omega),h3];rfl
structure Good(q p m:Nat):Prop where
 pp:pp q=(p,m)
 p2:2≤p
 p64:p≤64
 m1:1≤m
 q2:2≤q
 q64:q≤64
 sums:SumsOk p q
 neg:∀a,a<q→negD p q a<q
 opp:∀a,a<q→sumD p q a (negD p q a)=0
 two:Two p q
structure Tab(q p m low gen:Nat)(st:Nat→Nat)(g:Nat→Value):Prop where
 sum:TabS p q g
 c2:g 2 = .int .i64 m
 c3:g 3 = .int .i64 low
 c4:g 4 = .int .i64 gen
 pows:Pows st (q-1) g
set_option maxHeartbeats 2000000 in
set_option maxRecDepth 100000 in
theorem build_prime (q gen : Nat) (w : World) (hG : Good q q 1)
   (hg1:1≤gen) (hgq:gen<q) (hgen:Full (fun a=>a*gen % q) (q-1)) (hleast:∀g,1≤g→g<gen→¬Full (fun a=>a*g % q) (q-1)) :
   Calls Tryz.prog 64 #[.int .i64 q] w fun e w'=>e = .returned (.pointer (some ⟨w.heap.size,0,none⟩))∧∃g,RowF w.heap.size 133 119 g w'∧Tab q q 1 0 gen (fun a=>a*gen % q) g∧Below w.heap.size w w':=by
 have HG:Hid (Good q q 1):=hG
 have HN:Hid (Full (fun a=>a*gen % q) (q-1)∧∀g,1≤g→g<gen→¬Full (fun a=>a*g % q) (q-1)):=⟨hgen,hleast⟩
 clear hG hgen hleast
 go_enter Tryz.func64,Tryz.ntmps64
 go_wp2_with fail
 refine(primePower_any q w HG.out.q2 HG.out.q64).mono ?_
 rintro e w' ⟨rfl,rfl⟩
 rw[HG.out.pp]
 go_wp2_with fail
 obtain⟨f,hrow,h0,h1,h2,h3⟩:=row_new q q 1 w'
 refine(layByNumber_any w'.heap.size q gen f _ HG.out.q2 HG.out.q64 hrow h0 h1 hg1 hgq HN.out.1 HN.out.2).mono ?_
 rintro e w2 ⟨rfl,g2,hrow2,hsame2,hg4,hpows2,hgrow2⟩
 have H2:Hid (RowF w'.heap.size 133 119 g2 w2∧Tab q q 1 0 gen (fun a=>a*gen % q) g2∧Below w'.heap.size w' w2):=
   ⟨hrow2,⟨⟨(hsame2 0 (by omega) (by omega)).trans h0,(hsame2 1 (by omega) (by omega)).trans h1,HG.out.two⟩,(hsame2 2 (by omega) (by omega)).trans h2,(hsame2 3 (by omega) (by omega)).trans h3,hg4,hpows2⟩,
    ((Below.refl _ _).alloc (Nat.le_refl _) _).grown hgrow2 (by simp) (by intro k hk;simp at hk;omega)⟩
 clear hrow2 hsame2 hg4 hpows2 hgrow2 h0 h1 h2 h3 hrow
 go_wp2
 go_ret
 exact⟨rfl,g2,H2.out.1,H2.out.2.1,H2.out.2.2⟩
set_option maxHeartbeats 2000000 in
set_option maxRecDepth 100000 in
theorem build_power (q p m low : Nat) (w : World) (hG : Good q p m) (hm : 2 ≤ m) (hm6 : m ≤ 6)
   (hlq:low<q) (hlow:Full (timesX p q low) (q-1)) (hleast:∀l,l<low→¬Full (timesX p q l) (q-1)) :
   Calls Tryz.prog 64 #[.int .i64 q] w fun e w'=>e = .returned (.pointer (some ⟨w.heap.size,0,none⟩))∧∃g,RowF w.heap.size 133 119 g w'∧Tab q p m low p (timesX p q low) g∧Below w.heap.size w w':=by
 have HG:Hid (Good q p m):=hG
 have HN:Hid (Full (timesX p q low) (q-1)∧∀l,l<low→¬Full (timesX p q l) (q-1)):=⟨hlow,hleast⟩
 clear hG hlow hleast
 go_enter Tryz.func64,Tryz.ntmps64
 go_wp2_with fail
 refine(primePower_any q w HG.out.q2 HG.out.q64).mono ?_
 rintro e w' ⟨rfl,rfl⟩
 rw[HG.out.pp]
 have hm0:((m:Int) == 0)=false:=by rw[beq_eq_false_iff_ne];omega
 have hm1:((m:Int) == 1)=false:=by rw[beq_eq_false_iff_ne];omega
 go_wp2_with fail
 obtain⟨f,hrow,h0,h1,h2,h3⟩:=row_new q p m w'
 have ht:TabS p q f:=⟨h0,h1,HG.out.two⟩
 refine(layByModulus_any w'.heap.size p q low f _ HG.out.p2 HG.out.p64 HG.out.q2 HG.out.q64 HG.out.sums.1 HG.out.neg hrow ht hlq HN.out.1 HN.out.2).mono ?_
 rintro e w2 ⟨rfl,g2,hrow2,hsame2,hg3,hg4,hpows2,hgrow2⟩
 have H2:Hid (RowF w'.heap.size 133 119 g2 w2∧Tab q p m low p (timesX p q low) g2∧Below w'.heap.size w' w2):=
   ⟨hrow2,⟨ht.congr (fun o ho _ h3 h4=>hsame2 o ho h3 h4),(hsame2 2 (by omega) (by omega) (by omega)).trans h2,hg3,hg4,hpows2⟩,
    ((Below.refl _ _).alloc (Nat.le_refl _) _).grown hgrow2 (by simp) (by intro k hk;simp at hk;omega)⟩
 clear hrow2 hsame2 hg3 hg4 hpows2 hgrow2 ht h0 h1 h2 h3 hrow
 go_wp2
 go_ret
 exact⟨rfl,g2,H2.out.1,H2.out.2.1,H2.out.2.2⟩
end
end Go.Proofs.YtedifobeggabnaaGreat
