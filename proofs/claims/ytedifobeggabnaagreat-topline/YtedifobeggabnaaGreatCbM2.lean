/- Texts of ours, one behind the other: M2. -/
import Derived.Test.YtedifobeggabnaaGreatCbM1
namespace Go.Proofs.YtedifobeggabnaaGreat
structure FD where
 q:Nat
 p:Nat
 m:Nat
 low:Nat
 gen:Nat
def FD.st(D:FD)(a:Nat):Nat:=if D.m=1 then a*D.gen % D.q else timesX D.p D.q D.low a
def fieldsL:List FD:=[⟨2,2,1,0,1⟩,⟨3,3,1,0,2⟩,⟨4,2,2,3,2⟩,⟨5,5,1,0,2⟩,⟨7,7,1,0,3⟩,⟨8,2,3,3,2⟩,⟨9,3,2,5,3⟩,⟨11,11,1,0,2⟩,⟨13,13,1,0,2⟩,
 ⟨16,2,4,3,2⟩,⟨17,17,1,0,3⟩,⟨19,19,1,0,2⟩,⟨23,23,1,0,5⟩,⟨25,5,2,7,5⟩,⟨27,3,3,7,3⟩,⟨29,29,1,0,2⟩,⟨31,31,1,0,3⟩,⟨32,2,5,5,2⟩,⟨37,37,1,0,2⟩,
 ⟨41,41,1,0,6⟩,⟨43,43,1,0,3⟩,⟨47,47,1,0,5⟩,⟨49,7,2,10,7⟩,⟨53,53,1,0,2⟩,⟨59,59,1,0,2⟩,⟨61,61,1,0,2⟩,⟨64,2,6,3,2⟩]
def powL(st:Nat→Nat):Nat→Nat→List Nat
 | 0,_=>[]
 |k+1,a=>a::powL st k (st a)
def nodupB:List Nat→Bool
 |[]=>true
 |a::l => !l.contains a && nodupB l
def fullB(st:Nat→Nat)(n:Nat):Bool := !(powL st n 1).contains 0 && nodupB (powL st n 1)
def allB(n:Nat)(f:Nat→Bool):Bool:=(List.range n).all f
theorem allB_of {n:Nat}{f:Nat→Bool}(h:allB n f=true)(k:Nat)(hk:k<n):f k=true:=by
 unfold allB at h;rw[List.all_eq_true]at h;exact h k (List.mem_range.2 hk)
def chkSum(D:FD):Bool:=allB D.q fun a=>allB D.q fun b=>decide (sumD D.p D.q a b<D.q) && allB D.m fun i=>sumD D.p D.q a b / D.p ^ i % D.p == (a / D.p ^ i+b / D.p ^ i) % D.p
def chkNeg(D:FD):Bool:=allB D.q fun a=>decide (negD D.p D.q a<D.q) && sumD D.p D.q a (negD D.p D.q a) == 0 && sumD D.p D.q a 0 == a
def chkPow(D:FD):Bool:=fullB D.st (D.q-1) && (powL D.st (D.q-1) 1).all (fun a=>decide (a<D.q)) && again D.st (D.q-1) 1 == 1 && allB D.q fun a=>a == 0 || (powL D.st (D.q-1) 1).contains a
def chkAdd(D:FD):Bool:=D.st 0 == 0 && allB D.q fun a=>decide (D.st a<D.q) && allB D.q fun b=>D.st (sumD D.p D.q a b) == sumD D.p D.q (D.st a) (D.st b)
def chkLeast(D:FD):Bool:=if D.m=1 then D.p == D.q && decide (1≤D.gen) && decide (D.gen<D.q) && (D.low == 0) && allB D.gen fun g=>g == 0 || !fullB (fun a=>a*g % D.q) (D.q-1)
 else(D.gen == D.p) && decide (D.low<D.q) && allB D.low fun l => !fullB (timesX D.p D.q l) (D.q-1)
def chkNum(D:FD):Bool:=decide (2≤D.p) && decide (D.p≤64) && decide (1≤D.m) && decide (D.m≤6) && decide (2≤D.q) && decide (D.q≤64) && D.q == D.p ^ D.m
def chkTwo(D:FD):Bool := !(D.p == 2) || allB D.q fun a=>negD D.p D.q a == a && allB D.q fun b=>sumD D.p D.q a b == a ^^^ b
theorem chkTwo_all:fieldsL.all chkTwo=true:=by decide +kernel
theorem chkSum_all:fieldsL.all chkSum=true:=by decide +kernel
theorem chkNeg_all:fieldsL.all chkNeg=true:=by decide +kernel
theorem chkPow_all:fieldsL.all chkPow=true:=by decide +kernel
theorem chkAdd_all:fieldsL.all chkAdd=true:=by decide +kernel
theorem chkLeast_all:fieldsL.all chkLeast=true:=by decide +kernel
theorem chkNum_all:fieldsL.all chkNum=true:=by decide +kernel
end Go.Proofs.YtedifobeggabnaaGreat
