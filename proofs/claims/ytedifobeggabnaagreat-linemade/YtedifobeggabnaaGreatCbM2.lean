/- Texts of ours, one behind the other: M2. -/
import Derived.Test.YtedifobeggabnaaGreatCbM1
namespace Go.Proofs.YtedifobeggabnaaGreat
structure FD where
 q:Nat
 p:Nat
 m:Nat
 low:Nat
 gen:Nat
def FD.st(a:FD)(b:Nat):Nat:=if a.m=1 then b*a.gen % a.q else fQ a.p a.q a.low b
def ak:List FD:=[⟨2,2,1,0,1⟩,⟨3,3,1,0,2⟩,⟨4,2,2,3,2⟩,⟨5,5,1,0,2⟩,⟨7,7,1,0,3⟩,⟨8,2,3,3,2⟩,⟨9,3,2,5,3⟩,⟨11,11,1,0,2⟩,⟨13,13,1,0,2⟩,
 ⟨16,2,4,3,2⟩,⟨17,17,1,0,3⟩,⟨19,19,1,0,2⟩,⟨23,23,1,0,5⟩,⟨25,5,2,7,5⟩,⟨27,3,3,7,3⟩,⟨29,29,1,0,2⟩,⟨31,31,1,0,3⟩,⟨32,2,5,5,2⟩,⟨37,37,1,0,2⟩,
 ⟨41,41,1,0,6⟩,⟨43,43,1,0,3⟩,⟨47,47,1,0,5⟩,⟨49,7,2,10,7⟩,⟨53,53,1,0,2⟩,⟨59,59,1,0,2⟩,⟨61,61,1,0,2⟩,⟨64,2,6,3,2⟩]
def oD(a:Nat->Nat):Nat->Nat->List Nat
 |0,_=>[]
 |k+1,b=>b::oD a k (a b)
def xi:List Nat->Bool
 |[]=>true
 |a::b => !b.contains a && xi b
def oN(a:Nat->Nat)(b:Nat):Bool:= !(oD a b 1).contains 0 && xi (oD a b 1)
def nC(a:Nat)(b:Nat->Bool):Bool:=(List.range a).all b
theorem dJ{c:Nat}{d:Nat->Bool}(a:nC c d=true)(b:Nat)(e:b<c):d b=true:=by
 unfold nC at a;rw[aM]at a;exact a b (bj.2 e)
def SE(a:FD):Bool:=nC a.q λb=>nC a.q λc=>decide (dz a.p a.q b c<a.q) && nC a.m λd=>dz a.p a.q b c / a.p ^ d % a.p==(b / a.p ^ d+c / a.p ^ d) % a.p
def SD(a:FD):Bool:=nC a.q λb=>decide (jC a.p a.q b<a.q) && dz a.p a.q b (jC a.p a.q b)==0 && dz a.p a.q b 0==b
def Lm(a:FD):Bool:=oN a.st (a.q-1) && (oD a.st (a.q-1) 1).all (λb=>decide (b<a.q)) && again a.st (a.q-1) 1==1 && nC a.q λb=>b==0 || (oD a.st (a.q-1) 1).contains b
def Li(a:FD):Bool:=a.st 0==0 && nC a.q λb=>decide (a.st b<a.q) && nC a.q λc=>a.st (dz a.p a.q b c)==dz a.p a.q (a.st b) (a.st c)
def Cb(a:FD):Bool:=if a.m=1 then a.p==a.q && decide (1<=a.gen) && decide (a.gen<a.q) && (a.low==0) && nC a.gen λb=>b==0 || !oN (λc=>c*b % a.q) (a.q-1)
 else(a.gen==a.p) && decide (a.low<a.q) && nC a.low λb => !oN (fQ a.p a.q b) (a.q-1)
def Ll(a:FD):Bool:=decide (2<=a.p) && decide (a.p<=64) && decide (1<=a.m) && decide (a.m<=6) && decide (2<=a.q) && decide (a.q<=64) && a.q==a.p ^ a.m
def Ln(a:FD):Bool:= !(a.p==2) || nC a.q λb=>jC a.p a.q b==b && nC a.q λc=>dz a.p a.q b c==b ^^^ c
theorem ER:ak.all Ln=true:=x6
theorem EP:ak.all SE=true:=x6
theorem EM:ak.all SD=true:=x6
theorem EO:ak.all Lm=true:=x6
theorem EJ:ak.all Li=true:=x6
theorem Ao:ak.all Cb=true:=x6
theorem EN:ak.all Ll=true:=x6
