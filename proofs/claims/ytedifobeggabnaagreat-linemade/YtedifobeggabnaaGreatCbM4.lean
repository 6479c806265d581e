/- Texts of ours, one behind the other: M4. -/
import Derived.Test.YtedifobeggabnaaGreatCbM3
namespace Go.Proofs.YtedifobeggabnaaGreat
def rV(a b j:Nat):Nat:=b / a ^ j % a
def jo(a b:Nat):Nat:=a / 64 ^ b % 64
def uQ(b a c:Nat):Nat:=b-jo b a*64 ^ a+c*64 ^ a
def pU(a b c:Nat):Nat->Nat
 |0=>0
 |k+1=>pU a b c k*a+jo b (c-1-k)
def Ar(a c d b e:Nat):Nat->Nat
 |0=>e
 |k+1=>uQ (Ar a c d b e k) (b+k) ((jo (Ar a c d b e k) (b+k)+rV a c b*rV a d k) % a)
def og(a b c d:Nat):Nat->Nat
 |0=>0
 |i+1=>Ar a c d i (og a b c d i) b
def Dz(b c:Nat)(d:Nat->Nat)(a e:Nat):Nat->Nat
 |0=>e
 |k+1=>uQ (Dz b c d a e k) (a-c+k) ((jo (Dz b c d a e k) (a-c+k)+jo (Dz b c d a e k) a*(b-d k)) % b)
def tP(b a:Nat)(c:Nat->Nat)(d:Nat):Nat->Nat
 |0=>d
 |j+1=>uQ (Dz b a c (2*a-1-j) (tP b a c d j) a) (2*a-1-j) 0
def gL(b a:Nat)(e:Nat->Nat)(c d:Nat):Nat:=if a=1 then c*d % b else pU b (tP b a e (og b a c d a) a) a a
def FD.md(a:FD)(j:Nat):Nat:=rV a.p a.low j
