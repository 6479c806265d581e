/- Texts of ours, one behind the other: M5. -/
import Derived.Test.YtedifobeggabnaaGreatCbM4
namespace Go.Proofs.YtedifobeggabnaaGreat
theorem rZ(a b:Nat):jo a b<64:=bZ _ x5
theorem Q6(b a:Nat):∃d c,c<64 ^ a∧b=(d*64+jo b a)*64 ^ a+c:=by
 have c:0<64 ^ a:=Pc x5;refine⟨b / 64 ^ a / 64,b % 64 ^ a,bZ _ c,?_⟩;unfold jo;rw[Nat.div_add_mod' (b / 64 ^ a) 64,Nat.div_add_mod' b (64 ^ a)]
theorem IY(d b c a:Nat)(f:b<64)(e:c<64 ^ a):jo ((d*64+b)*64 ^ a+c) a=b:=by
 have b:0<64 ^ a:=Pc x5;unfold jo;rw[ln,yS _ _ b,Nat.div_eq_of_lt e,aW];omega
theorem wy(b c d a j:Nat)(f:c<64)(e:d<64 ^ a)(g:a<j):jo ((b*64+c)*64 ^ a+d) j=b / 64 ^ (j-a-1) % 64:=by
 have d:0<64 ^ a:=Pc x5;unfold jo
 have f:64 ^ j=64 ^ a*64*64 ^ (j-a-1):=by
  rw[<-iK, <-Nat.pow_add];congr 1;omega
 rw[f, <-jM, <-jM,ln,yS _ _ d,Nat.div_eq_of_lt e,aW];have:(b*64+c) / 64=b:=E;rw[this]
theorem wN(c b a j:Nat)(d:j<a):jo (c*64 ^ a+b) j=b / 64 ^ j % 64:=by
 have b:0<64 ^ j:=Pc x5;unfold jo
 have c:64 ^ a=64 ^ (a-j-1)*64*64 ^ j:=by
  rw[<-iK, <-Nat.pow_add];congr 1;omega
 rw[c, <-Nat.mul_assoc, <-Nat.mul_assoc,ln,yS _ _ b,Nat.add_mul_mod_self_right]
theorem Q3(b a c:Nat)(e f:Nat)(g:b=(e*64+jo b a)*64 ^ a+f):uQ b a c=(e*64+c)*64 ^ a+f:=by
 unfold uQ;rw[Pb]at g;rw[Pb];generalize jo b a*64 ^ a=d at *;generalize c*64 ^ a=h at *;omega
theorem IZ(d a b j:Nat)(h:b<64):jo (uQ d a b) j=if j=a then b else jo d j:=by
 obtain⟨e,c,f,g⟩:=Q6 d a;rw[Q3 d a b e c g];by_cases i:j=a
 ·subst i;rw[ai X,IY e b c j h f]
 ·rw[af i];by_cases d:a<j
  ·rw[wy e b c a j h f d]
   conv=>rhs;rw[g]
   rw[wy e _ c a j (rZ _ _) f d]
  ·rw[wN _ c a j E]
   conv=>rhs;rw[g]
   rw[wN _ c a j E]
theorem I0(j:Nat):jo 0 j=0:=by simp[jo]
