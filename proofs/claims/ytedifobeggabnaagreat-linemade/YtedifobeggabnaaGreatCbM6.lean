/- Texts of ours, one behind the other: M6. -/
import Derived.Test.YtedifobeggabnaaGreatCbM5
namespace Go.Proofs.YtedifobeggabnaaGreat
variable {a:FD}
def de(a:FD)(b:Nat):Bool:=gL a.p a.m a.md 1 b==b && nC a.q λc=>gL a.p a.m a.md (a.st c) b==a.st (gL a.p a.m a.md c b)
def bH(a:FD)(b c:Nat):Bool:=nC c λd=>de a (b+d)
theorem aS{b d:Nat}(e:bH a b d=true)(c:Nat)(f:b<=c)(g:c<b+d):de a c=true:=by
 have:=dJ e (c-b) E;rw[show b+(c-b)=c from E]at this;exact this
theorem Qo:bH ⟨2,2,1,0,1⟩ 0 2=true:=x6
theorem Mx(a:Nat)(b:a<2):de ⟨2,2,1,0,1⟩ a=true:=by
 exact aS Qo a E E
theorem Qp:bH ⟨3,3,1,0,2⟩ 0 3=true:=x6
theorem My(a:Nat)(b:a<3):de ⟨3,3,1,0,2⟩ a=true:=by
 exact aS Qp a E E
theorem Qq:bH ⟨4,2,2,3,2⟩ 0 4=true:=x6
theorem Mz(a:Nat)(b:a<4):de ⟨4,2,2,3,2⟩ a=true:=by
 exact aS Qq a E E
theorem Qr:bH ⟨5,5,1,0,2⟩ 0 5=true:=x6
theorem MA(a:Nat)(b:a<5):de ⟨5,5,1,0,2⟩ a=true:=by
 exact aS Qr a E E
theorem Qs:bH ⟨7,7,1,0,3⟩ 0 7=true:=x6
theorem MB(a:Nat)(b:a<7):de ⟨7,7,1,0,3⟩ a=true:=by
 exact aS Qs a E E
theorem Qt:bH ⟨8,2,3,3,2⟩ 0 8=true:=x6
theorem MC(a:Nat)(b:a<8):de ⟨8,2,3,3,2⟩ a=true:=by
 exact aS Qt a E E
theorem Qu:bH ⟨9,3,2,5,3⟩ 0 9=true:=x6
theorem ME(a:Nat)(b:a<9):de ⟨9,3,2,5,3⟩ a=true:=by
 exact aS Qu a E E
theorem MF:bH ⟨11,11,1,0,2⟩ 0 11=true:=x6
theorem Jg(a:Nat)(b:a<11):de ⟨11,11,1,0,2⟩ a=true:=by
 exact aS MF a E E
theorem MG:bH ⟨13,13,1,0,2⟩ 0 13=true:=x6
theorem Jh(a:Nat)(b:a<13):de ⟨13,13,1,0,2⟩ a=true:=by
 exact aS MG a E E
theorem MH:bH ⟨16,2,4,3,2⟩ 0 16=true:=x6
theorem Ji(a:Nat)(b:a<16):de ⟨16,2,4,3,2⟩ a=true:=by
 exact aS MH a E E
theorem MI:bH ⟨17,17,1,0,3⟩ 0 17=true:=x6
theorem Jj(a:Nat)(b:a<17):de ⟨17,17,1,0,3⟩ a=true:=by
 exact aS MI a E E
theorem MJ:bH ⟨19,19,1,0,2⟩ 0 19=true:=x6
theorem Jk(a:Nat)(b:a<19):de ⟨19,19,1,0,2⟩ a=true:=by
 exact aS MJ a E E
theorem MK:bH ⟨23,23,1,0,5⟩ 0 23=true:=x6
theorem Jl(a:Nat)(b:a<23):de ⟨23,23,1,0,5⟩ a=true:=by
 exact aS MK a E E
theorem ML:bH ⟨25,5,2,7,5⟩ 0 25=true:=x6
theorem Jm(a:Nat)(b:a<25):de ⟨25,5,2,7,5⟩ a=true:=by
 exact aS ML a E E
theorem MM:bH ⟨27,3,3,7,3⟩ 0 27=true:=x6
theorem Jn(a:Nat)(b:a<27):de ⟨27,3,3,7,3⟩ a=true:=by
 exact aS MM a E E
theorem MN:bH ⟨29,29,1,0,2⟩ 0 29=true:=x6
theorem Jo(a:Nat)(b:a<29):de ⟨29,29,1,0,2⟩ a=true:=by
 exact aS MN a E E
theorem MO:bH ⟨31,31,1,0,3⟩ 0 31=true:=x6
theorem Jp(a:Nat)(b:a<31):de ⟨31,31,1,0,3⟩ a=true:=by
 exact aS MO a E E
theorem MP:bH ⟨32,2,5,5,2⟩ 0 8=true:=x6
theorem MQ:bH ⟨32,2,5,5,2⟩ 8 8=true:=x6
theorem JA:bH ⟨32,2,5,5,2⟩ 16 8=true:=x6
theorem JB:bH ⟨32,2,5,5,2⟩ 24 8=true:=x6
theorem Jq(a:Nat)(b:a<32):de ⟨32,2,5,5,2⟩ a=true:=by
 rcases aR a 8 with b|b
 ·exact aS MP a E E
 rcases aR a 16 with b|b
 ·exact aS MQ a E E
 rcases aR a 24 with b|b
 ·exact aS JA a E E
 exact aS JB a E E
theorem MR:bH ⟨37,37,1,0,2⟩ 0 37=true:=x6
theorem Jr(a:Nat)(b:a<37):de ⟨37,37,1,0,2⟩ a=true:=by
 exact aS MR a E E
theorem MS:bH ⟨41,41,1,0,6⟩ 0 41=true:=x6
theorem Js(a:Nat)(b:a<41):de ⟨41,41,1,0,6⟩ a=true:=by
 exact aS MS a E E
theorem MT:bH ⟨43,43,1,0,3⟩ 0 43=true:=x6
theorem Jt(a:Nat)(b:a<43):de ⟨43,43,1,0,3⟩ a=true:=by
 exact aS MT a E E
theorem MU:bH ⟨47,47,1,0,5⟩ 0 47=true:=x6
theorem Ju(a:Nat)(b:a<47):de ⟨47,47,1,0,5⟩ a=true:=by
 exact aS MU a E E
theorem MV:bH ⟨49,7,2,10,7⟩ 0 25=true:=x6
theorem JC:bH ⟨49,7,2,10,7⟩ 25 24=true:=x6
theorem Jv(a:Nat)(b:a<49):de ⟨49,7,2,10,7⟩ a=true:=by
 rcases aR a 25 with b|b
 ·exact aS MV a E E
 exact aS JC a E E
theorem MW:bH ⟨53,53,1,0,2⟩ 0 53=true:=x6
theorem Jw(a:Nat)(b:a<53):de ⟨53,53,1,0,2⟩ a=true:=by
 exact aS MW a E E
theorem MX:bH ⟨59,59,1,0,2⟩ 0 59=true:=x6
theorem Jx(a:Nat)(b:a<59):de ⟨59,59,1,0,2⟩ a=true:=by
 exact aS MX a E E
theorem MY:bH ⟨61,61,1,0,2⟩ 0 61=true:=x6
theorem Jy(a:Nat)(b:a<61):de ⟨61,61,1,0,2⟩ a=true:=by
 exact aS MY a E E
theorem MZ:bH ⟨64,2,6,3,2⟩ 0 4=true:=x6
theorem M0:bH ⟨64,2,6,3,2⟩ 4 4=true:=x6
theorem M1:bH ⟨64,2,6,3,2⟩ 8 4=true:=x6
theorem JD:bH ⟨64,2,6,3,2⟩ 12 4=true:=x6
theorem JE:bH ⟨64,2,6,3,2⟩ 16 4=true:=x6
theorem JF:bH ⟨64,2,6,3,2⟩ 20 4=true:=x6
theorem JG:bH ⟨64,2,6,3,2⟩ 24 4=true:=x6
theorem JH:bH ⟨64,2,6,3,2⟩ 28 4=true:=x6
theorem JI:bH ⟨64,2,6,3,2⟩ 32 4=true:=x6
theorem JJ:bH ⟨64,2,6,3,2⟩ 36 4=true:=x6
theorem JK:bH ⟨64,2,6,3,2⟩ 40 4=true:=x6
theorem JL:bH ⟨64,2,6,3,2⟩ 44 4=true:=x6
theorem JM:bH ⟨64,2,6,3,2⟩ 48 4=true:=x6
theorem JN:bH ⟨64,2,6,3,2⟩ 52 4=true:=x6
theorem JO:bH ⟨64,2,6,3,2⟩ 56 4=true:=x6
theorem JP:bH ⟨64,2,6,3,2⟩ 60 4=true:=x6
theorem Jz(a:Nat)(b:a<64):de ⟨64,2,6,3,2⟩ a=true:=by
 rcases aR a 4 with b|b
 ·exact aS MZ a E E
 rcases aR a 8 with b|b
 ·exact aS M0 a E E
 rcases aR a 12 with b|b
 ·exact aS M1 a E E
 rcases aR a 16 with b|b
 ·exact aS JD a E E
 rcases aR a 20 with b|b
 ·exact aS JE a E E
 rcases aR a 24 with b|b
 ·exact aS JF a E E
 rcases aR a 28 with b|b
 ·exact aS JG a E E
 rcases aR a 32 with b|b
 ·exact aS JH a E E
 rcases aR a 36 with b|b
 ·exact aS JI a E E
 rcases aR a 40 with b|b
 ·exact aS JJ a E E
 rcases aR a 44 with b|b
 ·exact aS JK a E E
 rcases aR a 48 with b|b
 ·exact aS JL a E E
 rcases aR a 52 with b|b
 ·exact aS JM a E E
 rcases aR a 56 with b|b
 ·exact aS JN a E E
 rcases aR a 60 with b|b
 ·exact aS JO a E E
 exact aS JP a E E
theorem EL(d:a∈ak)(b:Nat)(c:b<a.q):de a b=true:=by
 simp only[ak,az,aD,bP]at d;rcases d with rfl|rfl|rfl|rfl|rfl|rfl|rfl|rfl|rfl|rfl|rfl|rfl|rfl|rfl|rfl|rfl|rfl|rfl|rfl|rfl|rfl|rfl|rfl|rfl|rfl|rfl|rfl
 ·exact Mx b c
 ·exact My b c
 ·exact Mz b c
 ·exact MA b c
 ·exact MB b c
 ·exact MC b c
 ·exact ME b c
 ·exact Jg b c
 ·exact Jh b c
 ·exact Ji b c
 ·exact Jj b c
 ·exact Jk b c
 ·exact Jl b c
 ·exact Jm b c
 ·exact Jn b c
 ·exact Jo b c
 ·exact Jp b c
 ·exact Jq b c
 ·exact Jr b c
 ·exact Js b c
 ·exact Jt b c
 ·exact Ju b c
 ·exact Jv b c
 ·exact Jw b c
 ·exact Jx b c
 ·exact Jy b c
 ·exact Jz b c
def GF(a:FD):Bool:=a.m==1 || nC a.q λb=>gL a.p a.m a.md 0 b==0
theorem Cc:ak.all GF=true:=x6
theorem PR(d:a∈ak)(e:a.m≠1)(b:Nat)(f:b<a.q):gL a.p a.m a.md 0 b=0:=by
 have c:=aM.1 Cc a d;unfold GF at c;rw[iB,br]at c;exact br.1 (dJ (c.resolve_left e) b f)
theorem QQ(f:a∈ak)(c b:Nat)(g:c<a.q)(h:b<a.q):gL a.p a.m a.md c b=a.mul c b:=by
 have i:=dE f;have e:=EL f b h;unfold de at e;rw[aI]at e;have k:=br.1 e.1;have l:∀c,c<a.q->gL a.p a.m a.md (a.st c) b=a.st (gL a.p a.m a.md c b):=λc g=>br.1 (dJ e.2 c g)
 have m:∀d,d<a.q-1->gL a.p a.m a.md (again a.st d 1) b=again a.st d b:=by
  intro d;induction d with
  |zero=>intro _;exact k
  |succ d n=>
   intro e;show gL a.p a.m a.md (a.st (again a.st d 1)) b=a.st (again a.st d b);rw[l _ (i.xy d E),n E]
 by_cases j:c=0
 ·subst j;have d:a.mul 0 b=0:=by simp[FD.mul]
  rw[d];by_cases d:a.m=1
  ·simp[gL,d]
  ·exact PR f d b h
 ·have d:=i.ur c g j;rw[i.mul_eq c b j h, <-m _ d.1,d.2]
