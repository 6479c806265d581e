/- Texts of ours, one behind the other: N1 N2 N3 N4 U1 U2 W4 U3 U4. -/
import Derived.Test.YtedifobeggabnaaGreatCbM3
import Derived.Test.YtedifobeggabnaaGreatCbR5
import Derived.StillTail
import Derived.Deep.QuietTactic
import Derived.BigQuiet
import Derived.WalkKit
import Derived.Laws.CopyOwn
import Derived.Laws.AppendOwnNone
namespace Go.Proofs.YtedifobeggabnaaGreat
def FD.ad(D:FD)(a b:Nat):Nat:=sumD D.p D.q a b
def FD.ng(D:FD)(a:Nat):Nat:=negD D.p D.q a
def FD.sb(D:FD)(a b:Nat):Nat:=D.ad a (D.ng b)
def El(D:FD)(c:Nat→Nat):Prop:=∀i,c i<D.q
theorem ad_lt {D:FD}(F:Fld D){a b:Nat}(ha:a<D.q)(hb:b<D.q):D.ad a b<D.q:=F.sum_lt a b ha hb
theorem ad_comm {D:FD}(F:Fld D)(a b:Nat):D.ad a b=D.ad b a:=F.add_comm a b
theorem ad_assoc {D:FD}(F:Fld D){a b c:Nat}(ha:a<D.q)(hb:b<D.q)(hc:c<D.q):D.ad (D.ad a b) c=D.ad a (D.ad b c):=F.add_assoc a b c ha hb hc
theorem ad_zero {D:FD}(F:Fld D){a:Nat}(ha:a<D.q):D.ad a 0=a:=F.sum_zero a ha
theorem zero_ad {D:FD}(F:Fld D){a:Nat}(ha:a<D.q):D.ad 0 a=a:=by rw[ad_comm F];exact ad_zero F ha
theorem zero_lt' {D:FD}(F:Fld D):0<D.q:=by have:=F.q2;omega
theorem one_lt' {D:FD}(F:Fld D):1<D.q:=by have:=F.q2;omega
theorem ng_lt {D:FD}(F:Fld D){a:Nat}(ha:a<D.q):D.ng a<D.q:=F.neg_lt a ha
theorem ad_ng {D:FD}(F:Fld D){a:Nat}(ha:a<D.q):D.ad a (D.ng a)=0:=F.sum_neg a ha
theorem ng_zero {D:FD}(F:Fld D):D.ng 0=0:=by
 have h:=ad_ng F (zero_lt' F)
 rwa [zero_ad F (ng_lt F (zero_lt' F))]at h
theorem sb_lt {D:FD}(F:Fld D){a b:Nat}(ha:a<D.q)(hb:b<D.q):D.sb a b<D.q:=ad_lt F ha (ng_lt F hb)
theorem sb_zero {D:FD}(F:Fld D){a:Nat}(ha:a<D.q):D.sb a 0=a:=by rw[FD.sb,ng_zero F,ad_zero F ha]
theorem sb_self {D:FD}(F:Fld D){a:Nat}(ha:a<D.q):D.sb a a=0:=ad_ng F ha
theorem ad_sb {D:FD}(F:Fld D){a b:Nat}(ha:a<D.q)(hb:b<D.q):D.ad b (D.sb a b)=a:=by
 rw[FD.sb,ad_comm F a, ←ad_assoc F hb (ng_lt F hb) ha,ad_ng F hb,zero_ad F ha]
theorem sb_ad {D:FD}(F:Fld D){a b:Nat}(ha:a<D.q)(hb:b<D.q):D.sb (D.ad a b) b=a:=by
 rw[FD.sb,ad_assoc F ha hb (ng_lt F hb),ad_ng F hb,ad_zero F ha]
theorem ad_cancel {D:FD}(F:Fld D){a b c:Nat}(ha:a<D.q)(hb:b<D.q)(hc:c<D.q)(h:D.ad a b=D.ad a c):b=c:=by
 have h1:=sb_ad F hb ha
 have h2:=sb_ad F hc ha
 rw[ad_comm F b a,h,ad_comm F a c,h2]at h1
 exact h1.symm
theorem sb_eq_zero {D:FD}(F:Fld D){a b:Nat}(ha:a<D.q)(hb:b<D.q)(h:D.sb a b=0):a=b:=by
 have:=ad_sb F ha hb
 rw[h,ad_zero F hb]at this
 exact this.symm
theorem mul0 {D:FD}(_F:Fld D)(a:Nat):D.mul a 0=0:=by simp[FD.mul]
theorem zmul {D:FD}(_F:Fld D)(a:Nat):D.mul 0 a=0:=by simp[FD.mul]
theorem mul_ad {D:FD}(F:Fld D){a b c:Nat}(hb:b<D.q)(hc:c<D.q):D.mul a (D.ad b c)=D.ad (D.mul a b) (D.mul a c):=F.distrib a b c hb hc
theorem ad_mul {D:FD}(F:Fld D){a b c:Nat}(hb:b<D.q)(hc:c<D.q):D.mul (D.ad b c) a=D.ad (D.mul b a) (D.mul c a):=by
 rw[F.mul_comm,mul_ad F hb hc,F.mul_comm a b,F.mul_comm a c]
theorem mul1 {D:FD}(F:Fld D){a:Nat}(ha:a<D.q):D.mul a 1=a:=F.mul_one a ha
theorem omul {D:FD}(F:Fld D){a:Nat}(ha:a<D.q):D.mul 1 a=a:=by rw[F.mul_comm];exact F.mul_one a ha
theorem mul_ng {D:FD}(F:Fld D){a b:Nat}(hb:b<D.q):D.mul a (D.ng b)=D.ng (D.mul a b):=by
 refine ad_cancel F (F.mul_lt a b) (F.mul_lt a _) (ng_lt F (F.mul_lt a b)) ?_
 rw[ad_ng F (F.mul_lt a b), ←mul_ad F hb (ng_lt F hb),ad_ng F hb,mul0 F]
theorem mul_sb {D:FD}(F:Fld D){a b c:Nat}(hb:b<D.q)(hc:c<D.q):D.mul a (D.sb b c)=D.sb (D.mul a b) (D.mul a c):=by
 rw[FD.sb,mul_ad F hb (ng_lt F hc),mul_ng F hc];rfl
theorem sb_mul {D:FD}(F:Fld D){a b c:Nat}(hb:b<D.q)(hc:c<D.q):D.mul (D.sb b c) a=D.sb (D.mul b a) (D.mul c a):=by
 rw[F.mul_comm,mul_sb F hb hc,F.mul_comm a b,F.mul_comm a c]
theorem mul_cancel {D:FD}(F:Fld D){a b c:Nat}(ha:a≠0)(hb:b<D.q)(hc:c<D.q)(h:D.mul a b=D.mul a c):b=c:=by
 by_cases e:D.sb b c=0
 ·exact sb_eq_zero F hb hc e
 ·have h1:=(F.mul_ne a _ ha e).1
  rw[mul_sb F hb hc,h,sb_self F (F.mul_lt a c)]at h1
  exact absurd rfl h1
theorem ad4 {D:FD}(F:Fld D){a b c d:Nat}(ha:a<D.q)(hb:b<D.q)(hc:c<D.q)(hd:d<D.q):D.ad (D.ad a b) (D.ad c d)=D.ad (D.ad a c) (D.ad b d):=by
 rw[ad_assoc F ha hb (ad_lt F hc hd), ←ad_assoc F hb hc hd,ad_comm F b c,ad_assoc F hc hb hd, ←ad_assoc F ha hc (ad_lt F hb hd)]
def padd(D:FD)(a b:Nat→Nat):Nat→Nat:=fun k=>D.ad (a k) (b k)
def psub(D:FD)(a b:Nat→Nat):Nat→Nat:=fun k=>D.sb (a k) (b k)
def pscale(D:FD)(s:Nat)(b:Nat→Nat):Nat→Nat:=fun k=>D.mul s (b k)
def psh(i:Nat)(b:Nat→Nat):Nat→Nat:=fun k=>if i≤k then b (k-i)else 0
def pnil:Nat→Nat:=fun _=>0
def pone:Nat→Nat:=fun k=>if k=0 then 1 else 0
def pmul(D:FD):Nat→(Nat→Nat)→(Nat→Nat)→Nat→Nat
 | 0,_,_=>pnil
 |n+1,a,b=>padd D (pmul D n a b) (psh n (pscale D (a n) b))
def Bd(n:Nat)(a:Nat→Nat):Prop:=∀k,n≤k→a k=0
theorem el_nil {D:FD}(F:Fld D):El D pnil:=fun _=>zero_lt' F
theorem el_one {D:FD}(F:Fld D):El D pone:=fun k=>by unfold pone;split;exact one_lt' F;exact zero_lt' F
theorem el_add {D:FD}(F:Fld D){a b:Nat→Nat}(ha:El D a)(hb:El D b):El D (padd D a b):=fun k=>ad_lt F (ha k) (hb k)
theorem el_sub {D:FD}(F:Fld D){a b:Nat→Nat}(ha:El D a)(hb:El D b):El D (psub D a b):=fun k=>sb_lt F (ha k) (hb k)
theorem el_scale {D:FD}(F:Fld D)(s:Nat)(b:Nat→Nat):El D (pscale D s b):=fun _=>F.mul_lt _ _
theorem el_sh {D:FD}(F:Fld D){b:Nat→Nat}(i:Nat)(hb:El D b):El D (psh i b):=fun k=>by unfold psh;split;exact hb _;exact zero_lt' F
theorem el_mul {D:FD}(F:Fld D)(a b:Nat→Nat):∀n,El D (pmul D n a b)
 | 0=>el_nil F
 |n+1=>el_add F (el_mul F a b n) (el_sh F n (el_scale F _ _))
theorem padd_comm {D:FD}(F:Fld D)(a b:Nat→Nat):padd D a b=padd D b a:=by funext k;exact ad_comm F _ _
theorem padd_assoc {D:FD}(F:Fld D){a b c:Nat→Nat}(ha:El D a)(hb:El D b)(hc:El D c):padd D (padd D a b) c=padd D a (padd D b c):=by funext k;exact ad_assoc F (ha k) (hb k) (hc k)
theorem padd_nil {D:FD}(F:Fld D){a:Nat→Nat}(ha:El D a):padd D a pnil=a:=by funext k;exact ad_zero F (ha k)
theorem nil_padd {D:FD}(F:Fld D){a:Nat→Nat}(ha:El D a):padd D pnil a=a:=by funext k;exact zero_ad F (ha k)
theorem padd4 {D:FD}(F:Fld D){a b c d:Nat→Nat}(ha:El D a)(hb:El D b)(hc:El D c)(hd:El D d):padd D (padd D a b) (padd D c d)=padd D (padd D a c) (padd D b d):=by funext k;exact ad4 F (ha k) (hb k) (hc k) (hd k)
theorem psub_add {D:FD}(F:Fld D){a b:Nat→Nat}(ha:El D a)(hb:El D b):padd D b (psub D a b)=a:=by funext k;exact ad_sb F (ha k) (hb k)
theorem psub_nil {D:FD}(F:Fld D){a:Nat→Nat}(ha:El D a):psub D a pnil=a:=by funext k;exact sb_zero F (ha k)
theorem padd_cancel {D:FD}(F:Fld D){a b c:Nat→Nat}(ha:El D a)(hb:El D b)(hc:El D c)(h:padd D a b=padd D a c):b=c:=by
 funext k;exact ad_cancel F (ha k) (hb k) (hc k) (congrFun h k)
theorem psub_eq_nil {D:FD}(F:Fld D){a b:Nat→Nat}(ha:El D a)(hb:El D b)(h:psub D a b=pnil):a=b:=by
 funext k;exact sb_eq_zero F (ha k) (hb k) (congrFun h k)
theorem pscale_zero {D:FD}(F:Fld D)(b:Nat→Nat):pscale D 0 b=pnil:=by funext k;exact zmul F _
theorem pscale_one {D:FD}(F:Fld D){b:Nat→Nat}(hb:El D b):pscale D 1 b=b:=by funext k;exact omul F (hb k)
theorem pscale_nil {D:FD}(F:Fld D)(s:Nat):pscale D s pnil=pnil:=by funext k;exact mul0 F _
theorem pscale_add {D:FD}(F:Fld D)(s:Nat){a b:Nat→Nat}(ha:El D a)(hb:El D b):pscale D s (padd D a b)=padd D (pscale D s a) (pscale D s b):=by funext k;exact mul_ad F (ha k) (hb k)
theorem pscale_pscale {D:FD}(F:Fld D)(s t:Nat)(b:Nat→Nat):pscale D s (pscale D t b)=pscale D (D.mul s t) b:=by funext k;exact(F.mul_assoc s t (b k)).symm
theorem add_pscale {D:FD}(F:Fld D){s t:Nat}(hs:s<D.q)(ht:t<D.q)(b:Nat→Nat):pscale D (D.ad s t) b=padd D (pscale D s b) (pscale D t b):=by funext k;exact ad_mul F hs ht
theorem psh_nil(i:Nat):psh i pnil=pnil:=by funext k;simp[psh,pnil]
theorem psh_add {D:FD}(F:Fld D)(i:Nat)(a b:Nat→Nat):psh i (padd D a b)=padd D (psh i a) (psh i b):=by
 funext k
 show(if i≤k then D.ad (a (k-i)) (b (k-i))else 0)=D.ad (if i≤k then a (k-i)else 0) (if i≤k then b (k-i)else 0)
 by_cases h:i≤k
 ·rw[if_pos h,if_pos h,if_pos h]
 ·rw[if_neg h,if_neg h,if_neg h,ad_zero F (zero_lt' F)]
theorem psh_scale {D:FD}(F:Fld D)(i s:Nat)(b:Nat→Nat):psh i (pscale D s b)=pscale D s (psh i b):=by
 funext k
 show(if i≤k then D.mul s (b (k-i))else 0)=D.mul s (if i≤k then b (k-i)else 0)
 by_cases h:i≤k
 ·rw[if_pos h,if_pos h]
 ·rw[if_neg h,if_neg h,mul0 F]
theorem psh_psh(i j:Nat)(b:Nat→Nat):psh i (psh j b)=psh (i+j) b:=by
 funext k
 unfold psh
 by_cases h1:i≤k
 ·rw[if_pos h1]
  by_cases h2:j≤k-i
  ·rw[if_pos h2,if_pos (by omega),Nat.sub_sub]
  ·rw[if_neg h2,if_neg (by omega)]
 ·rw[if_neg h1,if_neg (by omega)]
theorem pmul_add_l {D:FD}(F:Fld D){a a' b:Nat→Nat}(ha:El D a)(ha':El D a'):∀n,pmul D n (padd D a a') b=padd D (pmul D n a b) (pmul D n a' b)
 | 0=>(padd_nil F (el_nil F)).symm
 |n+1=>by
  rw[pmul,pmul,pmul,pmul_add_l F ha ha' n,show padd D a a' n=D.ad (a n) (a' n)from rfl,add_pscale F (ha n) (ha' n),psh_add F]
  exact padd4 F (el_mul F _ _ n) (el_mul F _ _ n) (el_sh F n (el_scale F _ _)) (el_sh F n (el_scale F _ _))
theorem pmul_add_r {D:FD}(F:Fld D){a b b':Nat→Nat}(hb:El D b)(hb':El D b'):∀n,pmul D n a (padd D b b')=padd D (pmul D n a b) (pmul D n a b')
 | 0=>(padd_nil F (el_nil F)).symm
 |n+1=>by
  rw[pmul,pmul,pmul,pmul_add_r F hb hb' n,pscale_add F _ hb hb',psh_add F]
  exact padd4 F (el_mul F _ _ n) (el_mul F _ _ n) (el_sh F n (el_scale F _ _)) (el_sh F n (el_scale F _ _))
theorem pmul_scale_r {D:FD}(F:Fld D)(s:Nat)(a b:Nat→Nat):∀n,pmul D n a (pscale D s b)=pscale D s (pmul D n a b)
 | 0=>(pscale_nil F s).symm
 |n+1=>by
  rw[pmul,pmul,pmul_scale_r F s a b n,pscale_add F s (el_mul F _ _ n) (el_sh F n (el_scale F _ _)), ←psh_scale F,pscale_pscale F,pscale_pscale F,F.mul_comm]
theorem pmul_sh_r {D:FD}(F:Fld D)(i:Nat)(a b:Nat→Nat):∀n,pmul D n a (psh i b)=psh i (pmul D n a b)
 | 0=>(psh_nil i).symm
 |n+1=>by
  rw[pmul,pmul,pmul_sh_r F i a b n,psh_add F,psh_psh, ←psh_scale F,psh_psh,Nat.add_comm i n]
theorem pmul_more {D:FD}(F:Fld D){a:Nat→Nat}(b:Nat→Nat){n:Nat}(h:Bd n a):∀k,pmul D (n+k) a b=pmul D n a b
 | 0=>rfl
 |k+1=>by rw[←Nat.add_assoc,pmul,pmul_more F b h k,h (n+k) (by omega),pscale_zero F,psh_nil,padd_nil F (el_mul F _ _ _)]
theorem pmul_to {D:FD}(F:Fld D){a:Nat→Nat}(b:Nat→Nat){n N:Nat}(h:Bd n a)(hn:n≤N):pmul D N a b=pmul D n a b:=by
 have:=pmul_more F b h (N-n)
 rwa [show n+(N-n)=N from by omega]at this
theorem pmul_nil_r {D:FD}(F:Fld D)(a:Nat→Nat):∀n,pmul D n a pnil=pnil
 | 0=>rfl
 |n+1=>by rw[pmul,pmul_nil_r F a n,pscale_nil F,psh_nil,padd_nil F (el_nil F)]
theorem pmul_bd {D:FD}(F:Fld D){a b:Nat→Nat}{m:Nat}(hb:Bd m b):∀n,Bd (n+m-1) (pmul D n a b)
 | 0=>fun _ _=>rfl
 |n+1=>fun k hk=>by
  show D.ad (pmul D n a b k) (psh n (pscale D (a n) b) k)=0
  rw[pmul_bd F hb n k (by omega)]
  unfold psh
  split
  ·unfold pscale
   rw[hb (k-n) (by omega),mul0 F,ad_zero F (zero_lt' F)]
  ·exact ad_zero F (zero_lt' F)
theorem pmul_top {D:FD}(F:Fld D){a b:Nat→Nat}{n m:Nat}(hb:Bd (m+1) b):pmul D (n+1) a b (n+m)=D.mul (a n) (b m):=by
 show D.ad (pmul D n a b (n+m)) (psh n (pscale D (a n) b) (n+m))=_
 rw[pmul_bd F hb n (n+m) (by omega)]
 unfold psh pscale
 rw[if_pos (by omega),Nat.add_sub_cancel_left,zero_ad F (F.mul_lt _ _)]
theorem pmul_one {D:FD}(F:Fld D){a:Nat→Nat}(ha:El D a){n:Nat}(hn:Bd n a):pmul D n a pone=a:=by
 have h:∀m,pmul D m a pone=fun k=>if k<m then a k else 0:=by
  intro m
  induction m with
  | zero=>rfl
  | succ m ih=>
   rw[pmul,ih]
   funext k
   show D.ad (if k<m then a k else 0) (psh m (pscale D (a m) pone) k)=if k<m+1 then a k else 0
   unfold psh pscale pone
   rcases Nat.lt_trichotomy k m with h|h|h
   ·rw[if_pos h,if_neg (by omega),if_pos (by omega),ad_zero F (ha k)]
   ·subst h
    rw[if_neg (by omega),if_pos (Nat.le_refl _),if_pos (by omega),if_pos (by omega),mul1 F (ha k),zero_ad F (ha k)]
   ·rw[if_neg (by omega),if_pos (by omega),if_neg (by omega),if_neg (by omega),mul0 F,ad_zero F (zero_lt' F)]
 rw[h]
 funext k
 show(if k<n then a k else 0)=a k
 split
 ·rfl
 ·exact(hn k (by omega)).symm
theorem cut_one {D:FD}(F:Fld D){a:Nat→Nat}(ha:El D a)(n:Nat):(fun k=>if k<n+1 then a k else 0)=padd D (fun k=>if k<n then a k else 0) (psh n (pscale D (a n) pone)):=by
 funext k
 show _=D.ad (if k<n then a k else 0) (psh n (pscale D (a n) pone) k)
 unfold psh pscale pone
 rcases Nat.lt_trichotomy k n with h|h|h
 ·rw[if_pos (by omega),if_pos h,if_neg (by omega),ad_zero F (ha k)]
 ·subst h
  rw[if_pos (by omega),if_neg (by omega),if_pos (Nat.le_refl _),if_pos (by omega),mul1 F (ha k),zero_ad F (ha k)]
 ·rw[if_neg (by omega),if_neg (by omega),if_pos (by omega),if_neg (by omega),mul0 F,ad_zero F (zero_lt' F)]
theorem pmul_comm {D:FD}(F:Fld D){a b:Nat→Nat}(ha:El D a)(hb:El D b){n m:Nat}(hn:Bd n a)(hm:Bd m b):pmul D n a b=pmul D m b a:=by
 have h:∀k,pmul D k a b=pmul D m b (fun i=>if i<k then a i else 0):=by
  intro k
  induction k with
  | zero=>rw[pmul,show(fun i=>if i<0 then a i else 0)=pnil from by funext i;rw[if_neg (by omega)];rfl,pmul_nil_r F]
  | succ k ih=>
   have hc:El D (fun i=>if i<k then a i else 0):=fun i=>by show(if i<k then a i else 0)<D.q;split;exact ha i;exact zero_lt' F
   rw[pmul,ih,cut_one F ha k,pmul_add_r F hc (el_sh F k (el_scale F _ _)),pmul_sh_r F,pmul_scale_r F,pmul_one F hb hm]
 rw[h n]
 congr 1
 funext i
 split
 ·rfl
 ·exact(hn i (by omega)).symm
def dgn(c:Nat→Nat):Nat→Nat
 | 0=>0
 |n+1=>if c n=0 then dgn c n else n+1
theorem dgn_le(c:Nat→Nat):∀n,dgn c n≤n
 | 0=>Nat.le_refl _
 |n+1=>by
  rw[dgn];split
  ·have:=dgn_le c n;omega
  ·omega
theorem dgn_zero(c:Nat→Nat):∀n k,dgn c n≤k→k<n→c k=0
 | 0,_,_,h=>by omega
 |n+1,k,h1,h2=>by
  rw[dgn]at h1
  split at h1
  ·rename_i h
   by_cases e:k=n
   ·rw[e];exact h
   ·exact dgn_zero c n k h1 (by omega)
  ·omega
theorem dgn_bd {c:Nat→Nat}{n:Nat}(h:Bd n c):Bd (dgn c n) c:=fun k hk=>by
 by_cases e:k<n
 ·exact dgn_zero c n k hk e
 ·exact h k (by omega)
theorem dgn_top(c:Nat→Nat):∀n,dgn c n≠0→c (dgn c n-1)≠0
 | 0,h=>absurd rfl h
 |n+1,h=>by
  rw[dgn]at h ⊢
  split
  ·rename_i e
   rw[if_pos e]at h
   exact dgn_top c n h
  ·rename_i e
   exact e
theorem dgn_is {c:Nat→Nat}{n m:Nat}(hn:Bd n c)(h0:Bd m c)(ht:m≠0→c (m-1)≠0):dgn c n=m:=by
 have h1:=dgn_bd hn
 rcases Nat.lt_trichotomy (dgn c n) m with h|h|h
 ·exact absurd (h1 (m-1) (by omega)) (ht (by omega))
 ·exact h
 ·exact absurd (h0 (dgn c n-1) (by omega)) (dgn_top c n (by omega))
theorem dgn_self {c:Nat→Nat}{n:Nat}(h:n≠0→c (n-1)≠0):dgn c n=n:=by
 cases n with
 | zero=>rfl
 | succ n=>
  have h:=h (by omega)
  rw[Nat.add_sub_cancel]at h
  rw[dgn,if_neg h]
theorem dgn_to {c:Nat→Nat}{n:Nat}(h:Bd n c):∀k,dgn c (n+k)=dgn c n
 | 0=>rfl
 |k+1=>by rw[←Nat.add_assoc,dgn,if_pos (h (n+k) (by omega)),dgn_to h k]
theorem dgn_from {c:Nat→Nat}{n N:Nat}(h:Bd n c)(hn:n≤N):dgn c N=dgn c n:=by
 have:=dgn_to h (N-n)
 rwa [show n+(N-n)=N from by omega]at this
theorem bd_nil_of {c:Nat→Nat}(h:Bd 0 c):c=pnil:=by funext k;exact h k (Nat.zero_le _)
theorem Bd.mono {c:Nat→Nat}{n m:Nat}(h:Bd n c)(hm:n≤m):Bd m c:=fun k hk=>h k (by omega)
def dstep(D:FD)(b:Nat→Nat)(l inv i:Nat)(r:Nat→Nat):Nat→Nat:=psub D r (psh i (pscale D (D.mul (r (i+l)) inv) b))
def divR(D:FD)(b:Nat→Nat)(l inv:Nat):Nat→(Nat→Nat)→Nat→Nat
 | 0,r=>r
 |n+1,r=>divR D b l inv n (dstep D b l inv n r)
def divQ(D:FD)(b:Nat→Nat)(l inv:Nat):Nat→(Nat→Nat)→Nat→Nat
 | 0,_=>pnil
 |n+1,r=>fun i=>if i=n then D.mul (r (n+l)) inv else divQ D b l inv n (dstep D b l inv n r) i
theorem el_dstep {D:FD}(F:Fld D){b r:Nat→Nat}{l inv i:Nat}(hr:El D r):El D (dstep D b l inv i r):=el_sub F hr (el_sh F i (el_scale F _ _))
theorem el_divR {D:FD}(F:Fld D){b:Nat→Nat}{l inv:Nat}:∀(n:Nat) {r:Nat→Nat},El D r→El D (divR D b l inv n r)
 | 0,_,h=>h
 |n+1,_,h=>el_divR F n (el_dstep F h)
theorem el_divQ {D:FD}(F:Fld D){b:Nat→Nat}{l inv:Nat}:∀(n:Nat) (r:Nat→Nat),El D (divQ D b l inv n r)
 | 0,_=>el_nil F
 |n+1,r=>fun i=>by
  rw[divQ]
  show(if i=n then D.mul (r (n+l)) inv else divQ D b l inv n (dstep D b l inv n r) i)<D.q
  split
  ·exact F.mul_lt _ _
  ·exact el_divQ F n _ i
theorem divQ_bd {D:FD}{b:Nat→Nat}{l inv:Nat}:∀(n:Nat) (r:Nat→Nat),Bd n (divQ D b l inv n r)
 | 0,_=>fun _ _=>rfl
 |n+1,r=>fun i hi=>by
  rw[divQ]
  show(if i=n then D.mul (r (n+l)) inv else divQ D b l inv n (dstep D b l inv n r) i)=0
  rw[if_neg (by omega)]
  exact divQ_bd n _ i (by omega)
theorem dstep_top {D:FD}(F:Fld D){b r:Nat→Nat}{l inv n:Nat}(hr:El D r)(hi:D.mul (b l) inv=1):dstep D b l inv n r (n+l)=0:=by
 show D.sb (r (n+l)) (psh n (pscale D (D.mul (r (n+l)) inv) b) (n+l))=0
 unfold psh pscale
 rw[if_pos (by omega),Nat.add_sub_cancel_left,F.mul_assoc,F.mul_comm inv,hi,mul1 F (hr _),sb_self F (hr _)]
theorem dstep_hi {D:FD}(F:Fld D){b r:Nat→Nat}{l inv n k:Nat}(hr:El D r)(hb:Bd (l+1) b)(hk:n+l<k):dstep D b l inv n r k=r k:=by
 show D.sb (r k) (psh n (pscale D (D.mul (r (n+l)) inv) b) k)=r k
 unfold psh pscale
 rw[if_pos (by omega),hb (k-n) (by omega),mul0 F,sb_zero F (hr _)]
theorem dstep_lo {D:FD}(F:Fld D){b r:Nat→Nat}{l inv n k:Nat}(hr:El D r)(hk:k<n):dstep D b l inv n r k=r k:=by
 show D.sb (r k) (psh n (pscale D (D.mul (r (n+l)) inv) b) k)=r k
 unfold psh
 rw[if_neg (by omega),sb_zero F (hr _)]
theorem dstep_at {D:FD}{b r:Nat→Nat}{l inv n:Nat}(j:Nat):dstep D b l inv n r (n+j)=D.sb (r (n+j)) (D.mul (D.mul (r (n+l)) inv) (b j)):=by
 show D.sb (r (n+j)) (psh n (pscale D (D.mul (r (n+l)) inv) b) (n+j))=_
 unfold psh pscale
 rw[if_pos (by omega),Nat.add_sub_cancel_left]
theorem dstep_bd {D:FD}(F:Fld D){b r:Nat→Nat}{l inv n:Nat}(hr:El D r)(_hbe:El D b)(hb:Bd (l+1) b)(hi:D.mul (b l) inv=1)(h:Bd (n+1+l) r):Bd (n+l) (dstep D b l inv n r):=fun k hk=>by
 by_cases e:k=n+l
 ·rw[e];exact dstep_top F hr hi
 ·rw[dstep_hi F hr hb (by omega)];exact h k (by omega)
theorem divR_bd {D:FD}(F:Fld D){b:Nat→Nat}{l inv:Nat}(hbe:El D b)(hb:Bd (l+1) b)(hi:D.mul (b l) inv=1):∀(n:Nat) {r:Nat→Nat},El D r→Bd (n+l) r→Bd l (divR D b l inv n r)
 | 0,r,_,h=>by rwa [Nat.zero_add]at h
 |n+1,r,hr,h=>divR_bd F hbe hb hi n (el_dstep F hr) (dstep_bd F hr hbe hb hi h)
theorem pmul_congr {D:FD}{a a' b:Nat→Nat}:∀n,(∀i,i<n→a i=a' i)→pmul D n a b=pmul D n a' b
 | 0,_=>rfl
 |n+1,h=>by rw[pmul,pmul,pmul_congr n (fun i hi=>h i (by omega)),h n (by omega)]
theorem div_is {D:FD}(F:Fld D){b:Nat→Nat}{l inv:Nat}:∀(n:Nat) {r:Nat→Nat},El D r→padd D (pmul D n (divQ D b l inv n r) b) (divR D b l inv n r)=r
 | 0,r,h=>nil_padd F h
 |n+1,r,h=>by
  have i:=div_is F (b:=b) (l:=l) (inv:=inv) n (el_dstep F (b:=b) (l:=l) (inv:=inv) (i:=n) h)
  have e:pmul D n (divQ D b l inv (n+1) r) b=pmul D n (divQ D b l inv n (dstep D b l inv n r)) b:=pmul_congr n (fun j hj=>if_neg (by omega))
  have e2:divQ D b l inv (n+1) r n=D.mul (r (n+l)) inv:=if_pos rfl
  have hY:=el_sh F n (el_scale F (D.mul (r (n+l)) inv) b)
  rw[pmul,e,e2,padd_comm F (pmul D n _ b),padd_assoc F hY (el_mul F _ _ n) (el_divR F (n+1) h),divR,i]
  exact psub_add F h hY
theorem dstep_skip {D:FD}(F:Fld D){b r:Nat→Nat}{l inv n:Nat}(hr:El D r)(h0:r (n+l)=0):dstep D b l inv n r=r:=by
 unfold dstep
 rw[h0,zmul F,pscale_zero F,psh_nil,psub_nil F hr]
theorem div_skip {D:FD}(F:Fld D){b r:Nat→Nat}{l inv n:Nat}(hr:El D r)(h0:r (n+l)=0):divR D b l inv (n+1) r=divR D b l inv n r∧divQ D b l inv (n+1) r=divQ D b l inv n r:=by
 refine⟨by rw[divR,dstep_skip F hr h0],?_⟩
 rw[divQ,dstep_skip F hr h0,h0,zmul F]
 funext i
 show(if i=n then 0 else divQ D b l inv n r i)=_
 split
 ·rename_i e;rw[e];exact(divQ_bd n r n (Nat.le_refl _)).symm
 ·rfl
theorem div_to {D:FD}(F:Fld D){b r:Nat→Nat}{l inv n:Nat}(hr:El D r)(h:Bd (n+l) r):∀k,divR D b l inv (n+k) r=divR D b l inv n r∧divQ D b l inv (n+k) r=divQ D b l inv n r
 | 0=>⟨rfl,rfl⟩
 |k+1=>by
  have s:=div_skip F (b:=b) (l:=l) (inv:=inv) (n:=n+k) hr (h _ (by omega))
  have t:=div_to F (b:=b) (inv:=inv) hr h k
  rw[←Nat.add_assoc]
  exact⟨s.1.trans t.1,s.2.trans t.2⟩
theorem div_from {D:FD}(F:Fld D){b r:Nat→Nat}{l inv n N:Nat}(hr:El D r)(h:Bd (n+l) r)(hn:n≤N):divR D b l inv N r=divR D b l inv n r∧divQ D b l inv N r=divQ D b l inv n r:=by
 have:=div_to F (b:=b) (inv:=inv) hr h (N-n)
 rwa [show n+(N-n)=N from by omega]at this
theorem pmul_zero_of {D:FD}(F:Fld D){b:Nat→Nat}{l:Nat}(hb:Bd (l+1) b)(hl:b l≠0):∀(n:Nat) {S:Nat→Nat},Bd n S→Bd l (pmul D n S b)→S=pnil
 | 0,_,hS,_=>bd_nil_of hS
 |n+1,S,hS,h=>by
  have h1:=h (n+l) (by omega)
  rw[pmul_top F hb]at h1
  have h0:S n=0:=by
   by_cases e:S n=0
   ·exact e
   ·exact absurd h1 (F.mul_ne _ _ e hl).1
  have hS':Bd n S:=fun k hk=>if e:k=n then by rw[e];exact h0 else hS k (by omega)
  rw[pmul_to F b hS' (by omega)]at h
  exact pmul_zero_of F hb hl n hS' h
theorem div_uniq {D:FD}(F:Fld D){b Q Q' R R':Nat→Nat}{l n:Nat}(hb:Bd (l+1) b)(hl:b l≠0)(eQ:El D Q)(eQ':El D Q')(eR:El D R)(eR':El D R')
  (hQ:Bd n Q) (hQ':Bd n Q') (hR:Bd l R) (hR':Bd l R') (h:padd D (pmul D n Q b) R=padd D (pmul D n Q' b) R'):Q=Q'∧R=R':=by
 have hS:psub D Q Q'=pnil:=by
  have eS:=el_sub F eQ eQ'
  refine pmul_zero_of F hb hl n (fun k hk=>?_) ?_
  ·show D.sb (Q k) (Q' k)=0
   rw[hQ k hk,hQ' k hk,sb_self F (zero_lt' F)]
  ·have e:pmul D n Q b=padd D (pmul D n Q' b) (pmul D n (psub D Q Q') b):=by
    rw[←pmul_add_l F eQ' eS,psub_add F eQ eQ']
   rw[e,padd_assoc F (el_mul F _ _ n) (el_mul F _ _ n) eR]at h
   have h2:=padd_cancel F (el_mul F _ _ n) (el_add F (el_mul F _ _ n) eR) eR' h
   intro k hk
   have h3:=congrFun h2 k
   rw[hR' k hk]at h3
   have h4:D.ad (pmul D n (psub D Q Q') b k) (R k)=0:=h3
   rwa [hR k hk,ad_zero F (el_mul F _ _ n k)]at h4
 have hq:=psub_eq_nil F eQ eQ' hS
 refine⟨hq,?_⟩
 rw[hq]at h
 exact padd_cancel F (el_mul F _ _ n) eR eR' h
def FD.iv(D:FD)(x:Nat):Nat:=D.pw x (D.q-2)
theorem iv_lt {D:FD}(hD:D∈fieldsL)(x:Nat):D.iv x<D.q:=pw_lt hD x _
theorem iv_is {D:FD}(hD:D∈fieldsL){x:Nat}(hx:x<D.q)(h0:x≠0):D.mul x (D.iv x)=1:=inv_is hD hx h0
def Trd(n:Nat)(c:Nat→Nat):Prop:=Bd n c∧(n≠0→c (n-1)≠0)
theorem trd_dgn {c:Nat→Nat}{n:Nat}(h:Bd n c):Trd (dgn c n) c:=⟨dgn_bd h,dgn_top c n⟩
theorem Trd.dgn {c:Nat→Nat}{n N:Nat}(h:Trd n c)(hN:n≤N):Go.Proofs.YtedifobeggabnaaGreat.dgn c N=n:=by
 rw[dgn_from h.1 hN];exact dgn_self h.2
theorem pmul_const {D:FD}(F:Fld D){a:Nat→Nat}{n c:Nat}(ha:El D a)(hn:Bd n a)(hc:c<D.q):pmul D n a (fun k=>if k=0 then c else 0)=pscale D c a:=by
 have e:(fun k=>if k=0 then c else 0)=pscale D c pone:=by
  funext k
  show _=D.mul c (if k=0 then 1 else 0)
  split
  ·exact(mul1 F hc).symm
  ·exact(mul0 F c).symm
 rw[e,pmul_scale_r F,pmul_one F ha hn]
def FD.xp(D:FD)(x:Nat):Nat→Nat
 | 0=>1
 |k+1=>D.mul (D.xp x k) x
theorem xp_lt {D:FD}(F:Fld D)(x:Nat):∀k,D.xp x k<D.q
 | 0=>one_lt' F
 |_+1=>F.mul_lt _ _
theorem xp_add {D:FD}(F:Fld D)(x i:Nat):∀k,D.xp x (i+k)=D.mul (D.xp x i) (D.xp x k)
 | 0=>(mul1 F (xp_lt F x i)).symm
 |k+1=>by rw[←Nat.add_assoc,FD.xp,xp_add F x i k,FD.xp,F.mul_assoc]
def FD.ev(D:FD)(c:Nat→Nat)(x:Nat):Nat→Nat
 | 0=>0
 |n+1=>D.ad (D.ev c x n) (D.mul (c n) (D.xp x n))
theorem ev_lt {D:FD}(F:Fld D)(c:Nat→Nat)(x:Nat):∀n,D.ev c x n<D.q
 | 0=>zero_lt' F
 |n+1=>ad_lt F (ev_lt F c x n) (F.mul_lt _ _)
theorem ev_add {D:FD}(F:Fld D){a b:Nat→Nat}(x:Nat)(ha:El D a)(hb:El D b):∀n,D.ev (padd D a b) x n=D.ad (D.ev a x n) (D.ev b x n)
 | 0=>(ad_zero F (zero_lt' F)).symm
 |n+1=>by
  show D.ad (D.ev (padd D a b) x n) (D.mul (D.ad (a n) (b n)) (D.xp x n))=_
  rw[ev_add F x ha hb n,ad_mul F (ha n) (hb n)]
  exact ad4 F (ev_lt F a x n) (ev_lt F b x n) (F.mul_lt _ _) (F.mul_lt _ _)
theorem ev_scale {D:FD}(F:Fld D)(s x:Nat)(b:Nat→Nat):∀n,D.ev (pscale D s b) x n=D.mul s (D.ev b x n)
 | 0=>(mul0 F s).symm
 |n+1=>by
  show D.ad (D.ev (pscale D s b) x n) (D.mul (D.mul s (b n)) (D.xp x n))=D.mul s (D.ad (D.ev b x n) (D.mul (b n) (D.xp x n)))
  rw[ev_scale F s x b n,mul_ad F (ev_lt F b x n) (F.mul_lt _ _),F.mul_assoc]
theorem ev_to {D:FD}(F:Fld D){c:Nat→Nat}{n:Nat}(x:Nat)(h:Bd n c):∀k,D.ev c x (n+k)=D.ev c x n
 | 0=>rfl
 |k+1=>by
  rw[←Nat.add_assoc]
  show D.ad (D.ev c x (n+k)) (D.mul (c (n+k)) (D.xp x (n+k)))=_
  rw[ev_to F x h k,h (n+k) (by omega),zmul F,ad_zero F (ev_lt F c x n)]
theorem ev_from {D:FD}(F:Fld D){c:Nat→Nat}{n N:Nat}(x:Nat)(h:Bd n c)(hn:n≤N):D.ev c x N=D.ev c x n:=by
 have:=ev_to F x h (N-n)
 rwa [show n+(N-n)=N from by omega]at this
theorem ev_nil {D:FD}(F:Fld D)(x:Nat):∀n,D.ev pnil x n=0
 | 0=>rfl
 |n+1=>by
  show D.ad (D.ev pnil x n) (D.mul 0 (D.xp x n))=0
  rw[ev_nil F x n,zmul F,ad_zero F (zero_lt' F)]
theorem ev_sh_lo {D:FD}(F:Fld D){b:Nat→Nat}(x i:Nat):∀n,n≤i→D.ev (psh i b) x n=0
 | 0,_=>rfl
 |n+1,h=>by
  show D.ad (D.ev (psh i b) x n) (D.mul (psh i b n) (D.xp x n))=0
  rw[ev_sh_lo F x i n (by omega),show psh i b n=0 from by unfold psh;exact if_neg (by omega),zmul F,ad_zero F (zero_lt' F)]
theorem ev_sh {D:FD}(F:Fld D){b:Nat→Nat}(x i:Nat):∀n,D.ev (psh i b) x (i+n)=D.mul (D.xp x i) (D.ev b x n)
 | 0=>by rw[Nat.add_zero,ev_sh_lo F x i i (Nat.le_refl _)];exact(mul0 F _).symm
 |n+1=>by
  rw[←Nat.add_assoc]
  show D.ad (D.ev (psh i b) x (i+n)) (D.mul (psh i b (i+n)) (D.xp x (i+n)))=D.mul (D.xp x i) (D.ad (D.ev b x n) (D.mul (b n) (D.xp x n)))
  rw[ev_sh F x i n,show psh i b (i+n)=b n from by unfold psh;rw[if_pos (by omega),Nat.add_sub_cancel_left],xp_add F,mul_ad F (ev_lt F b x n) (F.mul_lt _ _), ←F.mul_assoc (b n),F.mul_comm (b n) (D.xp x i),F.mul_assoc]
theorem ev_mul {D:FD}(F:Fld D){a b:Nat→Nat}(x:Nat){m:Nat}(hm:Bd m b)(hbe:El D b):∀n N,n+m≤N→D.ev (pmul D n a b) x N=D.mul (D.ev a x n) (D.ev b x m)
 | 0,N,_=>by rw[pmul,ev_nil F,FD.ev,zmul F]
 |n+1,N,h=>by
  rw[pmul,ev_add F x (el_mul F a b n) (el_sh F n (el_scale F _ _)),ev_mul F x hm hbe n N (by omega)]
  have e:D.ev (psh n (pscale D (a n) b)) x N=D.mul (D.xp x n) (D.mul (a n) (D.ev b x m)):=by
   rw[show N=n+(N-n)from by omega,ev_sh F x n,ev_scale F,ev_from F x hm (by omega)]
  rw[e,FD.ev,ad_mul F (ev_lt F a x n) (F.mul_lt _ _), ←F.mul_assoc (D.xp x n),F.mul_comm (D.xp x n) (a n)]
theorem val_ev {D:FD}(F:Fld D){c:Nat→Nat}(x n:Nat)(hc:El D c)(hx:x<D.q):∀k,k≤n→D.val c n x k=D.ev (fun i=>c (n-k+i)) x k
 | 0,_=>rfl
 |k+1,h=>by
  have ih:=val_ev F x n hc hx k (by omega)
  have split:∀m,D.ev (fun i=>c (n-(k+1)+i)) x (m+1)=D.ad (c (n-(k+1))) (D.mul (D.ev (fun i=>c (n-k+i)) x m) x):=by
   intro m
   induction m with
   | zero=>
    show D.ad 0 (D.mul (c (n-(k+1)+0)) 1)=D.ad (c (n-(k+1))) (D.mul 0 x)
    rw[Nat.add_zero,mul1 F (hc _),zmul F,zero_ad F (hc _),ad_zero F (hc _)]
   | succ m im=>
    rw[FD.ev,im]
    show D.ad (D.ad (c (n-(k+1))) (D.mul (D.ev (fun i=>c (n-k+i)) x m) x)) (D.mul (c (n-(k+1)+(m+1))) (D.xp x (m+1)))=D.ad (c (n-(k+1))) (D.mul (D.ad (D.ev (fun i=>c (n-k+i)) x m) (D.mul (c (n-k+m)) (D.xp x m))) x)
    rw[ad_mul F (ev_lt F _ x m) (F.mul_lt _ _),ad_assoc F (hc _) (F.mul_lt _ _) (F.mul_lt _ _),show n-(k+1)+(m+1)=n-k+m from by omega,FD.xp,F.mul_assoc]
  rw[split k,FD.val,ih,show n-1-k=n-(k+1)from by omega]
  exact ad_comm F _ _
theorem val_is {D:FD}(F:Fld D){c:Nat→Nat}(x n:Nat)(hc:El D c)(hx:x<D.q):D.val c n x n=D.ev c x n:=by
 rw[val_ev F x n hc hx n (Nat.le_refl _),Nat.sub_self]
 congr 1
 funext i
 rw[Nat.zero_add]
section
open Go.RowKit
def Sl(ao:Option Addr)(n:Nat)(c:Nat→Nat)(w:World):Prop:=∀j,j<n→∃b off,ao=some ⟨b,off,none⟩∧w.cell? ⟨b,off+j,none⟩=some (.int .i64 (c j:Nat))
def LtB(ao:Option Addr)(B:Nat):Prop:=∀x,ao=some x→x.block<B
def GeB(ao:Option Addr)(B:Nat):Prop:=∀x,ao=some x→B≤x.block
theorem Sl.drewN {ao:Option Addr}{n:Nat}{c:Nat→Nat}{w:World}(h:Sl ao n c w)(k:Nat):Sl ao n c (w.drewN k):=h
theorem Sl.less {ao:Option Addr}{n m:Nat}{c:Nat→Nat}{w:World}(h:Sl ao n c w)(hm:m≤n):Sl ao m c w:=fun j hj=>h j (by omega)
theorem Sl.below {ao:Option Addr}{n B:Nat}{c:Nat→Nat}{w w':World}(h:Sl ao n c w)(hb:Below B w w')(hB:LtB ao B):Sl ao n c w':=fun j hj=>by
 obtain⟨b,off,rfl,hc⟩:=h j hj
 exact⟨b,off,rfl,((bcell hb).1 b (off+j) (hB _ rfl)).trans hc⟩
theorem LtB.mono {ao:Option Addr}{B C:Nat}(h:LtB ao B)(hBC:B≤C):LtB ao C:=fun x hx=>Nat.lt_of_lt_of_le (h x hx) hBC
theorem GeB.mono {ao:Option Addr}{B C:Nat}(h:GeB ao C)(hBC:B≤C):GeB ao B:=fun x hx=>Nat.le_trans hBC (h x hx)
set_option maxHeartbeats 1000000 in
theorem trim_any {ao:Option Addr}{n cap:Nat}{c:Nat→Nat}{w:World}(h:Sl ao n c w)(hn:n≤cap)(hcap:cap≤9223372036854775807) :
  Calls Tryz.prog 123 #[.slice ao n cap] w fun e w'=>e = .returned (.slice ao (dgn c n) cap)∧∃k,w'=w.drewN k:=by
 have HS:Hid (Sl ao n c w):=h
 clear h
 go_enter Tryz.func123,Tryz.ntmps123
 go_wp2
 go_loopw [3] (fun i wr=>∃m:Nat,m≤n∧i = .int .i64 m∧Hid (dgn c n=dgn c m)∧∃d,wr=w.drewN d) (fun i _=>(intOf i).toNat)
 case atStart=>exact⟨n,Nat.le_refl _,rfl,rfl,0,rfl⟩
 case round=>
  obtain⟨m,hm,rfl,HD,d,rfl⟩:=hrel
  cases m with
  | zero=>
   have HE:Hid (dgn c n=0):=HD.out
   cases ao with
   | none=>
    go_wp2
    go_ret
    exact⟨by rw[HE.out];rfl,_,rfl⟩
   | some x=>
    go_wp2
    go_ret
    exact⟨by rw[HE.out];rfl,_,rfl⟩
  | succ m=>
   obtain⟨b,off,rfl,hc⟩:=HS.out m (by omega)
   by_cases h0:c m=0
   ·have HE:Hid (dgn c n=dgn c m):=by show _=_;rw[HD.out,dgn,if_pos h0]
    have hz:(((c m:Nat):Int) == 0)=true:=by rw[h0];rfl
    clear h0
    go_wp2
    go_roundw
    case rel=>exact⟨m,by omega,by go_num,HE.out,_,rfl⟩
    case measure=>simp[intOf]
   ·have HE:Hid (dgn c n=m+1):=by show _=_;rw[HD.out,dgn,if_neg h0]
    have hz:(((c m:Nat):Int) == 0)=false:=by rw[beq_eq_false_iff_ne];omega
    clear h0
    go_wp2
    go_ret
    exact⟨by rw[HE.out];rfl,_,rfl⟩
set_option maxHeartbeats 2000000 in
theorem value_any {F T:Nat}{D:FD}(hD:D∈fieldsL){g:Nat→Value}{w:World}(h:FAt F T D g w){ao:Option Addr}{n cap x:Nat}{c:Nat→Nat}(hx:x<D.q)(hn:n≤1000)(hc:El D c)(hN:Sl ao n c w) :
  Calls Tryz.prog 129 #[.pointer (some ⟨F,0,none⟩),.slice ao n cap,.int .i64 x] w fun e w'=>e = .returned (.int .i64 (D.val c n x n:Nat))∧∃n,w'=w.drewN n:=by
 have HF:Hid (FAt F T D g w∧D∈fieldsL∧Sl ao n c w∧El D c):=⟨h,hD,hN,hc⟩
 clear h hD hN hc
 go_enter Tryz.func129,Tryz.ntmps129
 go_wp2
 go_loopw [7,8] (fun s i wr=>∃r:Nat,r≤n∧i = .int .i64 ((r:Int)-1)∧s = .int .i64 (D.val c n x (n-r):Nat)∧∃d,wr=w.drewN d) (fun _ i _=>(intOf i+1).toNat)
 case atStart=>exact⟨n,by omega,rfl,by rw[Nat.sub_self];rfl,0,rfl⟩
 case round=>
  obtain⟨r,hr,hi,rfl,hwr⟩:=hrel
  have HG:Hid (FAt F T D g wr∧Sl ao n c wr∧∃d,wr=w.drewN d):=by
   obtain⟨d,rfl⟩:=hwr
   exact⟨HF.out.1.drewN d,HF.out.2.2.1,d,rfl⟩
  clear hwr
  cases r with
  | succ s=>
   have hi':u8 = .int .i64 (s:Int):=by rw[hi];go_num
   clear hi
   subst hi'
   obtain⟨y,hy⟩:∃y,y=D.val c n x (n-(s+1)):=⟨_,rfl⟩
   have hyq:y<D.q:=by rw[hy];exact val_lt HF.out.2.1 c n x HF.out.2.2.2 _
   have HY:Hid (D.val c n x (n-s)=sumD D.p D.q (D.mul y x) (c s)):=by
    show _=_
    rw[hy,show n-s=(n-(s+1))+1 from by omega,FD.val,show n-1-(n-(s+1))=s from by omega]
   rw[←hy]
   clear hy
   obtain⟨b,off,rfl,hcl⟩:=HG.out.2.1 s (by omega)
   have HC1:Hid (∀k,Calls Tryz.prog 67 #[.pointer (some ⟨F,0,none⟩),.int .i64 y,.int .i64 x] (wr.drewN k) fun e w'=>e = .returned (.int .i64 (D.mul y x:Nat))∧∃m,w'=(wr.drewN k).drewN m):=fun k=>mul_nat HF.out.2.1 (HG.out.1.drewN k) hyq hx
   have HC2:Hid (∀k,Calls Tryz.prog 66 #[.pointer (some ⟨F,0,none⟩),.int .i64 (D.mul y x:Nat),.int .i64 (c s:Nat)] (wr.drewN k) fun e w'=>e = .returned (.int .i64 (sumD D.p D.q (D.mul y x) (c s):Nat))∧∃m,w'=(wr.drewN k).drewN m):=fun k=>add_nat HF.out.2.1 (HG.out.1.drewN k) ((fld HF.out.2.1).mul_lt _ _) (HF.out.2.2.2 s)
   go_wp2
   go_quiet (first|(go_at_call 67;exact Calls.quiet_of (HC1.out _))|(go_at_call 66;exact Calls.quiet_of (HC2.out _)))
   go_wp2
   go_roundw
   case rel=>
    obtain⟨d,hd⟩:=HG.out.2.2
    exact⟨s,by omega,by go_num,by rw[HY.out],_,by rw[hd,World.drewN_drewN]⟩
   case measure=>simp[intOf]
  | zero=>
   have hi':u8 = .int .i64 (-1):=by rw[hi];rfl
   clear hi
   subst hi'
   go_wp2
   go_ret
   exact⟨rfl,HG.out.2.2⟩
def Row(g N:Nat)(c:Nat→Nat)(w:World):Prop:=∃cap f,RowF g cap 3 f w∧N≤cap∧∀k,k<N→f k = .int .i64 (c k:Nat)
theorem Row.cell {g N:Nat}{c:Nat→Nat}{w:World}(h:Row g N c w)(k:Nat)(hk:k<N):w.cell? ⟨g,k,none⟩=some (.int .i64 (c k:Nat)):=by
 obtain⟨cap,f,hf,hN,he⟩:=h
 rw[hf.cell k (by omega),he k hk]
theorem Row.free {g N:Nat}{c:Nat→Nat}{w:World}(h:Row g N c w)(k:Nat):w.frozen? ⟨g,k,none⟩=false:=by
 obtain⟨cap,f,hf,hN,he⟩:=h
 exact hf.free k
theorem Row.lt {g N:Nat}{c:Nat→Nat}{w:World}(h:Row g N c w):g<w.heap.size:=by
 obtain⟨cap,f,hf,hN,he⟩:=h
 exact hf.lt
theorem Row.drewN {g N:Nat}{c:Nat→Nat}{w:World}(h:Row g N c w)(k:Nat):Row g N c (w.drewN k):=by
 obtain⟨cap,f,hf,hN,he⟩:=h
 exact⟨cap,f,hf.drewN k,hN,he⟩
theorem Row.store {g N:Nat}{c d:Nat→Nat}{w:World}(h:Row g N c w)(k v:Nat)(hd:∀j,j<N→d j=if j=k then v else c j):Row g N d (w.setCell ⟨g,k,none⟩ (.int .i64 (v:Nat))):=by
 obtain⟨cap,f,hf,hN,he⟩:=h
 refine⟨cap,_,hf.store k _,hN,fun j hj=>?_⟩
 unfold upd
 rw[hd j hj]
 split
 ·rfl
 ·exact he j hj
theorem Row.congr {g N:Nat}{c d:Nat→Nat}{w:World}(h:Row g N c w)(e:∀k,k<N→c k=d k):Row g N d w:=by
 obtain⟨cap,f,hf,hN,he⟩:=h
 exact⟨cap,f,hf,hN,fun k hk=>by rw[he k hk,e k hk]⟩
theorem Row.less {g N M:Nat}{c:Nat→Nat}{w:World}(h:Row g N c w)(hM:M≤N):Row g M c w:=by
 obtain⟨cap,f,hf,hN,he⟩:=h
 exact⟨cap,f,hf,by omega,fun k hk=>he k (by omega)⟩
theorem Row.below {g N B:Nat}{c:Nat→Nat}{w w':World}(h:Row g N c w)(hb:Below B w w')(hB:g<B):Row g N c w':=by
 obtain⟨cap,f,hf,hN,he⟩:=h
 exact⟨cap,f,hf.below hb hB,hN,he⟩
theorem Row.other {g N:Nat}{c:Nat→Nat}{w w':World}(h:Row g N c w)(e:w'.heap[g]?=w.heap[g]?):Row g N c w':=by
 obtain⟨cap,f,hf,hN,he⟩:=h
 exact⟨cap,f,hf.other e,hN,he⟩
theorem Row.sl {g N:Nat}{c:Nat→Nat}{w:World}(h:Row g N c w){n:Nat}(hn:n≤N):Sl (some ⟨g,0,none⟩) n c w:=fun j hj=>⟨g,0,rfl,by rw[Nat.zero_add];exact h.cell j (by omega)⟩
theorem row_zeros {base n:Nat}{w:World}(h:OwnI base (.slice (some ⟨base,0,none⟩) n n) (List.replicate n 0) w):Row base n pnil w:=by
 rcases h.2 with⟨h1,_⟩|⟨g,cap,cur,hv,hg,hh,hle,hcm,hsz,htake⟩
 ·cases h1
 ·simp only[List.length_replicate,Value.slice.injEq,Option.some.injEq,Addr.mk.injEq,and_true,true_and]at hv
  obtain⟨rfl,rfl⟩:=hv
  by_cases h0:n=0
  ·exact⟨n,fun _=> .int .i64 0,⟨cur,hh,by omega,fun o ho=>by omega⟩,Nat.le_refl _,fun k hk=>by omega⟩
  ·obtain⟨gl,cl,fl,hvl,hgl,hgl',hll,hcl,hrl,hfl⟩:=h.row n (by simp) (by omega)
   simp only[Value.slice.injEq,Option.some.injEq,Addr.mk.injEq,and_true,true_and]at hvl
   obtain⟨rfl,rfl⟩:=hvl
   exact⟨n,fl,hrl,Nat.le_refl _,fun k hk=>by rw[hfl k hk,list_getD_replicate];rfl⟩
def OwnP(base:Nat)(v:Value)(n:Nat)(c:Nat→Nat)(w:World):Prop:=
 ∃ao cap,v = .slice ao n cap∧n≤cap∧cap≤9223372036854775807∧GeB ao base∧LtB ao w.heap.size∧(ao=none→cap=0)∧(0<n→∃g,ao=some ⟨g,0,none⟩∧Row g n c w)
theorem OwnP.of_row {base g n N cap:Nat}{c:Nat→Nat}{w:World}(h:Row g N c w)(hn:n≤N)(hN:n≤cap)(hcap:cap≤9223372036854775807)(hb:base≤g):OwnP base (.slice (some ⟨g,0,none⟩) n cap) n c w:=
 ⟨_,cap,rfl,hN,hcap,fun x hx=>by cases hx;exact hb,fun x hx=>by cases hx;exact h.lt,fun e=>(by cases e),fun _=>⟨g,rfl,h.less hn⟩⟩
theorem OwnP.below {base B n:Nat}{v:Value}{c:Nat→Nat}{w w':World}(h:OwnP base v n c w)(hb:Below B w w')(hB:w.heap.size≤B):OwnP base v n c w':=by
 obtain⟨ao,cap,hv,h1,h2,hg,hl,hz,hr⟩:=h
 refine⟨ao,cap,hv,h1,h2,hg,hl.mono hb.size,hz,fun h0=>?_⟩
 obtain⟨g,e,hrow⟩:=hr h0
 exact⟨g,e,hrow.below hb (Nat.lt_of_lt_of_le (hl _ e) hB)⟩
theorem OwnP.mono {base base' n:Nat}{v:Value}{c:Nat→Nat}{w:World}(h:OwnP base v n c w)(hb:base'≤base):OwnP base' v n c w:=by
 obtain⟨ao,cap,hv,h1,h2,hg,hl,hz,hr⟩:=h
 exact⟨ao,cap,hv,h1,h2,hg.mono hb,hl,hz,hr⟩
theorem OwnP.drewN {base n:Nat}{v:Value}{c:Nat→Nat}{w:World}(h:OwnP base v n c w)(k:Nat):OwnP base v n c (w.drewN k):=by
 obtain⟨ao,cap,hv,h1,h2,hg,hl,hz,hr⟩:=h
 refine⟨ao,cap,hv,h1,h2,hg,hl,hz,fun h0=>?_⟩
 obtain⟨g,e',hrow⟩:=hr h0
 exact⟨g,e',hrow.drewN k⟩
theorem OwnP.open {base n:Nat}{v:Value}{c:Nat→Nat}{w:World}(h:OwnP base v n c w):∃ao cap,v = .slice ao n cap∧n≤cap∧cap≤9223372036854775807∧GeB ao base∧LtB ao w.heap.size∧(ao=none→cap=0)∧Sl ao n c w:=by
 obtain⟨ao,cap,hv,h1,h2,hg,hl,hz,hr⟩:=h
 refine⟨ao,cap,hv,h1,h2,hg,hl,hz,fun j hj=>?_⟩
 obtain⟨g,e,hrow⟩:=hr (by omega)
 exact⟨g,0,e,by rw[Nat.zero_add];exact hrow.cell j hj⟩
def pin(D:FD)(a b:Nat→Nat)(r j:Nat):Nat→Nat:=fun k=>if r≤k∧k<r+j then pmul D (r+1) a b k else pmul D r a b k
theorem pin_zero(D:FD)(a b:Nat→Nat)(r:Nat):pin D a b r 0=pmul D r a b:=by funext k;unfold pin;rw[if_neg (by omega)]
theorem pin_all {D:FD}(F:Fld D){a b:Nat→Nat}{m:Nat}(hb:Bd m b)(r:Nat):pin D a b r m=pmul D (r+1) a b:=by
 funext k
 unfold pin
 by_cases h:r≤k∧k<r+m
 ·rw[if_pos h]
 ·rw[if_neg h]
  show _=D.ad (pmul D r a b k) (psh r (pscale D (a r) b) k)
  unfold psh pscale
  by_cases h2:r≤k
  ·rw[if_pos h2,hb (k-r) (by omega),mul0 F,ad_zero F (el_mul F a b r k)]
  ·rw[if_neg h2,ad_zero F (el_mul F a b r k)]
theorem pin_at(D:FD)(a b:Nat→Nat)(r j:Nat):pin D a b r j (r+j)=pmul D r a b (r+j):=by unfold pin;rw[if_neg (by omega)]
theorem pin_new(D:FD)(a b:Nat→Nat)(r j:Nat):D.ad (pmul D r a b (r+j)) (D.mul (a r) (b j))=pmul D (r+1) a b (r+j):=by
 show _=D.ad (pmul D r a b (r+j)) (psh r (pscale D (a r) b) (r+j))
 unfold psh pscale
 rw[if_pos (by omega),Nat.add_sub_cancel_left]
theorem pin_step(D:FD)(a b:Nat→Nat)(r j k:Nat):pin D a b r (j+1) k=if k=r+j then pmul D (r+1) a b (r+j)else pin D a b r j k:=by
 unfold pin
 by_cases h:k=r+j
 ·rw[if_pos h,if_pos (by omega),h]
 ·rw[if_neg h]
  by_cases h2:r≤k∧k<r+j
  ·rw[if_pos h2,if_pos (by omega)]
  ·rw[if_neg h2,if_neg (by omega)]
end
section
open Go
def HeadAll(P:Program)(ops:Array Oper)(C:World→Prop)(n:Nat)(L:Array Bool→Act→Prop):Nat→Array Bool→Act→Prop
 | 0,s,a=>L s a
 |f+1,s,a=>Region.ready .any ops s≠[]∧∀i,i∈Region.ready .any ops s→i<n∧qOp P ops C i (HeadAll P ops C n L f (s.setIfInBounds i true)) a
theorem head_any {P:Program}{ops:Array Oper}{C:World→Prop}{n g:Nat}{L:Array Bool→Act→Prop}{Q:Exit→Act→World→Prop}(hL:∀s a w, C w→L s a→wpAny P .any ops Q g s a w) :
  ∀(f:Nat) (s:Array Bool) (a:Act) (w:World),C w→HeadAll P ops C n L f s a→wpAny P .any ops Q (f+g) s a w:=by
 intro f
 induction f with
 | zero=>intro s a w hw h;rw[Nat.zero_add];exact hL s a w hw h
 | succ f ih=>
  intro s a w hw h
  rw[show f+1+g=f+g+1 from by omega]
  exact⟨fun e=>absurd e h.1,fun i hi=>wpOp_of_qOp hw (fun a' w' hw' h'=>ih _ a' w' hw' h') (h.2 i hi).2⟩
theorem head_first {P:Program}{ops:Array Oper}{C:World→Prop}{n i:Nat}{oi:Oper}{v:Value}{L:Array Bool→Act→Prop}(hi:ops[i]?=some oi)
  (hsel:∀(j:Nat) (o:Oper) cs b,ops[j]?=some o→o.op ≠ .select cs b) (hs:Region.sinkB .any ops n=true) (hc:Region.chainB .any ops n=true) (hn:n<ops.size) (hin:i<n)
  (hdone:∀s a,L s a→∀j,j∈Region.ready .any ops s→n≤j) :
  ∀(f:Nat) (s:Array Bool) (a:Act),HeadInv .any ops n s →
   (∀j oj,ops[j]?=some oj→j≠i→s.getD j true=false→(∀e∈oj.after,Region.binds .any e=true→e.on≠i)→oi.apart ops oj=true)→
   i∈Region.ready .any ops s→YieldsIn P ops C oi v a→HeadAll P ops C n L f (s.setIfInBounds i true) (a.put oi.dst v)→HeadAll P ops C n L (f+1) s a:=by
 intro f
 induction f with
 | zero=>
  intro s a inv _ hr hy H
  refine⟨fun e=>(by rw[e]at hr;cases hr),fun j hj=>?_⟩
  have hjn:j<n:=Nat.lt_of_not_le fun h=>tail_waits hs hc hn inv _ i rfl hin (mem_ready.1 hr).1 j h hj
  by_cases e:j=i
  ·exact⟨hjn,by subst e;exact hy.qOp hi H⟩
  ·exact absurd (hdone _ _ H j (ready_mono hj e)) (by omega)
 | succ f ih=>
  intro s a inv hfree hr hy H
  refine⟨fun e=>(by rw[e]at hr;cases hr),fun j hj=>?_⟩
  have hun:=(mem_ready.1 hr).1
  have hjn:j<n:=Nat.lt_of_not_le fun h=>tail_waits hs hc hn inv _ i rfl hin hun j h hj
  by_cases e:j=i
  ·exact⟨hjn,by subst e;exact hy.qOp hi H⟩
  ·obtain⟨hju,oj,hoj,hall⟩:=mem_ready.1 hj
   have hno:∀d∈oj.after,Region.binds .any d=true→d.on≠i:=fun d hd hb heq=>by
    have t:=hall d hd hb
    rw[heq,getD_both hun]at t
    cases t
   have h2:=qOp_put hoj (hfree j oj hoj e hju hno) (fun cs b=>hsel i oi cs b hi) (fun cs b=>hsel j oj cs b hoj) hy (H.2 j (ready_mono hj e)).2
   refine⟨hjn,qOp_mono (fun a' h3=>?_) h2⟩
   refine ih (s.setIfInBounds j true) a' (inv.set hj hjn) (fun k ok hk hki hun hno=>hfree k ok hk hki ?_ hno) (ready_mono hr (fun x=>e x.symm)) h3.1 ?_
   ·by_cases hjk:j=k
    ·subst hjk;exact hju
    ·rw[getD_set_ne true hjk]at hun;exact hun
   ·rw[Array.setIfInBounds_comm _ _ e];exact h3.2
theorem head_lex {P:Program}{ops:Array Oper}{C:World→Prop}{n g:Nat}{K:Act→Prop}(hsel:Region.noSelect ops=true)(hs:Region.sinkB .any ops n=true)(hc:Region.chainB .any ops n=true)(hn:n<ops.size) :
  ∀(l:List Oper) (k:Nat) (s:Array Bool) (a:Act),(∀j,j<l.length→l[j]?=ops[k+j]?)→k+l.length=n→HeadInv .any ops n s →
   Region.lexHead .any ops g l.length k s=true→wpQuiet P ops C K l a→HeadAll P ops C n (fun s' a'=>Region.seqB .any ops g n s'=true∧K a') l.length s a:=by
 intro l
 induction l with
 | nil=>
  intro k s a _ hk _ hB h
  have e:k=n:=by simpa using hk
  subst e
  exact⟨by simpa [Region.lexHead]using hB,h⟩
 | cons o l ih=>
  intro k s a hl hk inv hB h
  have h0:ops[k]?=some o:=by simpa using (hl 0 (by simp)).symm
  simp only[List.length_cons,Region.lexHead,Bool.and_eq_true]at hB
  obtain⟨⟨hr,hf⟩,hB'⟩:=hB
  simp only[List.length_cons]at hk
  have hr':k∈Region.ready .any ops s:=by simpa using hr
  have hq:qOp P ops C k (wpQuiet P ops C K l) a:=by unfold qOp;simp only[h0];exact h
  obtain⟨v,hy,hK⟩:=yieldsIn_of_qOp h0 hq
  refine head_first h0 (Region.noSelect_spec hsel) hs hc hn (by omega) (fun s' a' hL=>seqB_ready hL.1) l.length s a inv (Region.free_spec h0 hf) hr' hy ?_
  exact ih (k+1) _ _ (fun j hj=>by have:=hl (j+1) (by simp;omega);simpa [Nat.add_assoc,Nat.add_comm 1 j]using this) (by omega) (inv.set hr' (by omega)) hB' hK
theorem quiet_tail {P:Program}{id:Nat}{Q:Exit→Act→World→Prop}{a:Act}{w:World}{l:List Oper}(n:Nat)(hm:P.follows .mixedOrders=true)(hB:Region.lexTailB .any l.toArray n=true)
  (h:wpQuiet P l.toArray (fun w'=>∃k,w'=w.drewN k) (fun a'=>∀w',(∃k,w'=w.drewN k)→wpList P l.toArray Q (l.drop n) a' w') (l.take n) a):(Code.region id l.toArray true).wp P Q a w:=by
 simp only[Region.lexTailB,Bool.and_eq_true,decide_eq_true_eq]at hB
 obtain⟨⟨⟨⟨hsel,hn⟩,hs⟩,hc⟩,hlex⟩:=hB
 have hn':n<l.length:=by simpa using hn
 have htl:(l.take n).length=n:=by simp;omega
 have hdl:(l.drop n).length=l.toArray.size-n:=by simp
 have inv0:HeadInv .any l.toArray n (Array.replicate l.toArray.size false):=
  ⟨by simp,fun j oj _ hl=>(by rw[getD_replicate_false]at hl;cases hl),fun t _ ht=>getD_in (by simpa using ht) (getD_replicate_false _ _)⟩
 have H:=head_lex (g:=l.toArray.size-n) hsel hs hc hn (l.take n) 0 _ a (fun j hj=>by
  have hj':j<n:=by rw[htl]at hj;exact hj
  simp[hj']) (by simpa using htl) inv0 (by rw[htl];exact hlex) h
 refine wp_region_any hm ?_
 have R:=head_any (Q:=Q) (g:=l.toArray.size-n) (fun s a' w' hw' hL=>by
  have:=wpAny_of_seq (md:= .any) (Q':=Q) (l.drop n) n s a' w' (fun j=>by simp[List.getElem?_drop]) (by rw[hdl];exact hL.1) (hL.2 w' hw')
  rwa [hdl]at this) _ _ _ _ (show ∃k,{ w with drawn:=w.drawn+1 }=w.drewN k from⟨1,rfl⟩) H
 rw[htl,show n+(l.toArray.size-n)=l.toArray.size by omega]at R
 exact R
end
section
open Go.RowKit
set_option maxHeartbeats 4000000 in
set_option maxRecDepth 100000 in
theorem product_any {F T:Nat}{D:FD}(hD:D∈fieldsL){g:Nat→Value}{w:World}(h:FAt F T D g w){ao bo:Option Addr}{n m ca cb:Nat}{a b:Nat→Nat}(hn:n≤1000)(hm:m≤1000)(ha:El D a)(hb:El D b)(hbm:Bd m b)(hA:Sl ao n a w)(hB:Sl bo m b w)(hla:LtB ao w.heap.size)(hlb:LtB bo w.heap.size) :
  Calls Tryz.prog 125 #[.pointer (some ⟨F,0,none⟩),.slice ao n ca,.slice bo m cb] w fun e w'=>
   e = .returned (.slice (some ⟨w.heap.size,0,none⟩) (dgn (pmul D n a b) (n+m)) (n+m))∧Row w.heap.size (n+m) (pmul D n a b) w'∧Below w.heap.size w w':=by
 have HF:Hid (FAt F T D g w∧D∈fieldsL∧Sl ao n a w∧Sl bo m b w∧El D a∧El D b∧Bd m b):=⟨h,hD,hA,hB,ha,hb,hbm⟩
 have HL:Hid (LtB ao w.heap.size∧LtB bo w.heap.size):=⟨hla,hlb⟩
 clear h hD hA hB ha hb hbm hla hlb
 obtain⟨N,hN⟩:∃N,N=n+m:=⟨_,rfl⟩
 rw[←hN]
 have HN:Hid (N=n+m):=hN
 have hN2:N≤2000:=by omega
 clear hN
 go_enter Tryz.func125,Tryz.ntmps125
 go_wp2_with (at_make;refine make_int rfl _ _ rfl _ N rfl rfl (by have:=HN.out;omega) (by omega) ?_;intro w1 hown1 hgrow1)
 have HB1:Hid (Below w.heap.size w w1∧Row w.heap.size N pnil w1):=⟨below_grown hgrow1 (Nat.le_refl _) (fun k hk=>by simp at hk),row_zeros hown1⟩
 clear hown1 hgrow1
 go_loopw [20] (fun i wr=>∃r:Nat,r≤n∧i = .int .i64 r∧Row w.heap.size N (pmul D r a b) wr∧Below w.heap.size w wr) (fun i _=>n-(intOf i).toNat)
 case atStart=>exact⟨0,by omega,rfl,HB1.out.2,HB1.out.1⟩
 case round=>
  obtain⟨r,hr,rfl,hrow,hbel⟩:=hrel
  have HG:Hid (Row w.heap.size N (pmul D r a b) wr∧Below w.heap.size w wr):=⟨hrow,hbel⟩
  clear hrow hbel
  by_cases hlt:r<n
  ·obtain⟨ba,offa,rfl,hca⟩:=(HF.out.2.2.1.below HG.out.2 HL.out.1) r hlt
   go_wp2
   go_loopw [27] (fun i wr=>∃j:Nat,j≤m∧i = .int .i64 j∧Row w.heap.size N (pin D a b r j) wr∧Below w.heap.size w wr) (fun i _=>m-(intOf i).toNat)
   case atStart=>exact⟨0,by omega,rfl,by rw[pin_zero];exact HG.out.1,HG.out.2⟩
   case round=>
    clear HG hca
    obtain⟨j,hj,rfl,hrow,hbel⟩:=hrel
    have HG:Hid (Row w.heap.size N (pin D a b r j) wr∧Below w.heap.size w wr):=⟨hrow,hbel⟩
    clear hrow hbel
    by_cases hjm:j<m
    ·obtain⟨bb,offb,rfl,hcb⟩:=(HF.out.2.2.2.1.below HG.out.2 HL.out.2) j hjm
     have hco:wr.cell? ⟨w.heap.size,r+j,none⟩=some (.int .i64 (pmul D r a b (r+j):Nat)):=by rw[←pin_at];exact HG.out.1.cell _ (by have:=HN.out;omega)
     have hfo:=HG.out.1.free (r+j)
     obtain⟨p,hp⟩:∃p,p=pmul D r a b (r+j):=⟨_,rfl⟩
     obtain⟨y,hy⟩:∃y,y=D.mul (a r) (b j):=⟨_,rfl⟩
     obtain⟨z,hz⟩:∃z,z=pmul D (r+1) a b (r+j):=⟨_,rfl⟩
     have HC1:Hid (∀d,Calls Tryz.prog 67 #[.pointer (some ⟨F,0,none⟩),.int .i64 (a r:Nat),.int .i64 (b j:Nat)] (wr.drewN d) fun e w'=>e = .returned (.int .i64 (y:Nat))∧∃k,w'=(wr.drewN d).drewN k):=by
      intro d;rw[hy];exact mul_nat HF.out.2.1 ((HF.out.1.below HG.out.2 HF.out.1.ltF HF.out.1.ltT).drewN d) (HF.out.2.2.2.2.1 r) (HF.out.2.2.2.2.2.1 j)
     have HC2:Hid (∀d,Calls Tryz.prog 66 #[.pointer (some ⟨F,0,none⟩),.int .i64 (p:Nat),.int .i64 (y:Nat)] (wr.drewN d) fun e w'=>e = .returned (.int .i64 (z:Nat))∧∃k,w'=(wr.drewN d).drewN k):=by
      intro d
      have h:=add_nat HF.out.2.1 ((HF.out.1.below HG.out.2 HF.out.1.ltF HF.out.1.ltT).drewN d) (el_mul (fld HF.out.2.1) a b r (r+j)) ((fld HF.out.2.1).mul_lt (a r) (b j))
      rw[hz,hp,hy, ←pin_new];exact h
     have HV:Hid (Row w.heap.size N (pin D a b r j) wr∧Below w.heap.size w wr∧FAt F T D g wr∧∀k,pin D a b r (j+1) k=if k=r+j then z else pin D a b r j k):=
      ⟨HG.out.1,HG.out.2,HF.out.1.below HG.out.2 HF.out.1.ltF HF.out.1.ltT,fun k=>by rw[hz];exact pin_step D a b r j k⟩
     rw[←hp]at hco
     clear hp hy hz HG
     obtain⟨s,hs⟩:∃s:Nat,s=r+j:=⟨_,rfl⟩
     have w1':IntKind.i64.wrap ((r:Int)+(j:Int))=(s:Int):=wrap_to (by omega) (by omega)
     have hsb:(s:Int)<(N:Int):=by have:=HN.out;omega
     rw[←hs]at hco hfo HV
     clear hs
     go_wp2
     refine quiet_tail 17 (by kernel_rfl) (by kernel_rfl) ?_
     simp only[List.take_succ_cons,List.take_zero,List.drop_succ_cons,List.drop_zero]
     repeat(go_big_quiet_step (first|(go_at_call 67;exact Calls.quiet_of (HC1.out _))|(go_at_call 66;exact Calls.quiet_of (HC2.out _))))
     refine wpQuiet_nil ?_
     intro _ hw'
     obtain⟨nq,hw''⟩:=hw'
     subst hw''
     go_wp2
     go_roundw
     case rel=>exact⟨j+1,by omega,by go_num,(HV.out.1.drewN nq).store s z (fun k _=>HV.out.2.2.2 k),(below_drewN2 HV.out.2.1 nq).setCell (by simp) _⟩
     case measure=>simp[intOf];omega
    ·have HE:Hid (Row w.heap.size N (pmul D (r+1) a b) wr):=by
      show Row _ _ _ _
      have h:=HG.out.1
      rw[show j=m from by omega,pin_all (fld HF.out.2.1) HF.out.2.2.2.2.2.2 r]at h;exact h
     go_wp2
     go_roundw
     case rel=>exact⟨r+1,by omega,by go_num,HE.out,HG.out.2⟩
     case measure=>simp[intOf];omega
  ·have e:r=n:=by omega
   subst e
   go_wp2_with fail
   refine(trim_any (HG.out.1.sl (Nat.le_refl _)) (Nat.le_refl _) (by omega)).mono ?_
   rintro e w' ⟨rfl,k,rfl⟩
   go_wp2
   go_ret
   exact⟨rfl,HG.out.1.drewN _,below_drewN2 HG.out.2 _⟩
def celL(n:Nat)(c:Nat→Nat):List Value:=(List.range n).map fun k=> .int .i64 (c k:Nat)
theorem celL_len(n:Nat)(c:Nat→Nat):(celL n c).length=n:=by simp[celL]
theorem celL_get(n:Nat)(c:Nat→Nat)(j:Nat)(hj:j<n):(celL n c)[j]?=some (.int .i64 (c j:Nat)):=by
 unfold celL
 rw[List.getElem?_map,List.getElem?_range hj];rfl
theorem celL_one(n:Nat)(c:Nat→Nat):∀u∈celL n c,u.oneCell'=true:=by
 intro u hu
 unfold celL at hu
 obtain⟨k,_,rfl⟩:=List.mem_map.1 hu
 rfl
theorem add_off(b off j:Nat):(Addr.mk b off none).add j=⟨b,off+j,none⟩:=by simp[Addr.add]
theorem copy_int {ops:Array Oper}{rest:List Oper}{o:Oper}{a:Act}{w:World}{Q:Exit→Act→World→Prop}(hgd:o.guard=none)(d s:Operand)
  (ho:o.op = .call { callee:= .builtin .copy,args := #[d,s],argTypes := #[22,22]}) (g N dc n sc:Nat) (ao:Option Addr)
  (hd:a.eval d = .slice (some ⟨g,0,none⟩) N dc) (hs:a.eval s = .slice ao n sc) (c x:Nat→Nat) (hrow:Row g N c w) (hS:Sl ao n x w) (hn:n≤N)
  (B:Nat) (w0:World) (hb:Below B w0 w) (hBg:B≤g)
  (h:∀w',Row g N (fun k=>if k<n then x k else c k) w'→Below B w0 w'→wpList Tryz.prog ops Q rest (a.put o.dst (goInt n)) w'):wpList Tryz.prog ops Q (o::rest) a w:=by
 obtain⟨cap,f,hf,hN,he⟩:=hrow
 obtain⟨cs,h1,h2,h3⟩:=hf
 obtain⟨i0,hi,hz0,hz1,hz2⟩:=info_parts Tryz.infoInt
 have hh:w.heap[g]?=some (.cells cs.toList.toArray 3 (0,0)):=by simpa using h1
 refine wpList_copy_splice hgd d s 22 22 ho 3 Tryz.underlying22 (by rw[hi];simp[hz1]) _ _ N dc n sc hd hs g 0 cs.toList 3 hh (celL n x) (by rw[celL_len];exact(Nat.min_eq_left hn).symm) ?_ (by rw[celL_len];simp;omega) (celL_one n x) B w0 hb hBg ?_
 ·intro h0
  rw[celL_len]at h0
  obtain⟨b,off,rfl,_⟩:=hS 0 h0
  refine⟨rfl,_,rfl,fun j v hj=>?_⟩
  have hj':j<n:=by
   have:=(List.getElem?_eq_some_iff.1 hj).1
   rwa [celL_len]at this
  rw[celL_get n x j hj']at hj
  cases hj
  obtain⟨b',off',e,hc⟩:=hS j hj'
  cases e
  rw[add_off];exact hc
 ·intro w' hg' hb'
  rw[celL_len]
  refine h w' ?_ hb'
  have hlen:(splice cs.toList 0 (celL n x)).length=cap:=by rw[length_splice _ _ _ (by rw[celL_len];simp;omega)];simpa using h2
  refine⟨cap,fun k=>if k<n then .int .i64 (x k:Nat)else f k,⟨(splice cs.toList 0 (celL n x)).toArray,hg'.out,by simpa using hlen,fun k hk=>?_⟩,hN,fun k hk=>?_⟩
  ·show _=some (if k<n then _ else f k)
   unfold splice
   rw[List.getElem?_toArray,List.take_zero,List.nil_append,celL_len,Nat.zero_add]
   by_cases e:k<n
   ·rw[List.getElem?_append_left (by rw[celL_len];exact e),celL_get n x k e,if_pos e]
   ·rw[List.getElem?_append_right (by rw[celL_len];omega),celL_len,List.getElem?_drop,show n+(k-n)=k from by omega,Array.getElem?_toList,h3 k hk,if_neg e]
  ·show(if k<n then _ else f k) = .int .i64 ((if k<n then x k else c k:Nat):Int)
   by_cases e:k<n
   ·rw[if_pos e,if_pos e]
   ·rw[if_neg e,if_neg e];exact he k hk
theorem append_list {ops:Array Oper}{rest:List Oper}{o:Oper}{a:Act}{w:World}{Q:Exit→Act→World→Prop}(hgd:o.guard=none)(s x:Operand)
  (ho:o.op = .call { callee:= .builtin .append,args := #[s,x],argTypes := #[22,22]})
  (base:Nat) (v:Value) (hs:a.eval s=v) (hown:OwnI base v [] w) (ao:Option Addr) (n sc:Nat) (c:Nat→Nat) (hx:a.eval x = .slice ao n sc) (hS:Sl ao n c w) (hnil:ao=none→sc=0)
  (hn:n≤1000000) (hbase:base≤w.heap.size)
  (h:∀v' w',OwnP base v' n c w'→w.grownBy w' v.ownBlock→wpList Tryz.prog ops Q rest (a.put o.dst v') w'):wpList Tryz.prog ops Q (o::rest) a w:=by
 obtain⟨i0,hi,hz0,hz1,hz2⟩:=info_parts Tryz.infoInt
 have key:∀v' w',w'.ownsRow base 3 1 v' (0+n) ([]++celL n c)→OwnP base v' n c w':=by
  intro v' w' ho'
  rw[Nat.zero_add,List.nil_append]at ho'
  rcases ho'.2 with⟨h1,h2⟩|⟨g,cap,cur,hv,hg,hh,hle,hcm,hsz,htake⟩
  ·subst h2
   exact⟨none,0,h1,Nat.le_refl _,by omega,fun x hx=>(by cases hx),fun x hx=>(by cases hx),fun _=>rfl,fun h0=>absurd h0 (by omega)⟩
  ·refine⟨_,cap,hv,hle,by unfold maxLen at hcm;omega,fun x hx=>(by cases hx;exact hg),fun x hx=>(by cases hx;exact lt_of_block hh),fun e=>(by cases e),fun _=>⟨g,rfl,cap,fun k=>(cur[k]?).getD (.int .i64 0),⟨cur,hh,by omega,fun k hk=>?_⟩,hle,fun k hk=>?_⟩⟩
   ·show _=some (Option.getD _ _)
    rw[Array.getElem?_eq_getElem (by omega)];rfl
   ·have h3:(cur.toList.take (n*1))[k]?=(celL n c)[k]?:=by rw[htake]
    rw[List.getElem?_take,if_pos (by omega),celL_get n c k hk]at h3
    show(cur[k]?).getD _=_
    rw[←Array.getElem?_toList,h3];rfl
 cases ao with
 | none=>
  have h0:n=0:=by
   rcases Nat.eq_zero_or_pos n with e|e
   ·exact e
   ·obtain⟨b,off,h1,_⟩:=hS 0 e
    cases h1
  subst h0
  rw[hnil rfl]at hx
  refine wpList_append_own_none hgd s x 22 ho base 3 i0 1 Tryz.underlying22 hi v 0 [] hs hown hx ?_
  exact h v w (key v w hown) (grown_refl _ _)
 | some ad=>
  refine wpList_append_own _ hgd s x 22 ho base 3 i0 (.int .i64 0) 1 8 Tryz.underlying22 hi hz0 hz1 hz2 rfl (by decide) v 0 [] hs hown ad n sc (celL n c) hx (by rw[celL_len];omega) ?_ (celL_one n c) ?_ ?_ hbase ?_
  ·intro j u hj
   have hj':j<n:=by
    have:=(List.getElem?_eq_some_iff.1 hj).1
    rwa [celL_len]at this
   rw[celL_get n c j hj']at hj
   cases hj
   obtain⟨b,off,e,hc⟩:=hS j hj'
   cases e
   rw[add_off];exact hc
  ·unfold maxLen;omega
  ·omega
  ·intro v' w' hown' hgrow _
   exact h v' w' (key v' w' hown') hgrow
end
end Go.Proofs.YtedifobeggabnaaGreat
