/- Texts of ours, one behind the other: S20 KA1 KA2 KA3 KA4 KA5 KA6 KA7 S23 S24 S25 S27 S28 KD1 W13. -/
import Derived.Test.YtedifobeggabnaaGreatCbM1
import Derived.Test.YtedifobeggabnaaGreatCbM3
import Derived.Test.YtedifobeggabnaaGreatCbN1
import Derived.Test.YtedifobeggabnaaGreatCbQ1
import Derived.Deep.CutBlock
import Derived.Deep.DeepCutAuto
import Derived.Test.YtedifobeggabnaaGreatCbR5
import Derived.Test.YtedifobeggabnaaGreatCbZ1
import Derived.Test.YtedifobeggabnaaGreatCbL10
import Derived.Test.YtedifobeggabnaaGreatCbU5
namespace Go.Proofs.YtedifobeggabnaaGreat
section
open Go.RowKit
theorem wrap_ka {a:Int}(h1 : -9223372036854775808≤a)(h2:a≤9223372036854775807):IntKind.i64.wrap a=a:=by
 rw[IntKind.wrap_i64]
 first|omega|(unfold wrap64;omega)
end
section
open Go.RowKit Go.Sort
theorem results_four {fn:Func}{t u v x:Tmp}(h:fn.results = #[.tmp t,.tmp u,.tmp v,.tmp x])(tmps:Array Value)(P:Program)(w:World) :
  (results fn tmps).run P w = .ok (.tuple #[tmps.getD t undef,tmps.getD u undef,tmps.getD v undef,tmps.getD x undef]) w:=by
 simp[results,h]
end
theorem ct_mono {p p':Nat→Bool}:∀n,(∀i,i<n→p i=true→p' i=true)→ct p n≤ct p' n
 | 0,_=>Nat.le_refl _
 |n+1,h=>by
  have h1:=ct_mono n (fun i hi=>h i (by omega))
  have h2:=h n (by omega)
  show ct p n+(if p n=true then 1 else 0)≤ct p' n+if p' n=true then 1 else 0
  by_cases e:p n=true
  ·rw[if_pos e,if_pos (h2 e)];omega
  ·rw[if_neg e];omega
section
open Go.RowKit Go.Sort
theorem ct_all {p:Nat→Bool}:∀n,(∀i,i<n→p i=true)→ct p n=n
 | 0,_=>rfl
 |n+1,h=>by
  show ct p n+(if p n=true then 1 else 0)=n+1
  rw[ct_all n (fun i hi=>h i (by omega)),if_pos (h n (by omega))]
theorem ct_same {p p':Nat→Bool}:∀n,(∀i,i<n→p i=p' i)→ct p n=ct p' n
 | 0,_=>rfl
 |n+1,h=>by
  show ct p n+(if p n=true then 1 else 0)=ct p' n+if p' n=true then 1 else 0
  rw[ct_same n (fun i hi=>h i (by omega)),h n (by omega)]
theorem trd_le {n m:Nat}{c:Nat→Nat}(h:Trd m c)(hb:Bd n c):m≤n:=by
 refine Nat.le_of_not_lt fun hl=>?_
 exact h.2 (by omega) (hb (m-1) (by omega))
theorem ct_or(p q:Nat→Bool):∀n,ct (fun i=>p i || q i) n≤ct p n+ct q n
 | 0=>Nat.le_refl _
 |n+1=>by
  have:=ct_or p q n
  show ct (fun i=>p i || q i) n+(if(p n || q n)=true then 1 else 0)≤ct p n+(if p n=true then 1 else 0)+(ct q n+if q n=true then 1 else 0)
  cases p n<;>cases q n<;>simp<;>omega
def ofs(D:FD)(k n:Nat)(xs y a:Nat→Nat):Nat:=ct (fun i => !decide (D.ev a (xs i) k=y i)) n
theorem near_one {D:FD}(F:Fld D){xs y a b:Nat→Nat}{n k:Nat}(hk:k≤n)(hx:∀i,i<n→xs i<D.q)(hne:∀i j,i<n→j<n→i≠j→xs i≠xs j)(ha:El D a)(hb:El D b)(hba:Bd k a)(hbb:Bd k b)(h1:2*ofs D k n xs y a≤n-k)(h2:2*ofs D k n xs y b≤n-k):a=b:=by
 refine Classical.byContradiction fun h=>?_
 have h3:=far_apart F hx hne ha hb hba hbb h
 have h4:ct (fun i => !decide (D.ev a (xs i) k=D.ev b (xs i) k)) n≤ct (fun i => !decide (D.ev a (xs i) k=y i) || !decide (D.ev b (xs i) k=y i)) n:=ct_mono n fun i _ he=>by
  by_cases e1:D.ev a (xs i) k=y i
  ·by_cases e2:D.ev b (xs i) k=y i
   ·rw[e1,e2]at he
    simp at he
   ·simp[e2]
  ·simp[e1]
 have h5:=ct_or (fun i => !decide (D.ev a (xs i) k=y i)) (fun i => !decide (D.ev b (xs i) k=y i)) n
 unfold ofs at h1 h2
 omega
theorem key_eq {D:FD}(F:Fld D){xs y a N E:Nat→Nat}{n k wr M:Nat}(hM1:k+wr≤M)(hM2:M+wr≤n)(hx:∀i,i<n→xs i<D.q)(hne:∀i j,i<n→j<n→i≠j→xs i≠xs j)(hN:El D N)(hbN:Bd M N)(hE:El D E)(hbE:Bd (wr+1) E)(ho:ofs D k n xs y a≤wr)(he:∀i,i<n→D.ev N (xs i) M=D.mul (y i) (D.ev E (xs i) (wr+1))):N=pmul D k a E:=by
 have hd:El D (psub D N (pmul D k a E)):=el_sub F hN (el_mul F _ _ _)
 have hpb:Bd (k+wr) (pmul D k a E):=by
  have:=pmul_bd F (a:=a) hbE k
  rw[show k+(wr+1)-1=k+wr by omega]at this
  exact this
 have hbd:Bd M (psub D N (pmul D k a E)):=fun j hj=>by
  show D.sb (N j) (pmul D k a E j)=0
  rw[hbN j hj,hpb j (by omega),sb_self F (zero_lt' F)]
 refine psub_eq_nil F hN (el_mul F _ _ _) (Classical.byContradiction fun h0=>?_)
 have h1:=few_roots F hx hne M hd hbd h0
 have h2:ct (fun i=>decide (D.ev a (xs i) k=y i)) n≤ct (fun i=>decide (D.ev (psub D N (pmul D k a E)) (xs i) M=0)) n:=ct_mono n fun i hi hc=>by
  have hc:D.ev a (xs i) k=y i:=of_decide_eq_true hc
  refine decide_eq_true ?_
  have e1:D.ev (pmul D k a E) (xs i) M=D.mul (y i) (D.ev E (xs i) (wr+1)):=by
   rw[ev_from F (xs i) hpb hM1, ←ev_from F (xs i) hpb (show k+wr≤k+(wr+1) by omega),ev_mul F (xs i) hbE hE k (k+(wr+1)) (Nat.le_refl _),hc]
  rw[ev_sub F (xs i) hN (el_mul F _ _ _),he i hi,e1,sb_self F (F.mul_lt _ _)]
 have h3:=ct_not (fun i=>decide (D.ev a (xs i) k=y i)) n
 unfold ofs at ho
 omega
def elc(D:FD)(err:Nat→Bool)(xs:Nat→Nat):Nat→Nat→Nat
 | 0=>pone
 |i+1=>if err i=true then pmul D 2 (xmr D (xs i)) (elc D err xs i)else elc D err xs i
theorem elc_ok {D:FD}(F:Fld D){err:Nat→Bool}{xs:Nat→Nat}{n:Nat}(hx:∀i,i<n→xs i<D.q):∀i,i≤n→El D (elc D err xs i)∧Bd (ct err i+1) (elc D err xs i)∧elc D err xs i (ct err i)=1∧∀j,j<i→err j=true→D.ev (elc D err xs i) (xs j) (ct err i+1)=0
 | 0,_=>⟨el_one F,fun j hj=>if_neg (by omega),rfl,fun j hj=>absurd hj (by omega)⟩
 |i+1,h=>by
  obtain⟨h1,h2,h3,h4⟩:=elc_ok F (err:=err) hx i (by omega)
  have hxi:=hx i (by omega)
  by_cases e:err i=true
  ·have ec:ct err (i+1)=ct err i+1:=by
    show ct err i+(if err i=true then 1 else 0)=_
    rw[if_pos e]
   have ee:elc D err xs (i+1)=pmul D 2 (xmr D (xs i)) (elc D err xs i):=by
    show(if err i=true then _ else _)=_
    rw[if_pos e]
   rw[ec,ee]
   refine⟨el_mul F _ _ _,?_,?_,fun j hj hjj=>?_⟩
   ·have:=pmul_bd F (a:=xmr D (xs i)) h2 2
    rw[show 2+(ct err i+1)-1=ct err i+1+1 by omega]at this
    exact this
   ·have:=pmul_top F (a:=xmr D (xs i)) (n:=1) h2
    rw[show 1+ct err i=ct err i+1 by omega,h3]at this
    rw[this]
    show D.mul (if 1=0 then _ else if 1=1 then 1 else 0) 1=1
    rw[if_neg (by omega),if_pos rfl,mul1 F (one_lt' F)]
   ·rw[←ev_from F (xs j) (n:=ct err i+1+1) (N:=2+(ct err i+1)) (by
     have:=pmul_bd F (a:=xmr D (xs i)) h2 2
     rw[show 2+(ct err i+1)-1=ct err i+1+1 by omega]at this
     exact this) (by omega),ev_mul F (xs j) h2 h1 2 _ (Nat.le_refl _)]
    by_cases ej:j=i
    ·rw[ej,xmr_ev F hxi hxi,sb_self F hxi,zmul F]
    ·rw[h4 j (by omega) hjj,mul0 F]
  ·have ec:ct err (i+1)=ct err i:=by
    show ct err i+(if err i=true then 1 else 0)=_
    rw[if_neg e];rfl
   have ee:elc D err xs (i+1)=elc D err xs i:=by
    show(if err i=true then _ else _)=_
    rw[if_neg e]
   rw[ec,ee]
   refine⟨h1,h2,h3,fun j hj hjj=>?_⟩
   by_cases ej:j=i
   ·rw[ej]at hjj;exact absurd hjj e
   ·exact h4 j (by omega) hjj
structure Euc(D:FD)(n:Nat)(xs y:Nat→Nat)(A B S T:Nat→Nat)(lA lB lS lT:Nat):Prop where
 eA:El D A
 eB:El D B
 eS:El D S
 eT:El D T
 tA:Trd lA A
 tB:Trd lB B
 bS:Bd lS S
 tT:Trd lT T
 lt:lB<lA
 ls:lS<lT
 sum:lT+lA=n+2
 atA:∀i,i<n→∀N,lA≤N→∀M,lS≤M→D.ev A (xs i) N=D.mul (y i) (D.ev S (xs i) M)
 atB:∀i,i<n→∀N,lB≤N→∀M,lT≤M→D.ev B (xs i) N=D.mul (y i) (D.ev T (xs i) M)
theorem Euc.step {D:FD}(F:Fld D){n:Nat}{xs y A B S T Q C:Nat→Nat}{lA lB lS lT lQ lC:Nat}(h:Euc D n xs y A B S T lA lB lS lT)(tQ:Trd lQ Q)(eC:El D C)(tC:Trd lC C)(hC:lC<lB)(hA:A=padd D (pmul D lQ Q B) C)(hl:lQ+lB=lA+1) :
  Euc D n xs y B C T (psub D S (pmul D lQ Q T)) lB lC lT (lQ+lT-1):=by
 have hq2:2≤lQ:=by have:=h.lt;omega
 have hT1:1≤lT:=by have:=h.ls;omega
 have hbQT:Bd (lQ+lT-1) (pmul D lQ Q T):=pmul_bd F h.tT.1 lQ
 have htop:pmul D lQ Q T (lQ+lT-2)≠0:=by
  obtain⟨q1,rfl⟩:∃q1,lQ=q1+1:=⟨lQ-1,by omega⟩
  obtain⟨t1,rfl⟩:∃t1,lT=t1+1:=⟨lT-1,by omega⟩
  have e:=pmul_top F (a:=Q) (n:=q1) h.tT.1
  rw[show q1+1+(t1+1)-2=q1+t1 by omega,e]
  intro hz
  have hQ1:Q q1≠0:=by have:=tQ.2 (by omega);rwa [Nat.add_sub_cancel]at this
  have hT2:T t1≠0:=by have:=h.tT.2 (by omega);rwa [Nat.add_sub_cancel]at this
  exact hT2 (mul_cancel F hQ1 (h.eT _) (zero_lt' F) (by rw[hz,mul0 F]))
 have hS0:∀j,lT≤j→S j=0:=fun j hj=>h.bS j (by have:=h.ls;omega)
 refine⟨h.eB,eC,h.eT,el_sub F h.eS (el_mul F _ _ _),h.tB,tC,h.tT.1,⟨fun j hj=>?_,fun _=>?_⟩,hC,by omega,by have:=h.sum;omega,h.atB,fun i hi N hN M hM=>?_⟩
 ·show D.sb (S j) (pmul D lQ Q T j)=0
  rw[hS0 j (by omega),hbQT j hj,sb_self F (zero_lt' F)]
 ·show D.sb (S (lQ+lT-1-1)) (pmul D lQ Q T (lQ+lT-1-1))≠0
  rw[hS0 _ (by omega),show lQ+lT-1-1=lQ+lT-2 by omega]
  intro hz
  exact htop (sb_eq_zero F (zero_lt' F) (el_mul F _ _ _ _) hz).symm
 ·
  have hbB:Bd (lQ+lB-1) (pmul D lQ Q B):=pmul_bd F h.tB.1 lQ
  have e1:D.ev A (xs i) (lQ+lB)=D.ad (D.mul (D.ev Q (xs i) lQ) (D.ev B (xs i) lB)) (D.ev C (xs i) (lQ+lB)):=by
   rw[hA,ev_add F (xs i) (el_mul F _ _ _) eC,ev_mul F (xs i) h.tB.1 h.eB lQ (lQ+lB) (Nat.le_refl _)]
  have e2:=h.atA i hi (lQ+lB) (by omega) lT (by have:=h.ls;omega)
  have e3:=h.atB i hi lB (Nat.le_refl _) lT (Nat.le_refl _)
  have e4:D.ev C (xs i) N=D.ev C (xs i) (lQ+lB):=by
   rw[ev_from F (xs i) tC.1 hN,ev_from F (xs i) tC.1 (show lC≤lQ+lB by omega)]
  have hbT':Bd (lQ+lT-1) (psub D S (pmul D lQ Q T)):=fun j hj=>by
   show D.sb (S j) (pmul D lQ Q T j)=0
   rw[hS0 j (by omega),hbQT j hj,sb_self F (zero_lt' F)]
  have e5:D.ev (psub D S (pmul D lQ Q T)) (xs i) M=D.sb (D.ev S (xs i) lT) (D.mul (D.ev Q (xs i) lQ) (D.ev T (xs i) lT)):=by
   rw[ev_from F (xs i) hbT' hM, ←ev_from F (xs i) hbT' (show lQ+lT-1≤lQ+lT by omega),ev_sub F (xs i) h.eS (el_mul F _ _ _),ev_mul F (xs i) h.tT.1 h.eT lQ (lQ+lT) (Nat.le_refl _),ev_from F (xs i) h.bS (show lS≤lQ+lT by have:=h.ls;omega),ev_from F (xs i) h.bS (show lS≤lT by have:=h.ls;omega)]
  have hS:=ev_lt F S (xs i) lT
  have hQT:=F.mul_lt (D.ev Q (xs i) lQ) (D.ev T (xs i) lT)
  have hCv:=ev_lt F C (xs i) (lQ+lB)
  rw[e4,e5,mul_sb F hS hQT]
  have e6:D.ad (D.mul (D.ev Q (xs i) lQ) (D.mul (y i) (D.ev T (xs i) lT))) (D.ev C (xs i) (lQ+lB))=D.mul (y i) (D.ev S (xs i) lT):=by
   rw[←e3, ←e1,e2]
  have e7:D.mul (y i) (D.mul (D.ev Q (xs i) lQ) (D.ev T (xs i) lT))=D.mul (D.ev Q (xs i) lQ) (D.mul (y i) (D.ev T (xs i) lT)):=by
   rw[←F.mul_assoc,F.mul_comm (y i),F.mul_assoc]
  rw[e7, ←e6,ad_comm F,sb_ad F hCv (F.mul_lt _ _)]
theorem Euc.last {D:FD}(F:Fld D){n k:Nat}{xs y A B S T a:Nat→Nat}{lA lB lS lT:Nat}(h:Euc D n xs y A B S T lA lB lS lT)(hk:k≤n)(hA:n+k+2≤2*lA)(hB:2*lB<n+k+2)(hx:∀i,i<n→xs i<D.q)(hne:∀i j,i<n→j<n→i≠j→xs i≠xs j)(ho:2*ofs D k n xs y a≤n-k):B=pmul D k a T:=by
 obtain⟨wr,hwr⟩:∃wr,wr=(n-k) / 2:=⟨_,rfl⟩
 have h1:lT≤wr+1:=by have:=h.sum;omega
 refine key_eq F (a:=a) (y:=y) (M:=n-wr) (wr:=wr) (by omega) (by omega) hx hne h.eB (fun j hj=>h.tB.1 j (by omega)) h.eT (fun j hj=>h.tT.1 j (by omega)) (by omega) (fun i hi=>?_)
 exact h.atB i hi (n-wr) (by omega) (wr+1) h1
theorem quo_exact {D:FD}(hD:D∈fieldsL){N a E:Nat→Nat}{n m k:Nat}(eN:El D N)(bN:Bd n N)(eE:El D E)(bE:Bd m E)(h0:dgn E m≠0)(ea:El D a)(ba:Bd k a)(h:N=pmul D k a E):D.quo N n E m=a∧D.rst N n E m=pnil:=by
 have F:=fld hD
 obtain⟨l,hl⟩:∃l,l=dgn E m-1:=⟨_,rfl⟩
 have hb:Bd (l+1) E:=by rw[hl,show dgn E m-1+1=dgn E m by omega];exact dgn_bd bE
 have ht:E l≠0:=by rw[hl];exact dgn_top E m h0
 have hi:D.mul (E l) (D.iv (E l))=1:=iv_is hD (eE l) ht
 unfold FD.quo FD.rst
 rw[←hl]
 obtain⟨n',hn'⟩:∃n',n'=n-l:=⟨_,rfl⟩
 rw[←hn']
 have bN':Bd (n'+l) N:=bN.mono (by omega)
 have i:=div_is F (b:=E) (l:=l) (inv:=D.iv (E l)) (n'+k) eN
 have h1:Bd l (divR D E l (D.iv (E l)) (n'+k) N):=divR_bd F eE hb hi (n'+k) eN (bN'.mono (by omega))
 have e2:padd D (pmul D (n'+k) (divQ D E l (D.iv (E l)) (n'+k) N) E) (divR D E l (D.iv (E l)) (n'+k) N)=padd D (pmul D (n'+k) a E) pnil:=by
  rw[i,padd_nil F (el_mul F _ _ _),pmul_to F E ba (by omega)];exact h
 have u:=div_uniq F hb ht (el_divQ F _ _) ea (el_divR F _ eN) (el_nil F) (divQ_bd _ _) (ba.mono (by omega)) h1 (fun _ _=>rfl) e2
 have hf:=div_from F (b:=E) (inv:=D.iv (E l)) eN bN' (show n'≤n'+k by omega)
 exact⟨by rw[←hf.2];exact u.1,by rw[←hf.1];exact u.2⟩
set_option maxHeartbeats 2000000 in
set_option maxRecDepth 100000 in
theorem quotient_any {F T:Nat}{D:FD}(hD:D∈fieldsL){g:Nat→Value}{w:World}(hat:FAt F T D g w){ao bo:Option Addr}{n m ca cb:Nat}{z y:Nat→Int}(ha:Arg ao n ca z w)(hb:Arg bo m cb y w)(hc:D.chk2 n z m y=0)(h0:dgn (zc m y) m≠0) :
  Calls Tryz.prog 111 #[.pointer (some ⟨F,0,none⟩),.slice ao n ca,.slice bo m cb] w fun e w'=>∃v,e = .returned (.tuple #[v,.bool (decide (dgn (D.rst (zc n z) n (zc m y) m) n=0))])∧OwnP w.heap.size v (dgn (D.quo (zc n z) n (zc m y) m) (n-(dgn (zc m y) m-1))) (D.quo (zc n z) n (zc m y) m) w'∧Below w.heap.size w w':=by
 have HS:Hid (Calls Tryz.prog 105 #[.pointer (some ⟨F,0,none⟩)] w fun e w'=>e = .returned (.int .i64 D.q)∧w'=w):=size_any hat
 have HD:Hid (Calls Tryz.prog 108 #[.int .i64 D.q,.slice ao n ca,.slice bo m cb] w fun e w'=>Below w.heap.size w w'∧∃v u,e = .returned (.tuple #[v,u,.int .i64 0])∧OwnP w.heap.size v (dgn (D.quo (zc n z) n (zc m y) m) (n-(dgn (zc m y) m-1))) (D.quo (zc n z) n (zc m y) m) w'∧OwnP w.heap.size u (dgn (D.rst (zc n z) n (zc m y) m) n) (D.rst (zc n z) n (zc m y) m) w'):=by
  refine(pdiv_any hD ha hb).mono ?_
  rintro e w' ⟨hb',⟨_,_,v,u,h1,h2,h3⟩|⟨_,h1,_⟩|⟨h1,_⟩⟩
  ·exact⟨hb',v,u,h1,h2,h3⟩
  ·exact absurd h1 h0
  ·exact absurd hc h1
 obtain⟨r,hr⟩:∃r,r=dgn (D.rst (zc n z) n (zc m y) m) n:=⟨_,rfl⟩
 rw[←hr]at HD ⊢
 have hrn:r≤n:=by rw[hr];exact dgn_le _ _
 have hn:=ha.few
 clear hat ha hb hc h0 hr
 go_enter Tryz.func111,Tryz.ntmps111
 go_wp2_with fail
 refine HS.out.mono ?_
 rintro e w' ⟨rfl,hw⟩
 have hw:=hw.symm
 subst hw
 go_wp2_with fail
 refine HD.out.mono ?_
 rintro e w1 ⟨hb1,v,u,rfl,hv,hu⟩
 have HV:Hid (Below w.heap.size w w1∧OwnP w.heap.size v (dgn (D.quo (zc n z) n (zc m y) m) (n-(dgn (zc m y) m-1))) (D.quo (zc n z) n (zc m y) m) w1):=⟨hb1,hv⟩
 obtain⟨uo,uc,rfl,_⟩:=hu
 clear hb1 hv
 by_cases h1:r=0
 ·subst h1
  go_wp2
  go_ret2
  exact⟨v,rfl,HV.out.2,HV.out.1⟩
 ·have h2:((r:Int) == 0)=false:=by rw[beq_eq_false_iff_ne];omega
  have h3:decide ((r:Int)=0)=false:=by rw[decide_eq_false_iff_not];omega
  have H4:Hid (decide (r=0)=false):=by show _=_;rw[decide_eq_false_iff_not];exact h1
  clear h1
  go_wp2
  go_ret2
  exact⟨v,by rw[H4.out];rfl,HV.out.2,HV.out.1⟩
set_option maxHeartbeats 2000000 in
set_option maxRecDepth 100000 in
theorem spare_any(F:Nat)(k:Int)(xo yo:Option Addr)(n xc m yc:Nat)(hn:n≤1000)(hk:0≤k)(hk2:k≤1000)(w:World) :
  Calls Tryz.prog 103 #[.agg #[.pointer (some ⟨F,0,none⟩),.int .i64 k,.slice xo n xc,.slice yo m yc]] w fun e w'=>e = .returned (.int .i64 ((n:Int)-k))∧Below w.heap.size w w':=by
 go_enter Tryz.func103,Tryz.ntmps103
 go_wp2
 go_ret
 exact⟨by first|rfl|go_num,(Below.refl _ _).alloc (Nat.le_refl _) _⟩
end
section
open Go
def wpAnyL(P:Program)(ops:Array Oper)(Q:Exit→Act→World→Prop)(S:World→Prop)(L:List Nat):Nat→Array Bool→Act→World→Prop
 | 0,s,a,w=>Region.ready .any ops s=[]∧Q .normal a w
 |f+1,s,a,w=>(Region.ready .any ops s=[]→Q .normal a w)∧∀i∈Region.ready .any ops s,wpOp P ops Q i (fun a' w'=>(i ∉ L→S w')∧wpAnyL P ops Q S L f (s.setIfInBounds i true) a' w') a w
theorem wpAny_of_L {P:Program}{ops:Array Oper}{Q:Exit→Act→World→Prop}{S:World→Prop}{L:List Nat}:∀(f:Nat) (s:Array Bool) (a:Act) (w:World),wpAnyL P ops Q S L f s a w→wpAny P .any ops Q f s a w
 | 0,_,_,_,h=>h
 |f+1,_,_,_,h=>⟨h.1,fun i hi=>wpOp_mono (fun a' w' h'=>wpAny_of_L f _ a' w' h'.2) (h.2 i hi)⟩
theorem done_at {s:Array Bool}{k:Nat}(h:s.getD k false=true):s[k]?=some true:=by
 rcases Nat.lt_or_ge k s.size with h1|h1
 ·rw[Array.getElem?_eq_getElem h1]
  simp[h1]at h
  rw[h]
 ·simp[Array.getElem?_eq_none h1]at h
def Closed(ops:Array Oper)(s:Array Bool):Prop:=∀m o,ops[m]?=some o→s.getD m true=true→∀e∈o.after,Region.binds .any e=true→s[e.on]?=some true
def closedB(ops:Array Oper)(s:Array Bool):Bool:=(List.range ops.size).all fun m => !(s.getD m true) || ((ops[m]?).map fun o=>o.after.all fun e => !(Region.binds .any e) || (s[e.on]? == some true)).getD true
theorem closed_of {ops:Array Oper}{s:Array Bool}(h:closedB ops s=true):Closed ops s:=by
 intro m o ho hm e he hb
 have hlt:m<ops.size:=by
  rcases Nat.lt_or_ge m ops.size with h1|h1
  ·exact h1
  ·rw[Array.getElem?_eq_none h1]at ho;cases ho
 have h1:=List.all_eq_true.1 h m (List.mem_range.2 hlt)
 rw[hm,ho]at h1
 have h2:(o.after.all fun e => !(Region.binds .any e) || (s[e.on]? == some true))=true:=by simpa using h1
 have h3:=Array.all_eq_true'.1 h2 e he
 rw[hb]at h3
 simpa using h3
theorem closed_step {ops:Array Oper}{s:Array Bool}(h:Closed ops s){j:Nat}(hj:j∈Region.ready .any ops s):Closed ops (s.setIfInBounds j true):=by
 intro m o ho hm e he hb
 obtain⟨hjun,oj,hoj,hall⟩:=mem_ready.1 hj
 have key:s[e.on]?=some true:=by
  by_cases e1:j=m
  ·subst e1
   rw[ho]at hoj
   cases hoj
   exact done_at (hall e he hb)
  ·rw[getD_set_ne true e1]at hm
   exact h m o ho hm e he hb
 rw[Array.getElem?_setIfInBounds]
 split
 ·rename_i e2
  split
  ·rfl
  ·rename_i h2
   rw[←e2]at key
   rw[Array.getElem?_eq_none (by omega)]at key;cases key
 ·exact key
def waitsT(ops:Array Oper):Nat→Nat→Nat→Bool
 | 0,j,i=>waitsB ops j i
 |n+1,j,i=>waitsB ops j i || (List.range ops.size).any fun m=>waitsB ops j m && waitsT ops n m i
theorem waits_done {ops:Array Oper}{s:Array Bool}{j i:Nat}{o:Oper}(ho:ops[j]?=some o)(hall:∀e∈o.after,Region.binds .any e=true→s[e.on]?=some true)(h:waitsB ops j i=true):s[i]?=some true:=by
 unfold waitsB at h
 rw[ho]at h
 obtain⟨e,he,hb⟩:=Array.any_eq_true'.1 (show(o.after.any fun e=>Region.binds .any e && e.on == i)=true from h)
 rw[Bool.and_eq_true,beq_iff_eq]at hb
 rw[←hb.2]
 exact hall e he hb.1
theorem waitsT_done {ops:Array Oper}{s:Array Bool}(hc:Closed ops s){i:Nat}:∀(n j:Nat) (o:Oper),ops[j]?=some o→(∀e∈o.after,Region.binds .any e=true→s[e.on]?=some true)→waitsT ops n j i=true→s[i]?=some true
 | 0,j,o,ho,hall,h=>waits_done ho hall h
 |n+1,j,o,ho,hall,h=>by
  have h:(waitsB ops j i || (List.range ops.size).any fun m=>waitsB ops j m && waitsT ops n m i)=true:=h
  rw[Bool.or_eq_true]at h
  rcases h with h|h
  ·exact waits_done ho hall h
  ·obtain⟨m,hm,hw⟩:=List.any_eq_true.1 h
   rw[Bool.and_eq_true]at hw
   have hd:=waits_done ho hall hw.1
   have hlt:=List.mem_range.1 hm
   obtain⟨om,hom⟩:∃om,ops[m]?=some om:=⟨ops[m],Array.getElem?_eq_getElem hlt⟩
   refine waitsT_done hc n m om hom (hc m om hom ?_) hw.2
   simp[Array.getD_eq_getD_getElem?,hd]
def lateB(ops:Array Oper)(L:List Nat)(i:Nat):Bool:=L.all fun j=>waitsT ops 3 j i
theorem late_not {ops:Array Oper}{L:List Nat}{i j:Nat}{s:Array Bool}(hc:Closed ops s)(h:lateB ops L i=true)(hi:s.getD i true=false)(hj:j∈Region.ready .any ops s):j ∉ L:=by
 intro hL
 obtain⟨_,o,ho,hall⟩:=mem_ready.1 hj
 have h1:=waitsT_done hc 3 j o ho (fun e he hb=>done_at (hall e he hb)) (List.all_eq_true.1 h j hL)
 simp[Array.getD_eq_getD_getElem?,h1]at hi
theorem wpAnyL_first {P:Program}{ops:Array Oper}{Q:Exit→Act→World→Prop}{S:World→Prop}{L:List Nat}{i:Nat}{oi:Oper}{v:Value}(hi:ops[i]?=some oi)(hsel:∀(j:Nat) (o:Oper) cs b, ops[j]?=some o→o.op ≠ .select cs b)
  (hQ:∀c a w,Q (.panic c) (a.put oi.dst v) w→Q (.panic c) a w) (hL:lateB ops L i=true) :
  ∀(f:Nat) (s:Array Bool) (a:Act) (w:World),
   (∀j oj,ops[j]?=some oj→j≠i→s.getD j true=false→(∀e∈oj.after,Region.binds .any e=true→e.on≠i)→oi.apart ops oj=true)→
   i∈Region.ready .any ops s→Closed ops s→YieldsIf P ops S oi v a→S w →
   wpAnyL P ops Q S L f (s.setIfInBounds i true) (a.put oi.dst v) w→wpAnyL P ops Q S L (f+1) s a w:=by
 intro f
 induction f with
 | zero=>
  intro s a w _ hr _ hy hS H
  refine⟨fun h=>(by rw[h]at hr;cases hr),fun j hj=>?_⟩
  by_cases hji:j=i
  ·subst hji;exact hy.wpOp hi hS ⟨fun _=>hS,H⟩
  ·have:=ready_mono hj hji
   rw[H.1]at this
   cases this
 | succ f ih=>
  intro s a w hfree hr hcl hy hS H
  refine⟨fun h=>(by rw[h]at hr;cases hr),fun j hj=>?_⟩
  by_cases hji:j=i
  ·subst hji;exact hy.wpOp hi hS ⟨fun _=>hS,H⟩
  ·have h1:=H.2 j (ready_mono hj hji)
   have hjL:j ∉ L:=late_not hcl hL (mem_ready.1 hr).1 hj
   obtain⟨hjun,oj,hoj,hall⟩:=mem_ready.1 hj
   have hnot:∀e∈oj.after,Region.binds .any e=true→e.on≠i:=fun e he hb heq=>by
    have h1:=hall e he hb
    have h0:=(mem_ready.1 hr).1
    rw[heq]at h1
    rcases Nat.lt_or_ge i s.size with h'|h'
    ·simp[h']at h0 h1;rw[h0]at h1;cases h1
    ·simp[Array.getElem?_eq_none h']at h1
   have h2:=wpOp_putIf hoj (hfree j oj hoj hji hjun hnot) (fun cs b=>hsel i oi cs b hi) (fun cs b=>hsel j oj cs b hoj) hQ hy h1
   have hfree':∀k ok, ops[k]?=some ok→k≠i→(s.setIfInBounds j true).getD k true=false →
     (∀e∈ok.after,Region.binds .any e=true→e.on≠i)→oi.apart ops ok=true:=fun k ok hk hki hun hno=>by
    refine hfree k ok hk hki ?_ hno
    by_cases hjk:j=k
    ·subst hjk;exact hjun
    ·rw[getD_set_ne true hjk]at hun;exact hun
   refine wpOp_mono (fun a' w' h3=>⟨fun _=>h3.2.1 hjL,ih (s.setIfInBounds j true) a' w' hfree' (ready_mono hr (Ne.symm hji)) (closed_step hcl hj) h3.1 (h3.2.1 hjL) ?_⟩) h2
   rw[Array.setIfInBounds_comm _ _ hji]
   exact h3.2.2
theorem wpAnyL_take {P:Program}{ops:Array Oper}{Q:Exit→Act→World→Prop}{S:World→Prop}{L:List Nat}{i:Nat}{oi:Oper}{v:Value}{f:Nat}{s:Array Bool}{a:Act}{w:World}(hi:ops[i]?=some oi)
  (hs:Region.noSelect ops=true) (hf:Region.free .any ops s i=true) (hr:(Region.ready .any ops s).contains i=true) (hcl:closedB ops s=true) (hL:lateB ops L i=true)
  (hQ:∀c a w,Q (.panic c) (a.put oi.dst v) w→Q (.panic c) a w) (hS:S w) (hy:YieldsIf P ops S oi v a)
  (h:wpAnyL P ops Q S L f (s.setIfInBounds i true) (a.put oi.dst v) w):wpAnyL P ops Q S L (f+1) s a w:=
 wpAnyL_first hi (Region.noSelect_spec hs) hQ hL f s a w (Region.free_spec hi hf) (by simpa using hr) (closed_of hcl) hy hS h
theorem wpAnyL_one {P:Program}{ops:Array Oper}{Q:Exit→Act→World→Prop}{S:World→Prop}{L:List Nat}{i:Nat}{o:Oper}{f:Nat}{s:Array Bool}{a:Act}{w:World}(hr:Region.ready .any ops s=[i])(ho:ops[i]?=some o)
  (h:∀K:Act→World→Prop,(∀a' w',(i ∉ L→S w')→wpAnyL P ops Q S L f (s.setIfInBounds i true) a' w'→K a' w')→if Region.wanted o (yielded ops a.tmps)=true then Oper.wp P o a w K Q else K (a.put o.dst undef) w):wpAnyL P ops Q S L (f+1) s a w:=by
 refine⟨fun e=>(by rw[hr]at e;cases e),fun j hj=>?_⟩
 rw[hr,List.mem_singleton]at hj
 subst hj
 have h1:=h (fun a' w'=>(j ∉ L→S w')∧wpAnyL P ops Q S L f (s.setIfInBounds j true) a' w') (fun a' w' h1 h2=>⟨h1,h2⟩)
 unfold wpOp
 simp only[ho]
 split
 ·rename_i hw
  rw[if_pos hw]at h1
  exact Or.inl h1
 ·rename_i hw
  rw[if_neg hw]at h1
  exact h1
theorem wpAnyL_done {P:Program}{ops:Array Oper}{Q:Exit→Act→World→Prop}{S:World→Prop}{L:List Nat}{s:Array Bool}{a:Act}{w:World}(hr:Region.ready .any ops s=[])(h:Q .normal a w):wpAnyL P ops Q S L 0 s a w:=⟨hr,h⟩
theorem wp_region_L {P:Program}{ops:Array Oper}{Q:Exit→Act→World→Prop}{S:World→Prop}(L:List Nat){id:Nat}{a:Act}{w:World}(hm:P.follows .mixedOrders=true)
  (h:wpAnyL P ops Q S L ops.size (Array.replicate ops.size false) a w.drew):(Code.region id ops true).wp P Q a w:=
 wp_region_any hm (wpAny_of_L _ _ _ _ h)
theorem wpAnyL_two {P:Program}{ops:Array Oper}{Q:Exit→Act→World→Prop}{S:World→Prop}{L:List Nat}{i k:Nat}{o o':Oper}{f:Nat}{s:Array Bool}{a:Act}{w:World}(hr:Region.ready .any ops s=[i, k])(ho:ops[i]?=some o)(ho':ops[k]?=some o')
  (h:∀K:Act→World→Prop,(∀a' w',(i ∉ L→S w')→wpAnyL P ops Q S L f (s.setIfInBounds i true) a' w'→K a' w')→if Region.wanted o (yielded ops a.tmps)=true then Oper.wp P o a w K Q else K (a.put o.dst undef) w)
  (h':∀K:Act→World→Prop,(∀a' w',(k ∉ L→S w')→wpAnyL P ops Q S L f (s.setIfInBounds k true) a' w'→K a' w')→if Region.wanted o' (yielded ops a.tmps)=true then Oper.wp P o' a w K Q else K (a.put o'.dst undef) w):wpAnyL P ops Q S L (f+1) s a w:=by
 refine⟨fun e=>(by rw[hr]at e;cases e),fun j hj=>?_⟩
 rw[hr,List.mem_cons,List.mem_singleton]at hj
 rcases hj with hj|hj
 ·subst hj
  have h1:=h (fun a' w'=>(j ∉ L→S w')∧wpAnyL P ops Q S L f (s.setIfInBounds j true) a' w') (fun a' w' h1 h2=>⟨h1,h2⟩)
  unfold wpOp
  simp only[ho]
  split
  ·rename_i hw
   rw[if_pos hw]at h1
   exact Or.inl h1
  ·rename_i hw
   rw[if_neg hw]at h1
   exact h1
 ·subst hj
  have h1:=h' (fun a' w'=>(j ∉ L→S w')∧wpAnyL P ops Q S L f (s.setIfInBounds j true) a' w') (fun a' w' h1 h2=>⟨h1,h2⟩)
  unfold wpOp
  simp only[ho']
  split
  ·rename_i hw
   rw[if_pos hw]at h1
   exact Or.inl h1
  ·rename_i hw
   rw[if_neg hw]at h1
   exact h1
end
end Go.Proofs.YtedifobeggabnaaGreat
