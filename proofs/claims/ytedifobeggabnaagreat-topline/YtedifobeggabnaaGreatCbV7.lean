/- Texts of ours, one behind the other: V7 V8 N5 N6 U18 U19 W6 U20 U21 U22 W7 V9 V10 N7. -/
import Derived.Test.YtedifobeggabnaaGreatCbV6
import Derived.Test.YtedifobeggabnaaGreatCbN1
import Derived.Test.YtedifobeggabnaaGreatCbU5
import Derived.WalkMore
import Derived.ScopeJumps
import Derived.Deep.LoopGhost
import Derived.Deep.CutBlock
import Derived.Deep.DeepCutAuto
namespace Go.Proofs.YtedifobeggabnaaGreat
section
open Go.RowKit Go.Sort
end
def FD.vl(D:FD)(c:Nat→Nat)(x:Nat):Nat:=D.ev c x 1000
theorem vl_lt {D:FD}(F:Fld D)(c:Nat→Nat)(x:Nat):D.vl c x<D.q:=ev_lt F c x 1000
theorem vl_val {D:FD}(F:Fld D){c:Nat→Nat}{n x:Nat}(hc:El D c)(hn:Bd n c)(hx:x<D.q)(h:n≤1000):D.val c n x n=D.vl c x:=by
 rw[val_is F x n hc hx];exact(ev_from F x hn h).symm
theorem vl_add {D:FD}(F:Fld D){a b:Nat→Nat}(x:Nat)(ha:El D a)(hb:El D b):D.vl (padd D a b) x=D.ad (D.vl a x) (D.vl b x):=ev_add F x ha hb 1000
theorem vl_scale {D:FD}(F:Fld D)(s x:Nat)(b:Nat→Nat):D.vl (pscale D s b) x=D.mul s (D.vl b x):=ev_scale F s x b 1000
theorem vl_mul {D:FD}(F:Fld D){a b:Nat→Nat}{n m:Nat}(x:Nat)(hn:Bd n a)(hm:Bd m b)(hb:El D b)(h:n+m≤1000):D.vl (pmul D n a b) x=D.mul (D.vl a x) (D.vl b x):=by
 unfold FD.vl
 rw[ev_mul F x hm hb n 1000 h,ev_from F x hn (by omega:n≤1000),ev_from F x hm (by omega:m≤1000)]
def lin(x0:Nat):Nat→Nat:=fun k=>if k=0 then x0 else if k=1 then 1 else 0
theorem lin_bd(x0:Nat):Bd 2 (lin x0):=fun k hk=>by unfold lin;rw[if_neg (by omega),if_neg (by omega)]
theorem lin_el {D:FD}(F:Fld D){x0:Nat}(h:x0<D.q):El D (lin x0):=fun k=>by
 unfold lin
 split
 ·exact h
 ·split
  ·exact one_lt' F
  ·exact zero_lt' F
theorem vl_lin {D:FD}(F:Fld D){x0 y:Nat}(h:x0<D.q)(hy:y<D.q):D.vl (lin x0) y=D.ad x0 y:=by
 unfold FD.vl
 rw[ev_from F y (lin_bd x0) (by omega:2≤1000)]
 show D.ad (D.ad 0 (D.mul x0 1)) (D.mul 1 (D.mul 1 y))=_
 rw[mul1 F h,zero_ad F h,omul F hy,omul F hy]
theorem vl_one {D:FD}(F:Fld D)(y:Nat):D.vl pone y=1:=by
 unfold FD.vl
 rw[ev_from F y (show Bd 1 pone from fun k hk=>by unfold pone;rw[if_neg (by omega)]) (by omega:1≤1000)]
 show D.ad 0 (D.mul 1 1)=1
 rw[mul1 F (one_lt' F),zero_ad F (one_lt' F)]
structure Thr(D:FD)(xs ys:Nat→Nat)(i lo:Nat)(co cz:Nat→Nat):Prop where
 elo:El D co
 elz:El D cz
 tro:Trd lo co
 le:lo≤i
 trz:Trd (i+1) cz
 at':∀j,j<i→D.vl co (xs j)=ys j
 zero:∀j,j<i→D.vl cz (xs j)=0
 none:∀y,y<D.q→(∀j,j<i→y≠xs j)→D.vl cz y≠0
theorem thr_zero {D:FD}(F:Fld D)(xs ys:Nat→Nat):Thr D xs ys 0 0 pnil pone:=
 ⟨el_nil F,el_one F,⟨fun _ _=>rfl,fun h=>absurd rfl h⟩,Nat.le_refl _,⟨fun k hk=>by unfold pone;rw[if_neg (by omega)],fun _=>by unfold pone;simp⟩,fun j hj=>by omega,fun j hj=>by omega,fun y _ _=>by rw[vl_one F];omega⟩
theorem mul_ne {D:FD}(hD:D∈fieldsL){a b:Nat}(_ha:a<D.q)(hb:b<D.q)(h1:a≠0)(h2:b≠0):D.mul a b≠0:=by
 have F:=fld hD
 intro e
 rw[←mul0 F a]at e
 exact h2 (mul_cancel F h1 hb (zero_lt' F) e)
theorem thr_step {D:FD}(hD:D∈fieldsL){xs ys:Nat→Nat}{i lo N:Nat}{co cz:Nat→Nat}(h:Thr D xs ys i lo co cz)(hx:xs i<D.q)(hy:ys i<D.q)(hne:∀j, j<i→xs i≠xs j)(hxs:∀j, j<i→xs j<D.q)(hi:i+3≤1000)
  {s:Nat} (hs:s=D.mul (D.sb (ys i) (D.vl co (xs i))) (D.iv (D.vl cz (xs i)))) (hN:lo≤N) (hN2:dgn (pscale D s cz) (i+1+1)≤N) (hN3:N≤i+1) :
  Thr D xs ys (i+1) (dgn (padd D co (pscale D s cz)) N) (padd D co (pscale D s cz)) (pmul D (i+1) cz (lin (D.ng (xs i)))):=by
 have F:=fld hD
 have hz:D.vl cz (xs i)≠0:=h.none _ hx hne
 have hzl:=vl_lt F cz (xs i)
 have hol:=vl_lt F co (xs i)
 have hng:=ng_lt F hx
 have e1:El D (pscale D s cz):=el_scale F s cz
 have bd1:Bd (i+1) (pscale D s cz):=fun k hk=>by unfold pscale;rw[h.trz.1 k hk];exact mul0 F s
 have bdN:Bd N (padd D co (pscale D s cz)):=fun k hk=>by
  unfold padd
  rw[h.tro.1 k (by omega),dgn_bd (bd1.mono (show i+1≤i+1+1 by omega)) k (by omega)]
  exact ad_zero F (zero_lt' F)
 refine⟨el_add F h.elo e1,el_mul F _ _ _,trd_dgn bdN,Nat.le_trans (dgn_le _ _) hN3,⟨?_,fun _=>?_⟩,fun j hj=>?_,fun j hj=>?_,fun y hyq hyn=>?_⟩
 ·have:=pmul_bd F (a:=cz) (lin_bd (D.ng (xs i))) (i+1)
  exact this
 ·show pmul D (i+1) cz (lin (D.ng (xs i))) (i+1+1-1)≠0
  rw[show i+1+1-1=i+1 from by omega,pmul_top F (a:=cz) (n:=i) (m:=1) (lin_bd _)]
  show D.mul (cz i) 1≠0
  rw[mul1 F (h.elz i)]
  exact h.trz.2 (by omega)
 ·rw[vl_add F _ h.elo e1,vl_scale F]
  by_cases e:j=i
  ·subst e
   have h1:D.mul s (D.vl cz (xs j))=D.sb (ys j) (D.vl co (xs j)):=by
    rw[hs,F.mul_assoc,F.mul_comm (D.iv _),iv_is hD hzl hz,mul1 F (sb_lt F hy hol)]
   rw[h1]
   exact ad_sb F hy hol
  ·rw[h.at' j (by omega),h.zero j (by omega),mul0 F]
   exact ad_zero F (by rw[←h.at' j (by omega)];exact vl_lt F _ _)
 ·rw[vl_mul F _ h.trz.1 (lin_bd _) (lin_el F hng) (by omega)]
  by_cases e:j=i
  ·subst e
   rw[vl_lin F hng hx,ad_comm F,ad_ng F hx,mul0 F]
  ·rw[h.zero j (by omega),zmul F]
 ·rw[vl_mul F _ h.trz.1 (lin_bd _) (lin_el F hng) (by omega),vl_lin F hng hyq]
  refine mul_ne hD (vl_lt F _ _) (ad_lt F hng hyq) (h.none y hyq (fun j hj=>hyn j (by omega))) (fun e=>?_)
  rw[ad_comm F]at e
  exact hyn i (by omega) (sb_eq_zero F hyq hx e)
section
open Go.RowKit
theorem neg_nat {F T:Nat}{D:FD}(hD:D∈fieldsL){g:Nat→Value}{w:World}(h:FAt F T D g w){a:Nat}(ha:a<D.q) :
  Calls Tryz.prog 119 #[.pointer (some ⟨F,0,none⟩),.int .i64 a] w fun e w'=>e = .returned (.int .i64 (D.ng a:Nat))∧∃n,w'=w.drewN n:=by
 have k:=neg_any hD h a
 rw[FD.negZ,if_pos (nat_has ha),Int.toNat_natCast]at k
 exact k
theorem sl_new(o:List Nat)(c:Nat→Nat)(w:World)(h:∀j,j<o.length→o[j]?=some (c j)):Sl (some ⟨w.heap.size,0,none⟩) o.length c (w.alloc (.cells (o.map fun x=>Value.int .i64 (x:Nat)).toArray 3)):=fun j hj=>⟨w.heap.size,0,rfl,by
 rw[cell_of_row _ _ _ _ _ (0,0) (two_new _),Nat.zero_add,List.getElem?_toArray,List.getElem?_map,h j hj];rfl⟩
theorem pa_one {D:FD}(F:Fld D)(w:World):PA D (some ⟨w.heap.size,0,none⟩) 1 1 pone (w.alloc (.cells #[.int .i64 1] 3)):=by
 have h:=sl_new [1] pone w (fun j hj=>by
  rcases j with _|j
  ·rfl
  ·simp at hj)
 refine⟨h,fun x hx=>by cases hx;simp,fun e=>(by cases e),el_one F,fun k hk=>by unfold pone;rw[if_neg (by omega)],fun _=>by unfold pone;simp⟩
theorem product_const {F T:Nat}{D:FD}(hD:D∈fieldsL){g:Nat→Value}{W:World}(h:FAt F T D g W){zo:Option Addr}{n cz s:Nat}{z:Nat→Nat}(hn:n≤999)(hz:PA D zo n cz z W)(hs:s<D.q)(k:Nat) :
  Calls Tryz.prog 125 #[.pointer (some ⟨F,0,none⟩),.slice zo n cz,.slice (some ⟨W.heap.size,0,none⟩) 1 1] ((W.drewN k).alloc (.cells #[.int .i64 (s:Nat)] 3)) fun e w'=>
   ∃v,e = .returned v∧OwnP W.heap.size v (dgn (pscale D s z) (n+1)) (pscale D s z) w'∧Below W.heap.size W w':=by
 have hF:=fld hD
 have hbl:Below W.heap.size W ((W.drewN k).alloc (.cells #[.int .i64 (s:Nat)] 3)):=(below_drewN2 (Below.refl _ _) k).alloc (Nat.le_refl _) _
 have hone:=sl_new [s] (fun k=>if k=0 then s else 0) (W.drewN k) (fun j hj=>by
  rcases j with _|j
  ·rfl
  ·simp at hj)
 have hp:=hz.below hbl
 have hq:=product_any hD (h.below hbl h.ltF h.ltT) (ca:=cz) (cb:=1) (show n≤1000 by omega) (show 1≤1000 by omega) hz.el (fun k=>by show(if k=0 then s else 0)<D.q;split;exact hs;exact zero_lt' hF)
  (fun k hk=>by show(if k=0 then s else 0)=0;rw[if_neg (by omega)]) hp.sl hone hp.lt (fun y hy=>by cases hy;simp)
 rw[pmul_const hF hz.el hz.trd.1 hs]at hq
 refine hq.mono ?_
 rintro e w' ⟨rfl,hrow,hb'⟩
 exact⟨_,rfl,OwnP.of_row hrow (dgn_le _ _) (dgn_le _ _) (by omega) (by simp),bel_up hbl hb'⟩
theorem product_lin {F T:Nat}{D:FD}(hD:D∈fieldsL){g:Nat→Value}{W:World}(h:FAt F T D g W){zo:Option Addr}{n cz s:Nat}{z:Nat→Nat}(hn:n≤900)(hz:PA D zo (n+1) cz z W)(hs:s<D.q)(ht:Trd (n+2) (pmul D (n+1) z (lin s)))(k:Nat) :
  Calls Tryz.prog 125 #[.pointer (some ⟨F,0,none⟩),.slice zo (n+1) cz,.slice (some ⟨W.heap.size,0,none⟩) 2 2] ((W.drewN k).alloc (.cells #[.int .i64 (s:Nat),.int .i64 1] 3)) fun e w'=>
   ∃v,e = .returned v∧OwnP W.heap.size v (n+2) (pmul D (n+1) z (lin s)) w'∧Below W.heap.size W w':=by
 have hF:=fld hD
 have hbl:Below W.heap.size W ((W.drewN k).alloc (.cells #[.int .i64 (s:Nat),.int .i64 1] 3)):=(below_drewN2 (Below.refl _ _) k).alloc (Nat.le_refl _) _
 have hone:=sl_new [s,1] (lin s) (W.drewN k) (fun j hj=>by
  rcases j with _|_|j
  ·rfl
  ·rfl
  ·simp at hj;omega)
 have hp:=hz.below hbl
 have hq:=product_any hD (h.below hbl h.ltF h.ltT) (ca:=cz) (cb:=2) (show n+1≤1000 by omega) (show 2≤1000 by omega) hz.el (lin_el hF hs) (lin_bd s) hp.sl hone hp.lt (fun y hy=>by cases hy;simp)
 rw[ht.dgn (show n+2≤n+1+2 by omega)]at hq
 refine hq.mono ?_
 rintro e w' ⟨rfl,hrow,hb'⟩
 exact⟨_,rfl,OwnP.of_row hrow (by omega) (by omega) (by omega) (by simp),bel_up hbl hb'⟩
set_option maxHeartbeats 4000000 in
set_option maxRecDepth 100000 in
theorem through_any {F T:Nat}{D:FD}(hD:D∈fieldsL){g:Nat→Value}{w:World}(h:FAt F T D g w){xo yo:Option Addr}{n cx cy:Nat}{xs ys:Nat→Nat}(hn:n≤128)(hX:Sl xo n xs w)(hY:Sl yo n ys w)(hlx:LtB xo w.heap.size)(hly:LtB yo w.heap.size)
  (hxq:∀j,j<n→xs j<D.q) (hyq:∀j,j<n→ys j<D.q) (ht:¬Twice xs n) :
  Calls Tryz.prog 122 #[.pointer (some ⟨F,0,none⟩),.slice xo n cx,.slice yo n cy] w fun e w'=>
   ∃v lo co,e = .returned v∧OwnP w.heap.size v lo co w'∧lo≤n∧El D co∧Trd lo co∧(∀j,j<n→D.vl co (xs j)=ys j)∧Below w.heap.size w w':=by
 have HF:Hid (FAt F T D g w∧D∈fieldsL∧Sl xo n xs w∧Sl yo n ys w):=⟨h,hD,hX,hY⟩
 have HL:Hid (LtB xo w.heap.size∧LtB yo w.heap.size∧(∀j,j<n→xs j<D.q)∧(∀j,j<n→ys j<D.q)∧¬Twice xs n):=⟨hlx,hly,hxq,hyq,ht⟩
 clear h hD hX hY hlx hly hxq hyq ht
 go_enter Tryz.func122,Tryz.ntmps122
 go_wp2
 go_loopw [7,8,16] (fun va vz i wr=>∃(r lo ca cz:Nat) (ao zo:Option Addr) (co z:Nat→Nat),r≤n∧i = .int .i64 r∧va = .slice ao lo ca∧vz = .slice zo (r+1) cz∧Hid (Thr D xs ys r lo co z)∧PA D ao lo ca co wr∧PA D zo (r+1) cz z wr∧OwnP w.heap.size va lo co wr∧Below w.heap.size w wr) (fun _ _ i _=>n-(intOf i).toNat)
 case atStart=>
  have hF:=fld HF.out.2.1
  refine⟨0,0,0,1,none,_,pnil,pone,by omega,rfl,rfl,rfl,thr_zero hF xs ys,⟨fun j hj=>by omega,fun x hx=>(by cases hx),fun _=>rfl,el_nil hF,fun _ _=>rfl,fun e=>absurd rfl e⟩,pa_one hF w,⟨none,0,rfl,Nat.le_refl _,by omega,fun x hx=>(by cases hx),fun x hx=>(by cases hx),fun _=>rfl,fun h0=>absurd h0 (by omega)⟩,(Below.refl _ _).alloc (Nat.le_refl _) _⟩
 case round=>
  obtain⟨r,lo,ca,cz,ao,zo,co,z,hr,rfl,rfl,rfl,HT,hpa,hpz,hown,hbel⟩:=hrel
  have HG:Hid (PA D ao lo ca co wr∧PA D zo (r+1) cz z wr∧OwnP w.heap.size (.slice ao lo ca) lo co wr∧Below w.heap.size w wr∧FAt F T D g wr):=⟨hpa,hpz,hown,hbel,HF.out.1.below hbel HF.out.1.ltF HF.out.1.ltT⟩
  clear hpa hpz hown hbel
  by_cases hlt:r<n
  ·obtain⟨bx,offx,rfl,hcx⟩:=(HF.out.2.2.1.below HG.out.2.2.2.1 HL.out.1) r hlt
   obtain⟨by',offy,rfl,hcy⟩:=(HF.out.2.2.2.below HG.out.2.2.2.1 HL.out.2.1) r hlt
   obtain⟨x,hx⟩:∃x,x=xs r:=⟨_,rfl⟩
   obtain⟨y,hy⟩:∃y,y=ys r:=⟨_,rfl⟩
   obtain⟨vo,hvo⟩:∃v,v=D.vl co x:=⟨_,rfl⟩
   obtain⟨vz,hvz⟩:∃v,v=D.vl z x:=⟨_,rfl⟩
   obtain⟨ms,hms⟩:∃v,v=D.sb y vo:=⟨_,rfl⟩
   obtain⟨s,hs⟩:∃v,v=D.mul ms (D.iv vz):=⟨_,rfl⟩
   have hF:=fld HF.out.2.1
   have hxq:x<D.q:=by rw[hx];exact HL.out.2.2.1 r hlt
   have hyq:y<D.q:=by rw[hy];exact HL.out.2.2.2.1 r hlt
   have hne:∀j,j<r→xs r≠xs j:=fun j hj e=>HL.out.2.2.2.2 ⟨j,r,hj,hlt,e.symm⟩
   have hvol:vo<D.q:=by rw[hvo];exact vl_lt hF _ _
   have hvzl:vz<D.q:=by rw[hvz];exact vl_lt hF _ _
   have hvz0:vz≠0:=by rw[hvz,hx];exact HT.out.none _ (HL.out.2.2.1 r hlt) hne
   have hmsl:ms<D.q:=by rw[hms];exact sb_lt hF hyq hvol
   have hsl:s<D.q:=by rw[hs];exact hF.mul_lt _ _
   have HC1:Hid (∀k,Calls Tryz.prog 129 #[.pointer (some ⟨F,0,none⟩),.slice ao lo ca,.int .i64 x] (wr.drewN k) fun e w'=>e = .returned (.int .i64 (vo:Nat))∧∃m,w'=(wr.drewN k).drewN m):=by
    intro k
    have h:=value_any HF.out.2.1 (HG.out.2.2.2.2.drewN k) (cap:=ca) hxq (show lo≤1000 by have:=HT.out.le;omega) HG.out.1.el (HG.out.1.drewN k).sl
    rw[vl_val hF HG.out.1.el HG.out.1.trd.1 hxq (by have:=HT.out.le;omega), ←hvo]at h;exact h
   have HC2:Hid (∀k,Calls Tryz.prog 126 #[.pointer (some ⟨F,0,none⟩),.int .i64 (y:Nat),.int .i64 (vo:Nat)] (wr.drewN k) fun e w'=>e = .returned (.int .i64 (ms:Nat))∧∃m,w'=(wr.drewN k).drewN m):=by
    intro k;rw[hms];exact sub_nat HF.out.2.1 (HG.out.2.2.2.2.drewN k) hyq hvol
   have HC3:Hid (∀k,Calls Tryz.prog 129 #[.pointer (some ⟨F,0,none⟩),.slice zo (r+1) cz,.int .i64 x] (wr.drewN k) fun e w'=>e = .returned (.int .i64 (vz:Nat))∧∃m,w'=(wr.drewN k).drewN m):=by
    intro k
    have h:=value_any HF.out.2.1 (HG.out.2.2.2.2.drewN k) (cap:=cz) hxq (show r+1≤1000 by omega) HG.out.2.1.el (HG.out.2.1.drewN k).sl
    rw[vl_val hF HG.out.2.1.el HG.out.2.1.trd.1 hxq (by omega), ←hvz]at h;exact h
   have HC4:Hid (∀k,Calls Tryz.prog 130 #[.pointer (some ⟨F,0,none⟩),.int .i64 (vz:Nat)] (wr.drewN k) fun e w'=>e = .returned (.int .i64 (D.iv vz:Nat))∧∃m,w'=(wr.drewN k).drewN m):=fun k=>inv_nat' HF.out.2.1 (HG.out.2.2.2.2.drewN k) hvzl hvz0
   have HC5:Hid (∀k,Calls Tryz.prog 67 #[.pointer (some ⟨F,0,none⟩),.int .i64 (ms:Nat),.int .i64 (D.iv vz:Nat)] (wr.drewN k) fun e w'=>e = .returned (.int .i64 (s:Nat))∧∃m,w'=(wr.drewN k).drewN m):=by
    intro k;rw[hs];exact mul_nat HF.out.2.1 (HG.out.2.2.2.2.drewN k) hmsl (iv_lt HF.out.2.1 _)
   have HS:Hid (x<D.q∧s<D.q∧(∀j,j<r→xs r≠xs j)∧x=xs r∧y=ys r∧s=D.mul (D.sb (ys r) (D.vl co (xs r))) (D.iv (D.vl z (xs r)))):=⟨hxq,hsl,hne,hx,hy,by rw[hs,hms,hvo,hvz,hx,hy]⟩
   rw[←hx]at hcx
   rw[←hy]at hcy
   clear hx hy hvo hvz hms hs hxq hyq hne hvol hvzl hvz0 hmsl hsl hF
   go_wp2
   go_quiet (first|(go_at_call 129;exact Calls.quiet_of (HC1.out _))|(go_at_call 126;exact Calls.quiet_of (HC2.out _)))
   go_wp2_with (first
    |(go_at_call 129;refine(HC3.out _).mono ?_;rintro e w' ⟨rfl,k1,rfl⟩)
    |(go_at_call 130;refine(HC4.out _).mono ?_;rintro e w' ⟨rfl,k2,rfl⟩)
    |(go_at_call 67;refine(HC5.out _).mono ?_;rintro e w' ⟨rfl,k3,rfl⟩))
   refine(product_const HF.out.2.1 HG.out.2.2.2.2 (by omega) HG.out.2.1 HS.out.2.1 _).mono ?_
   rintro e w2 ⟨v2,rfl,hown2,hb2⟩
   obtain⟨po,pc,rfl,hp1,hp2,hp3,hp4,hp5,hp6⟩:=hown2.open
   have HP:Hid (Sl po (dgn (pscale D s z) (r+1+1)) (pscale D s z) w2∧LtB po w2.heap.size∧Below wr.heap.size wr w2):=⟨hp6,hp4,hb2⟩
   clear hown2 hp1 hp2 hp3 hp4 hp5 hp6 hb2
   obtain⟨m,hm⟩:∃m,m=dgn (pscale D s z) (r+1+1):=⟨_,rfl⟩
   have hbz:Bd (r+1) (pscale D s z):=fun k hk=>by unfold pscale;rw[HG.out.2.1.trd.1 k hk];exact mul0 (fld HF.out.2.1) s
   have hmr:m≤r+1:=by rw[hm,dgn_from hbz (by omega)];exact dgn_le _ _
   have HM:Hid (m=dgn (pscale D s z) (r+1+1)∧Bd m (pscale D s z)):=⟨hm,by rw[hm];exact dgn_bd (hbz.mono (by omega))⟩
   rw[←hm]
   clear hm hbz
   have HQ:Hid (∀k,Calls Tryz.prog 131 #[.pointer (some ⟨F,0,none⟩),.slice ao lo ca,.slice po m pc] (w2.drewN k) fun e w'=>∃v,e = .returned v∧OwnP w2.heap.size v (dgn (padd D co (pscale D s z)) (max lo m)) (padd D co (pscale D s z)) w'∧Below w2.heap.size w2 w'):=by
    intro k
    have hF:=fld HF.out.2.1
    have hat:=HG.out.2.2.2.2.below HP.out.2.2 HG.out.2.2.2.2.ltF HG.out.2.2.2.2.ltT
    have ha2:=HG.out.1.below HP.out.2.2
    have hle:=HT.out.le
    refine(psum_any HF.out.2.1 (hat.drewN k) (show lo≤1000 by omega) (show m≤1000 by omega) HG.out.1.el (el_scale hF s z) HG.out.1.trd.1 HM.out.2 (ha2.drewN k).sl (by rw[HM.out.1];exact HP.out.1.drewN k) ha2.lt HP.out.2.1).mono ?_
    rintro e w' ⟨v,rfl,ho,hb⟩
    exact⟨v,rfl,ho,(below_drewN2 (Below.refl _ _) k).trans hb⟩
   go_wp2_with fail
   refine(HQ.out 0).mono ?_
   rintro e w3 ⟨v3,rfl,hown3,hb3⟩
   have HT2:Hid (Thr D xs ys (r+1) (dgn (padd D co (pscale D s z)) (max lo m)) (padd D co (pscale D s z)) (pmul D (r+1) z (lin (D.ng x)))):=by
    show Thr _ _ _ _ _ _ _
    rw[HS.out.2.2.2.1]
    refine thr_step HF.out.2.1 HT.out (HL.out.2.2.1 r hlt) (HL.out.2.2.2.1 r hlt) HS.out.2.2.1 (fun j hj=>HL.out.2.2.1 j (by omega)) (by omega) HS.out.2.2.2.2.2 (by omega) ?_ ?_
    ·have:=HM.out.1;omega
    ·have:=HT.out.le;omega
   obtain⟨ao3,ca3,rfl,hpa3⟩:=hown3.pa (D:=D) HT2.out.elo HT2.out.tro
   have hs2:=HP.out.2.2.size
   have hs1:=HG.out.2.2.2.1.size
   have HW3:Hid (OwnP w.heap.size (.slice ao3 (dgn (padd D co (pscale D s z)) (max lo m)) ca3) (dgn (padd D co (pscale D s z)) (max lo m)) (padd D co (pscale D s z)) w3∧PA D ao3 (dgn (padd D co (pscale D s z)) (max lo m)) ca3 (padd D co (pscale D s z)) w3∧Below wr.heap.size wr w3):=⟨hown3.mono (by omega),hpa3,bel_up HP.out.2.2 hb3⟩
   clear hown3 hpa3 hb3 HQ
   have HN:Hid (∀k,Calls Tryz.prog 119 #[.pointer (some ⟨F,0,none⟩),.int .i64 (x:Nat)] (w3.drewN k) fun e w'=>e = .returned (.int .i64 (D.ng x:Nat))∧∃m,w'=(w3.drewN k).drewN m):=fun k=>
    neg_nat HF.out.2.1 ((HG.out.2.2.2.2.below HW3.out.2.2 HG.out.2.2.2.2.ltF HG.out.2.2.2.2.ltT).drewN k) HS.out.1
   go_wp2_with (go_at_call 119;refine(HN.out 0).mono ?_;rintro e w' ⟨rfl,k4,rfl⟩)
   refine(product_lin HF.out.2.1 (HG.out.2.2.2.2.below HW3.out.2.2 HG.out.2.2.2.2.ltF HG.out.2.2.2.2.ltT) (by omega) (HG.out.2.1.below HW3.out.2.2) (ng_lt (fld HF.out.2.1) HS.out.1) HT2.out.trz _).mono ?_
   rintro e w4 ⟨v4,rfl,hown4,hb4⟩
   obtain⟨zo4,cz4,rfl,hpa4⟩:=hown4.pa (D:=D) HT2.out.elz HT2.out.trz
   have HW4:Hid (PA D zo4 (r+2) cz4 (pmul D (r+1) z (lin (D.ng x))) w4∧Below w3.heap.size w3 w4):=⟨hpa4,hb4⟩
   clear hown4 hpa4 hb4 HN
   go_wp2
   go_roundw
   case rel=>exact⟨r+1,_,ca3,cz4,ao3,zo4,_,_,by omega,by go_num,rfl,rfl,HT2.out,HW3.out.2.1.below HW4.out.2,HW4.out.1,HW3.out.1.below HW4.out.2 (Nat.le_refl _),bel_up (bel_up HG.out.2.2.2.1 HW3.out.2.2) HW4.out.2⟩
   case measure=>simp[intOf];omega
  ·have e:r=n:=by omega
   have HE:Hid (r=n):=e
   clear e
   go_wp2
   go_ret
   exact⟨_,lo,co,rfl,HG.out.2.2.1,by have:=HT.out.le;omega,HT.out.elo,HT.out.tro,fun j hj=>HT.out.at' j (by rw[HE.out];exact hj),HG.out.2.2.2.1⟩
theorem Tryz.infoSl:(Tryz.prog.info? 22).map (fun i=>(i.zero,i.size,i.bytes))=some (some (.slice none 0 0),1,24):=by kernel_rfl
def OwnV(base:Nat)(v:Value)(l:List Value)(w:World):Prop:=w.ownsRow base 22 1 v l.length l
theorem OwnV.nil(base:Nat)(w:World):OwnV base (.slice none 0 0) [] w:=World.ownsRow_nil _ _ _ _
theorem OwnV.below {base B:Nat}{v:Value}{l:List Value}{w w':World}(h:OwnV base v l w)(hb:Below B w w')(hB:w.heap.size≤B):OwnV base v l w':=by
 obtain⟨h1,h2⟩:=h
 refine⟨h1,?_⟩
 rcases h2 with h2|⟨g,cap,cur,hv,hg,hh,r⟩
 ·exact Or.inl h2
 ·exact Or.inr ⟨g,cap,cur,hv,hg,by rw[hb.block g (Nat.lt_of_lt_of_le (lt_of_block hh) hB)];exact hh,r⟩
theorem append_sl {ops:Array Oper}{rest:List Oper}{o:Oper}{a:Act}{w:World}{Q:Exit→Act→World→Prop}(hgd:o.guard=none)(s x:Operand)
  (ho:o.op = .call { callee:= .builtin .append,args := #[s,x],argTypes := #[23,23]})
  (base:Nat) (v:Value) (l:List Value) (hs:a.eval s=v) (hown:OwnV base v l w) (ad:Addr) (c:Nat) (y:Value) (hy:y.oneCell'=true) (hx:a.eval x = .slice (some ad) 1 c) (hcell:w.cell? ad=some y)
  (hlen:l.length≤1000000) (hbase:base≤w.heap.size)
  (h:∀v' w',OwnV base v' (l++[y]) w'→w.grownBy w' v.ownBlock→wpList Tryz.prog ops Q rest (a.put o.dst v') w'):wpList Tryz.prog ops Q (o::rest) a w:=by
 obtain⟨i0,hi,hz0,hz1,hz2⟩:=info_parts Tryz.infoSl
 refine wpList_append_own _ hgd s x 23 ho base 22 i0 (.slice none 0 0) 1 24 Tryz.underlying23 hi hz0 hz1 hz2 rfl (by decide) v l.length _ hs hown ad 1 c [y] hx rfl ?_ ?_ ?_ ?_ hbase ?_
 ·intro j u hj
  match j,hj with
  | 0,hj=>
   simp at hj;subst hj
   have:ad.add 0=ad:=by cases ad with|mk b o s=>cases s<;>simp[Addr.add]
   rw[this];exact hcell
 ·intro u hu;simp at hu;subst hu;exact hy
 ·unfold maxLen;omega
 ·omega
 ·intro v' w' hown' hgrow _
  refine h v' w' ?_ hgrow
  unfold OwnV
  rw[List.length_append]
  exact hown'
theorem OwnV.open_ge {base:Nat}{v:Value}{l:List Value}{w:World}(h:OwnV base v l w):∀k,v.ownBlock=some k→base≤k:=by
 intro k hk
 rcases h.2 with⟨h1,_⟩|⟨g,cap,cur,hv,hg,_⟩
 ·rw[h1]at hk;cases hk
 ·rw[hv]at hk
  have hk:some g=some k:=hk
  cases hk;exact hg
set_option maxHeartbeats 4000000 in
set_option maxRecDepth 100000 in
theorem through_all {D : FD} (hD : D ∈ fieldsL) {ao bo : Option Addr} {n m ca cb : Nat} {z y : Nat → Int} {w : World} (ha : Arg ao n ca z w) (hb : Arg bo m cb y w) :
   Calls Tryz.prog 107 #[.int .i64 D.q,.slice ao n ca,.slice bo m cb] w fun e w'=>Below w.heap.size w w' ∧
     ((D.chk2 n z m y=0∧n=m∧¬Twice (zc n z) n∧∃v lo co,e = .returned (.tuple #[v,.int .i64 0])∧OwnP w.heap.size v lo co w'∧lo≤n∧El D co∧Trd lo co∧∀j,j<n→D.vl co (zc n z j)=zc m y j)∨
      (D.chk2 n z m y=0∧n=m∧Twice (zc n z) n∧e = .returned (.tuple #[.slice none 0 0,.int .i64 7]))∨
      (D.chk2 n z m y=0∧n≠m∧e = .returned (.tuple #[.slice none 0 0,.int .i64 6]))∨(D.chk2 n z m y≠0∧e = .returned (.tuple #[.slice none 0 0,.int .i64 (D.chk2 n z m y)]))):=by
 have HA:Hid (Arg ao n ca z w∧Arg bo m cb y w∧D∈fieldsL):=⟨ha,hb,hD⟩
 clear ha hb hD
 go_enter Tryz.func107,Tryz.ntmps107
 go_wp2_with fail
 refine(over2_any HA.out.2.2 HA.out.1 HA.out.2.1).mono ?_
 rintro e w1 ⟨hb1,hr⟩
 rcases hr with⟨h0,F,T,f,rfl,hat,hF,hT⟩|⟨h0,rfl⟩
 · have HW:Hid (D.chk2 n z m y=0∧FAt F T D f w1∧Below w.heap.size w w1∧Arg ao n ca z w1∧Arg bo m cb y w1):=⟨h0,hat,hb1,HA.out.1.below hb1,HA.out.2.1.below hb1⟩
   clear h0 hat hF hT hb1
   have c0:=chk2_zero HW.out.1
   have hn128:=(chk_zero c0.1).1
   have HN:Hid (D.chk n z=0∧D.chk m y=0):=c0
   clear c0
   by_cases hnm:n=m
   · have hz:((n:Int) != (m:Int))=false:=by rw[hnm];simp
     have HNM:Hid (n=m):=hnm
     clear hnm
     have HH:Hid (Calls Tryz.prog 121 #[.slice ao n ca] w1 fun e w'=>(∃b,e = .returned (.bool b)∧(b=true↔Twice (zc n z) n))∧Below w1.heap.size w1 w'):=by
       have hF:=fld HA.out.2.2
       exact hasTwice_any (zc_sl HN.out.1 HW.out.2.2.2.1.sl) (by omega) HW.out.2.2.2.1.lt (fun j=>Nat.lt_of_lt_of_le (zc_el hF HN.out.1 j) hF.q64)
     go_wp2_with fail
     refine HH.out.mono ?_
     rintro e w2 ⟨⟨b,rfl,hbt⟩,hb2⟩
     have HB2:Hid ((b=true↔Twice (zc n z) n)∧Below w1.heap.size w1 w2):=⟨hbt,hb2⟩
     clear hbt hb2 HH
     cases b with
     | true=>
       go_wp2
       go_ret2
       exact⟨bel_up HW.out.2.2.1 HB2.out.2,Or.inr (Or.inl ⟨HW.out.1,HNM.out,HB2.out.1.1 (by trivial),rfl⟩)⟩
     | false=>
       have HT:Hid (Calls Tryz.prog 122 #[.pointer (some ⟨F,0,none⟩),.slice ao n ca,.slice bo m cb] w2 fun e w'=>∃v lo co,e = .returned v∧OwnP w2.heap.size v lo co w'∧lo≤n∧El D co∧Trd lo co∧(∀j,j<n→D.vl co (zc n z j)=zc m y j)∧Below w2.heap.size w2 w'):=by
         have hF:=fld HA.out.2.2
         have hnt:¬Twice (zc n z) n:=fun h=>(by have:=HB2.out.1.2 h;cases this)
         have a2:=HW.out.2.2.2.1.below HB2.out.2
         have b2:=HW.out.2.2.2.2.below HB2.out.2
         show Calls _ _ _ _ _
         rw[show(Value.slice bo m cb) = .slice bo n cb from by rw[HNM.out]]
         exact through_any HA.out.2.2 (HW.out.2.1.below HB2.out.2 HW.out.2.1.ltF HW.out.2.1.ltT) hn128 (zc_sl HN.out.1 a2.sl) ((zc_sl HN.out.2 b2.sl).less (by rw[HNM.out];exact Nat.le_refl _)) a2.lt b2.lt (fun j _=>zc_el hF HN.out.1 j) (fun j _=>zc_el hF HN.out.2 j) hnt
       go_wp2_with fail
       refine HT.out.mono ?_
       rintro e w3 ⟨v,lo,co,rfl,hown,hlo,hel,htr,hat,hb3⟩
       have hs1:=HW.out.2.2.1.size
       have hs2:=HB2.out.2.size
       have HR:Hid (OwnP w.heap.size v lo co w3∧lo≤n∧El D co∧Trd lo co∧(∀j,j<n→D.vl co (zc n z j)=zc m y j)∧Below w.heap.size w w3):=⟨hown.mono (by omega),hlo,hel,htr,hat,bel_up (bel_up HW.out.2.2.1 HB2.out.2) hb3⟩
       clear hown hlo hel htr hat hb3 HT
       go_wp2
       go_ret2
       exact⟨HR.out.2.2.2.2.2,Or.inl ⟨HW.out.1,HNM.out,fun h=>(by have:=HB2.out.1.2 h;cases this),v,lo,co,rfl,HR.out.1,HR.out.2.1,HR.out.2.2.1,HR.out.2.2.2.1,HR.out.2.2.2.2.1⟩⟩
   · have hz:((n:Int) != (m:Int))=true:=by rw[bne_iff_ne];omega
     have HNM:Hid (n≠m):=hnm
     clear hnm
     go_wp2
     go_ret2
     exact⟨HW.out.2.2.1,Or.inr (Or.inr (Or.inl ⟨HW.out.1,HNM.out,rfl⟩))⟩
 · have HW:Hid (D.chk2 n z m y≠0∧Below w.heap.size w w1):=⟨h0,hb1⟩
   obtain⟨e,he⟩:∃e,e=D.chk2 n z m y:=⟨_,rfl⟩
   rw[←he]at h0 ⊢
   have hz:(e != 0)=true:=by rw[bne_iff_ne];exact h0
   have HE:Hid (e=D.chk2 n z m y):=he
   clear h0 hb1 he
   go_wp2
   go_ret2
   exact⟨HW.out.2,Or.inr (Or.inr (Or.inr ⟨HW.out.1,by rw[←HE.out];rfl⟩))⟩
def zl(n:Nat)(z:Nat→Int):List Int:=(List.range n).map z
theorem zl_len(n:Nat)(z:Nat→Int):(zl n z).length=n:=by simp[zl]
theorem zl_get(n:Nat)(z:Nat→Int)(j:Nat)(hj:j<n):(zl n z)[j]?=some (z j):=by
 unfold zl
 rw[List.getElem?_map,List.getElem?_range hj];rfl
theorem zl_getD(n:Nat)(z:Nat→Int)(j:Nat)(hj:j<n):(zl n z).getD j 0=z j:=by
 rw[List.getD_eq_getElem?_getD,zl_get n z j hj];rfl
theorem zl_congr {n:Nat}{z y:Nat→Int}(h:∀j,j<n→z j=y j):zl n z=zl n y:=by
 unfold zl
 exact List.map_congr_left (fun j hj=>h j (List.mem_range.1 hj))
theorem zl_succ(n:Nat)(z:Nat→Int):zl (n+1) z=zl n z++[z n]:=by
 unfold zl
 rw[List.range_succ,List.map_append];rfl
theorem OwnP.block {base n:Nat}{v:Value}{c:Nat→Nat}{w:World}(h:OwnP base v n c w):∀k,v.ownBlock=some k→base≤k:=by
 obtain⟨ao,cap,rfl,_,_,hg,_⟩:=h
 intro k hk
 cases ao with
 | none=>cases hk
 | some x=>
  have hk:some x.block=some k:=hk
  cases hk
  exact hg x rfl
end
section
open Go.RowKit Go.Sort
end
end Go.Proofs.YtedifobeggabnaaGreat
