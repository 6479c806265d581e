/- Texts of ours, one behind the other: Z1 E5 Z2 Z3 Z4. -/
import Derived.Test.YtedifobeggabnaaGreatCbL10
import Derived.Test.YtedifobeggabnaaGreatCbR5
import Derived.Test.YtedifobeggabnaaGreatCbL1
namespace Go.Proofs.YtedifobeggabnaaGreat
open Go.RowKit Go.Sort
set_option maxHeartbeats 8000000 in
set_option maxRecDepth 100000 in
theorem rvalues_any {F T:Nat}{D:FD}(hD:D∈fieldsL){g:Nat→Value}{w:World}(hat:FAt F T D g w){ao xo:Option Addr}{k n ca cx:Nat}{a xs:Nat→Nat}(hk:k≤128)(hn:n≤64)(ha:El D a)(hx:∀i, i<n→xs i<D.q)(hA:Sl ao k a w)(hX:Sl xo n xs w)(hla:LtB ao w.heap.size)(hlx:LtB xo w.heap.size) :
  Calls Tryz.prog 48 #[.pointer (some ⟨F,0,none⟩),.slice ao k ca,.slice xo n cx] w fun e w'=>
   e = .returned (.slice (some ⟨w.heap.size,0,none⟩) n n)∧Row w.heap.size n (fun i=>D.ev a (xs i) k) w'∧Below w.heap.size w w':=by
 have HF:Hid (FAt F T D g w∧D∈fieldsL∧Sl ao k a w∧Sl xo n xs w∧El D a∧(∀i,i<n→xs i<D.q)∧LtB ao w.heap.size∧LtB xo w.heap.size):=⟨hat,hD,hA,hX,ha,hx,hla,hlx⟩
 clear hat hD hA hX ha hx hla hlx
 go_enter Tryz.func48,Tryz.ntmps48
 go_wp2_with (at_make;refine make_int rfl _ _ rfl _ n rfl rfl (by omega) (by omega) ?_;intro w1 hown1 hgrow1)
 have HB1:Hid (Below w.heap.size w w1∧Row w.heap.size n pnil w1):=⟨below_grown hgrow1 (Nat.le_refl _) (fun k hk=>by simp at hk),row_zeros hown1⟩
 clear hown1 hgrow1
 obtain⟨gr,hg⟩:∃g,g=w.heap.size:=⟨_,rfl⟩
 have HB2:Hid (Below w.heap.size w w1∧Row gr n pnil w1∧gr=w.heap.size):=by rw[hg];exact⟨HB1.out.1,HB1.out.2,rfl⟩
 rw[←hg]
 have hgD:w.heap.size≤gr:=by omega
 clear HB1 hg
 go_loopw [16] (fun i wr=>∃r:Nat,r≤n∧i = .int .i64 r∧Hid (Row gr n (fun j=>if j<r then D.ev a (xs j) k else 0) wr∧Below w.heap.size w wr)) (fun i _=>n-(intOf i).toNat)
 case atStart=>exact⟨0,by omega,rfl,HB2.out.2.1.congr (fun j _=>by rw[if_neg (by omega)];rfl),HB2.out.1⟩
 case round=>
  obtain⟨r,hr,rfl,HG⟩:=hrel
  rename World=>wA
  by_cases hlt:r<n
  ·have hib:(r:Int)<(n:Int):=by omega
   obtain⟨bx,ox,hxo,hcx⟩:=(HF.out.2.2.2.1.below HG.out.2 HF.out.2.2.2.2.2.2.2) r hlt
   subst hxo
   obtain⟨x,hx⟩:∃x,x=xs r:=⟨_,rfl⟩
   rw[←hx]at hcx
   have hxq:x<D.q:=by rw[hx];exact HF.out.2.2.2.2.2.1 r hlt
   have HX:Hid (x=xs r∧x<D.q):=⟨hx,hxq⟩
   clear hx hxq
   go_wp2
   go_loopw [10] (fun vi wr=>∃t:Nat,t≤k∧vi = .int .i64 ((t:Int)-1)∧Hid (Row gr n (fun j=>if j<r then D.ev a (xs j) k else if j=r then D.val a k x (k-t)else 0) wr∧Below w.heap.size w wr)) (fun vi _=>(intOf vi+1).toNat)
   case atStart=>exact⟨k,Nat.le_refl _,by first|rfl|go_num,HG.out.1.congr (fun j _=>by
    by_cases e:j<r
    ·rw[if_pos e,if_pos e]
    ·rw[if_neg e,if_neg e]
     split
     ·rw[Nat.sub_self];rfl
     ·rfl),HG.out.2⟩
   case round=>
    obtain⟨t,ht,hvi,HK⟩:=hrel
    rename World=>wr
    cases t with
    | succ s=>
     have hi':u10 = .int .i64 (s:Int):=by rw[hvi];go_num
     clear hvi
     subst hi'
     obtain⟨y,hy⟩:∃y,y=D.val a k x (k-(s+1)):=⟨_,rfl⟩
     have hyq:y<D.q:=by rw[hy];exact val_lt HF.out.2.1 a k x HF.out.2.2.2.2.1 _
     have hco:wr.cell? ⟨gr,r,none⟩=some (.int .i64 (y:Nat)):=by
      have h:=HK.out.1.cell r hlt
      rw[if_neg (by omega),if_pos rfl, ←hy]at h;exact h
     have hfo:=HK.out.1.free r
     obtain⟨ba,oa,hao,hca⟩:=(HF.out.2.2.1.below HK.out.2 HF.out.2.2.2.2.2.2.1) s (by omega)
     subst hao
     obtain⟨ax,hax⟩:∃ax,ax=a s:=⟨_,rfl⟩
     rw[←hax]at hca
     obtain⟨p,hp⟩:∃p,p=D.mul y x:=⟨_,rfl⟩
     obtain⟨u,hu⟩:∃u,u=sumD D.p D.q p ax:=⟨_,rfl⟩
     have F':=fld HF.out.2.1
     have hatr:=HF.out.1.below HK.out.2 HF.out.1.ltF HF.out.1.ltT
     have HC1:Hid (∀d,Calls Tryz.prog 67 #[.pointer (some ⟨F,0,none⟩),.int .i64 (y:Nat),.int .i64 (x:Nat)] (wr.drewN d) fun e w'=>e = .returned (.int .i64 (p:Nat))∧∃k,w'=(wr.drewN d).drewN k):=fun d=>by
      rw[hp];exact mul_nat HF.out.2.1 (hatr.drewN d) hyq HX.out.2
     have HC2:Hid (∀d,Calls Tryz.prog 66 #[.pointer (some ⟨F,0,none⟩),.int .i64 (p:Nat),.int .i64 (ax:Nat)] (wr.drewN d) fun e w'=>e = .returned (.int .i64 (u:Nat))∧∃k,w'=(wr.drewN d).drewN k):=fun d=>by
      rw[hu];exact add_nat HF.out.2.1 (hatr.drewN d) (by rw[hp];exact F'.mul_lt _ _) (by rw[hax];exact HF.out.2.2.2.2.1 s)
     have HY:D.val a k x (k-s)=u:=by
      rw[hu,hp,hy,hax,show k-s=(k-(s+1))+1 from by omega,FD.val,show k-1-(k-(s+1))=s from by omega]
     have HV:Hid (∀j,j<n→(if j<r then D.ev a (xs j) k else if j=r then D.val a k x (k-s)else 0)=if j=r then u else if j<r then D.ev a (xs j) k else if j=r then D.val a k x (k-(s+1))else 0):=fun j _=>by
      by_cases e:j=r
      ·rw[if_pos e,if_neg (by omega),if_pos e,HY]
      ·rw[if_neg e,if_neg e,if_neg e]
     have hsb:(s:Int)<(k:Int):=by omega
     clear hax hp hu hy HY F' hatr
     go_wp2
     refine quiet_tail 16 (by kernel_rfl) (by kernel_rfl) ?_
     simp only[List.take_succ_cons,List.take_zero,List.drop_succ_cons,List.drop_zero]
     repeat(go_big_quiet_step (first|(go_at_call 67;exact Calls.quiet_of (HC1.out _))|(go_at_call 66;exact Calls.quiet_of (HC2.out _))|fail))
     refine wpQuiet_nil ?_
     intro _ hw'
     obtain⟨nq,hw''⟩:=hw'
     subst hw''
     go_wp2
     go_roundw
     case rel=>exact⟨s,by omega,by go_num,(HK.out.1.drewN nq).store r u HV.out,(below_drewN2 HK.out.2 nq).setCell hgD _⟩
     case measure=>simp[intOf]
    | zero=>
     have hi':u10 = .int .i64 (-1):=by rw[hvi];rfl
     clear hvi
     subst hi'
     have HE:Hid (Row gr n (fun j=>if j<r+1 then D.ev a (xs j) k else 0) wr∧Below w.heap.size w wr):=by
      refine⟨HK.out.1.congr (fun j _=>?_),HK.out.2⟩
      by_cases e:j<r
      ·rw[if_pos e,if_pos (by omega)]
      ·rw[if_neg e]
       by_cases e2:j=r
       ·rw[if_pos e2,if_pos (by omega),e2,Nat.sub_zero,val_is (fld HF.out.2.1) x k HF.out.2.2.2.2.1 HX.out.2,HX.out.1]
       ·rw[if_neg e2,if_neg (by omega)]
     go_wp2
     go_roundw
     case rel=>exact⟨r+1,by omega,by go_num,HE.out⟩
     case measure=>simp[intOf];omega
  ·have hib:¬(r:Int)<(n:Int):=by omega
   have HE:Hid (Row gr n (fun j=>D.ev a (xs j) k) wA):=HG.out.1.congr (fun j hj=>by rw[if_pos (by omega)])
   go_wp2
   go_ret
   exact⟨by rw[←HB2.out.2.2];rfl,by rw[←HB2.out.2.2];exact HE.out,HG.out.2⟩
set_option maxHeartbeats 8000000 in
set_option maxRecDepth 100000 in
theorem rcheck_ok {D:FD}(hD:D∈fieldsL){xo:Option Addr}{n cx k:Nat}{xs:Nat→Nat}{w:World}(hn1:1≤n)(hn:n≤64)(hcn:n≤cx)(hx:∀i, i<n→xs i<D.q)(hne:∀i j, i<n→j<n→i≠j→xs i≠xs j)(hX:Sl xo n xs w)(hlx:LtB xo w.heap.size)(hk1:1≤k)(hk:k≤n) :
  Calls Tryz.prog 22 #[.int .i64 D.q,.slice xo n cx,.int .i64 (k:Nat)] w fun e w'=>e = .returned (.int .i64 0)∧Below w.heap.size w w':=by
 have HF:Hid (D∈fieldsL∧(∀i,i<n→xs i<D.q)∧(∀i j,i<n→j<n→i≠j→xs i≠xs j)∧Sl xo n xs w∧LtB xo w.heap.size):=⟨hD,hx,hne,hX,hlx⟩
 have hz1:¬(n:Int)<1:=by omega
 have hz2:¬(64:Int)<(n:Int):=by omega
 have hz3:¬(k:Int)<1:=by omega
 have hz4:¬(n:Int)<(k:Int):=by omega
 clear hD hx hne hX hlx
 go_enter Tryz.func22,Tryz.ntmps22
 go_wp2_with fail
 refine(new_any HF.out.1 w).mono ?_
 rintro e w1 ⟨F,T,g,rfl,hat,hF,hT,hb1⟩
 have HA:Hid (FAt F T D g w1∧Sl xo n xs w1∧Below w.heap.size w w1):=⟨hat,HF.out.2.2.2.1.below hb1 HF.out.2.2.2.2,hb1⟩
 clear hat hF hT hb1
 go_wp2
 go_loopw [29] (fun i wr=>∃r:Nat,r≤n∧i = .int .i64 r∧wr=w1) (fun i _=>n-(intOf i).toNat)
 case atStart=>exact⟨0,by omega,rfl,rfl⟩
 case round=>
  obtain⟨r,hr,rfl,hw⟩:=hrel
  have hw:=hw.symm
  subst hw
  by_cases hlt:r<n
  ·have hib:(r:Int)<(n:Int):=by omega
   obtain⟨bx,ox,hxo,hcx⟩:=HA.out.2.1 r hlt
   subst hxo
   obtain⟨x,hx⟩:∃x,x=xs r:=⟨_,rfl⟩
   rw[←hx]at hcx
   have hcap:(r:Int)≤(cx:Int):=by omega
   have HC1:Hid (Calls Tryz.prog 45 #[.pointer (some ⟨F,0,none⟩),.int .i64 (x:Nat)] w1 fun e w'=>e = .returned (.bool true)∧w'=w1):=by
    have h:=has_any HA.out.1 (x:Int)
    rw[has_of_lt (by rw[hx];exact HF.out.2.1 r hlt)]at h;exact h
   have HC2:Hid (Calls Tryz.prog 46 #[.slice (some ⟨bx,ox,none⟩) r cx,.int .i64 (x:Nat)] w1 fun e w'=>e = .returned (.bool false)∧w'=w1):=by
    have h:=contains_any (ca:=cx) (w:=w1) (z:=fun j=>((xs j:Nat):Int)) (x:Int) (show SlZ (some ⟨bx,ox,none⟩) r (fun j=>((xs j:Nat):Int)) w1 from HA.out.2.1.less (by omega)) (by omega)
    rw[decide_eq_false (fun hm=>by
     unfold zl at hm
     obtain⟨j,hj,e⟩:=List.mem_map.1 hm
     have hj:=List.mem_range.1 hj
     exact HF.out.2.2.1 j r (by omega) hlt (by omega) (by rw[←hx];omega))]at h
    exact h
   clear hx
   go_wp2_with fail
   refine HC1.out.mono ?_
   rintro e w' ⟨rfl,hw⟩
   have hw:=hw.symm
   subst hw
   go_wp2_with fail
   refine HC2.out.mono ?_
   rintro e w' ⟨rfl,hw⟩
   have hw:=hw.symm
   subst hw
   go_wp2
   go_roundw
   case rel=>exact⟨r+1,by omega,by go_num,by first|rfl|trivial⟩
   case measure=>simp[intOf];omega
  ·have hib:¬(r:Int)<(n:Int):=by omega
   go_wp2
   go_ret
   exact⟨rfl,HA.out.2.2⟩
set_option maxHeartbeats 4000000 in
set_option maxRecDepth 100000 in
theorem apart_any {ao bo:Option Addr}{n ca cb:Nat}{a b:Nat→Nat}{w:World}(hA:Sl ao n a w)(hB:Sl bo n b w)(hn:n≤1000) :
  Calls Tryz.prog 104 #[.slice ao n ca,.slice bo n cb] w fun e w'=>e = .returned (.int .i64 (ct (fun i => !decide (a i=b i)) n:Nat))∧w'=w:=by
 have HF:Hid (Sl ao n a w∧Sl bo n b w):=⟨hA,hB⟩
 clear hA hB
 go_enter Tryz.func104,Tryz.ntmps104
 go_wp2
 go_loopw [5,15] (fun vm vi wr=>∃(r m:Nat),r≤n∧m≤r∧vm = .int .i64 (m:Nat)∧vi = .int .i64 r∧Hid (m=ct (fun i => !decide (a i=b i)) r)∧wr=w) (fun _ vi _=>n-(intOf vi).toNat)
 case atStart=>exact⟨0,0,by omega,by omega,rfl,rfl,rfl,rfl⟩
 case round=>
  obtain⟨r,m,hr,hmr,rfl,rfl,HM,hw⟩:=hrel
  have hw:=hw.symm
  subst hw
  by_cases hlt:r<n
  ·have hib:(r:Int)<(n:Int):=by omega
   obtain⟨ba,oa,hao,hca⟩:=HF.out.1 r hlt
   subst hao
   obtain⟨bb,ob,hbo,hcb⟩:=HF.out.2 r hlt
   subst hbo
   obtain⟨x,hx⟩:∃x,x=a r:=⟨_,rfl⟩
   obtain⟨y,hy⟩:∃y,y=b r:=⟨_,rfl⟩
   rw[←hx]at hca
   rw[←hy]at hcb
   by_cases e:x=y
   ·have hz:(((x:Nat):Int) != ((y:Nat):Int))=false:=by rw[e];simp
    have HV:Hid (m=ct (fun i => !decide (a i=b i)) (r+1)):=by
     show m=ct (fun i => !decide (a i=b i)) r+if(!decide (a r=b r))=true then 1 else 0
     rw[←HM.out,decide_eq_true (by rw[←hx, ←hy];exact e)];rfl
    clear e hx hy
    go_wp2
    go_roundw
    case rel=>exact⟨r+1,m,by omega,by omega,rfl,by go_num,HV.out,by first|rfl|trivial⟩
    case measure=>simp[intOf];omega
   ·have hz:(((x:Nat):Int) != ((y:Nat):Int))=true:=by rw[bne_iff_ne];omega
    have HV:Hid (m+1=ct (fun i => !decide (a i=b i)) (r+1)):=by
     show m+1=ct (fun i => !decide (a i=b i)) r+if(!decide (a r=b r))=true then 1 else 0
     rw[←HM.out,decide_eq_false (by rw[←hx, ←hy];exact e)];rfl
    clear e hx hy
    go_wp2
    go_roundw
    case rel=>exact⟨r+1,m+1,by omega,by omega,by go_num,by go_num,HV.out,by first|rfl|trivial⟩
    case measure=>simp[intOf];omega
  ·have hib:¬(r:Int)<(n:Int):=by omega
   have hre:n=r:=by omega
   subst hre
   go_wp2
   go_ret
   exact⟨by rw[←HM.out];rfl,rfl⟩
theorem pick_in {m:Int}{k:Nat}(hk:0<k):∃M:Nat,pick m (k:Int)=(M:Int)∧M<k:=by
 have h1:=pick_lo m (k:Int) (by omega)
 have h2:=pick_hi m (k:Int) (by omega)
 exact⟨(pick m (k:Int)).toNat,by omega,by omega⟩
def FD.pch(D:FD)(z:Nat→Int):Nat→Int
 | 0=>0
 |r+1=>if D.pch z r≠0 then D.pch z r else if D.has (z r)=true then(if z r∈zl r z then 7 else 0)else 2
theorem pch_stays {D:FD}{z:Nat→Int}{r:Nat}(h:D.pch z r≠0):∀k,D.pch z (r+k)=D.pch z r
 | 0=>rfl
 |k+1=>by
  have ih:=pch_stays h k
  show(if D.pch z (r+k)≠0 then D.pch z (r+k)else _)=_
  rw[ih,if_pos h]
theorem pch_to {D:FD}{z:Nat→Int}{r n:Nat}(h:D.pch z r≠0)(hn:r≤n):D.pch z n=D.pch z r:=by
 have:=pch_stays h (n-r)
 rwa [show r+(n-r)=n from by omega]at this
def FD.rchk(D:FD)(n:Nat)(z:Nat→Int)(k:Int):Int:=if n<1∨64<n then 4 else if D.pch z n≠0 then D.pch z n else if k<1∨(n:Int)<k then 6 else 0
set_option maxHeartbeats 8000000 in
set_option maxRecDepth 100000 in
theorem rcheck_any {D:FD}(hD:D∈fieldsL){xo:Option Addr}{n cx:Nat}{z:Nat→Int}(k:Int){w:World}(hX:Arg xo n cx z w) :
  Calls Tryz.prog 22 #[.int .i64 D.q,.slice xo n cx,.int .i64 k] w fun e w'=>e = .returned (.int .i64 (D.rchk n z k))∧Below w.heap.size w w':=by
 have HF:Hid (D∈fieldsL∧Arg xo n cx z w):=⟨hD,hX⟩
 have hn6:=hX.few
 have hcn:=hX.le
 clear hD hX
 go_enter Tryz.func22,Tryz.ntmps22
 go_wp2_with fail
 refine(new_any HF.out.1 w).mono ?_
 rintro e w1 ⟨F,T,g,rfl,hat,hF,hT,hb1⟩
 have HA:Hid (FAt F T D g w1∧SlZ xo n z w1∧Below w.heap.size w w1):=⟨hat,HF.out.2.sl.below hb1 HF.out.2.lt,hb1⟩
 clear hat hF hT hb1
 by_cases h1:n<1
 ·have HV:Hid (D.rchk n z k=4):=by show D.rchk n z k=4;unfold FD.rchk;rw[if_pos (Or.inl h1)]
  have hz1:(n:Int)<1:=by omega
  go_wp2
  go_ret
  exact⟨ret_int (by rw[HV.out]),HA.out.2.2⟩
 ·have hz1:¬(n:Int)<1:=by omega
  by_cases h64:64<n
  ·have HV:Hid (D.rchk n z k=4):=by show D.rchk n z k=4;unfold FD.rchk;rw[if_pos (Or.inr h64)]
   have hz2:(64:Int)<(n:Int):=by omega
   go_wp2
   go_ret
   exact⟨ret_int (by rw[HV.out]),HA.out.2.2⟩
  ·have hz2:¬(64:Int)<(n:Int):=by omega
   have HR:Hid (D.rchk n z k=if D.pch z n≠0 then D.pch z n else if k<1∨(n:Int)<k then 6 else 0):=by show D.rchk n z k=_;unfold FD.rchk;rw[if_neg (by omega)]
   clear h1 h64
   go_wp2
   go_loopw [29] (fun i wr=>∃r:Nat,r≤n∧i = .int .i64 r∧Hid (D.pch z r=0)∧wr=w1) (fun i _=>n-(intOf i).toNat)
   case atStart=>exact⟨0,by omega,rfl,rfl,rfl⟩
   case round=>
    obtain⟨r,hr,rfl,HP,hw⟩:=hrel
    have hw:=hw.symm
    subst hw
    by_cases hlt:r<n
    ·have hib:(r:Int)<(n:Int):=by omega
     obtain⟨bx,ox,hxo,hcx⟩:=HA.out.2.1 r hlt
     subst hxo
     obtain⟨x,hx⟩:∃x,x=z r:=⟨_,rfl⟩
     rw[←hx]at hcx
     have hcap:(r:Int)≤(cx:Int):=by omega
     obtain⟨hb0,hh0⟩:∃hb0,hb0=D.has x:=⟨_,rfl⟩
     obtain⟨hb1,hh1⟩:∃hb1,hb1=decide (x∈zl r z):=⟨_,rfl⟩
     have HC1:Hid (Calls Tryz.prog 45 #[.pointer (some ⟨F,0,none⟩),.int .i64 x] w1 fun e w'=>e = .returned (.bool hb0)∧w'=w1):=by
      rw[hh0];exact has_any HA.out.1 x
     have HC2:Hid (Calls Tryz.prog 46 #[.slice (some ⟨bx,ox,none⟩) r cx,.int .i64 x] w1 fun e w'=>e = .returned (.bool hb1)∧w'=w1):=by
      rw[hh1];exact contains_any x (fun j hj=>HA.out.2.1 j (by omega)) (by omega)
     have HN:Hid (D.pch z (r+1)=if hb0=true then(if hb1=true then 7 else 0)else 2):=by
      show(if D.pch z r≠0 then D.pch z r else if D.has (z r)=true then(if z r∈zl r z then 7 else 0)else 2)=_
      rw[if_neg (fun h=>h HP.out),hh0,hh1, ←hx]
      by_cases e:x∈zl r z
      ·rw[if_pos e,decide_eq_true e];simp
      ·rw[if_neg e,decide_eq_false e];simp
     clear hx hh0 hh1
     cases hb0 with
     | false=>
      have HV:Hid (D.rchk n z k=2):=by
       have h2:D.pch z (r+1)=2:=HN.out
       show _=_
       rw[HR.out,pch_to (r:=r+1) (by rw[h2];omega) (by omega),h2];rfl
      go_wp2_with fail
      refine HC1.out.mono ?_
      rintro e w' ⟨rfl,hw⟩
      have hw:=hw.symm
      subst hw
      go_wp2
      go_ret
      exact⟨ret_int (by rw[HV.out]),HA.out.2.2⟩
     | true=>
      cases hb1 with
      | true=>
       have HV:Hid (D.rchk n z k=7):=by
        have h2:D.pch z (r+1)=7:=HN.out
        show _=_
        rw[HR.out,pch_to (r:=r+1) (by rw[h2];omega) (by omega),h2];rfl
       go_wp2_with fail
       refine HC1.out.mono ?_
       rintro e w' ⟨rfl,hw⟩
       have hw:=hw.symm
       subst hw
       go_wp2_with fail
       refine HC2.out.mono ?_
       rintro e w' ⟨rfl,hw⟩
       have hw:=hw.symm
       subst hw
       go_wp2
       go_ret
       exact⟨ret_int (by rw[HV.out]),HA.out.2.2⟩
      | false=>
       go_wp2_with fail
       refine HC1.out.mono ?_
       rintro e w' ⟨rfl,hw⟩
       have hw:=hw.symm
       subst hw
       go_wp2_with fail
       refine HC2.out.mono ?_
       rintro e w' ⟨rfl,hw⟩
       have hw:=hw.symm
       subst hw
       go_wp2
       go_roundw
       case rel=>exact⟨r+1,by omega,by go_num,HN.out,by first|rfl|trivial⟩
       case measure=>simp[intOf];omega
    ·have hib:¬(r:Int)<(n:Int):=by omega
     have hre:n=r:=by omega
     subst hre
     by_cases hk1:k<1
     ·have HV:Hid (D.rchk n z k=6):=by show _=_;rw[HR.out,if_neg (fun h=>h HP.out),if_pos (Or.inl hk1)]
      go_wp2
      go_ret
      exact⟨ret_int (by rw[HV.out]),HA.out.2.2⟩
     ·by_cases hk2:(n:Int)<k
      ·have HV:Hid (D.rchk n z k=6):=by show _=_;rw[HR.out,if_neg (fun h=>h HP.out),if_pos (Or.inr hk2)]
       go_wp2
       go_ret
       exact⟨ret_int (by rw[HV.out]),HA.out.2.2⟩
      ·have HV:Hid (D.rchk n z k=0):=by show _=_;rw[HR.out,if_neg (fun h=>h HP.out),if_neg (by omega)]
       go_wp2
       go_ret
       exact⟨ret_int (by rw[HV.out]),HA.out.2.2⟩
def anyB(p:Nat→Bool):Nat→Bool
 | 0=>false
 |n+1=>anyB p n || p n
theorem anyB_no {p:Nat→Bool}:∀n,(∀j,j<n→p j=false)→anyB p n=false
 | 0,_=>rfl
 |n+1,h=>by
  show(anyB p n || p n)=false
  rw[anyB_no n (fun j hj=>h j (by omega)),h n (by omega)];rfl
theorem anyB_yes {p:Nat→Bool}{i:Nat}(h:p i=true):∀n,i<n→anyB p n=true
 | 0,hi=>absurd hi (by omega)
 |n+1,hi=>by
  show(anyB p n || p n)=true
  by_cases e:i=n
  ·rw[←e,h,Bool.or_true]
  ·rw[anyB_yes h n (by omega),Bool.true_or]
set_option maxHeartbeats 2000000 in
set_option maxRecDepth 100000 in
theorem containsFn_any {gf:Nat}{lb:Array Value}(eg:∀args w, (callFunc gf args).run Tryz.prog w = .ok (.enter gf args) w){ao:Option Addr}{n cap:Nat}{z:Nat→Int}{p:Nat→Bool}{w:World}
  (hs:SlZ ao n z w) (hn:n≤1000000) (hp:∀j,j<n→Calls Tryz.prog gf (#[.int .i64 (z j)]++lb) w fun e w'=>e = .returned (.bool (p j))∧w'=w) :
  Calls Tryz.prog 117 #[.slice ao n cap,.func (.func gf) #[] lb] w fun e w'=>e = .returned (.bool (anyB p n))∧w'=w:=by
 have HS:Hid (∀cap,Calls Tryz.prog 128 #[.slice ao n cap,.func (.func gf) #[] lb] w fun e w'=>w'=w∧∃i:Int,e = .returned (.int .i64 i)∧decide (0≤i)=anyB p n):=fun cap=>by
  refine(indexInts_any (cap:=cap) (p:=p) eg hs hn hp).mono ?_
  rintro e w' ⟨rfl,⟨i,hi,hpi,_,rfl⟩|⟨ha,rfl⟩⟩
  ·refine⟨rfl,_,rfl,?_⟩
   rw[anyB_yes hpi n hi];simp
  ·refine⟨rfl,_,rfl,?_⟩
   rw[anyB_no n ha];rfl
 clear hs hp eg
 obtain⟨y,hy⟩:∃y,y=anyB p n:=⟨_,rfl⟩
 rw[←hy]
 have HY:Hid (y=anyB p n):=hy
 clear hy
 go_enter Tryz.func117,Tryz.ntmps117
 go_wp2_with (go_at_call 128;refine(HS.out _).mono ?_;rintro e w' ⟨hw,i,rfl,hi⟩;rw[←HY.out]at hi;have hw:=hw.symm;subst hw)
 go_ret
 exact⟨by first|rfl|simp_all,rfl⟩
def FD.wok(D:FD)(x:Int):Bool:=decide (x = -1) || D.has x
def FD.allW(D:FD)(z:Nat→Int)(n:Nat):Bool := !anyB (fun j => !D.wok (z j)) n
def FD.wchk(D:FD)(n:Nat)(z:Nat→Int)(k:Int)(m:Nat)(y:Nat→Int):Int:=if D.rchk n z k≠0 then D.rchk n z k else if m≠n then 6 else if D.allW y m=true then 0 else 2
theorem enters_word:∀args w,(callFunc 118 args).run Tryz.prog w = .ok (.enter 118 args) w:=
 enters_of Tryz.func118 (by kernel_rfl) rfl
set_option maxHeartbeats 2000000 in
set_option maxRecDepth 100000 in
theorem word1_any {D:FD}{F T B:Nat}{g:Nat→Value}{w:World}(h:FAt F T D g w)(hc:w.cell? ⟨B, 0, none⟩=some (.pointer (some ⟨F, 0, none⟩)))(x:Int) :
  Calls Tryz.prog 118 #[.int .i64 x,.pointer (some ⟨B,0,none⟩)] w fun e w'=>e = .returned (.bool (!D.wok x))∧w'=w:=by
 have HS:Hid (FAt F T D g w):=h
 clear h
 obtain⟨y,hy⟩:∃y,y=D.has x:=⟨_,rfl⟩
 have HC:Hid (Calls Tryz.prog 45 #[.pointer (some ⟨F,0,none⟩),.int .i64 x] w fun e w'=>e = .returned (.bool y)∧w'=w):=by
  show Calls _ _ _ _ _
  rw[hy];exact has_any HS.out x
 by_cases e:x = -1
 ·have HV:Hid (D.wok x=true):=by show D.wok x=true;unfold FD.wok;rw[decide_eq_true e];rfl
  have hz:(x != -1)=false:=by rw[e];rfl
  clear hy e
  go_enter Tryz.func118,Tryz.ntmps118
  go_wp2
  go_ret
  exact⟨by rw[HV.out];rfl,rfl⟩
 ·have HV:Hid (D.wok x=y):=by show D.wok x=y;unfold FD.wok;rw[decide_eq_false e,hy];rfl
  have hz:(x != -1)=true:=by rw[bne_iff_ne];exact e
  clear hy e
  go_enter Tryz.func118,Tryz.ntmps118
  go_wp2_with (go_at_call 45;refine HC.out.mono ?_;rintro e w' ⟨rfl,hw⟩;have hw:=hw.symm;subst hw)
  go_ret
  exact⟨by rw[HV.out];rfl,rfl⟩
set_option maxHeartbeats 4000000 in
set_option maxRecDepth 100000 in
theorem word_any {D:FD}(hD:D∈fieldsL){xo yo:Option Addr}{n cx m cy:Nat}{z y:Nat→Int}(k:Int){w:World}(hX:Arg xo n cx z w)(hY:Arg yo m cy y w) :
  Calls Tryz.prog 101 #[.int .i64 D.q,.slice xo n cx,.int .i64 k,.slice yo m cy] w fun e w'=>e = .returned (.int .i64 (D.wchk n z k m y))∧Below w.heap.size w w':=by
 have HF:Hid (D∈fieldsL∧Arg xo n cx z w∧Arg yo m cy y w):=⟨hD,hX,hY⟩
 obtain⟨e0,he0⟩:∃e0,e0=D.rchk n z k:=⟨_,rfl⟩
 have HC:Hid (Calls Tryz.prog 22 #[.int .i64 D.q,.slice xo n cx,.int .i64 k] w fun e w'=>e = .returned (.int .i64 e0)∧Below w.heap.size w w'):=by rw[he0];exact rcheck_any hD k hX
 have hn6:=hX.few
 have hm6:=hY.few
 have HE:Hid (D.wchk n z k m y=if e0≠0 then e0 else if m≠n then 6 else if D.allW y m=true then 0 else 2):=by show _=_;rw[he0];rfl
 clear hD hX hY he0
 by_cases h0:e0=0
 ·subst h0
  by_cases hmn:m=n
  ·subst hmn
   obtain⟨ab,hab⟩:∃ab,ab=anyB (fun j => !D.wok (y j)) m:=⟨_,rfl⟩
   have HV:Hid (D.wchk m z k m y=if ab=true then 2 else 0):=by
    show _=_
    rw[HE.out,if_neg (by simp),if_neg (by simp)]
    show(if(!anyB (fun j => !D.wok (y j)) m)=true then(0:Int)else 2)=_
    rw[←hab]
    cases ab<;>rfl
   go_enter Tryz.func101,Tryz.ntmps101
   go_wp2_with fail
   refine HC.out.mono ?_
   rintro e w1 ⟨rfl,hb1⟩
   have H1:Hid (Below w.heap.size w w1):=hb1
   clear hb1
   go_wp2_with fail
   refine(new_any HF.out.1 w1).mono ?_
   rintro e w2 ⟨F,T,g,rfl,hat,hF,hT,hb2⟩
   have hal:Below w2.heap.size w2 (w2.alloc (.cells #[.pointer (some ⟨F,0,none⟩)] 81)):=(Below.refl _ _).alloc (Nat.le_refl _) _
   have H2:Hid (FAt F T D g (w2.alloc (.cells #[.pointer (some ⟨F,0,none⟩)] 81))∧Below w.heap.size w (w2.alloc (.cells #[.pointer (some ⟨F,0,none⟩)] 81))):=⟨hat.below hal hat.ltF hat.ltT,bel_up' (bel_up' H1.out hb2) hal⟩
   have HCf:Hid (∀cap,Calls Tryz.prog 117 #[.slice yo m cap,.func (.func 118) #[] #[.pointer (some ⟨w2.heap.size,0,none⟩)]] (w2.alloc (.cells #[.pointer (some ⟨F,0,none⟩)] 81)) fun e w'=>e = .returned (.bool ab)∧w'=w2.alloc (.cells #[.pointer (some ⟨F,0,none⟩)] 81)):=fun cap=>by
    rw[hab]
    refine containsFn_any enters_word (HF.out.2.2.below H2.out.2).sl hm6 (fun j _=>?_)
    have e:(#[Value.int .i64 (y j)] ++ #[Value.pointer (some ⟨w2.heap.size,0,none⟩)]:Array Value) = #[.int .i64 (y j),.pointer (some ⟨w2.heap.size,0,none⟩)]:=rfl
    rw[e]
    exact word1_any H2.out.1 (by simp) (y j)
   clear hat hF hT hb2 hal hab
   cases ab
   ·go_wp2_with (go_at_call 117;refine(HCf.out _).mono ?_;rintro e w' ⟨rfl,rfl⟩)
    go_ret
    exact⟨ret_int (by rw[HV.out];rfl),H2.out.2⟩
   ·go_wp2_with (go_at_call 117;refine(HCf.out _).mono ?_;rintro e w' ⟨rfl,rfl⟩)
    go_ret
    exact⟨ret_int (by rw[HV.out];rfl),H2.out.2⟩
  ·have HV:Hid (D.wchk n z k m y=6):=by show _=_;rw[HE.out,if_neg (by simp),if_pos hmn]
   have hz:(((m:Nat):Int) != ((n:Nat):Int))=true:=by rw[bne_iff_ne];omega
   go_enter Tryz.func101,Tryz.ntmps101
   go_wp2_with fail
   refine HC.out.mono ?_
   rintro e w1 ⟨rfl,hb1⟩
   have H1:Hid (Below w.heap.size w w1):=hb1
   clear hb1
   go_wp2
   go_ret
   exact⟨ret_int (by rw[HV.out]),H1.out⟩
 ·have HV:Hid (D.wchk n z k m y=e0):=by show _=_;rw[HE.out,if_pos h0]
  have hz:(e0 != 0)=true:=by rw[bne_iff_ne];exact h0
  clear h0
  go_enter Tryz.func101,Tryz.ntmps101
  go_wp2_with fail
  refine HC.out.mono ?_
  rintro e w1 ⟨rfl,hb1⟩
  have H1:Hid (Below w.heap.size w w1):=hb1
  clear hb1
  go_wp2
  go_ret
  exact⟨ret_int (by rw[HV.out]),H1.out⟩
end Go.Proofs.YtedifobeggabnaaGreat
