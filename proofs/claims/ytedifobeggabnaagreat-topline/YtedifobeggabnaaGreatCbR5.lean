/- Texts of ours, one behind the other: R5 R6 R7 R8 R9 R10 R11 R12 R13 R18 R14 B4 B5 B6 R15 M7 R16 R17 B7 B8 M8 M9 G1. -/
import Derived.Test.YtedifobeggabnaaGreatCbR4
import Derived.Test.YtedifobeggabnaaGreatCbM6
import Derived.Test.YtedifobeggabnaaGreatCbM1
import Derived.Test.YtedifobeggabnaaGreatCbM3
import Derived.Deep.RegionWith
import Derived.Deep.RegionHeld3
namespace Go.Proofs.YtedifobeggabnaaGreat
section
open Go.RowKit
def SliceI(v:Value)(l:List Int)(w:World):Prop:=
 (l=[]∧∃ao cap,v = .slice ao 0 cap)∨(l≠[]∧l.length≤1000000∧∃b off cap,v = .slice (some ⟨b,off,none⟩) l.length cap∧∀j,j<l.length→w.cell? ⟨b,off+j,none⟩=some (.int .i64 (l.getD j 0)))
theorem list_ext_getD(l m:List Int)(h:l.length=m.length)(e:∀j,j<l.length→l.getD j 0=m.getD j 0):l=m:=by
 apply List.ext_getElem h
 intro i h1 h2
 have:=e i h1
 rwa [List.getD_eq_getElem?_getD,List.getD_eq_getElem?_getD,List.getElem?_eq_getElem h1,List.getElem?_eq_getElem h2]at this
set_option maxHeartbeats 2000000 in
theorem same_any {va vb:Value}{la lb:List Int}{w:World}(ha:SliceI va la w)(hb:SliceI vb lb w) :
  Calls Tryz.prog 13 #[va,vb] w fun e w'=>e = .returned (.bool (decide (la=lb)))∧∃n,w'=w.drewN n:=by
 by_cases hlen:la.length=lb.length
 ·rcases ha with⟨rfl,ao,ca,rfl⟩|⟨h1,h2,b,off,cap,rfl,hc⟩
  ·have h0:lb=[]:=List.length_eq_zero_iff.1 hlen.symm
   subst h0
   rcases hb with⟨_,bo,cb,rfl⟩|⟨h3,_⟩
   ·clear hlen
    go_enter Tryz.func13,Tryz.ntmps13
    go_wp2
    refine wp_loop_rounds 1 ?_
    rw[rounds_succ]
    go_wp2
    go_ret
    exact⟨rfl,0,rfl⟩
   ·exact absurd rfl h3
  ·rcases hb with⟨rfl,bo,cb,rfl⟩|⟨h3,h4,b',off',cap',rfl,hc'⟩
   ·exact absurd (List.length_eq_zero_iff.1 hlen) h1
   ·obtain⟨n,hn⟩:∃n,n=la.length:=⟨_,rfl⟩
    rw[←hlen, ←hn]
    have HC:Hid ((∀j,j<n→w.cell? ⟨b,off+j,none⟩=some (.int .i64 (la.getD j 0)))∧(∀j,j<n→w.cell? ⟨b',off'+j,none⟩=some (.int .i64 (lb.getD j 0)))):=⟨fun j hj=>hc j (by omega),fun j hj=>hc' j (by omega)⟩
    have HL:Hid (n=la.length∧la.length=lb.length):=⟨hn,hlen⟩
    have hnb:n≤1000000:=by omega
    clear hc hc' h1 h2 h3 h4 hlen hn
    go_enter Tryz.func13,Tryz.ntmps13
    go_wp2
    go_loopw [5] (fun i wr=>∃k:Nat,k≤n∧i = .int .i64 k∧Hid (∀j,j<k→la.getD j 0=lb.getD j 0)∧∃d,wr=w.drewN d) (fun i _=>n-(intOf i).toNat)
    case atStart=>exact⟨0,by omega,rfl,fun j hj=>by omega,0,rfl⟩
    case round=>
     obtain⟨k,hk,rfl,HK,d,rfl⟩:=hrel
     by_cases hlt:k<n
     ·have c1:=HC.out.1 k hlt
      have c2:=HC.out.2 k hlt
      obtain⟨x,hx⟩:∃x,x=la.getD k 0:=⟨_,rfl⟩
      obtain⟨y,hy⟩:∃y,y=lb.getD k 0:=⟨_,rfl⟩
      rw[←hx]at c1
      rw[←hy]at c2
      have HX:Hid (x=la.getD k 0∧y=lb.getD k 0):=⟨hx,hy⟩
      clear hx hy
      by_cases he:x=y
      ·have hb:(x != y)=false:=by rw[he];simp
       have HK2:Hid (∀j,j<k+1→la.getD j 0=lb.getD j 0):=fun j hj=>if e:j=k then by rw[e, ←HX.out.1, ←HX.out.2,he]else HK.out j (by omega)
       clear he
       go_wp2
       go_quiet (fail)
       go_wp2
       go_roundw
       case rel=>exact⟨k+1,by omega,by go_num,HK2.out,_,rfl⟩
       case measure=>simp[intOf];omega
      ·have hb:(x != y)=true:=by rw[bne_iff_ne];exact he
       have HV:Hid (decide (la=lb)=false):=by
        show _=_
        rw[decide_eq_false_iff_not];intro e;exact he (by rw[HX.out.1,HX.out.2,e])
       clear he
       go_wp2
       go_quiet (fail)
       go_wp2
       go_ret
       exact⟨ret_bool (by rw[HV.out]),_,by rw[World.drewN_drewN]⟩
     ·have HV:Hid (decide (la=lb)=true):=by
       show _=_
       rw[decide_eq_true_eq];exact list_ext_getD la lb HL.out.2 (fun j hj=>HK.out j (by have:=HL.out.1;omega))
      go_wp2
      go_ret
      exact⟨ret_bool (by rw[HV.out]),_,rfl⟩
 ·have HV:Hid (decide (la=lb)=false):=by
   show _=_
   rw[decide_eq_false_iff_not];intro e;exact hlen (by rw[e])
  obtain⟨ao,ca,ea⟩:∃ao ca,va = .slice ao la.length ca:=by
   rcases ha with⟨rfl,ao,ca,rfl⟩|⟨_,_,b,off,cap,rfl,_⟩
   ·exact⟨ao,ca,rfl⟩
   ·exact⟨_,cap,rfl⟩
  obtain⟨bo,cb,eb⟩:∃bo cb,vb = .slice bo lb.length cb:=by
   rcases hb with⟨rfl,ao,ca,rfl⟩|⟨_,_,b,off,cap,rfl,_⟩
   ·exact⟨ao,ca,rfl⟩
   ·exact⟨_,cap,rfl⟩
  subst ea eb
  have hne:(((la.length:Nat):Int) != ((lb.length:Nat):Int))=true:=by rw[bne_iff_ne];exact_mod_cast hlen
  generalize la.length=n at *
  generalize lb.length=m at *
  clear ha hb hlen
  go_enter Tryz.func13,Tryz.ntmps13
  go_wp2
  go_ret
  exact⟨ret_bool (by rw[HV.out]),0,rfl⟩
theorem bel_up {B:Nat}{w W w1:World}(h0:Below B w W)(h:Below W.heap.size W w1)(hB:B≤w.heap.size:=by exact Nat.le_refl _):Below B w w1:=h0.trans (h.mono (Nat.le_trans hB h0.size))
def FD.val(D:FD)(c:Nat→Nat)(n x:Nat):Nat→Nat
 | 0=>0
 |k+1=>sumD D.p D.q (D.mul (D.val c n x k) x) (c (n-1-k))
theorem val_lt {D:FD}(hD:D∈fieldsL)(c:Nat→Nat)(n x:Nat)(hc:∀j,c j<D.q):∀k,D.val c n x k<D.q
 | 0=>by have:=(fld hD).q2;show 0<D.q;omega
 |k+1=>(fld hD).sum_lt _ _ ((fld hD).mul_lt _ _) (hc _)
theorem bel_up' {B:Nat}{w W w1:World}(h0:Below B w W)(h:Below W.heap.size W w1)(hB:B≤w.heap.size:=by exact Nat.le_refl _):Below B w w1:=h0.trans (h.mono (Nat.le_trans hB h0.size))
end
section
open Go.RowKit
theorem mul_nat {F T:Nat}{D:FD}(hD:D∈fieldsL){g:Nat→Value}{w:World}(h:FAt F T D g w){a b:Nat}(ha:a<D.q)(hb:b<D.q) :
  Calls Tryz.prog 67 #[.pointer (some ⟨F,0,none⟩),.int .i64 a,.int .i64 b] w fun e w'=>e = .returned (.int .i64 (D.mul a b:Nat))∧∃n,w'=w.drewN n:=by
 rw[←mulZ_nat (fld hD) ha hb];exact mul_any hD h a b
theorem add_nat {F T:Nat}{D:FD}(hD:D∈fieldsL){g:Nat→Value}{w:World}(h:FAt F T D g w){a b:Nat}(ha:a<D.q)(hb:b<D.q) :
  Calls Tryz.prog 66 #[.pointer (some ⟨F,0,none⟩),.int .i64 a,.int .i64 b] w fun e w'=>e = .returned (.int .i64 (sumD D.p D.q a b:Nat))∧∃n,w'=w.drewN n:=by
 rw[←addZ_nat (fld hD) ha hb];exact add_any hD h a b
theorem inv_is {D:FD}(hD:D∈fieldsL){x:Nat}(hx:x<D.q)(h0:x≠0):D.mul x (D.pw x (D.q-2))=1:=by
 have h:=t11 hD hx h0
 rw[inv_nat hD hx h0,mulZ_nat (fld hD) hx (pw_lt hD x _)]at h
 exact_mod_cast h
end
end Go.Proofs.YtedifobeggabnaaGreat
