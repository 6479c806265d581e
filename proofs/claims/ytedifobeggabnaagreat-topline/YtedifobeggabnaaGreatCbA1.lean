/- Texts of ours, one behind the other: A1. -/
import Derived.Test.YtedifobeggabnaaGreatProg
import Derived.WalkKit
namespace Go.Proofs.YtedifobeggabnaaGreat
open Go.RowKit
def pick(c n:Int):Int:=(if c<0 then -(c+1)else c) % n
theorem pick_lo(c n:Int)(h:0<n):0≤pick c n:=by unfold pick;exact Int.emod_nonneg _ (by omega)
theorem pick_hi(c n:Int)(h:0<n):pick c n<n:=by unfold pick;exact Int.emod_lt_of_pos _ h
theorem ret_int {k:IntKind}{a b:Int}(h:a=b):Ending.returned (.int k a) = .returned (.int k b):=by rw[h]
theorem ret_int2 {k l:IntKind}{a b c d:Int}(h:a=b)(h':c=d):Ending.returned (.tuple #[.int k a,.int l c]) = .returned (.tuple #[.int k b,.int l d]):=by rw[h,h']
theorem pick_any(c n:Int)(w:World)(hb1 : -9223372036854775808≤c)(hb2:c≤9223372036854775807)(h:0<n)(h2:n≤9223372036854775807) :
  Calls Tryz.prog 15 #[.int .i64 c,.int .i64 n] w fun e w'=>e = .returned (.int .i64 (pick c n))∧w'=w:=by
 by_cases hneg:c<0
 ·go_enter Tryz.func15,Tryz.ntmps15
  go_wp2
  go_ret
  exact⟨ret_int (by unfold pick;rw[if_pos hneg, ←Int.neg_tmod,Int.tmod_eq_emod_of_nonneg (by omega)]),rfl⟩
 ·go_enter Tryz.func15,Tryz.ntmps15
  go_wp2
  go_ret
  exact⟨ret_int (by unfold pick;rw[if_neg (by omega)]),rfl⟩
def ppLow(q:Nat):Nat→Nat→Nat
 | 0,p=>p
 |k+1,p=>if q % p=0 then p else ppLow q k (p+1)
def ppCut(p:Nat):Nat→Nat→Nat→Nat×Nat
 | 0,q,m=>(q,m)
 |k+1,q,m=>if q % p=0 then ppCut p k (q / p) (m+1)else(q,m)
def pp(q:Nat):Nat×Nat:=
 let p:=ppLow q q 2
 let r:=ppCut p 7 q 0
 if r.1=1 then(p,r.2)else(0,0)
def ppChk:Bool:=(List.range 65).all fun q=>(List.range 65).all fun p => !(decide (2≤q) && decide (2≤p) && q % p == 0) || !((List.range p).all fun r=>decide (r<2) || !(q % r == 0)) ||
 (List.range 7).all fun j => !(q % p ^ j == 0) || (q / p ^ j) % p == 0 || pp q == if q / p ^ j=1 then(p,j)else(0,0)
theorem ppChk_true:ppChk=true:=by decide +kernel
theorem pp_is(q p j:Nat)(hq:q<65)(h2:2≤q)(hp:p<65)(hp2:2≤p)(hd:q % p=0)(hn:∀r<p, 2≤r→¬q % r=0)(hj:j<7)(hc:q % p ^ j=0)(he:¬(q / p ^ j) % p=0) :
  pp q=if q / p ^ j=1 then(p,j)else(0,0):=by
 have h:=ppChk_true
 unfold ppChk at h
 rw[List.all_eq_true]at h
 have h:=h q (List.mem_range.2 hq)
 rw[List.all_eq_true]at h
 have h:=h p (List.mem_range.2 hp)
 have hr:((List.range p).all fun r=>decide (r<2) || !(q % r == 0))=true:=by
  rw[List.all_eq_true];intro r hr
  have:=hn r (List.mem_range.1 hr)
  by_cases h2:r<2
  ·simp[h2]
  ·simp[this (by omega)]
 rw[hr]at h
 simp only[h2,hp2,hd,decide_true,beq_self_eq_true,Bool.and_self,Bool.not_true,Bool.false_or]at h
 rw[List.all_eq_true]at h
 have h:=h j (List.mem_range.2 hj)
 simp only[hc,beq_self_eq_true,Bool.not_true,Bool.false_or,Bool.or_eq_true,beq_iff_eq]at h
 rcases h with h|h
 ·exact absurd h he
 ·exact h
theorem pow_le_of_dvd(q p j:Nat)(hq:q<65)(h2:2≤q)(hp:2≤p)(h:q % p ^ j=0):j<7:=by
 have h1:p ^ j≤q:=Nat.le_of_dvd (by omega) (Nat.dvd_of_mod_eq_zero h)
 rcases Nat.lt_or_ge j 7 with h7|h7
 ·exact h7
 ·have:2 ^ 7≤p ^ j:=Nat.le_trans (Nat.pow_le_pow_left hp 7) (Nat.pow_le_pow_right (by omega) h7)
  omega
theorem cut_step(q p j:Nat)(h:q % p ^ j=0)(h':(q / p ^ j) % p=0):q % p ^ (j+1)=0:=by
 obtain⟨a,ha⟩:=Nat.dvd_of_mod_eq_zero h
 by_cases hp:p ^ j=0
 ·rw[hp]at ha;simp at ha;subst ha;simp
 ·rw[ha,Nat.mul_div_cancel_left _ (by omega)]at h'
  obtain⟨b,hb⟩:=Nat.dvd_of_mod_eq_zero h'
  rw[ha,hb,Nat.pow_succ, ←Nat.mul_assoc];simp
theorem prime_end(q k j:Nat)(hq:q<65)(h2:2≤q)(hk:k<65)(hk2:2≤k)(hd:q % k=0)(hn:∀r<k, 2≤r→¬q % r=0)(hc:q % k ^ j=0)(he:¬(q / k ^ j) % k=0)(x:Nat)(hx:x=q / k ^ j) :
  (x=1→pp q=(k,j))∧(x≠1→pp q=(0,0)):=by
 have:=pp_is q k j hq h2 hk hk2 hd hn (pow_le_of_dvd q k j hq h2 hk2 hc) hc he
 rw[←hx]at this
 exact⟨fun h=>by rw[this,if_pos h],fun h=>by rw[this,if_neg h]⟩
set_option maxHeartbeats 1000000 in
theorem prime_any(q:Nat)(w:World)(h2:2≤q)(h64:q≤64) :
  Calls Tryz.prog 31 #[.int .i64 q] w fun e w'=>e = .returned (.tuple #[.int .i64 (pp q).1,.int .i64 (pp q).2])∧w'=w:=by
 go_enter Tryz.func31,Tryz.ntmps31
 go_wp2
 go_loop [0,4] (fun a p=>∃k:Nat,2≤k∧k≤q∧a = .int .i64 q∧p = .int .i64 k∧Hid (∀r<k,2≤r→¬q % r=0)) (fun _ p=>q-(intOf p).toNat)
 case atStart=>exact⟨2,by omega,h2,rfl,rfl,fun r h h'=>by omega⟩
 case round=>
  obtain⟨k,hk,hkq,rfl,rfl,HN⟩:=hrel
  by_cases hd:q % k=0
  ·have hz:((q:Int) % (k:Int) != 0)=false:=by simp;exact_mod_cast hd
   have HD:Hid (q % k=0):=hd
   clear hd
   go_wp2
   go_loop [0,5] (fun a m=>∃j x:Nat,j≤6∧1≤x∧x≤64∧a = .int .i64 x∧m = .int .i64 j∧Hid (q % k ^ j=0∧x=q / k ^ j)) (fun a _=>(intOf a).toNat)
   case atStart=>exact⟨0,q,by omega,by omega,by omega,rfl,rfl,by simp[Hid,Nat.mod_one]⟩
   case round=>
    obtain⟨j,x,hj,hx1,hx,rfl,rfl,HX⟩:=hrel
    by_cases hd:x % k=0
    ·have hz:((x:Int) % (k:Int) == 0)=true:=by simp;exact_mod_cast hd
     have HE:Hid (x % k=0):=hd
     clear hd
     have hq1:1≤x / k:=Nat.div_pos (Nat.le_of_dvd (by omega) (Nat.dvd_of_mod_eq_zero HE.out)) (by omega)
     have hq2:x / k<x:=Nat.div_lt_self (by omega) (by omega)
     have hj6:j+1<7:=pow_le_of_dvd q k (j+1) (by omega) h2 hk (cut_step q k j HX.out.1 (by rw[←HX.out.2];exact HE.out))
     go_wp2
     go_round
     case rel=>exact⟨j+1,x / k,by omega,hq1,by omega,rfl,by go_num,cut_step q k j HX.out.1 (by rw[←HX.out.2];exact HE.out),by rw[HX.out.2,Nat.div_div_eq_div_mul,Nat.pow_succ]⟩
     case measure=>
      show(((x / k:Nat):Int)).toNat<((x:Nat):Int).toNat
      rw[Int.toNat_natCast,Int.toNat_natCast];exact hq2
    ·have hz:((x:Int) % (k:Int) == 0)=false:=by rw[beq_eq_false_iff_ne];exact_mod_cast hd
     have HE:Hid (¬x % k=0):=hd
     clear hd
     have HP:Hid ((x=1→pp q=(k,j))∧(x≠1→pp q=(0,0))):=prime_end q k j (by omega) h2 (by omega) hk HD.out HN.out HX.out.1 (by rw[←HX.out.2];exact HE.out) x HX.out.2
     by_cases h1:x=1
     ·have hb:((x:Int) == 1)=true:=by rw[h1];rfl
      have HV:Hid (pp q=(k,j)):=HP.out.1 h1
      clear h1
      go_wp2
      go_ret2
      exact⟨ret_int2 (by rw[HV.out]) (by rw[HV.out]),rfl⟩
     ·have hb:((x:Int) == 1)=false:=by rw[beq_eq_false_iff_ne];exact_mod_cast h1
      have HV:Hid (pp q=(0,0)):=HP.out.2 h1
      clear h1
      go_wp2
      go_ret2
      exact⟨ret_int2 (by rw[HV.out];rfl) (by rw[HV.out];rfl),rfl⟩
  ·have hz:((q:Int) % (k:Int) != 0)=true:=by rw[bne_iff_ne];exact_mod_cast hd
   have HD:Hid (¬q % k=0):=hd
   clear hd
   have hne:k≠q:=by intro e;subst e;exact HD.out (Nat.mod_self _)
   go_wp2
   go_round
   case rel=>exact⟨k+1,by omega,by omega,rfl,by go_num,fun r h h'=>if e:r=k then e▸HD.out else HN.out r (by omega) h'⟩
   case measure=>simp[intOf];omega
end Go.Proofs.YtedifobeggabnaaGreat
