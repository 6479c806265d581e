/- Texts of ours, one behind the other: M3 B1 B2 B3 W2 C1 C2 D1 R1 R2 R3 W3. -/
import Derived.Test.YtedifobeggabnaaGreatCbM2
import Derived.Test.YtedifobeggabnaaGreatCbM1
import Derived.Test.YtedifobeggabnaaGreatProg
import Derived.OwnWalk
import Derived.Test.YtedifobeggabnaaGreatCbA1
import Derived.RegionTactic
import Derived.BigRegion
import Derived.Laws.MakeOwn
namespace Go.Proofs.YtedifobeggabnaaGreat
theorem again_st(st:Nat→Nat):∀k a,again st k (st a)=again st (k+1) a
 | 0,_=>rfl
 |k+1,a=>by
  show st (again st k (st a))=st (again st (k+1) a)
  rw[again_st st k a]
theorem again_add(st:Nat→Nat)(j a:Nat):∀k,again st (k+j) a=again st k (again st j a)
 | 0=>by rw[Nat.zero_add];rfl
 |k+1=>by
  rw[show k+1+j=(k+j)+1 from by omega]
  show st (again st (k+j) a)=st (again st k (again st j a))
  rw[again_add st j a k]
theorem powL_contains(st:Nat→Nat)(x:Nat):∀n a,(powL st n a).contains x=true↔∃k,k<n∧again st k a=x
 | 0,a=>by simp[powL]
 |n+1,a=>by
  rw[powL,List.contains_cons,Bool.or_eq_true,powL_contains st x n (st a),beq_iff_eq]
  constructor
  ·rintro(h|⟨k,hk,h⟩)
   ·exact⟨0,by omega,h.symm⟩
   ·exact⟨k+1,by omega,by rw[←again_st];exact h⟩
  ·rintro⟨k,hk,h⟩
   cases k with
   | zero=>exact Or.inl h.symm
   | succ k=>exact Or.inr ⟨k,by omega,by rw[again_st];exact h⟩
theorem nodupB_pow(st:Nat→Nat):∀n a,nodupB (powL st n a)=true↔∀k,k<n→∀j,j<k→again st j a≠again st k a
 | 0,a=>by simp[powL,nodupB]
 |n+1,a=>by
  rw[powL,nodupB,Bool.and_eq_true,nodupB_pow st n (st a),Bool.not_eq_true', ←Bool.not_eq_true,powL_contains]
  constructor
  ·rintro⟨h1,h2⟩ k hk j hj
   cases k with
   | zero=>omega
   | succ k=>
    cases j with
    | zero=>exact fun e=>h1 ⟨k,by omega,by rw[again_st];exact e.symm⟩
    | succ j=>have:=h2 k (by omega) j (by omega);rw[again_st,again_st]at this;exact this
  ·intro h
   refine⟨?_,fun k hk j hj=>by rw[again_st,again_st];exact h (k+1) (by omega) (j+1) (by omega)⟩
   rintro⟨k,hk,e⟩
   rw[again_st]at e
   exact h (k+1) (by omega) 0 (by omega) e.symm
theorem fullB_iff(st:Nat→Nat)(n:Nat):fullB st n=true↔Full st n:=by
 unfold fullB Full
 rw[Bool.and_eq_true,nodupB_pow,Bool.not_eq_true', ←Bool.not_eq_true,powL_contains]
 constructor
 ·rintro⟨h1,h2⟩ k hk
  exact⟨fun e=>h1 ⟨k,hk,e⟩,h2 k hk⟩
 ·intro h
  exact⟨fun⟨k,hk,e⟩=>(h k hk).1 e,fun k hk=>(h k hk).2⟩
structure Fld(D:FD):Prop where
 p2:2≤D.p
 p64:D.p≤64
 m1:1≤D.m
 m6:D.m≤6
 q2:2≤D.q
 q64:D.q≤64
 qp:D.q=D.p ^ D.m
 sum_lt:∀a b,a<D.q→b<D.q→sumD D.p D.q a b<D.q
 dig:∀a b i,a<D.q→b<D.q→i<D.m→sumD D.p D.q a b / D.p ^ i % D.p=(a / D.p ^ i+b / D.p ^ i) % D.p
 neg_lt:∀a,a<D.q→negD D.p D.q a<D.q
 sum_neg:∀a,a<D.q→sumD D.p D.q a (negD D.p D.q a)=0
 sum_zero:∀a,a<D.q→sumD D.p D.q a 0=a
 full:Full D.st (D.q-1)
 pow_lt:∀k,k<D.q-1→again D.st k 1<D.q
 period:again D.st (D.q-1) 1=1
 onto:∀a,a<D.q→a≠0→∃k,k<D.q-1∧again D.st k 1=a
 st_zero:D.st 0=0
 st_lt:∀a,a<D.q→D.st a<D.q
 st_add:∀a b,a<D.q→b<D.q→D.st (sumD D.p D.q a b)=sumD D.p D.q (D.st a) (D.st b)
 least1:D.m=1→D.p=D.q∧1≤D.gen∧D.gen<D.q∧D.low=0∧∀g,1≤g→g<D.gen→¬Full (fun a=>a*g % D.q) (D.q-1)
 least2:D.m≠1→D.gen=D.p∧D.low<D.q∧∀l,l<D.low→¬Full (timesX D.p D.q l) (D.q-1)
theorem fld {D:FD}(h:D∈fieldsL):Fld D:=by
 have h1:=List.all_eq_true.1 chkSum_all D h
 have h2:=List.all_eq_true.1 chkNeg_all D h
 have h3:=List.all_eq_true.1 chkPow_all D h
 have h4:=List.all_eq_true.1 chkAdd_all D h
 have h5:=List.all_eq_true.1 chkLeast_all D h
 have h6:=List.all_eq_true.1 chkNum_all D h
 clear h
 unfold chkNum at h6
 simp only[Bool.and_eq_true,decide_eq_true_eq,beq_iff_eq]at h6
 obtain⟨⟨⟨⟨⟨⟨n1,n2⟩,n3⟩,n4⟩,n5⟩,n6⟩,n7⟩:=h6
 unfold chkPow at h3
 simp only[Bool.and_eq_true,List.all_eq_true,decide_eq_true_eq,beq_iff_eq]at h3
 obtain⟨⟨⟨f1,f2⟩,f3⟩,f4⟩:=h3
 unfold chkAdd at h4
 simp only[Bool.and_eq_true,beq_iff_eq]at h4
 obtain⟨g1,g2⟩:=h4
 unfold chkLeast at h5
 refine⟨n1,n2,n3,n4,n5,n6,n7,?_,?_,?_,?_,?_,(fullB_iff _ _).1 f1,?_,f3,?_,g1,?_,?_,?_,?_⟩
 ·intro a b ha hb
  have:=allB_of (allB_of h1 a ha) b hb
  simp only[Bool.and_eq_true,decide_eq_true_eq]at this
  exact this.1
 ·intro a b i ha hb hi
  have:=allB_of (allB_of h1 a ha) b hb
  simp only[Bool.and_eq_true,decide_eq_true_eq]at this
  exact beq_iff_eq.1 (allB_of this.2 i hi)
 ·intro a ha
  have:=allB_of h2 a ha
  simp only[Bool.and_eq_true,decide_eq_true_eq,beq_iff_eq]at this
  exact this.1.1
 ·intro a ha
  have:=allB_of h2 a ha
  simp only[Bool.and_eq_true,decide_eq_true_eq,beq_iff_eq]at this
  exact this.1.2
 ·intro a ha
  have:=allB_of h2 a ha
  simp only[Bool.and_eq_true,decide_eq_true_eq,beq_iff_eq]at this
  exact this.2
 ·intro k hk
  exact f2 _ (List.contains_iff_mem.1 ((powL_contains _ _ _ _).2 ⟨k,hk,rfl⟩))
 ·intro a ha h0
  have:=allB_of f4 a ha
  rw[Bool.or_eq_true,powL_contains,beq_iff_eq]at this
  exact this.resolve_left h0
 ·intro a ha
  have:=allB_of g2 a ha
  simp only[Bool.and_eq_true,decide_eq_true_eq]at this
  exact this.1
 ·intro a b ha hb
  have:=allB_of g2 a ha
  simp only[Bool.and_eq_true,decide_eq_true_eq]at this
  exact beq_iff_eq.1 (allB_of this.2 b hb)
 ·intro hm
  rw[if_pos hm]at h5
  simp only[Bool.and_eq_true,decide_eq_true_eq,beq_iff_eq]at h5
  obtain⟨⟨⟨⟨a1,a2⟩,a3⟩,a4⟩,a5⟩:=h5
  refine⟨a1,a2,a3,a4,fun g hg1 hg hf=>?_⟩
  have:=allB_of a5 g hg
  rw[(fullB_iff _ _).2 hf]at this
  simp at this
  omega
 ·intro hm
  rw[if_neg hm]at h5
  simp only[Bool.and_eq_true,decide_eq_true_eq,beq_iff_eq]at h5
  obtain⟨⟨a1,a2⟩,a3⟩:=h5
  refine⟨a1,a2,fun l hl hf=>?_⟩
  have:=allB_of a3 l hl
  rw[(fullB_iff _ _).2 hf]at this
  simp at this
theorem fld_two {D:FD}(h:D∈fieldsL):Two D.p D.q:=by
 have h1:=List.all_eq_true.1 chkTwo_all D h
 intro hp
 unfold chkTwo at h1
 rw[hp]at h1 ⊢
 simp only[beq_self_eq_true,Bool.not_true,Bool.false_or]at h1
 refine⟨fun a b ha hb=>?_,fun a ha=>?_⟩
 ·have:=allB_of h1 a ha
  rw[Bool.and_eq_true]at this
  exact beq_iff_eq.1 (allB_of this.2 b hb)
 ·have:=allB_of h1 a ha
  rw[Bool.and_eq_true]at this
  exact beq_iff_eq.1 this.1
theorem sumFrom_comm(p q a b:Nat):∀k u,sumFrom p q a b k u=sumFrom p q b a k u
 | 0,_=>rfl
 |k+1,u=>by
  rw[sumFrom,sumFrom,sumFrom_comm p q a b k (u*p),Nat.add_comm (a / u)]
def sum3From(p q a b c:Nat):Nat→Nat→Nat
 | 0,_=>0
 |k+1,u=>if u<q then(a / u+b / u+c / u) % p*u+sum3From p q a b c k (u*p)else 0
theorem Fld.sum3 {D:FD}(F:Fld D)(a b c:Nat)(ha:a<D.q)(hb:b<D.q):∀k i,sumFrom D.p D.q (sumD D.p D.q a b) c k (D.p ^ i)=sum3From D.p D.q a b c k (D.p ^ i)
 | 0,_=>rfl
 |k+1,i=>by
  rw[sumFrom,sum3From]
  by_cases hu:D.p ^ i<D.q
  ·have hi:i<D.m:=by
    rw[F.qp]at hu
    exact(Nat.pow_lt_pow_iff_right F.p2).1 hu
   rw[if_pos hu,if_pos hu, ←Nat.pow_succ,F.sum3 a b c ha hb k (i+1)]
   congr 2
   rw[Nat.add_mod,F.dig a b i ha hb hi,Nat.mod_add_mod,Nat.add_mod_mod]
  ·rw[if_neg hu,if_neg hu]
theorem sum3_comm(p q a b c:Nat):∀k u,sum3From p q a b c k u=sum3From p q b c a k u
 | 0,_=>rfl
 |k+1,u=>by
  rw[sum3From,sum3From,sum3_comm p q a b c k (u*p),show a / u+b / u+c / u=b / u+c / u+a / u from by omega]
theorem Fld.add_comm {D:FD}(_F:Fld D)(a b:Nat):sumD D.p D.q a b=sumD D.p D.q b a:=sumFrom_comm _ _ _ _ _ _
theorem Fld.add_assoc {D:FD}(F:Fld D)(a b c:Nat)(ha:a<D.q)(hb:b<D.q)(hc:c<D.q):sumD D.p D.q (sumD D.p D.q a b) c=sumD D.p D.q a (sumD D.p D.q b c):=by
 rw[F.add_comm a (sumD D.p D.q b c)]
 have h1:=F.sum3 a b c ha hb 7 0
 have h2:=F.sum3 b c a hb hc 7 0
 rw[Nat.pow_zero]at h1 h2
 unfold sumD at *
 rw[h1,h2,sum3_comm]
theorem Fld.neg_uniq {D:FD}(F:Fld D)(a b c:Nat)(ha:a<D.q)(hb:b<D.q)(hc:c<D.q)(h1:sumD D.p D.q a b=0)(h2:sumD D.p D.q a c=0):b=c:=by
 have e1:=F.add_assoc b a c hb ha hc
 rw[h2,F.sum_zero b hb,F.add_comm b a,h1,F.add_comm 0 c,F.sum_zero c hc]at e1
 exact e1.symm
def FD.lg(D:FD)(a:Nat):Nat:=(powL D.st (D.q-1) 1).findIdx (· == a)
theorem powL_len(st:Nat→Nat):∀n a,(powL st n a).length=n
 | 0,_=>rfl
 |n+1,a=>by rw[powL,List.length_cons,powL_len st n]
theorem powL_get(st:Nat→Nat):∀n a k,k<n→(powL st n a)[k]?=some (again st k a)
 | 0,_,_,h=>by omega
 |n+1,a,0,_=>by rw[powL];rfl
 |n+1,a,k+1,h=>by
  rw[powL,List.getElem?_cons_succ,powL_get st n (st a) k (by omega),again_st]
theorem Fld.lg_is {D:FD}(F:Fld D)(a:Nat)(ha:a<D.q)(h0:a≠0):D.lg a<D.q-1∧again D.st (D.lg a) 1=a:=by
 obtain⟨k,hk,e⟩:=F.onto a ha h0
 have hlt:D.lg a<(powL D.st (D.q-1) 1).length:=by
  unfold FD.lg
  rw[List.findIdx_lt_length]
  exact⟨a,List.contains_iff_mem.1 ((powL_contains _ _ _ _).2 ⟨k,hk,e⟩),by simp⟩
 have hl:=powL_len D.st (D.q-1) 1
 have h1:D.lg a<D.q-1:=by omega
 refine⟨h1,?_⟩
 have hg:=powL_get D.st (D.q-1) 1 (D.lg a) h1
 have hp:((powL D.st (D.q-1) 1)[D.lg a] == a)=true:=List.findIdx_getElem (w:=hlt)
 rw[List.getElem?_eq_getElem hlt,Option.some.injEq]at hg
 rw[←hg];exact beq_iff_eq.1 hp
theorem Fld.inj {D:FD}(F:Fld D)(j k:Nat)(hj:j<D.q-1)(hk:k<D.q-1)(e:again D.st j 1=again D.st k 1):j=k:=by
 rcases Nat.lt_trichotomy j k with h|h|h
 ·exact absurd e ((F.full k hk).2 j h)
 ·exact h
 ·exact absurd e.symm ((F.full j hj).2 k h)
theorem Fld.lg_pow {D:FD}(F:Fld D)(k:Nat)(hk:k<D.q-1):D.lg (again D.st k 1)=k:=by
 have:=F.lg_is (again D.st k 1) (F.pow_lt k hk) (F.full k hk).1
 exact F.inj _ _ this.1 hk this.2
theorem Fld.pow_add_n {D:FD}(F:Fld D)(k:Nat):again D.st (k+(D.q-1)) 1=again D.st k 1:=by
 rw[again_add,F.period]
theorem Fld.pow_mod {D:FD}(F:Fld D)(k:Nat):again D.st (k % (D.q-1)) 1=again D.st k 1:=by
 have h:∀c r,again D.st (r+c*(D.q-1)) 1=again D.st r 1:=by
  intro c
  induction c with
  | zero=>intro r;rw[Nat.zero_mul];rfl
  | succ c ih=>intro r;rw[Nat.succ_mul, ←Nat.add_assoc,F.pow_add_n,ih]
 conv=>rhs;rw[←Nat.mod_add_div k (D.q-1),Nat.mul_comm (D.q-1)]
 rw[h]
def FD.mul(D:FD)(a b:Nat):Nat:=if a=0∨b=0 then 0 else again D.st ((D.lg a+D.lg b) % (D.q-1)) 1
def FD.pw(D:FD)(a k:Nat):Nat:=again D.st (D.lg a*k % (D.q-1)) 1
theorem again_zero {st:Nat→Nat}(h:st 0=0):∀k,again st k 0=0
 | 0=>rfl
 |k+1=>by show st (again st k 0)=0;rw[again_zero h k,h]
theorem Fld.mul_eq {D:FD}(F:Fld D)(a b:Nat)(h0:a≠0)(hb:b<D.q):D.mul a b=again D.st (D.lg a) b:=by
 unfold FD.mul
 by_cases hb0:b=0
 ·rw[if_pos (Or.inr hb0),hb0,again_zero F.st_zero]
 ·rw[if_neg (by omega),F.pow_mod,again_add,(F.lg_is b hb hb0).2]
theorem Fld.mul_lt {D:FD}(F:Fld D)(a b:Nat):D.mul a b<D.q:=by
 unfold FD.mul
 split
 ·have:=F.q2;omega
 ·exact F.pow_lt _ (Nat.mod_lt _ (by have:=F.q2;omega))
theorem Fld.mul_ne {D:FD}(F:Fld D)(a b:Nat)(ha:a≠0)(hb:b≠0):D.mul a b≠0∧D.lg (D.mul a b)=(D.lg a+D.lg b) % (D.q-1):=by
 have hn:(D.lg a+D.lg b) % (D.q-1)<D.q-1:=Nat.mod_lt _ (by have:=F.q2;omega)
 unfold FD.mul
 rw[if_neg (by omega)]
 exact⟨(F.full _ hn).1,F.lg_pow _ hn⟩
theorem Fld.mul_comm {D:FD}(_F:Fld D)(a b:Nat):D.mul a b=D.mul b a:=by
 unfold FD.mul
 by_cases h:a=0∨b=0
 ·rw[if_pos h,if_pos h.symm]
 ·rw[if_neg h,if_neg (fun e=>h e.symm),Nat.add_comm]
theorem Fld.mul_assoc {D:FD}(F:Fld D)(a b c:Nat):D.mul (D.mul a b) c=D.mul a (D.mul b c):=by
 by_cases ha:a=0
 ·subst ha;simp[FD.mul]
 by_cases hb:b=0
 ·subst hb;simp[FD.mul]
 by_cases hc:c=0
 ·subst hc;simp[FD.mul]
 have h1:=F.mul_ne a b ha hb
 have h2:=F.mul_ne b c hb hc
 rw[FD.mul,if_neg (by omega),h1.2,FD.mul,if_neg (by omega),h2.2,Nat.mod_add_mod,Nat.add_mod_mod,Nat.add_assoc]
theorem Fld.again_add' {D:FD}(F:Fld D)(a b:Nat)(ha:a<D.q)(hb:b<D.q):∀k,again D.st k (sumD D.p D.q a b)=sumD D.p D.q (again D.st k a) (again D.st k b)
 | 0=>rfl
 |k+1=>by
  show D.st (again D.st k _)=sumD _ _ (D.st (again D.st k a)) (D.st (again D.st k b))
  rw[F.again_add' a b ha hb k,F.st_add _ _ (again_lt _ _ F.st_lt k a ha) (again_lt _ _ F.st_lt k b hb)]
theorem Fld.distrib {D:FD}(F:Fld D)(a b c:Nat)(hb:b<D.q)(hc:c<D.q):D.mul a (sumD D.p D.q b c)=sumD D.p D.q (D.mul a b) (D.mul a c):=by
 by_cases ha:a=0
 ·subst ha
  have:sumD D.p D.q 0 0=0:=F.sum_zero 0 (by have:=F.q2;omega)
  simp[FD.mul,this]
 ·rw[F.mul_eq a _ ha (F.sum_lt b c hb hc),F.mul_eq a b ha hb,F.mul_eq a c ha hc,F.again_add' b c hb hc]
theorem Fld.mul_one {D:FD}(F:Fld D)(a:Nat)(ha:a<D.q):D.mul a 1=a:=by
 by_cases h:a=0
 ·subst h;simp[FD.mul]
 ·rw[F.mul_eq a 1 h (by have:=F.q2;omega)];exact(F.lg_is a ha h).2
section
open Go.RowKit
theorem pp_fields:fieldsL.all (fun D=>pp D.q == (D.p,D.m))=true:=by decide +kernel
theorem good {D:FD}(h:D∈fieldsL):Good D.q D.p D.m:=by
 have F:=fld h
 exact⟨beq_iff_eq.1 (List.all_eq_true.1 pp_fields D h),F.p2,F.p64,F.m1,F.q2,F.q64,⟨F.sum_lt,F.neg_uniq⟩,F.neg_lt,F.sum_neg,fld_two h⟩
structure FAt(F T:Nat)(D:FD)(g:Nat→Value)(w:World):Prop where
 ptr:w.cell? ⟨F,0,none⟩=some (.pointer (some ⟨T,0,none⟩))
 row:RowF T 133 119 g w
 tab:Tab D.q D.p D.m D.low D.gen D.st g
 ltF:F<w.heap.size
theorem FAt.drewN {F T:Nat}{D:FD}{g:Nat→Value}{w:World}(h:FAt F T D g w)(n:Nat):FAt F T D g (w.drewN n):=⟨h.ptr,h.row.drewN n,h.tab,h.ltF⟩
theorem FAt.below {F T B:Nat}{D:FD}{g:Nat→Value}{w w':World}(h:FAt F T D g w)(hb:Below B w w')(hF:F<B)(hT:T<B):FAt F T D g w':=
 ⟨(hb.cell (p:=⟨F,0,none⟩) hF).trans h.ptr,h.row.below hb hT,h.tab,Nat.lt_of_lt_of_le h.ltF hb.size⟩
theorem build_any {D:FD}(hD:D∈fieldsL)(w:World) :
  Calls Tryz.prog 64 #[.int .i64 D.q] w fun e w'=>e = .returned (.pointer (some ⟨w.heap.size,0,none⟩))∧∃g,RowF w.heap.size 133 119 g w'∧Tab D.q D.p D.m D.low D.gen D.st g∧Below w.heap.size w w':=by
 have F:=fld hD
 have G:=good hD
 by_cases hm:D.m=1
 ·obtain⟨h1,h2,h3,h4,h5⟩:=F.least1 hm
  have hst:D.st=fun a=>a*D.gen % D.q:=by funext a;rw[FD.st,if_pos hm]
  have hf:=F.full
  rw[hst,h4,hm,h1]
  rw[hst]at hf
  rw[hm,h1]at G
  exact build_prime D.q D.gen w G h2 h3 hf h5
 ·obtain⟨h1,h2,h3⟩:=F.least2 hm
  have hst:D.st=timesX D.p D.q D.low:=by funext a;rw[FD.st,if_neg hm]
  have hf:=F.full
  rw[hst,h1]
  rw[hst]at hf
  exact build_power D.q D.p D.m D.low w G (by have:=F.m1;omega) F.m6 h2 hf h3
set_option maxHeartbeats 1000000 in
theorem new_any {D:FD}(hD:D∈fieldsL)(w:World) :
  Calls Tryz.prog 44 #[.int .i64 D.q] w fun e w'=>∃F T g,e = .returned (.tuple #[.pointer (some ⟨F,0,none⟩),.int .i64 0])∧FAt F T D g w'∧w.heap.size≤F∧w.heap.size≤T∧Below w.heap.size w w':=by
 have hq2:=(fld hD).q2
 have hq:=(fld hD).q64
 have HB:Hid (Calls Tryz.prog 64 #[.int .i64 D.q] w fun e w'=>e = .returned (.pointer (some ⟨w.heap.size,0,none⟩))∧∃g,RowF w.heap.size 133 119 g w'∧Tab D.q D.p D.m D.low D.gen D.st g∧Below w.heap.size w w'):=build_any hD w
 clear hD
 go_enter Tryz.func44,Tryz.ntmps44
 go_wp2_with fail
 refine HB.out.mono ?_
 rintro e w' ⟨rfl,g,hrow,htab,hbel⟩
 have HH:Hid (RowF w.heap.size 133 119 g w'∧Tab D.q D.p D.m D.low D.gen D.st g∧Below w.heap.size w w'):=⟨hrow,htab,hbel⟩
 clear hrow htab hbel HB
 go_wp2
 go_ret2
 refine⟨w'.heap.size,w.heap.size,g,rfl,⟨cell_of_one (two_new _),HH.out.1.alloc _,HH.out.2.1,by simp⟩,HH.out.2.2.size,Nat.le_refl _,HH.out.2.2.alloc HH.out.2.2.size _⟩
theorem size_any {F T:Nat}{D:FD}{g:Nat→Value}{w:World}(h:FAt F T D g w) :
  Calls Tryz.prog 105 #[.pointer (some ⟨F,0,none⟩)] w fun e w'=>e = .returned (.int .i64 D.q)∧w'=w:=by
 have hp:=h.ptr
 have hc:w.cell? ⟨T,0,none⟩=some (.int .i64 D.q):=by rw[h.row.cell 0 (by omega),h.tab.sum.c0]
 clear h
 go_enter Tryz.func105,Tryz.ntmps105
 go_wp2
 go_ret
 exact⟨rfl,rfl⟩
theorem ret_bool {a b:Bool}(h:a=b):Ending.returned (.bool a) = .returned (.bool b):=by rw[h]
def FD.has(D:FD)(a:Int):Bool:=decide (0≤a∧a<D.q)
theorem has_any {F T:Nat}{D:FD}{g:Nat→Value}{w:World}(h:FAt F T D g w)(a:Int) :
  Calls Tryz.prog 45 #[.pointer (some ⟨F,0,none⟩),.int .i64 a] w fun e w'=>e = .returned (.bool (D.has a))∧w'=w:=by
 have hp:=h.ptr
 have hc:w.cell? ⟨T,0,none⟩=some (.int .i64 D.q):=by rw[h.row.cell 0 (by omega),h.tab.sum.c0]
 clear h
 by_cases h0:0≤a
 ·have HV:Hid (D.has a=decide (a<D.q)):=by show D.has a=_;simp[FD.has,h0]
  go_enter Tryz.func45,Tryz.ntmps45
  go_wp2
  go_ret
  exact⟨ret_bool (by rw[HV.out]),rfl⟩
 ·have HV:Hid (D.has a=false):=by show D.has a=_;simp[FD.has,h0]
  go_enter Tryz.func45,Tryz.ntmps45
  go_wp2
  go_ret
  exact⟨ret_bool (by rw[HV.out]),rfl⟩
def FD.addZ(D:FD)(a b:Int):Int:=if D.has a=true∧D.has b=true then(sumD D.p D.q a.toNat b.toNat:Nat)else -1
def FD.negZ(D:FD)(a:Int):Int:=if D.has a=true then(negD D.p D.q a.toNat:Nat)else -1
def FD.mulZ(D:FD)(a b:Int):Int:=if D.has a=true∧D.has b=true then(D.mul a.toNat b.toNat:Nat)else -1
def FD.powZ(D:FD)(a k:Int):Int:=if D.has a=false then -1 else if k=0 then 1 else if a=0 then(if k<0 then -1 else 0)else(D.pw a.toNat (k % ((D.q-1:Nat):Int)).toNat:Nat)
theorem has_nat {D:FD}{a:Int}(h:D.has a=true):∃n:Nat,a=n∧n<D.q:=by
 simp only[FD.has,decide_eq_true_eq]at h
 exact⟨a.toNat,by omega,by omega⟩
theorem nat_has {D:FD}{n:Nat}(h:n<D.q):D.has (n:Int)=true:=by
 simp only[FD.has,decide_eq_true_eq];omega
set_option maxHeartbeats 1000000 in
theorem add_any {F T:Nat}{D:FD}(hD:D∈fieldsL){g:Nat→Value}{w:World}(h:FAt F T D g w)(a b:Int) :
  Calls Tryz.prog 66 #[.pointer (some ⟨F,0,none⟩),.int .i64 a,.int .i64 b] w fun e w'=>e = .returned (.int .i64 (D.addZ a b))∧∃n,w'=w.drewN n:=by
 have hp:=h.ptr
 have hq:=(fld hD).q64
 have HF:Hid (FAt F T D g w):=h
 have HL:Hid (Fld D∧Two D.p D.q):=⟨fld hD,fld_two hD⟩
 clear h hD
 by_cases ha:D.has a=true
 ·by_cases hb:D.has b=true
  ·obtain⟨x,rfl,hx⟩:=has_nat ha
   obtain⟨y,rfl,hy⟩:=has_nat hb
   have HV:Hid (D.addZ x y=(sumD D.p D.q x y:Nat)):=by show D.addZ x y=_;rw[FD.addZ,if_pos ⟨ha,hb⟩];rfl
   have HC:Hid (Calls Tryz.prog 94 #[.pointer (some ⟨T,0,none⟩),.int .i64 x,.int .i64 y] w fun e w'=>e = .returned (.int .i64 (sumD D.p D.q x y:Nat))∧∃n,w'=w.drewN n):=
    sum_any T D.p D.q x y w HL.out.1.p2 HL.out.1.p64 hq hx hy HL.out.2 (by rw[HF.out.row.cell 0 (by omega),HF.out.tab.sum.c0]) (by rw[HF.out.row.cell 1 (by omega),HF.out.tab.sum.c1])
   go_enter Tryz.func66,Tryz.ntmps66
   go_wp2_with (first|(go_at_call 45;refine(has_any HF.out _).mono ?_;rintro e w' ⟨rfl,hw⟩;have hw:=hw.symm;subst hw)|(go_at_call 94;refine HC.out.mono ?_;rintro e w' ⟨rfl,n,rfl⟩))
   go_ret
   exact⟨ret_int (by rw[HV.out]),_,rfl⟩
  ·have hb':D.has b=false:=by simpa using hb
   have HV:Hid (D.addZ a b = -1):=by show D.addZ a b=_;rw[FD.addZ,if_neg (by simp[hb'])]
   clear hb
   go_enter Tryz.func66,Tryz.ntmps66
   go_wp2_with (go_at_call 45;refine(has_any HF.out _).mono ?_;rintro e w' ⟨rfl,rfl⟩)
   go_ret
   exact⟨ret_int (by rw[HV.out]),0,rfl⟩
 ·have ha':D.has a=false:=by simpa using ha
  have HV:Hid (D.addZ a b = -1):=by show D.addZ a b=_;rw[FD.addZ,if_neg (by simp[ha'])]
  clear ha
  go_enter Tryz.func66,Tryz.ntmps66
  go_wp2_with (go_at_call 45;refine(has_any HF.out _).mono ?_;rintro e w' ⟨rfl,rfl⟩)
  go_ret
  exact⟨ret_int (by rw[HV.out]),0,rfl⟩
set_option maxHeartbeats 1000000 in
theorem neg_any {F T:Nat}{D:FD}(hD:D∈fieldsL){g:Nat→Value}{w:World}(h:FAt F T D g w)(a:Int) :
  Calls Tryz.prog 119 #[.pointer (some ⟨F,0,none⟩),.int .i64 a] w fun e w'=>e = .returned (.int .i64 (D.negZ a))∧∃n,w'=w.drewN n:=by
 have hp:=h.ptr
 have hq:=(fld hD).q64
 have HF:Hid (FAt F T D g w):=h
 have HL:Hid (Fld D∧Two D.p D.q):=⟨fld hD,fld_two hD⟩
 clear h hD
 by_cases ha:D.has a=true
 ·obtain⟨x,rfl,hx⟩:=has_nat ha
  have HV:Hid (D.negZ x=(negD D.p D.q x:Nat)):=by show D.negZ x=_;rw[FD.negZ,if_pos ha];rfl
  have HC:Hid (Calls Tryz.prog 127 #[.pointer (some ⟨T,0,none⟩),.int .i64 x] w fun e w'=>e = .returned (.int .i64 (negD D.p D.q x:Nat))∧∃n,w'=w.drewN n):=
   opposite_any T D.p D.q x w HL.out.1.p2 HL.out.1.p64 hq hx HL.out.2 (by rw[HF.out.row.cell 0 (by omega),HF.out.tab.sum.c0]) (by rw[HF.out.row.cell 1 (by omega),HF.out.tab.sum.c1])
  go_enter Tryz.func119,Tryz.ntmps119
  go_wp2_with (first|(go_at_call 45;refine(has_any HF.out _).mono ?_;rintro e w' ⟨rfl,hw⟩;have hw:=hw.symm;subst hw)|(go_at_call 127;refine HC.out.mono ?_;rintro e w' ⟨rfl,n,rfl⟩))
  go_ret
  exact⟨ret_int (by rw[HV.out]),_,rfl⟩
 ·have ha':D.has a=false:=by simpa using ha
  have HV:Hid (D.negZ a = -1):=by show D.negZ a=_;rw[FD.negZ,if_neg (by simp[ha'])]
  clear ha
  go_enter Tryz.func119,Tryz.ntmps119
  go_wp2_with (go_at_call 45;refine(has_any HF.out _).mono ?_;rintro e w' ⟨rfl,rfl⟩)
  go_ret
  exact⟨ret_int (by rw[HV.out]),0,rfl⟩
def FD.subZ(D:FD)(a b:Int):Int:=D.addZ a (D.negZ b)
theorem sub_any {F T:Nat}{D:FD}(hD:D∈fieldsL){g:Nat→Value}{w:World}(h:FAt F T D g w)(a b:Int) :
  Calls Tryz.prog 126 #[.pointer (some ⟨F,0,none⟩),.int .i64 a,.int .i64 b] w fun e w'=>e = .returned (.int .i64 (D.subZ a b))∧∃n,w'=w.drewN n:=by
 have HN:=hD
 have HF:Hid (FAt F T D g w):=h
 have HD:Hid (D∈fieldsL):=hD
 clear h hD HN
 go_enter Tryz.func126,Tryz.ntmps126
 go_wp2_with fail
 refine(neg_any HD.out HF.out b).mono ?_
 rintro e w' ⟨rfl,n1,rfl⟩
 go_wp2_with fail
 refine(add_any HD.out (HF.out.drewN n1) a _).mono ?_
 rintro e w' ⟨rfl,n2,rfl⟩
 go_wp2
 go_ret
 exact⟨rfl,_,by first|rfl|rw[World.drewN_drewN]⟩
theorem remainder_any(k n:Int)(w:World)(h1:1≤n)(h2:n≤64)(hk1 : -9223372036854775808≤k)(hk2:k≤9223372036854775807) :
  Calls Tryz.prog 116 #[.int .i64 k,.int .i64 n] w fun e w'=>e = .returned (.int .i64 (k % n))∧w'=w:=by
 have hb1:=Int.tmod_lt_of_pos k (show(0:Int)<n from by omega)
 have hb2:=Int.lt_tmod_of_pos k (show(0:Int)<n from by omega)
 have HV:Hid (k.tmod n % n=k % n):=by
  show k.tmod n % n=k % n
  rw[Int.tmod_def]
  exact Int.sub_mul_emod_self_left _ _ _
 by_cases hk:0≤k
 ·have HW:Hid ((k % n+n) % n=k % n):=by show _=_;rw[Int.add_emod_right,Int.emod_emod]
  have hb3:=Int.emod_nonneg k (show n≠0 from by omega)
  have hb4:=Int.emod_lt_of_pos k (show 0<n from by omega)
  clear hb1 hb2
  go_enter Tryz.func116,Tryz.ntmps116
  go_wp2
  go_ret
  exact⟨ret_int (by rw[HW.out]),rfl⟩
 ·go_enter Tryz.func116,Tryz.ntmps116
  go_wp2
  go_ret
  exact⟨ret_int (by rw[HV.out]),rfl⟩
set_option maxHeartbeats 1000000 in
theorem power_any {F T:Nat}{D:FD}(hD:D∈fieldsL){g:Nat→Value}{w:World}(h:FAt F T D g w)(k:Int)(hk1 : -9223372036854775808≤k)(hk2:k≤9223372036854775807) :
  Calls Tryz.prog 95 #[.pointer (some ⟨T,0,none⟩),.int .i64 k] w fun e w'=>e = .returned (.int .i64 (again D.st (k % ((D.q-1:Nat):Int)).toNat 1:Nat))∧∃n,w'=w.drewN n:=by
 have hq:=(fld hD).q64
 have hq2:=(fld hD).q2
 have hc0:w.cell? ⟨T,0,none⟩=some (.int .i64 D.q):=by rw[h.row.cell 0 (by omega),h.tab.sum.c0]
 obtain⟨j,hj⟩:∃j:Nat,k % ((D.q:Int)-1)=j∧j<D.q-1:=by
  have h1:=Int.emod_nonneg k (show(D.q:Int)-1≠0 from by omega)
  have h2:=Int.emod_lt_of_pos k (show 0<(D.q:Int)-1 from by omega)
  exact⟨(k % ((D.q:Int)-1)).toNat,by omega,by omega⟩
 obtain⟨hj,hjq⟩:=hj
 have HJ:Hid (k % ((D.q:Int)-1)=j):=hj
 have hcp:w.cell? ⟨T,5+j,none⟩=some (.int .i64 (again D.st j 1:Nat)):=by rw[h.row.cell _ (by omega),h.tab.pows.pow j hjq]
 have hlt:=(fld hD).pow_lt j hjq
 have HV:Hid ((k % ((D.q-1:Nat):Int)).toNat=j):=by
  show _=j
  rw[show((D.q-1:Nat):Int)=(D.q:Int)-1 from by omega,hj];rfl
 have HC:Hid (∀w1,Calls Tryz.prog 116 #[.int .i64 k,.int .i64 ((D.q:Int)-1)] w1 fun e w'=>e = .returned (.int .i64 (j:Int))∧w'=w1):=by
  intro w1;rw[←hj];exact remainder_any _ _ _ (by omega) (by omega) hk1 hk2
 clear h hD hj
 go_enter Tryz.func95,Tryz.ntmps95
 go_wp2
 go_quiet ((go_at_call 116;exact Calls.quiet_of_same (HC.out _)))
 go_wp2
 go_ret
 exact⟨ret_int (by rw[HV.out]),_,rfl⟩
theorem lg_cell {D:FD}(F:Fld D){g:Nat→Value}(h:Tab D.q D.p D.m D.low D.gen D.st g)(x:Nat)(hx:x<D.q)(h0:x≠0):g (69+x) = .int .i64 (D.lg x:Nat):=by
 have hl:=F.lg_is x hx h0
 have:=h.pows.log (D.lg x) hl.1
 rw[hl.2]at this
 exact this
set_option maxHeartbeats 2000000 in
theorem mul_any {F T:Nat}{D:FD}(hD:D∈fieldsL){g:Nat→Value}{w:World}(h:FAt F T D g w)(a b:Int) :
  Calls Tryz.prog 67 #[.pointer (some ⟨F,0,none⟩),.int .i64 a,.int .i64 b] w fun e w'=>e = .returned (.int .i64 (D.mulZ a b))∧∃n,w'=w.drewN n:=by
 have hp:=h.ptr
 have hq:=(fld hD).q64
 have HF:Hid (FAt F T D g w):=h
 have HL:Hid (Fld D∧D∈fieldsL):=⟨fld hD,hD⟩
 clear h hD
 by_cases ha:D.has a=true
 ·by_cases hb:D.has b=true
  ·obtain⟨x,rfl,hx⟩:=has_nat ha
   obtain⟨y,rfl,hy⟩:=has_nat hb
   by_cases hx0:x=0
   ·have hz:((x:Int) == 0)=true:=by rw[hx0];rfl
    have HV:Hid (D.mulZ x y=0):=by show D.mulZ x y=_;rw[FD.mulZ,if_pos ⟨ha,hb⟩];simp[FD.mul,hx0]
    clear hx0
    go_enter Tryz.func67,Tryz.ntmps67
    go_wp2_with (go_at_call 45;refine(has_any HF.out _).mono ?_;rintro e w' ⟨rfl,rfl⟩)
    go_ret
    exact⟨ret_int (by rw[HV.out]),0,rfl⟩
   by_cases hy0:y=0
   ·have hz:((x:Int) == 0)=false:=by rw[beq_eq_false_iff_ne];exact_mod_cast hx0
    have hz':((y:Int) == 0)=true:=by rw[hy0];rfl
    have HV:Hid (D.mulZ x y=0):=by show D.mulZ x y=_;rw[FD.mulZ,if_pos ⟨ha,hb⟩];simp[FD.mul,hy0]
    clear hx0 hy0
    go_enter Tryz.func67,Tryz.ntmps67
    go_wp2_with (go_at_call 45;refine(has_any HF.out _).mono ?_;rintro e w' ⟨rfl,rfl⟩)
    go_ret
    exact⟨ret_int (by rw[HV.out]),0,rfl⟩
   have hz:((x:Int) == 0)=false:=by rw[beq_eq_false_iff_ne];exact_mod_cast hx0
   have hz':((y:Int) == 0)=false:=by rw[beq_eq_false_iff_ne];exact_mod_cast hy0
   have hcx:w.cell? ⟨T,69+x,none⟩=some (.int .i64 (D.lg x:Nat)):=by rw[HF.out.row.cell _ (by omega),lg_cell HL.out.1 HF.out.tab x hx hx0]
   have hcy:w.cell? ⟨T,69+y,none⟩=some (.int .i64 (D.lg y:Nat)):=by rw[HF.out.row.cell _ (by omega),lg_cell HL.out.1 HF.out.tab y hy hy0]
   have hlx:=(HL.out.1.lg_is x hx hx0).1
   have hly:=(HL.out.1.lg_is y hy hy0).1
   have HV:Hid (D.mulZ x y=(again D.st ((((D.lg x:Nat):Int)+((D.lg y:Nat):Int)) % ((D.q-1:Nat):Int)).toNat 1:Nat)):=by
    show D.mulZ x y=_
    rw[FD.mulZ,if_pos ⟨ha,hb⟩,FD.mul,if_neg (by omega)]
    rfl
   have HC:Hid (∀n,Calls Tryz.prog 95 #[.pointer (some ⟨T,0,none⟩),.int .i64 (((D.lg x:Nat):Int)+((D.lg y:Nat):Int))] (w.drewN n) fun e w'=>e = .returned (.int .i64 (D.mulZ x y))∧∃m,w'=(w.drewN n).drewN m):=by
    intro n;rw[HV.out];exact power_any HL.out.2 (HF.out.drewN n) _ (by omega) (by omega)
   clear hx0 hy0 HV
   go_enter Tryz.func67,Tryz.ntmps67
   go_wp2_with (go_at_call 45;refine(has_any HF.out _).mono ?_;rintro e w' ⟨rfl,rfl⟩)
   go_quiet ((go_at_call 95;exact Calls.quiet_of (HC.out _)))
   go_wp2
   go_ret
   exact⟨rfl,_,rfl⟩
  ·have hb':D.has b=false:=by simpa using hb
   have HV:Hid (D.mulZ a b = -1):=by show D.mulZ a b=_;rw[FD.mulZ,if_neg (by simp[hb'])]
   clear hb
   go_enter Tryz.func67,Tryz.ntmps67
   go_wp2_with (go_at_call 45;refine(has_any HF.out _).mono ?_;rintro e w' ⟨rfl,rfl⟩)
   go_ret
   exact⟨ret_int (by rw[HV.out]),0,rfl⟩
 ·have ha':D.has a=false:=by simpa using ha
  have HV:Hid (D.mulZ a b = -1):=by show D.mulZ a b=_;rw[FD.mulZ,if_neg (by simp[ha'])]
  clear ha
  go_enter Tryz.func67,Tryz.ntmps67
  go_wp2_with (go_at_call 45;refine(has_any HF.out _).mono ?_;rintro e w' ⟨rfl,rfl⟩)
  go_ret
  exact⟨ret_int (by rw[HV.out]),0,rfl⟩
set_option maxHeartbeats 2000000 in
theorem pow_any {F T:Nat}{D:FD}(hD:D∈fieldsL){g:Nat→Value}{w:World}(h:FAt F T D g w)(a k:Int)(hk1 : -9223372036854775808≤k)(hk2:k≤9223372036854775807) :
  Calls Tryz.prog 133 #[.pointer (some ⟨F,0,none⟩),.int .i64 a,.int .i64 k] w fun e w'=>e = .returned (.int .i64 (D.powZ a k))∧∃n,w'=w.drewN n:=by
 have hp:=h.ptr
 have hq:=(fld hD).q64
 have hq2:=(fld hD).q2
 have hc0:w.cell? ⟨T,0,none⟩=some (.int .i64 D.q):=by rw[h.row.cell 0 (by omega),h.tab.sum.c0]
 have HF:Hid (FAt F T D g w):=h
 have HL:Hid (Fld D∧D∈fieldsL):=⟨fld hD,hD⟩
 clear h hD
 by_cases ha:D.has a=true
 ·by_cases hk:k=0
  ·have hz:(k == 0)=true:=by rw[hk];rfl
   have HV:Hid (D.powZ a k=1):=by show D.powZ a k=_;rw[FD.powZ,if_neg (by simp[ha]),if_pos hk]
   clear hk
   go_enter Tryz.func133,Tryz.ntmps133
   go_wp2_with (go_at_call 45;refine(has_any HF.out _).mono ?_;rintro e w' ⟨rfl,rfl⟩)
   go_ret
   exact⟨ret_int (by rw[HV.out]),0,rfl⟩
  have hkz:(k == 0)=false:=by rw[beq_eq_false_iff_ne];exact hk
  by_cases ha0:a=0
  ·have hz:(a == 0)=true:=by rw[ha0];rfl
   by_cases hneg:k<0
   ·have HV:Hid (D.powZ a k = -1):=by show D.powZ a k=_;rw[FD.powZ,if_neg (by simp[ha]),if_neg hk,if_pos ha0,if_pos hneg]
    clear ha0 hk
    go_enter Tryz.func133,Tryz.ntmps133
    go_wp2_with (go_at_call 45;refine(has_any HF.out _).mono ?_;rintro e w' ⟨rfl,rfl⟩)
    go_ret
    exact⟨ret_int (by rw[HV.out]),0,rfl⟩
   ·have HV:Hid (D.powZ a k=0):=by show D.powZ a k=_;rw[FD.powZ,if_neg (by simp[ha]),if_neg hk,if_pos ha0,if_neg hneg]
    clear ha0 hk
    go_enter Tryz.func133,Tryz.ntmps133
    go_wp2_with (go_at_call 45;refine(has_any HF.out _).mono ?_;rintro e w' ⟨rfl,rfl⟩)
    go_ret
    exact⟨ret_int (by rw[HV.out]),0,rfl⟩
  obtain⟨x,rfl,hx⟩:=has_nat ha
  have hx0:x≠0:=by intro e;exact ha0 (by rw[e];rfl)
  have hz:((x:Int) == 0)=false:=by rw[beq_eq_false_iff_ne];exact ha0
  have hcx:w.cell? ⟨T,69+x,none⟩=some (.int .i64 (D.lg x:Nat)):=by rw[HF.out.row.cell _ (by omega),lg_cell HL.out.1 HF.out.tab x hx hx0]
  have hlx:=(HL.out.1.lg_is x hx hx0).1
  obtain⟨r,hr,hrq⟩:∃r:Nat,k % ((D.q:Int)-1)=r∧r<D.q-1:=by
   have h1:=Int.emod_nonneg k (show(D.q:Int)-1≠0 from by omega)
   have h2:=Int.emod_lt_of_pos k (show 0<(D.q:Int)-1 from by omega)
   exact⟨(k % ((D.q:Int)-1)).toNat,by omega,by omega⟩
  have h1:D.lg x*r≤64*64:=Nat.mul_le_mul (by omega) (by omega)
  have h4:((D.lg x:Nat):Int)*(r:Int)≤4096:=by rw[←Int.natCast_mul];omega
  have h5:0≤((D.lg x:Nat):Int)*(r:Int):=by rw[←Int.natCast_mul];omega
  have HR:Hid (∀w1,Calls Tryz.prog 116 #[.int .i64 k,.int .i64 ((D.q:Int)-1)] w1 fun e w'=>e = .returned (.int .i64 (r:Int))∧w'=w1):=by
   intro w1;rw[←hr];exact remainder_any _ _ _ (by omega) (by omega) hk1 hk2
  have HV:Hid (D.powZ x k=(again D.st ((((D.lg x:Nat):Int)*(r:Int)) % ((D.q-1:Nat):Int)).toNat 1:Nat)):=by
   show D.powZ x k=_
   rw[FD.powZ,if_neg (by simp[ha]),if_neg hk,if_neg ha0,FD.pw,show((D.q-1:Nat):Int)=(D.q:Int)-1 from by omega,hr, ←Int.natCast_mul,show(D.q:Int)-1=((D.q-1:Nat):Int)from by omega]
   rfl
  have HC:Hid (∀n,Calls Tryz.prog 95 #[.pointer (some ⟨T,0,none⟩),.int .i64 (((D.lg x:Nat):Int)*(r:Int))] (w.drewN n) fun e w'=>e = .returned (.int .i64 (D.powZ x k))∧∃m,w'=(w.drewN n).drewN m):=by
   intro n;rw[HV.out];exact power_any HL.out.2 (HF.out.drewN n) _ (by omega) (by omega)
  clear hx0 ha0 HV hr hk
  go_enter Tryz.func133,Tryz.ntmps133
  go_wp2_with (go_at_call 45;refine(has_any HF.out _).mono ?_;rintro e w' ⟨rfl,rfl⟩)
  go_quiet (first|(go_at_call 116;exact Calls.quiet_of_same (HR.out _))|(go_at_call 95;exact Calls.quiet_of (HC.out _)))
  go_wp2
  go_ret
  exact⟨rfl,_,rfl⟩
 ·have ha':D.has a=false:=by simpa using ha
  have HV:Hid (D.powZ a k = -1):=by show D.powZ a k=_;rw[FD.powZ,if_pos ha']
  clear ha
  go_enter Tryz.func133,Tryz.ntmps133
  go_wp2_with (go_at_call 45;refine(has_any HF.out _).mono ?_;rintro e w' ⟨rfl,rfl⟩)
  go_ret
  exact⟨ret_int (by rw[HV.out]),0,rfl⟩
theorem inv_any {F T:Nat}{D:FD}(hD:D∈fieldsL){g:Nat→Value}{w:World}(h:FAt F T D g w)(a:Int) :
  Calls Tryz.prog 130 #[.pointer (some ⟨F,0,none⟩),.int .i64 a] w fun e w'=>e = .returned (.int .i64 (D.powZ a (-1)))∧∃n,w'=w.drewN n:=by
 have HF:Hid (FAt F T D g w):=h
 have HD:Hid (D∈fieldsL):=hD
 clear h hD
 go_enter Tryz.func130,Tryz.ntmps130
 go_wp2_with fail
 refine(pow_any HD.out HF.out a (-1) (by omega) (by omega)).mono ?_
 rintro e w' ⟨rfl,n,rfl⟩
 go_wp2
 go_ret
 exact⟨rfl,n,rfl⟩
theorem Tryz.infoInt:(Tryz.prog.info? 3).map (fun i=>(i.zero,i.size,i.bytes))=some (some (.int .i64 0),1,8):=by kernel_rfl
def OwnI(base:Nat)(v:Value)(l:List Int)(w:World):Prop:=w.ownsRow base 3 1 v l.length (l.map (Value.int .i64))
theorem OwnI.nil(base:Nat)(w:World):OwnI base (.slice none 0 0) [] w:=World.ownsRow_nil _ _ _ _
theorem OwnI.alloc {base:Nat}{v:Value}{l:List Int}{w:World}(h:OwnI base v l w)(o:Obj):OwnI base v l (w.alloc o):=World.ownsRow.alloc h o
theorem OwnI.kept {base:Nat}{v:Value}{l:List Int}{w w':World}{row:Option Nat}(h:OwnI base v l w)(hg:w.grownBy w' row)(hne:v.ownBlock=none∨v.ownBlock≠row):OwnI base v l w':=World.ownsRow.kept h hg hne
theorem OwnI.drewN {base:Nat}{v:Value}{l:List Int}{w:World}(h:OwnI base v l w)(n:Nat):OwnI base v l (w.drewN n):=
 h.kept (row:=none) (grown_drewN (grown_refl _ _) n) (by cases v.ownBlock<;>simp)
theorem OwnI.below {base B:Nat}{v:Value}{l:List Int}{w w':World}(h:OwnI base v l w)(hb:Below B w w')(hB:∀k,v.ownBlock=some k→k<B):OwnI base v l w':=by
 obtain⟨h1,h2⟩:=h
 refine⟨h1,?_⟩
 rcases h2 with h2|⟨g,cap,cur,hv,hg,hh,r⟩
 ·exact Or.inl h2
 ·exact Or.inr ⟨g,cap,cur,hv,hg,by rw[hb.block g (hB g (by rw[hv];rfl))];exact hh,r⟩
theorem OwnI.lt {base:Nat}{v:Value}{l:List Int}{w:World}(h:OwnI base v l w):∀k,v.ownBlock=some k→base≤k∧k<w.heap.size:=World.ownsRow.lt h
theorem OwnI.mono {base base':Nat}{v:Value}{l:List Int}{w:World}(h:OwnI base v l w)(hb:base'≤base):OwnI base' v l w:=by
 obtain⟨h1,h2⟩:=h
 refine⟨h1,?_⟩
 rcases h2 with h2|⟨g,cap,cur,hv,hg,r⟩
 ·exact Or.inl h2
 ·exact Or.inr ⟨g,cap,cur,hv,by omega,r⟩
theorem OwnI.at {base:Nat}{v:Value}{l:List Int}{w:World}(h:OwnI base v l w)(hl:l≠[]):∃g cap, v = .slice (some ⟨g, 0, none⟩) l.length cap∧base≤g∧g<w.heap.size ∧
  (∀j,j<l.length→w.cell? ⟨g,j,none⟩=some (.int .i64 (l.getD j 0)))∧(∀j,w.frozen? ⟨g,j,none⟩=false):=by
 have h':=h
 rcases h'.2 with⟨_,h2⟩|⟨g,cap,cur,hv,hg,hh,r⟩
 ·exact absurd (List.length_eq_zero_iff.1 h2) hl
 ·have h3:w.ownsRow base 3 1 (.slice (some ⟨g,0,none⟩) l.length cap) l.length (l.map (Value.int .i64)):=hv▸h
  refine⟨g,cap,hv,hg,lt_of_block hh,fun j hj=>?_,fun j=>h3.frozenAt j⟩
  rw[h3.cellAt j (by omega),List.getElem?_map,List.getElem?_eq_getElem hj,List.getD_eq_getElem?_getD,List.getElem?_eq_getElem hj];rfl
theorem append_int {ops:Array Oper}{rest:List Oper}{o:Oper}{a:Act}{w:World}{Q:Exit→Act→World→Prop}(hgd:o.guard=none)(s x:Operand)
  (ho:o.op = .call { callee:= .builtin .append,args := #[s,x],argTypes := #[22,22]})
  (base:Nat) (v:Value) (l:List Int) (hs:a.eval s=v) (hown:OwnI base v l w) (ad:Addr) (c:Nat) (y:Int) (hx:a.eval x = .slice (some ad) 1 c) (hcell:w.cell? ad=some (.int .i64 y))
  (hlen:l.length≤1000000) (hbase:base≤w.heap.size)
  (h:∀v' w',OwnI base v' (l++[y]) w'→w.grownBy w' v.ownBlock→wpList Tryz.prog ops Q rest (a.put o.dst v') w'):wpList Tryz.prog ops Q (o::rest) a w:=by
 obtain⟨i0,hi,hz0,hz1,hz2⟩:=info_parts Tryz.infoInt
 refine wpList_append_own _ hgd s x 22 ho base 3 i0 (.int .i64 0) 1 8 Tryz.underlying22 hi hz0 hz1 hz2 rfl (by decide) v l.length _ hs hown ad 1 c [.int .i64 y] hx rfl ?_ ?_ ?_ ?_ hbase ?_
 ·intro j u hj
  match j,hj with
  | 0,hj=>
   simp at hj;subst hj
   have:ad.add 0=ad:=by cases ad with|mk b o s=>cases s<;>simp[Addr.add]
   rw[this];exact hcell
 ·intro u hu;simp at hu;subst hu;rfl
 ·unfold maxLen;omega
 ·omega
 ·intro v' w' hown' hgrow _
  refine h v' w' ?_ hgrow
  unfold OwnI
  rw[List.map_append,List.length_append]
  exact hown'
def sizesTo(k:Nat):List Int:=((List.range k).filter (fun q=>decide (2≤q) && decide (0<(pp q).1))).map Int.ofNat
theorem sizesTo_yes(k:Nat)(h2:2≤k)(h:0<(pp k).1):sizesTo (k+1)=sizesTo k++[(k:Int)]:=by
 unfold sizesTo;rw[List.range_succ,List.filter_append,List.map_append];simp[h2,h]
theorem sizesTo_no(k:Nat)(h:¬0<(pp k).1):sizesTo (k+1)=sizesTo k:=by
 unfold sizesTo;rw[List.range_succ,List.filter_append,List.map_append];simp[h]
theorem sizesTo_len(k:Nat):(sizesTo k).length≤k:=by
 unfold sizesTo;rw[List.length_map];exact Nat.le_trans (List.length_filter_le _ _) (by simp)
def sizesL:List Int:=[2,3,4,5,7,8,9,11,13,16,17,19,23,25,27,29,31,32,37,41,43,47,49,53,59,61,64]
theorem sizesTo_all:sizesTo 65=sizesL:=by decide +kernel
set_option maxHeartbeats 2000000 in
theorem sizes_any(w:World):Calls Tryz.prog 42 #[] w fun e w'=>∃v,e = .returned v∧OwnI w.heap.size v sizesL w'∧Below w.heap.size w w':=by
 go_enter Tryz.func42,Tryz.ntmps42
 go_wp2
 go_loopw [1,2] (fun v i wr=>∃k:Nat,2≤k∧k≤65∧i = .int .i64 k∧OwnI w.heap.size v (sizesTo k) wr∧Below w.heap.size w wr) (fun _ i _=>65-(intOf i).toNat)
 case atStart => exact ⟨2, by omega, by omega, rfl, (by have : sizesTo 2 = [] := by decide +kernel
                                                        rw[this];exact OwnI.nil _ _),Below.refl _ _⟩
 case round=>
   obtain⟨k,hk2,hk,rfl,hown,hbel⟩:=hrel
   have hlen:=sizesTo_len k
   have hsz:=hbel.size
   by_cases hlt:k≤64
   · by_cases hpp:0<(pp k).1
     · have HP:Hid (sizesTo (k+1)=sizesTo k++[(k:Int)]):=sizesTo_yes k hk2 hpp
       have hpi:(0:Int)<((pp k).1:Int):=by omega
       go_wp2_with (first
         | (go_at_call 31;refine(prime_any k _ hk2 hlt).mono ?_;rintro e w' ⟨rfl,rfl⟩)
         | (at_builtin;refine append_int rfl _ _ rfl w.heap.size _ (sizesTo k) rfl (hown.alloc _) ⟨_,0,none⟩ 1 k rfl (by simp) (by omega) (by simp;omega) ?_;intro v' w1 hown' hgrow'))
       go_roundw
       case rel=>exact⟨k+1,by omega,by omega,by go_num,by rw[HP.out];exact hown',(hbel.alloc (by omega) _).grown hgrow' (by simp;omega) (fun j hj=>(hown.lt j hj).1)⟩
       case measure=>simp[intOf];omega
     · have HP:Hid (sizesTo (k+1)=sizesTo k):=sizesTo_no k hpp
       have hpi:¬(0:Int)<((pp k).1:Int):=by omega
       go_wp2_with (go_at_call 31;refine(prime_any k _ hk2 hlt).mono ?_;rintro e w' ⟨rfl,rfl⟩)
       go_roundw
       case rel=>exact⟨k+1,by omega,by omega,by go_num,by rw[HP.out];exact hown,hbel⟩
       case measure=>simp[intOf];omega
   · have e:k=65:=by omega
     subst e
     rw[sizesTo_all]at hown
     go_wp2
     go_ret
     exact⟨_,rfl,hown,hbel⟩
def sizeOf'(c:Int):Int:=if pick c 100<60 then sizesL.getD (pick c 100 % 7).toNat 0 else sizesL.getD (pick (c.tdiv 100) 27).toNat 0
theorem tdiv_bd(c:Int)(hc1 : -9223372036854775808≤c)(hc2:c≤9223372036854775807) : -9223372036854775808≤c.tdiv 100∧c.tdiv 100≤9223372036854775807:=by
 by_cases h:0≤c
 ·rw[Int.tdiv_eq_ediv_of_nonneg h];omega
 ·have:c.tdiv 100 = -((-c).tdiv 100):=by rw[Int.neg_tdiv,Int.neg_neg]
  rw[this,Int.tdiv_eq_ediv_of_nonneg (by omega)];omega
set_option maxHeartbeats 2000000 in
theorem sizeOf_any(c:Int)(w:World)(hc1 : -9223372036854775808≤c)(hc2:c≤9223372036854775807) :
  Calls Tryz.prog 14 #[.int .i64 c] w fun e w'=>e = .returned (.int .i64 (sizeOf' c))∧Below w.heap.size w w':=by
 have h1:=pick_lo c 100 (by omega)
 have h2:=pick_hi c 100 (by omega)
 by_cases hk:pick c 100<60
 ·obtain⟨z,hz⟩:∃z,z=sizesL.getD (pick c 100 % 7).toNat 0:=⟨_,rfl⟩
  have HV:Hid (sizeOf' c=z):=by show sizeOf' c=_;rw[sizeOf',if_pos hk,hz]
  have HZ:Hid (z=sizesL.getD (pick c 100 % 7).toNat 0):=hz
  clear hz
  go_enter Tryz.func14,Tryz.ntmps14
  go_wp2_with fail
  refine(sizes_any w).mono ?_
  rintro e w1 ⟨v,rfl,hown,hbel⟩
  obtain⟨g,cap,rfl,hg,hglt,hcell,_⟩:=hown.at (by simp[sizesL])
  have hlen:sizesL.length=27:=rfl
  rw[hlen]at hcell ⊢
  have hcl:w1.cell? ⟨g,(pick c 100 % 7).toNat,none⟩=some (.int .i64 z):=by rw[HZ.out];exact hcell _ (by omega)
  clear hown hcell
  go_wp2_with (go_at_call 15;refine(pick_any c 100 _ hc1 hc2 (by omega) (by omega)).mono ?_;rintro e w' ⟨rfl,rfl⟩)
  go_ret
  exact⟨ret_int (by rw[HV.out]),hbel⟩
 ·obtain⟨z,hz⟩:∃z,z=sizesL.getD (pick (c.tdiv 100) 27).toNat 0:=⟨_,rfl⟩
  have HV:Hid (sizeOf' c=z):=by show sizeOf' c=_;rw[sizeOf',if_neg hk,hz]
  have HZ:Hid (z=sizesL.getD (pick (c.tdiv 100) 27).toNat 0):=hz
  clear hz
  have htd:=tdiv_bd c hc1 hc2
  have h3:=pick_lo (c.tdiv 100) 27 (by omega)
  have h4:=pick_hi (c.tdiv 100) 27 (by omega)
  go_enter Tryz.func14,Tryz.ntmps14
  go_wp2_with fail
  refine(sizes_any w).mono ?_
  rintro e w1 ⟨v,rfl,hown,hbel⟩
  obtain⟨g,cap,rfl,hg,hglt,hcell,_⟩:=hown.at (by simp[sizesL])
  have hlen:sizesL.length=27:=rfl
  rw[hlen]at hcell ⊢
  have hcl:w1.cell? ⟨g,(pick (c.tdiv 100) 27).toNat,none⟩=some (.int .i64 z):=by rw[HZ.out];exact hcell _ (by omega)
  clear hown hcell
  go_wp2_with fail
  refine(pick_any c 100 _ hc1 hc2 (by omega) (by omega)).mono ?_
  rintro e w' ⟨rfl,rfl⟩
  go_wp2_with fail
  refine(pick_any (c.tdiv 100) 27 _ htd.1 htd.2 (by omega) (by omega)).mono ?_
  rintro e w' ⟨rfl,rfl⟩
  go_wp2
  go_ret
  exact⟨ret_int (by rw[HV.out]),hbel⟩
theorem sizes_fields:sizesL.all (fun z=>fieldsL.any fun D=>(D.q:Int) == z)=true:=by decide +kernel
theorem sizesL_mem(k:Nat)(h:k<27):sizesL.getD k 0∈sizesL:=by
 rw[List.getD_eq_getElem?_getD,List.getElem?_eq_getElem (show k<sizesL.length from h)]
 exact List.getElem_mem _
theorem sizeOf_mem(c:Int):sizeOf' c∈sizesL:=by
 unfold sizeOf'
 have h3:=pick_lo (c.tdiv 100) 27 (by omega)
 have h4:=pick_hi (c.tdiv 100) 27 (by omega)
 split
 ·exact sizesL_mem _ (by omega)
 ·exact sizesL_mem _ (by omega)
theorem sizeOf_field(c:Int):∃D∈fieldsL,sizeOf' c=(D.q:Int):=by
 have:=List.all_eq_true.1 sizes_fields _ (sizeOf_mem c)
 obtain⟨D,hD,e⟩:=List.any_eq_true.1 this
 exact⟨D,hD,(beq_iff_eq.1 e).symm⟩
theorem FAt.ltT {F T:Nat}{D:FD}{g:Nat→Value}{w:World}(h:FAt F T D g w):T<w.heap.size:=h.row.lt
theorem addZ_nat {D:FD}(_F:Fld D){x y:Nat}(hx:x<D.q)(hy:y<D.q):D.addZ x y=(sumD D.p D.q x y:Nat):=by
 rw[FD.addZ,if_pos ⟨nat_has hx,nat_has hy⟩];rfl
theorem mulZ_nat {D:FD}(_F:Fld D){x y:Nat}(hx:x<D.q)(hy:y<D.q):D.mulZ x y=(D.mul x y:Nat):=by
 rw[FD.mulZ,if_pos ⟨nat_has hx,nat_has hy⟩];rfl
theorem inv_nat {D:FD}(hD:D∈fieldsL){x:Nat}(hx:x<D.q)(h0:x≠0):D.powZ x (-1)=(D.pw x (D.q-2):Nat):=by
 have F:=fld hD
 have h2:=F.q2
 rw[FD.powZ,if_neg (by simp[nat_has hx]),if_neg (by omega),if_neg (by omega)]
 have:((-1:Int) % ((D.q-1:Nat):Int)).toNat=(D.q-2):=by
  have e:(-1:Int)=((D.q-2:Nat):Int)+(-1)*((D.q-1:Nat):Int):=by omega
  rw[e,Int.add_mul_emod_self_right, ←Int.natCast_emod,Int.toNat_natCast]
  exact Nat.mod_eq_of_lt (by omega)
 rw[this];rfl
theorem pw_lt {D:FD}(hD:D∈fieldsL)(x:Nat)(k:Nat):D.pw x k<D.q:=by
 have F:=fld hD
 exact F.pow_lt _ (Nat.mod_lt _ (by have:=F.q2;omega))
theorem pw_ne {D:FD}(hD:D∈fieldsL)(x:Nat)(k:Nat):D.pw x k≠0∧D.lg (D.pw x k)=D.lg x*k % (D.q-1):=by
 have F:=fld hD
 have hn:D.lg x*k % (D.q-1)<D.q-1:=Nat.mod_lt _ (by have:=F.q2;omega)
 exact⟨(F.full _ hn).1,F.lg_pow _ hn⟩
theorem t11 {D:FD}(hD:D∈fieldsL){x:Nat}(hx:x<D.q)(h0:x≠0):D.mulZ x (D.powZ x (-1))=1:=by
 have F:=fld hD
 have h2:=F.q2
 have hp:=pw_ne hD x (D.q-2)
 rw[inv_nat hD hx h0,mulZ_nat F hx (pw_lt hD _ _),FD.mul,if_neg (by omega),hp.2,Nat.add_mod_mod,show D.lg x+D.lg x*(D.q-2)=D.lg x*(D.q-1)from by
  rw[show D.q-1=(D.q-2)+1 from by omega,Nat.mul_add,Nat.mul_one];omega,Nat.mul_mod_left]
 rfl
theorem bcell {B:Nat}{W w1:World}(hb:Below B W w1):(∀b o,b<B→w1.cell? ⟨b,o,none⟩=W.cell? ⟨b,o,none⟩)∧(∀b o,b<B→w1.frozen? ⟨b,o,none⟩=W.frozen? ⟨b,o,none⟩):=
 ⟨fun b o h=>hb.cell (p:=⟨b,o,none⟩) h,fun b o h=>hb.frozen (p:=⟨b,o,none⟩) h⟩
theorem OwnI.row {base:Nat}{v:Value}{l:List Int}{w:World}(h:OwnI base v l w)(n:Nat)(hn:l.length=n)(h0:0<n):∃g cap f, v = .slice (some ⟨g, 0, none⟩) n cap∧base≤g∧g<w.heap.size∧n≤cap∧cap≤maxLen ∧
  RowF g cap 3 f w∧(∀j,j<n→f j = .int .i64 (l.getD j 0)):=by
 have h':=h
 rcases h'.2 with⟨_,h2⟩|⟨g,cap,cur,hv,hg,hh,hle,hcm,hsz,htake⟩
 ·omega
 ·refine⟨g,cap,fun o=>(cur[o]?).getD (.int .i64 0),by rw[hv,hn],hg,lt_of_block hh,by omega,hcm,⟨cur,hh,by omega,fun o ho=>?_⟩,fun j hj=>?_⟩
  ·show _=some (Option.getD _ _)
   rw[Array.getElem?_eq_getElem (by omega)];rfl
  ·have hj':j<l.length:=by omega
   have h3:(cur.toList.take (l.length*1))[j]?=(l.map (Value.int .i64))[j]?:=by rw[htake]
   rw[List.getElem?_take,if_pos (by omega),List.getElem?_map,List.getElem?_eq_getElem hj']at h3
   show(cur[j]?).getD _=_
   rw[←Array.getElem?_toList,h3,List.getD_eq_getElem?_getD,List.getElem?_eq_getElem hj'];rfl
theorem list_getD_replicate(n j:Nat):(List.replicate n (0:Int)).getD j 0=0:=by
 rw[List.getD_eq_getElem?_getD,List.getElem?_replicate];split<;>rfl
theorem make_int {ops:Array Oper}{rest:List Oper}{o:Oper}{a:Act}{w:World}{Q:Exit→Act→World→Prop}
  (hg:o.guard=none) (l c:Operand) (hop:o.op=Op.makeSlice 22 l c) (C:Int) (n:Nat) (hl:a.eval l = .int .i64 C) (hc:a.eval c = .int .i64 C) (hC:C=(n:Int)) (hn:n≤1000000)
  (hK:∀w',OwnI w.heap.size (.slice (some ⟨w.heap.size,0,none⟩) n n) (List.replicate n 0) w'→w.grownBy w' none→wpList Tryz.prog ops Q rest (a.put o.dst (.slice (some ⟨w.heap.size,0,none⟩) n n)) w') :
  wpList Tryz.prog ops Q (o::rest) a w:=by
 obtain⟨i0,hi,hz0,hz1,hz2⟩:=info_parts Tryz.infoInt
 refine wpList_make_full w hg l c 22 hop w.heap.size 3 i0 (.int .i64 0) 1 Tryz.underlying22 hi hz0 hz1 .i64 .i64 C C n hl hc hC hC (by rw[hz2];omega) (by unfold maxLen;omega) (Nat.le_refl _) ?_
 intro w' hown hgrow
 refine hK w' ?_ hgrow
 unfold OwnI
 rw[List.length_replicate,List.map_replicate]
 have e:(madeCells (Value.int .i64 0).cells (n*1)).toList=List.replicate n (.int .i64 0):=by
  rw[Nat.mul_one];exact toList_madeCells_one _ _
 rw[e]at hown
 exact hown
end
end Go.Proofs.YtedifobeggabnaaGreat
