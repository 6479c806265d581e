/- Texts of ours, one behind the other: R17 B7 B8 M8 M9 G1. -/
import Derived.Test.YtppggchhkckobaaGreatZR10
namespace Go.Proofs.YtppggchhkckobaaGreat
open Go.RowKit
theorem nums_modL {E : FD} {base g cap : Nat} {w : World} (h : OwnI base (.slice (some ⟨g,0,none⟩) (E.m + 1) cap) E.modL w) : Nums g (E.m + 1) E.modN w := by
 intro j hj
 obtain ⟨g',cap',hv,_,_,hc,_⟩ := h.at (by intro e; have := congrArg List.length e; rw [modL_len'] at this; simp at this)
 simp only [Value.slice.injEq,Option.some.injEq,Addr.mk.injEq,and_true] at hv
 obtain ⟨rfl,_,_⟩ := hv
 rw [hc j (by rw [modL_len']; exact hj)]
 unfold FD.modL FD.modN
 by_cases e : j = E.m
 · rw [if_pos e,List.getD_eq_getElem?_getD,List.getElem?_append_right (by rw [digL_len]; omega),digL_len,e,Nat.sub_self]; rfl
 · rw [if_neg e,List.getD_eq_getElem?_getD,List.getElem?_append_left (by rw [digL_len]; omega), ← List.getD_eq_getElem?_getD,digL_get _ _ _ _ (by omega)]; rfl
set_option maxHeartbeats 16000000 in
set_option maxRecDepth 1000000 in
theorem rembed_any {D E : FD} (hD : D ∈ fieldsL) (hE : E ∈ fieldsL) (w : World) (h : E.p = D.p ∧ D.m % E.m = 0) :
   Calls Tryz.prog 47 #[.int .i64 E.q, .int .i64 D.q] w fun e w' => ∃ v,e = .returned (.tuple #[v, .int .i64 0]) ∧ OwnI w.heap.size v (D.embL E) w' ∧ Below w.heap.size w w' := by
 have HN : Hid (D ∈ fieldsL ∧ E ∈ fieldsL ∧ E.p = D.p ∧ D.m % E.m = 0) := ⟨hD,hE,h⟩
 have hm6 := (fld hE).m6
 have hm1 := (fld hE).m1
 have hq2 := (fld hE).q2
 have hq64 := (fld hE).q64
 have hQ2 := (fld hD).q2
 have hQ64 := (fld hD).q64
 have hp64 := (fld hE).p64
 have hp2 := (fld hE).p2
 have t1 : ((E.p : Int) != (D.p : Int)) = false := by rw [h.1]; simp
 have t2 : ((D.m : Int) % (E.m : Int) != 0) = false := by rw [← Int.natCast_emod,h.2]; rfl
 clear h hE hD
 go_enter Tryz.func47,Tryz.ntmps47
 go_wp2_with fail
 refine (rfield_any HN.out.2.1 w).mono ?_
 rintro e w1 ⟨v,rfl,hown,hmod,hb1⟩
 have hs1 := hb1.size
 obtain ⟨gm,cm,fm,hvm,hgm⟩ := hown.row (E.m + 1) modL_len' (by omega)
 subst hvm
 have HB : Hid (Below w.heap.size w w1 ∧ Nums gm (E.m + 1) E.modN w1 ∧ gm < w1.heap.size) := ⟨hb1,nums_modL hown,(hown.lt gm rfl).2⟩
 clear hb1 hown hmod hgm
 unfold rf
 go_wp2_with fail
 refine (rfield_any HN.out.1 _).mono ?_
 rintro e w2 ⟨v2,rfl,hown,hmod,hb2⟩
 obtain ⟨gm2,cm2,fm2,hvm2,hgm2⟩ := hown.row (D.m + 1) modL_len' (by omega)
 subst hvm2
 have HB2 : Hid (Box w1.heap.size E E.gen (.slice (some ⟨gm,0,none⟩) (E.m + 1) cm) w2 ∧ Below w.heap.size w w2 ∧ Nums gm (E.m + 1) E.modN w2 ∧ gm < w2.heap.size ∧ ModAt D (.slice (some ⟨gm2,0,none⟩) (D.m + 1) cm2) D.md w2) :=
   ⟨(box_new E E.gen _ w1).below hb2 (by simp),bel_up' (HB.out.1.alloc HB.out.1.size _) hb2,(HB.out.2.1.other (Below.heap_alloc w1 _ gm HB.out.2.2)).below hb2 (by have := HB.out.2.2; simp; omega),by have h1 := HB.out.2.2; have h2 := hb2.size; simp at h2; omega,hmod⟩
 have hs2 : w1.heap.size < w2.heap.size := by have := hb2.size; simp at this; omega
 clear hb2 hown hmod hgm2
 obtain ⟨c0,c1,c2,c3,c4⟩ := HB2.out.1
 unfold rf
 go_wp2
 obtain ⟨W,hW⟩ : ∃ W : World,W = w2.alloc (.cells #[.int .i64 D.q, .int .i64 D.p, .int .i64 D.m, .int .i64 D.gen, .slice (some ⟨gm2,0,none⟩) (D.m + 1) cm2] 59) := ⟨_,rfl⟩
 have hbW : Below w2.heap.size w2 W := by rw [hW]; exact (Below.refl _ _).alloc (Nat.le_refl _) _
 obtain ⟨G,hG⟩ : ∃ G,G = w2.heap.size := ⟨_,rfl⟩
 obtain ⟨G1,hG1⟩ : ∃ G1,G1 = w1.heap.size := ⟨_,rfl⟩
 have HA : Hid (Box G1 E E.gen (.slice (some ⟨gm,0,none⟩) (E.m + 1) cm) W ∧ Box G D D.gen (.slice (some ⟨gm2,0,none⟩) (D.m + 1) cm2) W ∧ Nums gm (E.m + 1) E.modN W ∧ ModAt D (.slice (some ⟨gm2,0,none⟩) (D.m + 1) cm2) D.md W ∧ Below w.heap.size w W ∧ gm < W.heap.size) :=
   ⟨by rw [hG1]; exact HB2.out.1.below hbW hs2,by rw [hG,hW]; exact box_new D D.gen _ w2,HB2.out.2.2.1.below hbW HB2.out.2.2.2.1,HB2.out.2.2.2.2.below hbW,bel_up' HB2.out.2.1 hbW,by have h1 := HB2.out.2.2.2.1; have h2 := hbW.size; omega⟩
 have hGW : G < W.heap.size := by rw [hG,hW]; simp
 have hG1W : G1 < W.heap.size := by omega
 have hGne : G1 < G := by omega
 have hWw : w.heap.size ≤ W.heap.size := by omega
 rw [← hW, ← hG, ← hG1]
 clear hW hG hG1 hbW HB2 HB c0 c1 c2 c3 c4 t1 t2
 obtain ⟨step,hstep⟩ : ∃ step,step = (D.q - 1) / (E.q - 1) := ⟨_,rfl⟩
 have hst64 : step ≤ 64 := by rw [hstep]; exact Nat.le_trans (Nat.div_le_self _ _) (by omega)
 have HST : Hid (step = (D.q - 1) / (E.q - 1)) := hstep
 clear hstep
 go_loopg [9,10] E.q (fun gk r i wr => ∃ k z : Nat,i = .int .i64 k ∧ r = .int .i64 z ∧ 1 ≤ k ∧ k ≤ E.q ∧ gk = (if z = 0 then E.q + 1 - k else 0) ∧ ((z = 0 ∧ (E.m ≠ 1 → k ≤ D.rootK E)) ∨ (E.m ≠ 1 ∧ z = D.root E ∧ z ≠ 0)) ∧ Below W.heap.size W wr)
 case atStart => exact ⟨1,0,rfl,rfl,by omega,by omega,by rw [if_pos rfl]; omega,Or.inl ⟨rfl,fun hm => (rootK_is HN.out.1 HN.out.2.1 HN.out.2.2 hm).1⟩,Below.refl _ _⟩
 case round =>
   obtain ⟨k,z,rfl,rfl,hk1,hkq,hgk,hz,hbel⟩ := hrel
   have HZ : Hid (gk = (if z = 0 then E.q + 1 - k else 0) ∧ ((z = 0 ∧ (E.m ≠ 1 → k ≤ D.rootK E)) ∨ (E.m ≠ 1 ∧ z = D.root E ∧ z ≠ 0))) := ⟨hgk,hz⟩
   have hbc := hbel
   obtain ⟨a0,a1,a2,a3,a4⟩ := HA.out.1.below hbel hG1W
   obtain ⟨b0,b1,b2,b3,b4⟩ := HA.out.2.1.below hbel hGW
   clear hbel hgk hz
   by_cases hcase : E.m ≠ 1 ∧ z = 0
   · obtain ⟨hm,hz0⟩ := hcase
     have HM : Hid (E.m ≠ 1 ∧ z = 0) := ⟨hm,hz0⟩
     have u1 : (1 : Int) < (E.m : Int) := by omega
     have u2 : ((z : Int) == 0) = true := beq_iff_eq.2 (by omega)
     have hq3 : 2 < D.q := by
       have h1 := (fld HN.out.2.1).qp
       have h2 := (fld HN.out.1).qp
       have h3 : E.m ≤ D.m := Nat.le_of_dvd (by have := (fld HN.out.1).m1; omega) (Nat.dvd_of_mod_eq_zero HN.out.2.2.2)
       have h4 : D.p ^ 2 ≤ D.p ^ D.m := Nat.pow_le_pow_right (by have := (fld HN.out.1).p2; omega) (by omega)
       have h5 : 2 ^ 2 ≤ D.p ^ 2 := Nat.pow_le_pow_left (fld HN.out.1).p2 2
       omega
     clear hm hz0
     go_wp2
     obtain ⟨Q1,hQ1⟩ : ∃ Q1 : Nat,Q1 = D.q - 1 := ⟨_,rfl⟩
     obtain ⟨q1,hq1⟩ : ∃ q1 : Nat,q1 = E.q - 1 := ⟨_,rfl⟩
     obtain ⟨ks,hks⟩ : ∃ ks : Nat,ks = k * step := ⟨_,rfl⟩
     have hksb : ks ≤ 64 * 64 := by rw [hks]; exact Nat.mul_le_mul (by omega) hst64
     have hks1 : 1 ≤ ks := by
       rw [hks]
       have h1 : 1 ≤ step := by
         rw [HST.out]
         have h2 : E.q ≤ D.q := by
           rw [(fld HN.out.2.1).qp,(fld HN.out.1).qp,HN.out.2.2.1]
           exact Nat.pow_le_pow_right (by have := (fld HN.out.1).p2; omega) (Nat.le_of_dvd (by have := (fld HN.out.1).m1; omega) (Nat.dvd_of_mod_eq_zero HN.out.2.2.2))
         exact Nat.div_pos (by omega) (by omega)
       exact Nat.mul_pos hk1 h1
     have HX : Hid (D.powZ D.gen ks = (D.xk E k : Nat)) := by
       show _ = _
       rw [powZ_gen HN.out.1 hq3 ks hks1,FD.xk,hks,HST.out]
     have x1 : IntKind.i64.wrap ((D.q : Int) - 1) = (Q1 : Int) := wrap_to (by omega) (by omega)
     have x2 : IntKind.i64.wrap ((E.q : Int) - 1) = (q1 : Int) := wrap_to (by omega) (by omega)
     have x3 : (Q1 : Int).tdiv (q1 : Int) = (step : Int) := by rw [HST.out,hQ1,hq1]; rfl
     have x7 : IntKind.i64.wrap (((D.q - 1 : Nat) : Int) / ((E.q - 1 : Nat) : Int)) = (step : Int) := wrap_to (by rw [HST.out,Int.natCast_ediv]) (by omega)
     have x5 : IntKind.i64.wrap ((k : Int) * (step : Int)) = (ks : Int) := wrap_to (by rw [hks,Int.natCast_mul]) (by omega)
     have x7' : IntKind.i64.wrap ((Q1 : Int) / (q1 : Int)) = (step : Int) := wrap_to (by rw [HST.out,hQ1,hq1,Int.natCast_ediv]) (by omega)
     have x6' : ¬ q1 = 0 := by omega
     have x6 : ¬ E.q - 1 = 0 := by omega
     have x8 : ¬ (E.q : Int) - 1 = 0 := by omega
     have x9 : ¬ (((E.q - 1 : Nat) : Int)) = 0 := by omega
     clear hQ1 hq1 hks x3
     go_region_held3 (fun w' => w'.cell? ⟨G,0,none⟩ = some (.int .i64 (D.q : Nat)) ∧ w'.cell? ⟨G,1,none⟩ = some (.int .i64 (D.p : Nat)) ∧ w'.cell? ⟨G,2,none⟩ = some (.int .i64 (D.m : Nat)) ∧ w'.cell? ⟨G,3,none⟩ = some (.int .i64 (D.gen : Nat)) ∧ w'.cell? ⟨G,4,none⟩ = some (.slice (some ⟨gm2,0,none⟩) (D.m + 1) cm2) ∧ w'.cell? ⟨G1,0,none⟩ = some (.int .i64 (E.q : Nat)))
       (first | go_keep | exact ⟨(HA.out.2.1.below (B := W.heap.size) (by first | exact hbc | exact hbc.drew) hGW).c0,(HA.out.2.1.below (B := W.heap.size) (by first | exact hbc | exact hbc.drew) hGW).c1,(HA.out.2.1.below (B := W.heap.size) (by first | exact hbc | exact hbc.drew) hGW).c2,(HA.out.2.1.below (B := W.heap.size) (by first | exact hbc | exact hbc.drew) hGW).c3,(HA.out.2.1.below (B := W.heap.size) (by first | exact hbc | exact hbc.drew) hGW).c4,(HA.out.1.below (B := W.heap.size) (by first | exact hbc | exact hbc.drew) hG1W).c0⟩)
       (first | (go_at_call 44; refine (rpow_any HN.out.1 D.gen _ _ (by omega) (by omega) (HA.out.2.2.2.1.below (by first | exact hbc | exact hbc.drew))).mono ?_; rintro e w' ⟨rfl,hb'⟩; replace hbc := bel_up' (by first | exact hbc | exact hbc.drew) hb'; clear hb'))
     rw [HX.out]
     have hxl := xk_lt (E := E) HN.out.1 k
     obtain ⟨x,hx⟩ : ∃ x,x = D.xk E k := ⟨_,rfl⟩
     rw [← hx]
     obtain ⟨y,hy⟩ : ∃ y,y = D.val E.modN (E.m + 1) x (E.m + 1) := ⟨_,rfl⟩
     have HC : Hid (Calls Tryz.prog 92 #[.agg #[.int .i64 D.q, .int .i64 D.p, .int .i64 D.m, .int .i64 D.gen, .slice (some ⟨gm2,0,none⟩) (D.m + 1) cm2], .slice (some ⟨gm,0,none⟩) (E.m + 1) cm, .int .i64 x] w' fun e w3 => e = .returned (.int .i64 (y : Nat)) ∧ Below w'.heap.size w' w3) := by
       rw [hy]
       exact rvalue_any HN.out.1 D.gen gm cm (E.m + 1) x E.modN (by rw [hx]; exact hxl.1) (by omega) (fun j => modN_lt HN.out.1 HN.out.2.1 HN.out.2.2.1 j) (by have h1 := HA.out.2.2.2.2.2; have h2 := hbc.size; omega) (HA.out.2.2.1.below hbc HA.out.2.2.2.2.2) (HA.out.2.2.2.1.below hbc)
     have HY : Hid (D.isRoot E k = (y == 0)) := by show _ = _; rw [FD.isRoot,hy,hx]
     have HXX : Hid (x = D.xk E k ∧ x ≠ 0) := ⟨hx,by rw [hx]; exact hxl.2⟩
     have hsw := hbc.size
     clear a0 a1 a2 a3 a4 b0 b1 b2 b3 b4 hx hxl hy x1 x2 x5 x6 x7 x8 x9 x7' x6'
     obtain ⟨a0,a1,a2,a3,a4⟩ := HA.out.1.below hbc hG1W
     obtain ⟨b0,b1,b2,b3,b4⟩ := HA.out.2.1.below hbc hGW
     go_wp2_with fail
     refine HC.out.mono ?_
     rintro e w3 ⟨rfl,hb3⟩
     have HB3 : Hid (Below W.heap.size W w3) := bel_up' hbc hb3
     clear hb3 HC a0 a1 a2 a3 a4 b0 b1 b2 b3 b4 hbc
     have hrk := rootK_is HN.out.1 HN.out.2.1 HN.out.2.2 HM.out.1
     have hkr : k ≤ D.rootK E := by
       rcases HZ.out.2 with h | h
       · exact h.2 HM.out.1
       · exact absurd HM.out.2 h.2.2
     by_cases hy0 : y = 0
     · have hyb : ((y : Int) == 0) = true := beq_iff_eq.2 (by omega)
       have HK : Hid (k = D.rootK E) := by
         show k = _
         rcases Nat.lt_or_ge k (D.rootK E) with h | h
         · have h1 := hrk.2.2.2 k hk1 h
           rw [HY.out,hy0] at h1; simp at h1
         · omega
       have hke : k < E.q := by have := HK.out; have := hrk.2.1; omega
       have HR : Hid (x = D.root E) := by show x = _; rw [FD.root,if_neg HM.out.1, ← HK.out]; exact HXX.out.1
       clear hrk hkr hy0
       go_wp2
       go_roundg 0
       case measure =>
         rw [HZ.out.1,if_pos HM.out.2]; omega
       case rel => exact ⟨k + 1,x,by go_num,rfl,by omega,by omega,by rw [if_neg HXX.out.2],Or.inr ⟨HM.out.1,HR.out,HXX.out.2⟩,HB3.out⟩
     · have hyb : ((y : Int) == 0) = false := beq_eq_false_iff_ne.2 (by omega)
       have HK : Hid (k + 1 ≤ D.rootK E) := by
         show k + 1 ≤ _
         rcases Nat.lt_or_ge k (D.rootK E) with h | h
         · exact h
         · have h2 : k = D.rootK E := by omega
           have h1 := hrk.2.2.1
           rw [← h2,HY.out] at h1
           exact absurd (beq_iff_eq.1 h1) hy0
       have hke : k < E.q := by have := HK.out; have := hrk.2.1; omega
       clear hrk hkr hy0
       go_wp2
       go_roundg (E.q + 1 - (k + 1))
       case measure =>
         rw [HZ.out.1,if_pos HM.out.2]; omega
       case rel => exact ⟨k + 1,z,by go_num,rfl,by omega,by omega,by rw [if_pos HM.out.2],Or.inl ⟨HM.out.2,fun _ => HK.out⟩,HB3.out⟩
   · have HR : Hid (z = D.root E) := by
       show z = _
       rcases HZ.out.2 with h | h
       · by_cases hm : E.m = 1
         · rw [FD.root,if_pos hm]; exact h.1
         · exact absurd ⟨hm,h.1⟩ hcase
       · exact h.2.1
     have hzq : z < D.q := by rw [HR.out]; exact root_lt HN.out.1
     have HB1 : Hid (Below W.heap.size W wr) := hbc
     have u : ¬ (1 : Int) < (E.m : Int) ∨ ((1 : Int) < (E.m : Int) ∧ ((z : Int) == 0) = false) := by
       by_cases hm : E.m = 1
       · exact Or.inl (by omega)
       · exact Or.inr ⟨by omega,beq_eq_false_iff_ne.2 (fun h => hcase ⟨hm,by omega⟩)⟩
     clear HZ hcase hbc
     rcases u with u | ⟨u1,u2⟩
     all_goals
       go_wp2
       clear a0 a1 a2 a3 a4 b0 b1 b2 b3 b4
       go_loopw [12,13] (fun vl i wr => ∃ a : Nat,a ≤ E.q ∧ i = .int .i64 a ∧ OwnI W.heap.size vl ((D.embL E).take a) wr ∧ Below W.heap.size W wr) (fun _ i _ => E.q - (intOf i).toNat)
       case atStart => exact ⟨0,by omega,rfl,OwnI.nil _ _,HB1.out⟩
       case round =>
         clear HB1
         obtain ⟨a,ha,rfl,hown,hbel⟩ := hrel
         have HO : Hid (OwnI W.heap.size u12 ((D.embL E).take a) wr) := hown
         have hbc := hbel
         obtain ⟨a0,a1,a2,a3,a4⟩ := HA.out.1.below hbel hG1W
         obtain ⟨b0,b1,b2,b3,b4⟩ := HA.out.2.1.below hbel hGW
         clear hown hbel
         have hembl : (D.embL E).length = E.q := by unfold FD.embL; simp
         by_cases hla : a < E.q
         · obtain ⟨y,hy⟩ : ∃ y,y = D.val (fun j => dg E.p a j) E.m z E.m := ⟨_,rfl⟩
           have HY : Hid ((D.embL E).take (a + 1) = (D.embL E).take a ++ [(y : Int)]) := by
             show _ = _
             rw [List.take_add_one,List.getElem?_eq_getElem (by omega),hy,HR.out]
             simp [FD.embL]
           have HYD : Hid (y = D.val (fun j => dg E.p a j) E.m z E.m) := hy
           clear hy
           have how : Below wr.heap.size wr wr := Below.refl _ _
           go_wp2_with fail
           go_region_held3 (fun w' => w'.cell? ⟨G,0,none⟩ = some (.int .i64 (D.q : Nat)) ∧ w'.cell? ⟨G,1,none⟩ = some (.int .i64 (D.p : Nat)) ∧ w'.cell? ⟨G,2,none⟩ = some (.int .i64 (D.m : Nat)) ∧ w'.cell? ⟨G,3,none⟩ = some (.int .i64 (D.gen : Nat)) ∧ w'.cell? ⟨G,4,none⟩ = some (.slice (some ⟨gm2,0,none⟩) (D.m + 1) cm2) ∧ w'.cell? ⟨G1,1,none⟩ = some (.int .i64 (E.p : Nat)) ∧ w'.cell? ⟨G1,2,none⟩ = some (.int .i64 (E.m : Nat)))
             (first | go_keep | exact ⟨(HA.out.2.1.below (B := W.heap.size) (by first | exact hbc | exact hbc.drew) hGW).c0,(HA.out.2.1.below (B := W.heap.size) (by first | exact hbc | exact hbc.drew) hGW).c1,(HA.out.2.1.below (B := W.heap.size) (by first | exact hbc | exact hbc.drew) hGW).c2,(HA.out.2.1.below (B := W.heap.size) (by first | exact hbc | exact hbc.drew) hGW).c3,(HA.out.2.1.below (B := W.heap.size) (by first | exact hbc | exact hbc.drew) hGW).c4,(HA.out.1.below (B := W.heap.size) (by first | exact hbc | exact hbc.drew) hG1W).c1,(HA.out.1.below (B := W.heap.size) (by first | exact hbc | exact hbc.drew) hG1W).c2⟩)
             (first
               | (go_at_call 77; refine (digits_any a E.p E.m _ (by omega) (by omega) hp64 (by omega)).mono ?_; rintro e w' ⟨vd,rfl,hod,hb'⟩; obtain ⟨gd,cd,fd,rfl,hgd,hgd',hld,hcd,hrd,hfd⟩ := hod.row E.m (digL_len _ _ _) (by omega); have hnd : Nums gd E.m (fun j => dg E.p a j) w' := (fun j hj => by rw [hrd.cell j (by omega),hfd j hj,digL_get _ _ _ _ hj]); replace how := bel_up' (by first | exact how | exact how.drew) hb'; replace hbc := bel_up' (by first | exact hbc | exact hbc.drew) hb'; clear hb' hod hrd hfd)
               | (go_at_call 92; refine (rvalue_any HN.out.1 D.gen gd cd E.m z (fun j => dg E.p a j) hzq (by omega) (fun j => dg_ltq HN.out.1 HN.out.2.1 HN.out.2.2.1 a j) hgd' hnd (HA.out.2.2.2.1.below (by first | exact hbc | exact hbc.drew))).mono ?_; rintro e w' ⟨rfl,hb'⟩; replace how := bel_up' (by first | exact how | exact how.drew) hb'; replace hbc := bel_up' (by first | exact hbc | exact hbc.drew) hb'; clear hb'))
           rw [← HYD.out]
           have HG2 : Hid (OwnI W.heap.size u12 ((D.embL E).take a) w' ∧ Below W.heap.size W w' ∧ W.heap.size ≤ w'.heap.size) := ⟨HO.out.below how (fun k hk => (HO.out.lt k hk).2),hbc,hbc.size⟩
           have htl : ((D.embL E).take a).length ≤ 64 := by rw [List.length_take]; omega
           clear how hbc a0 a1 a2 a3 a4 b0 b1 b2 b3 b4
           go_wp2_with (at_builtin; refine append_int rfl _ _ rfl W.heap.size _ ((D.embL E).take a) rfl (HG2.out.1.alloc _) ⟨_,0,none⟩ 1 y rfl (by simp) (by omega) (by have := HG2.out.2.2; simp; omega) ?_; intro v2 w3 hown3 hgrow3)
           have hb3 : Below W.heap.size W w3 := (HG2.out.2.1.alloc HG2.out.2.2 _).grown hgrow3 (by have := HG2.out.2.2; simp; omega) (fun k hk => (HG2.out.1.lt k hk).1)
           go_roundw
           case rel => exact ⟨a + 1,by omega,by go_num,by rw [HY.out]; exact hown3,hb3⟩
           case measure => simp [intOf]; omega
         · have HE : Hid ((D.embL E).take a = D.embL E) := by show _ = _; rw [List.take_of_length_le (by omega)]
           have HBB : Hid (Below W.heap.size W wr) := hbc
           clear hbc
           go_wp2
           go_ret2
           exact ⟨_,rfl,by rw [← HE.out]; exact HO.out.mono hWw,HA.out.2.2.2.2.1.trans (HBB.out.mono hWw)⟩
theorem mul_nat {F T : Nat} {D : FD} (hD : D ∈ fieldsL) {g : Nat → Value} {w : World} (h : FAt F T D g w) {a b : Nat} (ha : a < D.q) (hb : b < D.q) :
   Calls Tryz.prog 105 #[.pointer (some ⟨F,0,none⟩), .int .i64 a, .int .i64 b] w fun e w' => e = .returned (.int .i64 (D.mul a b : Nat)) ∧ ∃ n,w' = w.drewN n := by
 rw [← mulZ_nat (fld hD) ha hb]; exact mul_any hD h a b
theorem add_nat {F T : Nat} {D : FD} (hD : D ∈ fieldsL) {g : Nat → Value} {w : World} (h : FAt F T D g w) {a b : Nat} (ha : a < D.q) (hb : b < D.q) :
   Calls Tryz.prog 104 #[.pointer (some ⟨F,0,none⟩), .int .i64 a, .int .i64 b] w fun e w' => e = .returned (.int .i64 (sumD D.p D.q a b : Nat)) ∧ ∃ n,w' = w.drewN n := by
 rw [← addZ_nat (fld hD) ha hb]; exact add_any hD h a b
set_option maxHeartbeats 2000000 in
theorem at_any {F T : Nat} {D : FD} (hD : D ∈ fieldsL) {g : Nat → Value} {w : World} (h : FAt F T D g w) (gl cap n x : Nat) (c : Nat → Nat) (hx : x < D.q) (hn : n ≤ 1000) (hc : ∀ j, c j < D.q) (hN : Nums gl n c w) :
   Calls Tryz.prog 115 #[.pointer (some ⟨F,0,none⟩), .slice (some ⟨gl,0,none⟩) n cap, .int .i64 x] w fun e w' => e = .returned (.int .i64 (D.val c n x n : Nat)) ∧ ∃ n,w' = w.drewN n := by
 have HF : Hid (FAt F T D g w ∧ D ∈ fieldsL ∧ Nums gl n c w ∧ ∀ j,c j < D.q) := ⟨h,hD,hN,hc⟩
 clear h hD hN hc
 go_enter Tryz.func115,Tryz.ntmps115
 go_wp2
 go_loopw [7,8] (fun s i wr => ∃ r : Nat,r ≤ n ∧ i = .int .i64 ((r : Int) - 1) ∧ s = .int .i64 (D.val c n x (n - r) : Nat) ∧ ∃ d,wr = w.drewN d) (fun _ i _ => (intOf i + 1).toNat)
 case atStart => exact ⟨n,by omega,rfl,by rw [Nat.sub_self]; rfl,0,rfl⟩
 case round =>
   obtain ⟨r,hr,hi,rfl,hwr⟩ := hrel
   have HG : Hid (FAt F T D g wr ∧ Nums gl n c wr ∧ ∃ d,wr = w.drewN d) := by
     obtain ⟨d,rfl⟩ := hwr
     exact ⟨HF.out.1.drewN d,HF.out.2.2.1.other rfl,d,rfl⟩
   clear hwr
   cases r with
   | succ s =>
     have hi' : u8 = .int .i64 (s : Int) := by rw [hi]; go_num
     clear hi
     subst hi'
     obtain ⟨y,hy⟩ : ∃ y,y = D.val c n x (n - (s + 1)) := ⟨_,rfl⟩
     have hyq : y < D.q := by rw [hy]; exact val_lt HF.out.2.1 c n x HF.out.2.2.2 _
     have HY : Hid (D.val c n x (n - s) = sumD D.p D.q (D.mul y x) (c s)) := by
       show _ = _
       rw [hy,show n - s = (n - (s + 1)) + 1 from by omega,FD.val,show n - 1 - (n - (s + 1)) = s from by omega]
     rw [← hy]
     clear hy
     have hcl : wr.cell? ⟨gl,s,none⟩ = some (.int .i64 (c s : Nat)) := HG.out.2.1 s (by omega)
     have HC1 : Hid (∀ k,Calls Tryz.prog 105 #[.pointer (some ⟨F,0,none⟩), .int .i64 y, .int .i64 x] (wr.drewN k) fun e w' => e = .returned (.int .i64 (D.mul y x : Nat)) ∧ ∃ m,w' = (wr.drewN k).drewN m) := fun k => mul_nat HF.out.2.1 (HG.out.1.drewN k) hyq hx
     have HC2 : Hid (∀ k,Calls Tryz.prog 104 #[.pointer (some ⟨F,0,none⟩), .int .i64 (D.mul y x : Nat), .int .i64 (c s : Nat)] (wr.drewN k) fun e w' => e = .returned (.int .i64 (sumD D.p D.q (D.mul y x) (c s) : Nat)) ∧ ∃ m,w' = (wr.drewN k).drewN m) := fun k => add_nat HF.out.2.1 (HG.out.1.drewN k) ((fld HF.out.2.1).mul_lt _ _) (HF.out.2.2.2 s)
     go_wp2
     go_quiet (first | (go_at_call 105; exact Calls.quiet_of (HC1.out _)) | (go_at_call 104; exact Calls.quiet_of (HC2.out _)))
     go_wp2
     go_roundw
     case rel =>
       obtain ⟨d,hd⟩ := HG.out.2.2
       exact ⟨s,by omega,by go_num,by rw [HY.out],_,by rw [hd,World.drewN_drewN]⟩
     case measure => simp [intOf]
   | zero =>
     have hi' : u8 = .int .i64 (-1) := by rw [hi]; rfl
     clear hi
     subst hi'
     go_wp2
     go_ret
     exact ⟨rfl,HG.out.2.2⟩
theorem isRoot_prime {D E : FD} (hD : D ∈ fieldsL) (hE : E ∈ fieldsL) (hm : E.m = 1) (k : Nat) : D.isRoot E k = false := by
 have F := fld hD
 have hx := xk_lt (E := E) hD k
 have hl := ((fld hE).least1 hm).2.2.2.1
 have h2 := F.q2
 have e1 : E.modN 1 = 1 := by unfold FD.modN; rw [if_pos hm.symm]
 have e0 : E.modN 0 = 0 := by unfold FD.modN dgt; rw [if_neg (by omega),hl]; simp
 have hv : D.val E.modN (E.m + 1) (D.xk E k) (E.m + 1) = D.xk E k := by
   rw [hm]
   show sumD D.p D.q (D.mul (sumD D.p D.q (D.mul 0 (D.xk E k)) (E.modN 1)) (D.xk E k)) (E.modN 0) = _
   rw [e1,e0]
   have h0 : D.mul 0 (D.xk E k) = 0 := by simp [FD.mul]
   rw [h0,F.add_comm 0 1,F.sum_zero 1 (by omega),F.mul_comm,F.mul_one _ hx.1,F.sum_zero _ hx.1]
 unfold FD.isRoot
 rw [hv]
 exact beq_eq_false_iff_ne.2 hx.2
set_option maxHeartbeats 4000000 in
set_option maxRecDepth 100000 in
theorem rootFor_any {F T F2 T2 : Nat} {D E : FD} (hD : D ∈ fieldsL) (hE : E ∈ fieldsL) (h : E.p = D.p ∧ D.m % E.m = 0) {g g2 : Nat → Value} {w : World} (hA : FAt F T D g w) (hB : FAt F2 T2 E g2 w) :
   Calls Tryz.prog 114 #[.pointer (some ⟨F,0,none⟩), .pointer (some ⟨F2,0,none⟩)] w fun e w' => e = .returned (.int .i64 (D.root E : Nat)) ∧ Below w.heap.size w w' := by
 have HN : Hid (D ∈ fieldsL ∧ E ∈ fieldsL ∧ E.p = D.p ∧ D.m % E.m = 0) := ⟨hD,hE,h⟩
 have hq2 := (fld hE).q2
 have hq64 := (fld hE).q64
 have hQ64 := (fld hD).q64
 have hQ2 := (fld hD).q2
 have hm6 := (fld hE).m6
 have hp := hA.ptr
 have hp2 := hB.ptr
 have hc := hA.row.cell 0 (by omega)
 rw [hA.tab.sum.c0] at hc
 have hc2 := hB.row.cell 0 (by omega)
 rw [hB.tab.sum.c0] at hc2
 have HA : Hid (FAt F T D g w ∧ FAt F2 T2 E g2 w) := ⟨hA,hB⟩
 have hF := hA.ltF
 have hT := hA.ltT
 have hF2 := hB.ltF
 have hT2 := hB.ltT
 clear h hD hE hA hB
 obtain ⟨step,hstep⟩ : ∃ step,step = (D.q - 1) / (E.q - 1) := ⟨_,rfl⟩
 have hst64 : step ≤ 64 := by rw [hstep]; exact Nat.le_trans (Nat.div_le_self _ _) (by omega)
 have HST : Hid (step = (D.q - 1) / (E.q - 1)) := hstep
 have HSD : Hid (((D.q : Int) - 1) / ((E.q : Int) - 1) = (step : Int)) := by
   show _ = _
   rw [hstep,show (D.q : Int) - 1 = ((D.q - 1 : Nat) : Int) from by omega,show (E.q : Int) - 1 = ((E.q - 1 : Nat) : Int) from by omega,Int.natCast_ediv]
 clear hstep
 go_enter Tryz.func114,Tryz.ntmps114
 go_wp2
 go_quiet (fail)
 go_wp2_with fail
 refine (poly_any HN.out.2.1 (HA.out.2.drewN nq)).mono ?_
 rintro e w1 ⟨vp,rfl,hop,hb1⟩
 obtain ⟨gp,cp,fp,hvp,hgp⟩ := hop.row (E.m + 1) modL_len' (by omega)
 subst hvp
 have hb1' : Below w.heap.size w w1 := bel_up (below_drewN2 (Below.refl _ _) nq) hb1
 have H1 : Hid (FAt F T D g w1 ∧ FAt F2 T2 E g2 w1 ∧ Nums gp (E.m + 1) E.modN w1 ∧ Below w.heap.size w w1) := ⟨HA.out.1.below hb1' hF hT,HA.out.2.below hb1' hF2 hT2,nums_modL hop,hb1'⟩
 clear hop hb1 hb1' hgp hp hp2 hc hc2 HA
 have hp := H1.out.1.ptr
 have hp2 := H1.out.2.1.ptr
 have hc2 : w1.cell? ⟨T2,0,none⟩ = some (.int .i64 E.q) := by rw [H1.out.2.1.row.cell 0 (by omega),H1.out.2.1.tab.sum.c0]
 go_wp2
 rw [HSD.out]
 go_loopw [7] (fun i wr => ∃ k : Nat,1 ≤ k ∧ k ≤ E.q ∧ i = .int .i64 k ∧ Hid (∀ j,1 ≤ j → j < k → D.isRoot E j = false) ∧ ∃ d,wr = w1.drewN d) (fun i _ => E.q - (intOf i).toNat)
 case atStart => exact ⟨1,by omega,by omega,rfl,fun j h1 h2 => by omega,0,rfl⟩
 case round =>
   obtain ⟨k,hk1,hkq,rfl,HK,d,rfl⟩ := hrel
   by_cases hlt : k < E.q
   · obtain ⟨ks,hks⟩ : ∃ ks : Nat,ks = k * step := ⟨_,rfl⟩
     have hksb : ks ≤ 64 * 64 := by rw [hks]; exact Nat.mul_le_mul (by omega) hst64
     obtain ⟨x,hx⟩ : ∃ x,x = D.xk E k := ⟨_,rfl⟩
     have hxl := xk_lt (E := E) HN.out.1 k
     rw [← hx] at hxl
     obtain ⟨y,hy⟩ : ∃ y,y = D.val E.modN (E.m + 1) x (E.m + 1) := ⟨_,rfl⟩
     have HY : Hid (D.isRoot E k = (y == 0)) := by show _ = _; rw [FD.isRoot,hy,hx]
     have hm5 : (k : Int) * (step : Int) = (ks : Int) := by rw [hks,Int.natCast_mul]
     have HC : Hid (Calls Tryz.prog 81 #[.pointer (some ⟨T,0,none⟩), .int .i64 (ks : Int)] (w1.drewN d) fun e w' => e = .returned (.int .i64 (x : Nat)) ∧ ∃ n,w' = (w1.drewN d).drewN n) := by
       have h := power_any HN.out.1 (H1.out.1.drewN d) (ks : Int) (by omega) (by omega)
       rw [← Int.natCast_emod,Int.toNat_natCast] at h
       rw [hx,FD.xk, ← HST.out, ← hks]; exact h
     have HC2 : Hid (∀ n,Calls Tryz.prog 115 #[.pointer (some ⟨F,0,none⟩), .slice (some ⟨gp,0,none⟩) (E.m + 1) cp, .int .i64 x] (w1.drewN n) fun e w' => e = .returned (.int .i64 (y : Nat)) ∧ ∃ m,w' = (w1.drewN n).drewN m) := by
       intro n
       rw [hy]
       exact at_any HN.out.1 (H1.out.1.drewN n) gp cp (E.m + 1) x E.modN hxl.1 (by omega) (fun j => modN_lt HN.out.1 HN.out.2.1 HN.out.2.2.1 j) (H1.out.2.2.1.other rfl)
     have HXX : Hid (x = D.xk E k) := hx
     clear hx hy hks hxl
     go_wp2_with fail
     refine HC.out.mono ?_
     rintro e w2 ⟨rfl,n2,hw2⟩
     obtain ⟨n3,hw3⟩ : ∃ n3,w2 = w1.drewN n3 := ⟨_,by rw [hw2,World.drewN_drewN]⟩
     clear hw2
     subst hw3
     go_wp2_with fail
     refine (HC2.out _).mono ?_
     rintro e w3 ⟨rfl,n4,hw4⟩
     obtain ⟨n5,hw5⟩ : ∃ n5,w3 = w1.drewN n5 := ⟨_,by rw [hw4,World.drewN_drewN]⟩
     clear hw4
     subst hw5
     by_cases hy0 : y = 0
     · have HE : Hid (D.root E = x) := by
         show _ = _
         have hr : D.isRoot E k = true := by rw [HY.out,hy0]; rfl
         have hm : E.m ≠ 1 := fun hm => by rw [isRoot_prime HN.out.1 HN.out.2.1 hm k] at hr; cases hr
         have h := rootK_is HN.out.1 HN.out.2.1 HN.out.2.2 hm
         have hkk : D.rootK E = k := by
           rcases Nat.lt_trichotomy (D.rootK E) k with hlt | heq | hgt
           · have h1 := HK.out _ h.1 hlt
             rw [h.2.2.1] at h1; cases h1
           · exact heq
           · have h1 := h.2.2.2 k hk1 hgt
             rw [hr] at h1; cases h1
         rw [FD.root,if_neg hm,hkk,HXX.out]
       subst hy0
       go_wp2
       go_ret
       exact ⟨ret_int (by rw [HE.out]),below_drewN2 H1.out.2.2.2 _⟩
     · go_wp2
       go_roundw
       case rel =>
         refine ⟨k + 1,by omega,by omega,by go_num, ?_,_,rfl⟩
         intro j h1 h2
         by_cases hj : j = k
         · rw [hj,HY.out]; exact beq_eq_false_iff_ne.2 hy0
         · exact HK.out j h1 (by omega)
       case measure => simp [intOf]; omega
   · have HE : Hid (D.root E = 0) := by
       show _ = _
       by_cases hm : E.m = 1
       · rw [FD.root,if_pos hm]
       · have h := rootK_is HN.out.1 HN.out.2.1 HN.out.2.2 hm
         have h1 := HK.out (D.rootK E) h.1 (by omega)
         rw [h.2.2.1] at h1; cases h1
     go_wp2
     go_ret
     exact ⟨ret_int (by rw [HE.out]; rfl),below_drewN2 H1.out.2.2.2 _⟩
theorem nums_digL {p a m base g cap : Nat} {w : World} (hm : 1 ≤ m) (h : OwnI base (.slice (some ⟨g,0,none⟩) m cap) (digL p a m) w) : Nums g m (fun j => dg p a j) w := by
 intro j hj
 obtain ⟨g',cap',hv,_,_,hc,_⟩ := h.at (by intro e; have := congrArg List.length e; rw [digL_len] at this; simp at this; omega)
 simp only [Value.slice.injEq,Option.some.injEq,Addr.mk.injEq,and_true] at hv
 obtain ⟨rfl,_,_⟩ := hv
 rw [hc j (by rw [digL_len]; exact hj),digL_get _ _ _ _ hj]
set_option maxHeartbeats 4000000 in
set_option maxRecDepth 100000 in
theorem embed_any {D E : FD} (hD : D ∈ fieldsL) (hE : E ∈ fieldsL) (w : World) (h : E.p = D.p ∧ D.m % E.m = 0) :
   Calls Tryz.prog 87 #[.int .i64 E.q, .int .i64 D.q] w fun e w' => ∃ v,e = .returned (.tuple #[v, .int .i64 0]) ∧ OwnI w.heap.size v (D.embL E) w' ∧ Below w.heap.size w w' := by
 have HN : Hid (D ∈ fieldsL ∧ E ∈ fieldsL ∧ E.p = D.p ∧ D.m % E.m = 0) := ⟨hD,hE,h⟩
 have hd : decide (E.p = D.p ∧ D.m % E.m = 0) = true := decide_eq_true h
 have hq2 := (fld hE).q2
 have hq64 := (fld hE).q64
 have hQ64 := (fld hD).q64
 have hm6 := (fld hE).m6
 have hm1 := (fld hE).m1
 clear h hE hD
 go_enter Tryz.func87,Tryz.ntmps87
 go_wp2_with fail
 refine (new_any HN.out.2.1 w).mono ?_
 rintro e w1 ⟨F2,T2,g2,rfl,hat,hF2,hT2,hb1⟩
 have HB : Hid (FAt F2 T2 E g2 w1 ∧ Below w.heap.size w w1) := ⟨hat,hb1⟩
 clear hat hb1
 go_wp2_with fail
 refine (new_any HN.out.1 w1).mono ?_
 rintro e w2 ⟨F,T,g,rfl,hat,hF,hT,hb2⟩
 have HA : Hid (FAt F T D g w2 ∧ FAt F2 T2 E g2 w2 ∧ Below w.heap.size w w2) := ⟨hat,HB.out.1.below hb2 HB.out.1.ltF HB.out.1.ltT,bel_up HB.out.2 hb2⟩
 clear hat hb2 HB
 go_wp2_with fail
 refine (holds_any HN.out.2.1 HA.out.1 HA.out.2.1).mono ?_
 rintro e w' ⟨rfl,n,hw⟩
 rw [hd]
 have HA2 : Hid (FAt F T D g w' ∧ FAt F2 T2 E g2 w' ∧ Below w.heap.size w w') := by
   rw [hw]; exact ⟨HA.out.1.drewN n,HA.out.2.1.drewN n,below_drewN2 HA.out.2.2 n⟩
 clear hw HA
 go_wp2_with fail
 refine (rootFor_any HN.out.1 HN.out.2.1 HN.out.2.2 HA2.out.1 HA2.out.2.1).mono ?_
 rintro e w3 ⟨rfl,hb3⟩
 have HA3 : Hid (FAt F T D g w3 ∧ FAt F2 T2 E g2 w3 ∧ Below w.heap.size w w3) := ⟨HA2.out.1.below hb3 HA2.out.1.ltF HA2.out.1.ltT,HA2.out.2.1.below hb3 HA2.out.2.1.ltF HA2.out.2.1.ltT,bel_up HA2.out.2.2 hb3⟩
 clear hb3 HA2
 obtain ⟨x,hx⟩ : ∃ x,x = D.root E := ⟨_,rfl⟩
 rw [← hx]
 have hxq : x < D.q := by rw [hx]; exact root_lt HN.out.1
 have HX : Hid (x = D.root E) := hx
 clear hx
 go_wp2_with (at_make; refine make_int rfl _ _ rfl _ E.q rfl rfl rfl (by omega) ?_; intro w4 hown4 hgrow4)
 have hb4 : Below w3.heap.size w3 w4 := below_grown hgrow4 (Nat.le_refl _) (fun k hk => by simp at hk)
 obtain ⟨gl,cl,fl,hvl,hgl,hgl',hll,hcl,hrl,hfl⟩ := hown4.row E.q (by simp) (by omega)
 simp only [Value.slice.injEq,Option.some.injEq,Addr.mk.injEq,and_true,true_and] at hvl
 obtain ⟨rfl,rfl⟩ := hvl
 have HA4 : Hid (FAt F T D g w4 ∧ FAt F2 T2 E g2 w4 ∧ Below w.heap.size w w4 ∧ RowF w3.heap.size E.q 3 fl w4 ∧ Below w3.heap.size w3 w4 ∧ FAt F T D g w3 ∧ FAt F2 T2 E g2 w3 ∧ Below w.heap.size w w3) :=
   ⟨HA3.out.1.below hb4 HA3.out.1.ltF HA3.out.1.ltT,HA3.out.2.1.below hb4 HA3.out.2.1.ltF HA3.out.2.1.ltT,bel_up HA3.out.2.2 hb4,hrl,hb4,HA3.out⟩
 have hsz3 := HA3.out.2.2.size
 clear hown4 hgrow4 hrl hfl hgl hll hcl hb4 HA3
 go_loopw [39] (fun i wr => ∃ (a : Nat) (f : Nat → Value),a ≤ E.q ∧ i = .int .i64 a ∧ RowF w3.heap.size E.q 3 f wr ∧ (∀ t,t < a → f t = .int .i64 (D.val (fun j => dg E.p t j) E.m x E.m : Nat)) ∧ Below w3.heap.size w3 wr) (fun i _ => E.q - (intOf i).toNat)
 case atStart => exact ⟨0,fl,by omega,rfl,HA4.out.2.2.2.1,fun t ht => by omega,HA4.out.2.2.2.2.1⟩
 case round =>
   obtain ⟨a,f,ha,rfl,hrow,hf,hbel⟩ := hrel
   have HG : Hid (FAt F T D g wr ∧ FAt F2 T2 E g2 wr ∧ RowF w3.heap.size E.q 3 f wr ∧ (∀ t,t < a → f t = .int .i64 (D.val (fun j => dg E.p t j) E.m x E.m : Nat)) ∧ Below w3.heap.size w3 wr) :=
     ⟨HA4.out.2.2.2.2.2.1.below hbel HA4.out.2.2.2.2.2.1.ltF HA4.out.2.2.2.2.2.1.ltT,HA4.out.2.2.2.2.2.2.1.below hbel HA4.out.2.2.2.2.2.2.1.ltF HA4.out.2.2.2.2.2.2.1.ltT,hrow,hf,hbel⟩
   clear hrow hf hbel
   by_cases hlt : a < E.q
   · have hp2 := HG.out.2.1.ptr
     have hrsz := HG.out.2.2.2.2.size
     have hgl4 : w3.heap.size < wr.heap.size := HG.out.2.2.1.lt
     go_wp2_with fail
     refine (tdigits_any HN.out.2.1 HG.out.2.1 a (by omega)).mono ?_
     rintro e w5 ⟨v,rfl,hown5,hb5⟩
     obtain ⟨gd,cd,fd,hvd,hgd⟩ := hown5.row E.m (digL_len _ _ _) (by omega)
     subst hvd
     obtain ⟨y,hy⟩ : ∃ y,y = D.val (fun j => dg E.p a j) E.m x E.m := ⟨_,rfl⟩
     have HC : Hid (Calls Tryz.prog 115 #[.pointer (some ⟨F,0,none⟩), .slice (some ⟨gd,0,none⟩) E.m cd, .int .i64 x] w5 fun e w' => e = .returned (.int .i64 (y : Nat)) ∧ ∃ n,w' = w5.drewN n) := by
       rw [hy]
       exact at_any HN.out.1 (HG.out.1.below hb5 HG.out.1.ltF HG.out.1.ltT) gd cd E.m x _ hxq (by omega) (fun j => dg_ltq HN.out.1 HN.out.2.1 HN.out.2.2.1 a j) (nums_digL hm1 hown5)
     have HY : Hid (y = D.val (fun j => dg E.p a j) E.m x E.m) := hy
     have HB5 : Hid (Below wr.heap.size wr w5) := hb5
     clear hy hown5 hb5 hgd
     go_wp2_with fail
     refine HC.out.mono ?_
     rintro e w6 ⟨rfl,n6,hw6⟩
     have HB6 : Hid (RowF w3.heap.size E.q 3 f w6 ∧ Below w3.heap.size w3 w6) := by
       have hb : Below wr.heap.size wr w6 := by rw [hw6]; exact below_drewN2 HB5.out _
       exact ⟨HG.out.2.2.1.below hb hgl4,HG.out.2.2.2.2.trans (hb.mono hrsz)⟩
     clear hw6 HC HB5
     have hcs := HB6.out.1.cell a hlt
     have hfs := HB6.out.1.free a
     go_wp2
     go_roundw
     case rel =>
       exact ⟨a + 1,_,by omega,by go_num,HB6.out.1.store _ _,fun t ht => if e : t = a then by rw [e,upd_at, ← HY.out] else (upd_ne _ _ _ e).trans (HG.out.2.2.2.1 t (by omega)),HB6.out.2.setCell (by simp) _⟩
     case measure => simp [intOf]; omega
   · have HV : Hid (OwnI w.heap.size (.slice (some ⟨w3.heap.size, 0, none⟩) E.q E.q) (D.embL E) wr) := by
       refine HG.out.2.2.1.own (by simp [FD.embL]) (fun t ht => ?_) hsz3 (by omega)
       rw [HG.out.2.2.2.1 t (by omega),HX.out]
       unfold FD.embL
       rw [List.getD_eq_getElem?_getD,List.getElem?_map,List.getElem?_range ht]
       rfl
     go_wp2
     go_ret2
     exact ⟨_,rfl,HV.out,bel_up HA4.out.2.2.2.2.2.2.2 HG.out.2.2.2.2⟩
def chkFrob (D : FD) : Bool := allB D.q fun c => D.frob1 (sumD D.p D.q 1 c) == sumD D.p D.q 1 (D.frob1 c) && decide (D.traceTo c D.m < D.p) && decide (D.normTo c D.m < D.p)
theorem chkFrob_all : fieldsL.all chkFrob = true := by decide +kernel
def FD.emb (D E : FD) (x a : Nat) : Nat := D.val (fun j => dg E.p a j) E.m x E.m
def chkEmb (D E : FD) (x : Nat) : Bool := D.emb E x 1 == 1 && D.emb E x 0 == 0 && allB E.q fun c => D.emb E x (sumD E.p E.q 1 c) == sumD D.p D.q 1 (D.emb E x c) && D.emb E x (E.st c) == D.mul (D.emb E x c) (D.emb E x E.gen) && again D.frob1 (E.m % D.m) (D.emb E x c) == D.emb E x c
theorem chkEmb_all : (fieldsL.all fun D => fieldsL.all fun E => !(D.holdsB E) || chkEmb D E (D.root E)) = true := by decide +kernel
theorem mul_zero' (D : FD) (a : Nat) : D.mul a 0 = 0 := by simp [FD.mul]
theorem zero_mul' (D : FD) (a : Nat) : D.mul 0 a = 0 := by simp [FD.mul]
theorem inv_is {D : FD} (hD : D ∈ fieldsL) {x : Nat} (hx : x < D.q) (h0 : x ≠ 0) : D.mul x (D.pw x (D.q - 2)) = 1 := by
 have h := t11 hD hx h0
 rw [inv_nat hD hx h0,mulZ_nat (fld hD) hx (pw_lt hD x _)] at h
 exact_mod_cast h
theorem part_of {D : FD} (hD : D ∈ fieldsL) {a b : Nat} (ha : a < D.q) (h0 : a ≠ 0) (hb : b < D.q) : ∃ c,c < D.q ∧ D.mul a c = b :=
 ⟨D.mul (D.pw a (D.q - 2)) b,(fld hD).mul_lt _ _,by rw [← (fld hD).mul_assoc,inv_is hD ha h0,(fld hD).mul_comm,(fld hD).mul_one b hb]⟩
theorem sum_part {D : FD} (hD : D ∈ fieldsL) {a c : Nat} (ha : a < D.q) (hc : c < D.q) : sumD D.p D.q a (D.mul a c) = D.mul a (sumD D.p D.q 1 c) := by
 rw [(fld hD).distrib a 1 c (by have := (fld hD).q2; omega) hc,(fld hD).mul_one a ha]
theorem frob1_mul {D : FD} (hD : D ∈ fieldsL) (a b : Nat) : D.frob1 (D.mul a b) = D.mul (D.frob1 a) (D.frob1 b) := by
 by_cases ha : a = 0
 · rw [ha,zero_mul',show D.frob1 0 = 0 from rfl,zero_mul']
 by_cases hb : b = 0
 · rw [hb,mul_zero',show D.frob1 0 = 0 from rfl,mul_zero']
 have h := (fld hD).mul_ne a b ha hb
 have h1 := pw_ne hD a D.p
 have h2 := pw_ne hD b D.p
 rw [FD.frob1,if_neg h.1,FD.frob1,if_neg ha,FD.frob1,if_neg hb]
 unfold FD.mul
 rw [if_neg (by omega),if_neg (by omega),h1.2,h2.2]
 have h' := h.2
 unfold FD.mul at h'
 rw [if_neg (by omega)] at h'
 unfold FD.pw
 rw [h',Nat.mul_mod,Nat.mod_mod, ← Nat.mul_mod,Nat.add_mul,Nat.add_mod]
theorem chk_frob {D : FD} (hD : D ∈ fieldsL) {c : Nat} (hc : c < D.q) : D.frob1 (sumD D.p D.q 1 c) = sumD D.p D.q 1 (D.frob1 c) ∧ D.traceTo c D.m < D.p ∧ D.normTo c D.m < D.p := by
 have h := List.all_eq_true.1 (List.all_eq_true.1 chkFrob_all D hD) c (List.mem_range.2 hc)
 simp only [Bool.and_eq_true,beq_iff_eq,decide_eq_true_eq] at h
 exact ⟨h.1.1,h.1.2,h.2⟩
theorem frob1_add {D : FD} (hD : D ∈ fieldsL) {a b : Nat} (ha : a < D.q) (hb : b < D.q) : D.frob1 (sumD D.p D.q a b) = sumD D.p D.q (D.frob1 a) (D.frob1 b) := by
 have F := fld hD
 by_cases h0 : a = 0
 · rw [h0,F.add_comm,F.sum_zero b hb,show D.frob1 0 = 0 from rfl,F.add_comm,F.sum_zero _ (frob1_lt hD b)]
 · obtain ⟨c,hc,rfl⟩ := part_of hD ha h0 hb
   rw [sum_part hD ha hc,frob1_mul hD,(chk_frob hD hc).1,frob1_mul hD,sum_part hD (frob1_lt hD a) (frob1_lt hD c)]
theorem frobK_mul {D : FD} (hD : D ∈ fieldsL) (a b : Nat) : ∀ k,again D.frob1 k (D.mul a b) = D.mul (again D.frob1 k a) (again D.frob1 k b)
 | 0 => rfl
 | k + 1 => by show D.frob1 (again D.frob1 k _) = D.mul (D.frob1 _) (D.frob1 _); rw [frobK_mul hD a b k,frob1_mul hD]
theorem frobK_add {D : FD} (hD : D ∈ fieldsL) {a b : Nat} (ha : a < D.q) (hb : b < D.q) : ∀ k,again D.frob1 k (sumD D.p D.q a b) = sumD D.p D.q (again D.frob1 k a) (again D.frob1 k b)
 | 0 => rfl
 | k + 1 => by show D.frob1 (again D.frob1 k _) = sumD D.p D.q (D.frob1 _) (D.frob1 _); rw [frobK_add hD ha hb k,frob1_add hD (frob_lt hD a ha k) (frob_lt hD b hb k)]
theorem chk_emb {D E : FD} (hD : D ∈ fieldsL) (hE : E ∈ fieldsL) (h : E.p = D.p ∧ D.m % E.m = 0) : D.emb E (D.root E) 1 = 1 ∧ D.emb E (D.root E) 0 = 0 ∧ ∀ c,c < E.q → D.emb E (D.root E) (sumD E.p E.q 1 c) = sumD D.p D.q 1 (D.emb E (D.root E) c) ∧ D.emb E (D.root E) (E.st c) = D.mul (D.emb E (D.root E) c) (D.emb E (D.root E) E.gen) ∧ again D.frob1 (E.m % D.m) (D.emb E (D.root E) c) = D.emb E (D.root E) c := by
 have k := List.all_eq_true.1 (List.all_eq_true.1 chkEmb_all D hD) E hE
 have hb : D.holdsB E = true := by simp [FD.holdsB,h.1,h.2]
 rw [hb] at k
 simp only [Bool.not_true,Bool.false_or,chkEmb,Bool.and_eq_true,beq_iff_eq] at k
 refine ⟨k.1.1,k.1.2,fun c hc => ?_⟩
 have k2 := List.all_eq_true.1 k.2 c (List.mem_range.2 hc)
 simp only [Bool.and_eq_true,beq_iff_eq] at k2
 exact ⟨k2.1.1,k2.1.2,k2.2⟩
theorem emb_lt {D E : FD} (hD : D ∈ fieldsL) (hE : E ∈ fieldsL) (h : E.p = D.p ∧ D.m % E.m = 0) (a : Nat) : D.emb E (D.root E) a < D.q := val_lt hD _ _ _ (fun j => dg_ltq hD hE h.1 a j) _
theorem emb_again {D E : FD} (hD : D ∈ fieldsL) (hE : E ∈ fieldsL) (h : E.p = D.p ∧ D.m % E.m = 0) (a : Nat) (ha : a < E.q) : ∀ k,again E.st k a < E.q ∧ D.emb E (D.root E) (again E.st k a) = D.mul (D.emb E (D.root E) a) (again (fun r => D.mul r (D.emb E (D.root E) E.gen)) k 1)
 | 0 => ⟨ha,((fld hD).mul_one _ (emb_lt hD hE h a)).symm⟩
 | k + 1 => by
   have i := emb_again hD hE h a ha k
   refine ⟨(fld hE).st_lt _ i.1, ?_⟩
   show D.emb E (D.root E) (E.st (again E.st k a)) = D.mul _ (D.mul (again _ k 1) _)
   rw [((chk_emb hD hE h).2.2 _ i.1).2.1,i.2,(fld hD).mul_assoc]
theorem emb_mul {D E : FD} (hD : D ∈ fieldsL) (hE : E ∈ fieldsL) (h : E.p = D.p ∧ D.m % E.m = 0) {a b : Nat} (ha : a < E.q) (hb : b < E.q) : D.emb E (D.root E) (E.mul a b) = D.mul (D.emb E (D.root E) a) (D.emb E (D.root E) b) := by
 by_cases h0 : a = 0
 · rw [h0,zero_mul',(chk_emb hD hE h).2.1,zero_mul']
 · have h1 : 1 < E.q := (fld hE).q2
   have i1 := (emb_again hD hE h 1 h1 (E.lg a)).2
   rw [((fld hE).lg_is a ha h0).2,(chk_emb hD hE h).1,(fld hD).mul_comm] at i1
   rw [(fld hE).mul_eq a b h0 hb,(emb_again hD hE h b hb (E.lg a)).2,i1,(fld hD).mul_assoc,(fld hD).mul_comm 1,(fld hD).mul_one _ (emb_lt hD hE h b),(fld hD).mul_comm]
theorem emb_add {D E : FD} (hD : D ∈ fieldsL) (hE : E ∈ fieldsL) (h : E.p = D.p ∧ D.m % E.m = 0) {a b : Nat} (ha : a < E.q) (hb : b < E.q) : D.emb E (D.root E) (sumD E.p E.q a b) = sumD D.p D.q (D.emb E (D.root E) a) (D.emb E (D.root E) b) := by
 by_cases h0 : a = 0
 · rw [h0,(fld hE).add_comm,(fld hE).sum_zero b hb,(chk_emb hD hE h).2.1,(fld hD).add_comm,(fld hD).sum_zero _ (emb_lt hD hE h b)]
 · obtain ⟨c,hc,rfl⟩ := part_of hE ha h0 hb
   rw [sum_part hE ha hc,emb_mul hD hE h ha ((fld hE).sum_lt _ _ (fld hE).q2 hc),((chk_emb hD hE h).2.2 c hc).1,emb_mul hD hE h ha hc,sum_part hD (emb_lt hD hE h a) (emb_lt hD hE h c)]
theorem emb_ne {D E : FD} (hD : D ∈ fieldsL) (hE : E ∈ fieldsL) (h : E.p = D.p ∧ D.m % E.m = 0) {a : Nat} (ha : a < E.q) (h0 : a ≠ 0) : D.emb E (D.root E) a ≠ 0 := by
 intro e
 have i := emb_mul hD hE h ha (pw_lt hE a (E.q - 2))
 rw [inv_is hE ha h0,e,zero_mul',(chk_emb hD hE h).1] at i
 cases i
theorem emb_inj {D E : FD} (hD : D ∈ fieldsL) (hE : E ∈ fieldsL) (h : E.p = D.p ∧ D.m % E.m = 0) {a b : Nat} (ha : a < E.q) (hb : b < E.q) (e : D.emb E (D.root E) a = D.emb E (D.root E) b) : a = b := by
 have F := fld hE
 have hn := F.neg_lt b hb
 have i1 := emb_add hD hE h ha hn
 have i2 := emb_add hD hE h hb hn
 rw [e, ← i2] at i1
 have hz : sumD E.p E.q b (negD E.p E.q b) = 0 := F.sum_neg b hb
 rw [hz,(chk_emb hD hE h).2.1] at i1
 by_cases k : sumD E.p E.q a (negD E.p E.q b) = 0
 · rw [F.add_comm] at k hz
   exact F.neg_uniq _ _ _ hn ha hb k hz
 · exact absurd i1 (emb_ne hD hE h (F.sum_lt _ _ ha hn) k)
set_option maxHeartbeats 2000000 in
theorem list_same {va vb : Value} {l : List Int} {w : World} (ha : SliceI va l w) (hb : SliceI vb l w) :
   Calls Tryz.prog 12 #[va, .int .i64 0,vb, .int .i64 0] w fun r w' => r = .returned (.bool true) ∧ ∃ n,w' = w.drewN n := by
 have H : Hid (SliceI va l w ∧ SliceI vb l w) := ⟨ha,hb⟩
 clear ha hb
 go_enter Tryz.func12,Tryz.ntmps12
 go_wp2_with fail
 refine (same_any H.out.1 H.out.2).mono ?_
 rintro e w' ⟨rfl,n,rfl⟩
 rw [decide_eq_true rfl]
 go_wp2
 go_ret
 exact ⟨rfl,_,rfl⟩
end Go.Proofs.YtppggchhkckobaaGreat
