/- Texts of ours, one behind the other: X18 S5 T10 X19 X20 S6 O2 O3 L11 L12 L13 L14 U23 H1 H2 H3 H4 K4 S8 Y1 Y2 Y3 S9 Y4 W10 Y5 S10 S11 Z1 Z2 Z3 Z4 Z5 Z6 Z7 Z8 Z9 Z10 Z11 Z12 Q1 Q2 W11 Q3 Q4 Q5 Q6. -/
import Derived.Test.YtppggchhkckobaaGreatZX15
import Derived.Test.YtppggchhkckobaaGreatZX11
import Derived.Test.YtppggchhkckobaaGreatZL10
import Derived.Test.YtppggchhkckobaaGreatZT1
import Derived.Test.YtppggchhkckobaaGreatZV7
import Derived.Maps.AppendAt
import Derived.Deep.AppendLies
import Derived.Test.YtppggchhkckobaaGreatZN1
import Derived.Test.YtppggchhkckobaaGreatZR10
import Derived.Test.YtppggchhkckobaaGreatZL1
import Derived.Test.YtppggchhkckobaaGreatZX3
import Derived.Test.YtppggchhkckobaaGreatZV2
import Derived.Deep.RegionHeld3
import Derived.WalkKit
namespace Go.Proofs.YtppggchhkckobaaGreat
open Go.RowKit
def RL (v : Value) (k n : Nat) (R : Nat → Nat → Nat) (w : World) : Prop := ∃ ao ca,v = .slice ao k ca ∧ ∀ i,i < k → ∃ b off x cx,ao = some ⟨b,off,none⟩ ∧ w.cell? ⟨b,off + i,none⟩ = some (.slice x n cx) ∧ Sl x n (R i) w
theorem RL.below {v : Value} {k n : Nat} {R : Nat → Nat → Nat} {w w' : World} (h : RL v k n R w) (hb : Below w.heap.size w w') : RL v k n R w' := by
 obtain ⟨ao,ca,e,h⟩ := h
 refine ⟨ao,ca,e,fun i hi => ?_⟩
 obtain ⟨b,off,x,cx,e1,hc,hs⟩ := h i hi
 exact ⟨b,off,x,cx,e1,((bcell hb).1 b (off + i) (cell_lt hc)).trans hc,slz_below hs hb⟩
theorem RL.congr {v : Value} {k n : Nat} {R R' : Nat → Nat → Nat} {w : World} (h : RL v k n R w) (e : ∀ i,i < k → R i = R' i) : RL v k n R' w := by
 obtain ⟨ao,ca,e1,h⟩ := h
 exact ⟨ao,ca,e1,fun i hi => by rw [← e i hi]; exact h i hi⟩
theorem Mx.rl {B G m k j n : Nat} {R : Nat → Nat → Nat} {h : Nat → Nat} {w : World} (H : Mx B G m k n R h w) (hj : j ≤ k) (mc : Nat) : RL (.slice (some ⟨G,0,none⟩) j mc) j n R w :=
 ⟨_,_,rfl,fun i hi => ⟨G,0,_,n,rfl,by rw [Nat.zero_add]; exact H.cell i (by omega),(H.row i (by omega)).sl (Nat.le_refl _)⟩⟩
theorem LLs.rl {base : Nat} {v : Value} {k n : Nat} {R : Nat → Nat → Nat} {w : World} (h : LLs base v (rl k n R) w) : RL v k (n + 1) R w := by
 obtain ⟨ro,rc,vs,rfl,hw⟩ := h.rws
 refine ⟨ro,rc,rfl,fun i hi => ?_⟩
 obtain ⟨g,e,hc,_⟩ := hw.cell i hi
 obtain ⟨x,cx,e2,hs,_⟩ := (hw.row i hi).rwv
 exact ⟨g,0,x,cx,e,by rw [Nat.zero_add, ← e2]; exact hc,hs⟩
def RLz (v : Value) (k n : Nat) (R : Nat → Nat → Nat) (w : World) : Prop := ∃ ao ca A C,v = .slice ao k ca ∧ MatZ ao k A (fun _ => n) C (fun i j => ((R i j : Nat) : Int)) w
theorem RLz.rl {v : Value} {k n : Nat} {R : Nat → Nat → Nat} {w : World} (h : RLz v k n R w) : RL v k n R w := by
 obtain ⟨ao,ca,A,C,e,h⟩ := h
 refine ⟨ao,ca,e,fun i hi => ?_⟩
 obtain ⟨b,off,e1,hc⟩ := h.cell i hi
 exact ⟨b,off,A i,C i,e1,hc,h.sl i hi⟩
theorem RLz.nil (n : Nat) (R : Nat → Nat → Nat) (w : World) : RLz (.slice none 0 0) 0 n R w := ⟨none,0,fun _ => none,fun _ => 0,rfl,⟨fun i hi => by omega,fun i hi => by omega,fun i hi => by omega,fun i hi => by omega,fun i hi => by omega,fun i hi => by omega⟩⟩
theorem Mx.rlz {B G m k j n : Nat} {R : Nat → Nat → Nat} {h : Nat → Nat} {w : World} (H : Mx B G m k n R h w) (hj : j ≤ k) (hn : n ≤ 1000000) (mc : Nat) : RLz (.slice (some ⟨G,0,none⟩) j mc) j n R w :=
 ⟨_,_,fun i => some ⟨h i,0,none⟩,fun _ => n,rfl,⟨fun i hi => ⟨G,0,rfl,by rw [Nat.zero_add]; exact H.cell i (by omega)⟩,fun i hi => (H.row i (by omega)).sl (Nat.le_refl _),fun _ _ => Nat.le_refl _,fun _ _ => by omega,fun _ _ e => (by cases e),fun _ _ => hn⟩⟩
theorem LLs.rlz {base : Nat} {v : Value} {k n : Nat} {R : Nat → Nat → Nat} {w : World} (h : LLs base v (Go.Proofs.YtppggchhkckobaaGreat.rl k n R) w) (hn : n + 1 ≤ 1000000) : RLz v k (n + 1) R w := by
 obtain ⟨ro,rc,vs,rfl,hw⟩ := h.rws
 have key : ∀ i,i < k → ∃ x cx,vs i = .slice x (n + 1) cx ∧ Sl x (n + 1) (R i) w ∧ LtB x w.heap.size ∧ (x = none → cx = 0) ∧ n + 1 ≤ cx ∧ cx ≤ 9223372036854775807 := fun i hi => (hw.row i hi).rwv
 refine ⟨ro,rc,fun i => match vs i with | .slice a _ _ => a | _ => none,fun i => match vs i with | .slice _ _ c => c | _ => 0,rfl,⟨fun i hi => ?_,fun i hi => ?_,fun i hi => ?_,fun i hi => ?_,fun i hi => ?_,fun _ _ => hn⟩⟩
 · obtain ⟨g,e,hc,_⟩ := hw.cell i hi
   obtain ⟨x,cx,e2,_⟩ := key i hi
   exact ⟨g,0,e,by rw [Nat.zero_add,hc,e2]⟩
 · obtain ⟨x,cx,e2,hs,_⟩ := key i hi
   simp only [e2]; exact hs
 · obtain ⟨x,cx,e2,_,_,_,h1,_⟩ := key i hi
   simp only [e2]; exact h1
 · obtain ⟨x,cx,e2,_,_,_,_,h1⟩ := key i hi
   simp only [e2]; exact h1
 · obtain ⟨x,cx,e2,_,_,h1,_⟩ := key i hi
   simp only [e2]; exact h1
def MV (B : Nat) (v : Value) (k n : Nat) (R : Nat → Nat → Nat) (w : World) : Prop := (k = 0 ∧ ∃ ao ca,v = .slice ao 0 ca) ∨ ∃ G mc m h,v = .slice (some ⟨G,0,none⟩) k mc ∧ Mx B G m k n R h w
theorem MV.rlz {B : Nat} {v : Value} {k n : Nat} {R : Nat → Nat → Nat} {w : World} (h : MV B v k n R w) (hn : n ≤ 1000000) : RLz v k n R w := by
 rcases h with ⟨e,ao,ca,ev⟩ | ⟨G,mc,m,hh,ev,hm⟩
 · rw [e,ev]
   exact ⟨ao,ca,fun _ => none,fun _ => 0,rfl,⟨fun i hi => by omega,fun i hi => by omega,fun i hi => by omega,fun i hi => by omega,fun i hi => by omega,fun i hi => by omega⟩⟩
 · rw [ev]; exact hm.rlz (Nat.le_refl _) hn mc
theorem MV.rl {B : Nat} {v : Value} {k n : Nat} {R : Nat → Nat → Nat} {w : World} (h : MV B v k n R w) : RL v k n R w := by
 rcases h with ⟨e,ao,ca,ev⟩ | ⟨G,mc,m,hh,ev,hm⟩
 · rw [e,ev]
   exact ⟨ao,ca,rfl,fun i hi => by omega⟩
 · rw [ev]; exact hm.rl (Nat.le_refl _) mc
theorem MV.below {B : Nat} {v : Value} {k n : Nat} {R : Nat → Nat → Nat} {w w' : World} (h : MV B v k n R w) (hb : Below w.heap.size w w') : MV B v k n R w' := by
 rcases h with h | ⟨G,mc,m,hh,ev,hm⟩
 · exact Or.inl h
 · exact Or.inr ⟨G,mc,m,hh,ev,hm.below hb⟩
theorem RL.nil (n : Nat) (R : Nat → Nat → Nat) (w : World) : RL (.slice none 0 0) 0 n R w := ⟨none,0,rfl,fun i hi => by omega⟩
set_option maxHeartbeats 2000000 in
set_option maxRecDepth 100000 in
theorem indexNil_any {fv : Value} {w : World} :
   Calls Tryz.prog 156 #[.slice none 0 0,fv] w fun e w' => w' = w ∧ e = .returned (.int .i64 (-1)) := by
 go_enter Tryz.func156,Tryz.ntmps156
 go_wp2
 refine wp_loop_rounds 1 ?_
 rw [rounds_succ]
 go_wp2
 go_ret
 exact ⟨rfl,rfl⟩
set_option maxHeartbeats 2000000 in
set_option maxRecDepth 100000 in
theorem reduceNil_any {pf : Value} {cols : Nat} {w : World} (hc : cols ≤ 1000000) :
   Calls Tryz.prog 140 #[pf, .slice none 0 0, .int .i64 cols] w fun e w' => e = .returned (.slice none 0 0) ∧ Below w.heap.size w w' := by
 go_enter Tryz.func140,Tryz.ntmps140
 go_wp2
 go_loopw [7,12] (fun pv i wr => ∃ c : Nat,c ≤ cols ∧ pv = .slice none 0 0 ∧ i = .int .i64 c ∧ Hid (Below w.heap.size w wr)) (fun _ i _ => cols - (intOf i).toNat)
 case atStart => exact ⟨0,by omega,rfl,rfl,Below.refl _ _⟩
 case round =>
   obtain ⟨c,hc,rfl,rfl,HG⟩ := hrel
   rename World => wA
   by_cases hlt : c < cols
   · have hib : (c : Int) < (cols : Int) := by omega
     have HS : Hid (∀ o,Below w.heap.size w (wA.alloc o)) := fun o => HG.out.alloc HG.out.size _
     go_wp2_with (go_at_call 156; refine indexNil_any.mono ?_; rintro e w2 ⟨hw,rfl⟩; have hw := hw.symm; subst hw)
     go_roundw
     case rel => exact ⟨c + 1,by omega,rfl,by go_num,HS.out _⟩
     case measure => simp [intOf]; omega
   · go_wp2
     go_ret
     exact ⟨rfl,HG.out⟩
theorem Mx.any {B G m n n' : Nat} {R : Nat → Nat → Nat} {h : Nat → Nat} {w : World} (H : Mx B G m 0 n R h w) : Mx B G m 0 n' R h w :=
 ⟨by obtain ⟨f,hf,_⟩ := H.outer; exact ⟨f,hf,fun i hi => by omega⟩,fun i hi => by omega,H.geG,fun i hi => by omega,fun i hi => by omega,fun i hi => by omega,H.le⟩
set_option maxHeartbeats 8000000 in
set_option maxRecDepth 100000 in
theorem mnull_any {D : FD} (hD : D ∈ fieldsL) {ao : Option Addr} {m ca : Nat} {A : Nat → Option Addr} {N C : Nat → Nat} {Z : Nat → Nat → Int} {w : World} (ha : MatZ ao m A N C Z w) (hm : m ≤ 1000000) :
   Calls Tryz.prog 143 #[.int .i64 D.q, .slice ao m ca] w fun e w' => Below w.heap.size w w' ∧
     ((D.mchk m N Z ≠ 0 ∧ e = .returned (.tuple #[.slice none 0 0, .int .i64 (D.mchk m N Z)])) ∨
      (D.mchk m N Z = 0 ∧ ∃ v k R p k2 R2 p2 W,e = .returned (.tuple #[v, .int .i64 0]) ∧ (m = 0 → W = 0) ∧ (0 < m → W = N 0) ∧ RRE D W k R p ∧ (∀ v,Spn D (RowsOf k R) v ↔ Spn D (RowsOf m (mzc N Z)) v) ∧
        MV w.heap.size v (nct k p W) W R2 w' ∧ k2 ≤ nct k p W ∧ RRE D W k2 R2 p2 ∧ (∀ v,Spn D (RowsOf k2 R2) v ↔ Spn D (RowsOf (nct k p W) (nul D R p k W)) v))) := by
 have HA : Hid (D ∈ fieldsL ∧ MatZ ao m A N C Z w) := ⟨hD,ha⟩
 clear hD ha
 go_enter Tryz.func143,Tryz.ntmps143
 go_wp2_with fail
 refine (mover1_any HA.out.1 HA.out.2 hm).mono ?_
 rintro e w1 ⟨hb1,hr⟩
 rcases hr with ⟨h0,F,T,f,rfl,hat,hF,hT⟩ | ⟨h0,rfl⟩
 · have HW : Hid (D.mchk m N Z = 0 ∧ FAt F T D f w1 ∧ Below w.heap.size w w1 ∧ MatZ ao m A N C Z w1) := ⟨h0,hat,hb1,HA.out.2.below hb1⟩
   clear h0 hat hF hT hb1
   obtain ⟨n,Wd,HN⟩ : ∃ n Wd,Hid (n ≤ 64 ∧ Wd ≤ n + 1 ∧ m ≤ 64 ∧ Wd = (if m = 0 then 0 else N 0) ∧ (0 < m → n + 1 = N 0) ∧ (∀ i,i < m → El D (mzc N Z i) ∧ Bd (n + 1) (mzc N Z i)) ∧ MatR ao m n (mzc N Z) w1) := by
     by_cases hm0 : m = 0
     · exact ⟨0,0,⟨by omega,by omega,by omega,by rw [if_pos hm0],fun h => by omega,fun i hi => by omega,fun i hi => by omega⟩⟩
     · obtain ⟨h1,n,h2,h3,h4,h5⟩ := mchk_rows (fld HA.out.1) HW.out.1 HW.out.2.2.2 (by omega)
       exact ⟨n,n + 1,⟨by omega,by omega,h1,by rw [if_neg hm0,h2],fun _ => h2.symm,fun i hi => (h4 i hi).2,h5⟩⟩
   have hn64 := HN.out.1
   have hWd := HN.out.2.1
   have hm64 := HN.out.2.2.1
   go_wp2_with fail
   refine (wider_any (more := 0) HN.out.2.2.2.2.2.2 (fun i hi => (HN.out.2.2.2.2.2.1 i hi).2) (by omega) (by omega) (by omega)).mono ?_
   rintro e w2 ⟨rfl,⟨h,hmx⟩,hb2⟩
   have H2 : Hid (Mx w1.heap.size w1.heap.size m m (n + 1) (mzc N Z) h w2 ∧ Below w1.heap.size w1 w2) := ⟨hmx,hb2⟩
   clear hmx hb2
   have HCw : Hid (∀ wX,Below w1.heap.size w1 wX → Calls Tryz.prog 141 #[.slice ao m ca] wX fun e w' => e = .returned (.int .i64 (Wd : Int)) ∧ w' = wX) := fun wX hX => by
     have h := width_any (ca := ca) (HW.out.2.2.2.below hX)
     rw [← HN.out.2.2.2.1] at h; exact h
   go_wp2_with (go_at_call 141; refine (HCw.out _ H2.out.2).mono ?_; rintro e w' ⟨rfl,hw⟩; have hw := hw.symm; subst hw)
   refine (reduce_any HA.out.1 (HW.out.2.1.below H2.out.2 HW.out.2.1.ltF HW.out.2.1.ltT) HW.out.2.1.ltF HW.out.2.1.ltT H2.out.1 (by omega) (by omega) (fun i hi => (HN.out.2.2.2.2.2.1 i hi).1) (fun i hi => (HN.out.2.2.2.2.2.1 i hi).2) hWd).mono ?_
   rintro e w3 ⟨k,R',p,h',pv,rfl,hst⟩
   obtain ⟨po,pc,rfl,_⟩ := hst.own.argL
   have hs1 := HW.out.2.2.1.size
   have hs2 := H2.out.2.size
   have hb13 : Below w1.heap.size w1 w3 := H2.out.2.trans hst.bel
   have H3 : Hid (Mx w1.heap.size w1.heap.size m m Wd R' h' w3 ∧ OwnI w2.heap.size (.slice po k pc) (zl k fun j => ((p j : Nat) : Int)) w3 ∧ RRE D Wd k R' p ∧ (∀ v,Spn D (RowsOf k R') v ↔ Spn D (RowsOf m (mzc N Z)) v) ∧ Below w1.heap.size w1 w3 ∧ (∀ i,i < m → El D (R' i))) := by
     refine ⟨?_,hst.own, ?_⟩
     · by_cases hm0 : m = 0
       · subst hm0
         exact hst.mx.any
       · have : Wd = n + 1 := by rw [HN.out.2.2.2.1,if_neg hm0,HN.out.2.2.2.2.1 (by omega)]
         rw [this]; exact hst.mx
     · by_cases hm0 : m = 0
       · have hk0 : k = 0 := by have := hst.rdg.le; omega
         refine ⟨⟨fun i hi => by omega,fun i hi => by omega,fun i hi => by omega,fun i j _ hj => by omega,fun i hi => by omega,fun i j hi => by omega,fun i c hi => by omega⟩,fun v => ?_,hb13,hst.rdg.el⟩
         constructor
         · exact fun h => spn_le (fld HA.out.1) (fun u ⟨i,hi,_⟩ => by omega) h
         · exact fun h => spn_le (fld HA.out.1) (fun u ⟨i,hi,_⟩ => by omega) h
       · have hR := hst.rdg
         have hWe : Wd = n + 1 := by rw [HN.out.2.2.2.1,if_neg hm0,HN.out.2.2.2.2.1 (by omega)]
         rw [hWe] at hR
         obtain ⟨h1,_,h2⟩ := rdg_end (fld HA.out.1) hR
         rw [hWe]
         exact ⟨h1,fun v => (h2 v).trans (hst.spn v),hb13,hst.rdg.el⟩
   have hkm : k ≤ m := hst.rdg.le
   clear hst hb13
   go_wp2_with (go_at_call 141; refine (HCw.out _ H3.out.2.2.2.2.1).mono ?_; rintro e w' ⟨rfl,hw⟩; have hw := hw.symm; subst hw)
   have hs3 := H3.out.2.2.2.2.1.size
   have hF1 := HW.out.2.1.ltF
   have hT1 := HW.out.2.1.ltT
   refine (madeNought_any HA.out.1 (HW.out.2.1.below H3.out.2.2.2.2.1 hF1 hT1) (by omega) (by omega) H3.out.1 (by omega) (by omega) hkm H3.out.2.2.2.2.2 H3.out.2.1 H3.out.2.2.1.lt).mono ?_
   rintro e w4 ⟨v,h2,rfl,hns,hnil,hb4⟩
   have H4 : Hid (NSt w3.heap.size Wd (nct k p Wd) (nul D R' p k Wd) v h2 w4 ∧ (nct k p Wd = 0 → v = .slice none 0 0) ∧ Below w3.heap.size w3 w4 ∧ Below w1.heap.size w1 w4) := ⟨hns,hnil,hb4,H3.out.2.2.2.2.1.trans (hb4.mono hs3)⟩
   clear hns hnil hb4
   have hcle := nct_le k p Wd
   by_cases hc0 : nct k p Wd = 0
   · have hv := H4.out.2.1 hc0
     subst hv
     go_wp2_with (go_at_call 141; refine (HCw.out _ H4.out.2.2.2).mono ?_; rintro e w' ⟨rfl,hw⟩; have hw := hw.symm; subst hw)
     refine (reduceNil_any (by omega)).mono ?_
     rintro e w5 ⟨rfl,hb5⟩
     have H5 : Hid (Below w.heap.size w w5) := (HW.out.2.2.1.trans (H4.out.2.2.2.mono hs1)).trans (hb5.mono (by have := H4.out.2.2.2.size; omega))
     clear hb5
     go_wp2
     go_ret2
     refine ⟨H5.out,Or.inr ⟨HW.out.1,_,k,R',p,0,fun _ => pnil,fun _ => 0,Wd,rfl,fun h => by rw [HN.out.2.2.2.1,if_pos h],fun h => by rw [HN.out.2.2.2.1,if_neg (by omega)],H3.out.2.2.1,H3.out.2.2.2.1,Or.inl ⟨hc0,_,_,rfl⟩,by omega,⟨fun i hi => by omega,fun i hi => by omega,fun i hi => by omega,fun i j _ hj => by omega,fun i hi => by omega,fun i j hi => by omega,fun i c hi => by omega⟩,fun v => ?_⟩⟩
     rw [hc0]
     exact ⟨fun h => spn_le (fld HA.out.1) (fun u ⟨i,hi,_⟩ => by omega) h,fun h => spn_le (fld HA.out.1) (fun u ⟨i,hi,_⟩ => by omega) h⟩
   · obtain ⟨G2,mc2,rfl,hmx2⟩ := H4.out.1.mx (by omega)
     have H4' : Hid (Mx w3.heap.size G2 mc2 (nct k p Wd) Wd (nul D R' p k Wd) h2 w4) := hmx2
     clear hmx2
     obtain ⟨cnt,hcnt⟩ : ∃ cnt,cnt = nct k p Wd := ⟨_,rfl⟩
     rw [← hcnt] at H4' hcle hc0 ⊢
     have HCt : Hid (cnt = nct k p Wd) := hcnt
     clear hcnt
     go_wp2_with (go_at_call 141; refine (HCw.out _ H4.out.2.2.2).mono ?_; rintro e w' ⟨rfl,hw⟩; have hw := hw.symm; subst hw)
     refine (reduce_any HA.out.1 (HW.out.2.1.below H4.out.2.2.2 hF1 hT1) (by omega) (by omega) H4'.out (by omega) (by omega) (fun i hi => nul_el (fld HA.out.1) H3.out.2.2.1.el _ _) (fun i hi => nul_bd H3.out.2.2.1.lt (by have := HCt.out; omega)) (Nat.le_refl _)).mono ?_
     rintro e w5 ⟨k2,R2,p2,h5,pv5,rfl,hst⟩
     have H5 : Hid (RSt D w3.heap.size G2 mc2 cnt Wd (nul D R' p k Wd) w4 Wd k2 R2 p2 h5 pv5 w5) := hst
     clear hst
     go_wp2
     go_ret2
     obtain ⟨hr1,_,hr2⟩ := rdg_end (fld HA.out.1) H5.out.rdg
     refine ⟨(HW.out.2.2.1.trans (H4.out.2.2.2.mono hs1)).trans (H5.out.bel.mono (by omega)),Or.inr ⟨HW.out.1,_,k,R',p,k2,R2,p2,Wd,rfl,fun h => by rw [HN.out.2.2.2.1,if_pos h],fun h => by rw [HN.out.2.2.2.1,if_neg (by omega)],H3.out.2.2.1,H3.out.2.2.2.1, ?_, ?_,hr1,fun v => ?_⟩⟩
     · rw [← HCt.out]; exact Or.inr ⟨_,_,_,_,rfl,H5.out.mx.mono (by omega)⟩
     · rw [← HCt.out]; exact H5.out.rdg.le
     · rw [← HCt.out]; exact (hr2 v).trans (H5.out.spn v)
 · have HW : Hid (D.mchk m N Z ≠ 0 ∧ Below w.heap.size w w1) := ⟨h0,hb1⟩
   obtain ⟨e,he⟩ : ∃ e,e = D.mchk m N Z := ⟨_,rfl⟩
   rw [← he] at h0 ⊢
   have hz : (e != 0) = true := by rw [bne_iff_ne]; exact h0
   have HE : Hid (e = D.mchk m N Z) := he
   clear h0 hb1 he
   go_wp2
   go_ret2
   exact ⟨HW.out.2,Or.inl ⟨HW.out.1,by rw [← HE.out]; rfl⟩⟩
end Go.Proofs.YtppggchhkckobaaGreat
namespace Go.Proofs.YtppggchhkckobaaGreat
end Go.Proofs.YtppggchhkckobaaGreat
namespace Go.Proofs.YtppggchhkckobaaGreat
open Go.RowKit Go.Sort
theorem OwnI.elm {base : Nat} {v : Value} {n : Nat} {c : Nat → Nat} {w : World} (h : OwnI base v (zl (n + 1) fun j => ((c j : Nat) : Int)) w) : Elm v (n,c) w := by
 have h1 := h.ownC c (fun k hk => by rw [zl_len] at hk; rw [zl_getD _ _ k hk])
 rw [zl_len] at h1
 exact h1.elm
end Go.Proofs.YtppggchhkckobaaGreat
namespace Go.Proofs.YtppggchhkckobaaGreat
open Go.RowKit
end Go.Proofs.YtppggchhkckobaaGreat
namespace Go.Proofs.YtppggchhkckobaaGreat
theorem rdg_ex {D : FD} (hD : D ∈ fieldsL) {m n : Nat} {R : Nat → Nat → Nat} (he : ∀ i,i < m → El D (R i)) (hb : ∀ i,i < m → Bd n (R i)) : ∀ c, ∃ k R' p,Rdg D m n c k R' p ∧ ∀ v,Spn D (RowsOf m R') v ↔ Spn D (RowsOf m R) v
 | 0 => ⟨0,R,fun _ => 0,rdg_start he hb _,fun _ => Iff.rfl⟩
 | c + 1 => by
   obtain ⟨k,R',p,h,hs⟩ := rdg_ex hD he hb c
   by_cases hx : ∃ i,k ≤ i ∧ i < m ∧ R' i c ≠ 0
   · obtain ⟨b,h1,h2,h3⟩ := hx
     have hk : k < m := by omega
     have hw := rdg_swap h h1 h2
     have h0 : swpR R' k b k c ≠ 0 := by unfold swpR; rw [if_pos rfl]; exact h3
     exact ⟨k + 1,_,_,rdg_clear hD hw hk h0,fun v => by rw [spn_clear hD hk hw.el h0 v,spn_swap (fld hD) hk h2 h.el v]; exact hs v⟩
   · exact ⟨k,R',p,rdg_skip h (fun i h1 h2 => Classical.byContradiction fun h3 => hx ⟨i,h1,h2,h3⟩),hs⟩
theorem rre_ex {D : FD} (hD : D ∈ fieldsL) {m n : Nat} {R : Nat → Nat → Nat} (he : ∀ i,i < m → El D (R i)) (hb : ∀ i,i < m → Bd n (R i)) : ∃ k R' p,k ≤ m ∧ RRE D n k R' p ∧ ∀ v,Spn D (RowsOf k R') v ↔ Spn D (RowsOf m R) v := by
 obtain ⟨k,R',p,h,hs⟩ := rdg_ex hD he hb n
 obtain ⟨h1,_,h2⟩ := rdg_end (fld hD) h
 exact ⟨k,R',p,h.le,h1,fun v => (h2 v).trans (hs v)⟩
end Go.Proofs.YtppggchhkckobaaGreat
namespace Go.Proofs.YtppggchhkckobaaGreat
open Go.ChangeShapes Go.WideShapes Go.ChangeAt Go.RowKit
end Go.Proofs.YtppggchhkckobaaGreat
namespace Go.Proofs.YtppggchhkckobaaGreat
open Go.RowKit Go.Sort
theorem sl_sliceI {x : Option Addr} {n cx : Nat} {c : Nat → Nat} {w : World} (h : Sl x n c w) (hn : n ≤ 1000000) : SliceI (.slice x n cx) (zl n fun j => ((c j : Nat) : Int)) w := by
 by_cases h0 : n = 0
 · subst h0
   exact Or.inl ⟨rfl,x,cx,rfl⟩
 · obtain ⟨b,off,e,_⟩ := h 0 (by omega)
   refine Or.inr ⟨fun e => ?_,by rw [zl_len]; exact hn,b,off,cx,by rw [zl_len,e],fun j hj => ?_⟩
   · have := congrArg List.length e
     rw [zl_len] at this
     exact h0 this
   · rw [zl_len] at hj
     obtain ⟨b',off',e',hc⟩ := h j hj
     rw [e] at e'
     cases e'
     rw [zl_getD n _ j hj]; exact hc
set_option maxHeartbeats 2000000 in
set_option maxRecDepth 100000 in
theorem sameAll_rl {va vb : Value} {k n : Nat} {R : Nat → Nat → Nat} {w : World} (ha : RL va k n R w) (hb : RL vb k n R w) (hk : k ≤ 1000000) (hn : n ≤ 1000000) :
   Calls Tryz.prog 34 #[va,vb] w fun e w' => e = .returned (.bool true) ∧ ∃ n,w' = w.drewN n := by
 obtain ⟨ao,ca,rfl,ha⟩ := ha
 obtain ⟨bo,cb,rfl,hb⟩ := hb
 have HC : Hid ((∀ i,i < k → ∃ b off x cx,ao = some ⟨b,off,none⟩ ∧ w.cell? ⟨b,off + i,none⟩ = some (.slice x n cx) ∧ Sl x n (R i) w) ∧ ∀ i,i < k → ∃ b off x cx,bo = some ⟨b,off,none⟩ ∧ w.cell? ⟨b,off + i,none⟩ = some (.slice x n cx) ∧ Sl x n (R i) w) := ⟨ha,hb⟩
 clear ha hb
 go_enter Tryz.func34,Tryz.ntmps34
 go_wp2
 go_loopw [5] (fun i wr => ∃ r : Nat,r ≤ k ∧ i = .int .i64 r ∧ ∃ n,wr = w.drewN n) (fun i _ => k - (intOf i).toNat)
 case atStart => exact ⟨0,by omega,rfl,0,rfl⟩
 case round =>
   obtain ⟨r,hr,rfl,d,rfl⟩ := hrel
   by_cases hlt : r < k
   · obtain ⟨b,off,x,cx,rfl,hc,hs⟩ := HC.out.1 r hlt
     obtain ⟨b',off',x',cx',rfl,hc',hs'⟩ := HC.out.2 r hlt
     have HS : Hid (∀ k,Calls Tryz.prog 48 #[.slice x n cx, .slice x' n cx'] (w.drewN (d + k)) fun e w' => e = .returned (.bool true) ∧ ∃ m,w' = w.drewN (d + m)) := fun k => by
       refine (same_any (w := w.drewN (d + k)) ((sl_sliceI hs hn).drewN _) ((sl_sliceI hs' hn).drewN _)).mono ?_
       rintro e w' ⟨rfl,m,rfl⟩
       exact ⟨by rw [decide_eq_true rfl],k + m,by rw [World.drewN_drewN,Nat.add_assoc]⟩
     have hib : (r : Int) < (k : Int) := by omega
     have hib0 : (0 : Int) ≤ (r : Int) := by omega
     clear hs hs'
     go_wp2
     go_big_quiet (first | (go_at_call 48; exact HS.out _))
     go_wp2
     go_roundw
     case rel => exact ⟨r + 1,by omega,by go_num,_,by first | rfl | rw [World.drewN_drewN]⟩
     case measure => simp [intOf]; omega
   · go_wp2
     go_ret
     exact ⟨rfl,_,rfl⟩
theorem mchk_of {D : FD} {m : Nat} {N : Nat → Nat} {Z : Nat → Nat → Int} (hm : m ≤ 64) (h : ∀ i,i < m → D.mrow (N 0) (N i) (Z i) = 0) : D.mchk m N Z = 0 := by
 have key : ∀ k,k ≤ m → D.mchks N Z k = 0 := fun k => by
   induction k with
   | zero => intro _; rfl
   | succ k ih =>
     intro hk
     rw [FD.mchks,ih (by omega)]
     simp [h k (by omega)]
 unfold FD.mchk
 rw [if_neg (by omega)]
 exact key m (Nat.le_refl _)
theorem RL.open {v : Value} {k n : Nat} {R : Nat → Nat → Nat} {w : World} (h : RL v k n R w) : ∃ ao ca,v = .slice ao k ca := by
 obtain ⟨ao,ca,e,_⟩ := h
 exact ⟨ao,ca,e⟩
theorem zc_nat {n : Nat} {c : Nat → Nat} (h : Bd n c) : zc n (fun j => ((c j : Nat) : Int)) = c := by
 funext j
 unfold zc
 by_cases e : j < n
 · rw [if_pos e]; simp
 · rw [if_neg e,h j (by omega)]
theorem chk_nat {D : FD} {n : Nat} {c : Nat → Nat} (h : El D c) (hn : n ≤ 128) : D.chk n (fun j => ((c j : Nat) : Int)) = 0 := by
 unfold FD.chk
 rw [if_neg (by omega),if_pos (allHas_iff.2 (fun j _ => has_of_lt (h j)))]
theorem OwnP.arg {base n : Nat} {v : Value} {c : Nat → Nat} {w : World} (h : OwnP base v n c w) (hn : n ≤ 1000000) : ∃ so sc,v = .slice so n sc ∧ Arg so n sc (fun j => ((c j : Nat) : Int)) w := by
 obtain ⟨so,sc,rfl,h1,h2,_,h4,h5,h6⟩ := h.open
 exact ⟨so,sc,rfl,h6,h4,hn,h5,h1,h2⟩
theorem MatZ.arg {ao : Option Addr} {m : Nat} {A : Nat → Option Addr} {N C : Nat → Nat} {Z : Nat → Nat → Int} {w : World} (h : MatZ ao m A N C Z w) {j : Nat} (hj : j < m) (hN : N j ≠ 0) : Arg (A j) (N j) (C j) (Z j) w := by
 refine ⟨h.sl j hj,fun x hx => ?_,h.few j hj,h.nil j hj,h.le j hj,h.cap j hj⟩
 obtain ⟨b,off,e,hc⟩ := h.sl j hj 0 (by omega)
 rw [hx] at e
 cases e
 exact cell_lt hc
end Go.Proofs.YtppggchhkckobaaGreat
namespace Go.Proofs.YtppggchhkckobaaGreat
end Go.Proofs.YtppggchhkckobaaGreat
namespace Go.Proofs.YtppggchhkckobaaGreat
open Go.RowKit Go.Sort
theorem Arg.drewN {ao : Option Addr} {n cap : Nat} {z : Nat → Int} {w : World} (h : Arg ao n cap z w) (k : Nat) : Arg ao n cap z (w.drewN k) := ⟨h.sl,h.lt,h.few,h.nil,h.le,h.cap⟩
def ct (p : Nat → Bool) : Nat → Nat
 | 0 => 0
 | n + 1 => ct p n + if p n = true then 1 else 0
theorem ct_none {p : Nat → Bool} : ∀ n,(∀ i,i < n → p i = false) → ct p n = 0
 | 0,_ => rfl
 | n + 1,h => by
   show ct p n + (if p n = true then 1 else 0) = 0
   rw [ct_none n (fun i hi => h i (by omega)),h n (by omega)]; rfl
theorem ct_one1 {p p' : Nat → Bool} (i0 : Nat) : ∀ n,(∀ i,i < n → i ≠ i0 → p i = true → p' i = true) → ct p n ≤ ct p' n + if i0 < n then 1 else 0
 | 0,_ => by simp [ct]
 | n + 1,h => by
   show ct p n + (if p n = true then 1 else 0) ≤ ct p' n + (if p' n = true then 1 else 0) + if i0 < n + 1 then 1 else 0
   have ih := ct_one1 i0 n (fun i hi => h i (by omega))
   by_cases e : i0 = n
   · rw [if_neg (by omega)] at ih
     rw [if_pos (show i0 < n + 1 by omega)]
     split <;> split <;> omega
   · have h1 := h n (by omega) (fun x => e x.symm)
     by_cases hp : p n = true
     · rw [if_pos hp,if_pos (h1 hp)]
       by_cases hi : i0 < n
       · rw [if_pos hi] at ih; rw [if_pos (show i0 < n + 1 by omega)]; omega
       · rw [if_neg hi] at ih; split <;> omega
     · rw [if_neg hp]
       by_cases hi : i0 < n
       · rw [if_pos hi] at ih; rw [if_pos (show i0 < n + 1 by omega)]; omega
       · rw [if_neg hi] at ih; omega
theorem ct_not (p : Nat → Bool) : ∀ n,ct p n + ct (fun i => !p i) n = n
 | 0 => rfl
 | n + 1 => by
   show ct p n + (if p n = true then 1 else 0) + (ct (fun i => !p i) n + if (!p n) = true then 1 else 0) = n + 1
   have := ct_not p n
   cases p n <;> simp <;> omega
def xmr (D : FD) (r : Nat) : Nat → Nat := fun j => if j = 0 then D.ng r else if j = 1 then 1 else 0
theorem xmr_el {D : FD} (F : Fld D) {r : Nat} (hr : r < D.q) : El D (xmr D r) := fun j => by
 unfold xmr
 split
 · exact ng_lt F hr
 · split
   · exact one_lt' F
   · exact zero_lt' F
theorem xmr_bd {D : FD} (r : Nat) : Bd 2 (xmr D r) := fun j hj => by
 unfold xmr
 rw [if_neg (by omega),if_neg (by omega)]
theorem xmr_ev {D : FD} (F : Fld D) {r x : Nat} (hr : r < D.q) (hx : x < D.q) : D.ev (xmr D r) x 2 = D.sb x r := by
 show D.ad (D.ad 0 (D.mul (D.ng r) 1)) (D.mul 1 (D.mul 1 x)) = D.ad x (D.ng r)
 rw [mul1 F (ng_lt F hr),omul F (F.mul_lt _ _),omul F hx,zero_ad F (ng_lt F hr),ad_comm F]
theorem root_out {D : FD} (F : Fld D) {d : Nat → Nat} {k r : Nat} (hd : El D d) (hb : Bd (k + 1) d) (hr : r < D.q) (h0 : D.ev d r (k + 1) = 0) : ∃ Q,El D Q ∧ Bd k Q ∧ d = pmul D k Q (xmr D r) := by
 have hi : D.mul (xmr D r 1) 1 = 1 := mul1 F (one_lt' F)
 have h1 := div_is F (b := xmr D r) (l := 1) (inv := 1) k hd
 have hR := divR_bd F (xmr_el F hr) (xmr_bd r) hi k hd hb
 obtain ⟨Q,hQ⟩ : ∃ Q,Q = divQ D (xmr D r) 1 1 k d := ⟨_,rfl⟩
 obtain ⟨R,hRe⟩ : ∃ R,R = divR D (xmr D r) 1 1 k d := ⟨_,rfl⟩
 rw [← hQ, ← hRe] at h1
 rw [← hRe] at hR
 have eQ : El D Q := by rw [hQ]; exact el_divQ F k d
 have bQ : Bd k Q := by rw [hQ]; exact divQ_bd k d
 have eR : El D R := by rw [hRe]; exact el_divR F k hd
 have h2 : D.ev d r (k + 2) = 0 := by rw [ev_from F r hb (by omega)]; exact h0
 rw [← h1,ev_add F r (el_mul F _ _ _) eR,ev_mul F r (xmr_bd r) (xmr_el F hr) k (k + 2) (Nat.le_refl _),xmr_ev F hr hr,sb_self F hr,mul0 F,zero_ad F (ev_lt F _ _ _),ev_from F r hR (by omega)] at h2
 have h3 : R 0 = 0 := by
   have h2 : D.ad 0 (D.mul (R 0) 1) = 0 := h2
   rw [zero_ad F (F.mul_lt _ _),mul1 F (eR 0)] at h2; exact h2
 have h4 : R = pnil := by
   funext j
   cases j with
   | zero => exact h3
   | succ j => exact hR _ (by omega)
 refine ⟨Q,eQ,bQ, ?_⟩
 rw [h4] at h1
 rw [← h1]
 funext j
 exact ad_zero F (el_mul F _ _ _ _)
theorem few_roots {D : FD} (F : Fld D) {xs : Nat → Nat} {n : Nat} (hx : ∀ i,i < n → xs i < D.q) (hne : ∀ i j,i < n → j < n → i ≠ j → xs i ≠ xs j) : ∀ k {d : Nat → Nat},El D d → Bd k d → d ≠ pnil → ct (fun i => decide (D.ev d (xs i) k = 0)) n < k
 | 0,d,_,hb,h0 => absurd (bd_nil_of hb) h0
 | k + 1,d,hd,hb,h0 => by
   by_cases h : ∃ i,i < n ∧ D.ev d (xs i) (k + 1) = 0
   · obtain ⟨i0,hi0,hr⟩ := h
     obtain ⟨Q,eQ,bQ,hQ⟩ := root_out F hd hb (hx i0 hi0) hr
     have hQ0 : Q ≠ pnil := fun e => h0 (by
       rw [hQ,e]
       funext j
       have : ∀ m,pmul D m pnil (xmr D (xs i0)) j = 0 := fun m => by
         induction m with
         | zero => rfl
         | succ m ih =>
           show D.ad (pmul D m pnil (xmr D (xs i0)) j) (psh m (pscale D 0 (xmr D (xs i0))) j) = 0
           rw [ih]
           unfold psh pscale
           split
           · rw [zmul F,ad_zero F (zero_lt' F)]
           · rw [ad_zero F (zero_lt' F)]
       exact this k)
     have ih := few_roots F hx hne k eQ bQ hQ0
     have h1 := ct_one1 (p := fun i => decide (D.ev d (xs i) (k + 1) = 0)) (p' := fun i => decide (D.ev Q (xs i) k = 0)) i0 n (fun i hi hne' hp => by
       have hp : D.ev d (xs i) (k + 1) = 0 := of_decide_eq_true hp
       refine decide_eq_true ?_
       have h2 : D.ev d (xs i) (k + 2) = 0 := by rw [ev_from F _ hb (by omega)]; exact hp
       rw [hQ,ev_mul F _ (xmr_bd _) (xmr_el F (hx i0 hi0)) k (k + 2) (Nat.le_refl _),xmr_ev F (hx i0 hi0) (hx i hi)] at h2
       by_cases e : D.ev Q (xs i) k = 0
       · exact e
       · exfalso
         have h3 : D.sb (xs i) (xs i0) = 0 := mul_cancel F e (sb_lt F (hx i hi) (hx i0 hi0)) (zero_lt' F) (h2.trans (mul0 F _).symm)
         exact hne i i0 hi hi0 hne' (sb_eq_zero F (hx i hi) (hx i0 hi0) h3))
     rw [if_pos hi0] at h1
     omega
   · rw [ct_none n (fun i hi => decide_eq_false (fun e => h ⟨i,hi,e⟩))]
     omega
def anyB (p : Nat → Bool) : Nat → Bool
 | 0 => false
 | n + 1 => anyB p n || p n
theorem anyB_no {p : Nat → Bool} : ∀ n,(∀ j,j < n → p j = false) → anyB p n = false
 | 0,_ => rfl
 | n + 1,h => by
   show (anyB p n || p n) = false
   rw [anyB_no n (fun j hj => h j (by omega)),h n (by omega)]; rfl
theorem anyB_yes {p : Nat → Bool} {i : Nat} (h : p i = true) : ∀ n,i < n → anyB p n = true
 | 0,hi => absurd hi (by omega)
 | n + 1,hi => by
   show (anyB p n || p n) = true
   by_cases e : i = n
   · rw [← e,h,Bool.or_true]
   · rw [anyB_yes h n (by omega),Bool.true_or]
set_option maxHeartbeats 2000000 in
set_option maxRecDepth 100000 in
theorem containsFn_any {gf : Nat} {lb : Array Value} (eg : ∀ args w, (callFunc gf args).run Tryz.prog w = .ok (.enter gf args) w) {ao : Option Addr} {n cap : Nat} {z : Nat → Int} {p : Nat → Bool} {w : World}
   (hs : SlZ ao n z w) (hn : n ≤ 1000000) (hp : ∀ j,j < n → Calls Tryz.prog gf (#[.int .i64 (z j)] ++ lb) w fun e w' => e = .returned (.bool (p j)) ∧ w' = w) :
   Calls Tryz.prog 78 #[.slice ao n cap, .func (.func gf) #[] lb] w fun e w' => e = .returned (.bool (anyB p n)) ∧ w' = w := by
 have HS : Hid (∀ cap,Calls Tryz.prog 112 #[.slice ao n cap, .func (.func gf) #[] lb] w fun e w' => w' = w ∧ ∃ i : Int,e = .returned (.int .i64 i) ∧ decide (0 ≤ i) = anyB p n) := fun cap => by
   refine (indexInts_any (cap := cap) (p := p) eg hs hn hp).mono ?_
   rintro e w' ⟨rfl,⟨i,hi,hpi,_,rfl⟩ | ⟨ha,rfl⟩⟩
   · refine ⟨rfl,_,rfl, ?_⟩
     rw [anyB_yes hpi n hi]; simp
   · refine ⟨rfl,_,rfl, ?_⟩
     rw [anyB_no n ha]; rfl
 clear hs hp eg
 obtain ⟨y,hy⟩ : ∃ y,y = anyB p n := ⟨_,rfl⟩
 rw [← hy]
 have HY : Hid (y = anyB p n) := hy
 clear hy
 go_enter Tryz.func78,Tryz.ntmps78
 go_wp2_with (go_at_call 112; refine (HS.out _).mono ?_; rintro e w' ⟨hw,i,rfl,hi⟩; rw [← HY.out] at hi; have hw := hw.symm; subst hw)
 go_ret
 exact ⟨by first | rfl | simp_all,rfl⟩
theorem has_sl {D : FD} {ao : Option Addr} {n : Nat} {z : Nat → Int} {w : World} (h : ∀ j,j < n → D.has (z j) = true) (hs : SlZ ao n z w) : Sl ao n (zc n z) w := fun j hj => by
 obtain ⟨b,off,e,hc⟩ := hs j hj
 obtain ⟨t,e2,_⟩ := has_nat (h j hj)
 refine ⟨b,off,e, ?_⟩
 rw [hc]
 unfold zc
 rw [if_pos hj,e2,Int.toNat_natCast]
end Go.Proofs.YtppggchhkckobaaGreat
namespace Go.Proofs.YtppggchhkckobaaGreat
open Go.RowKit
end Go.Proofs.YtppggchhkckobaaGreat
namespace Go.Proofs.YtppggchhkckobaaGreat
open Go.RowKit Go.Sort
theorem OwnV.set {base n rc g : Nat} {ro : Option Addr} {vs : Nat → Value} {w1 : World} (hown : OwnV base (.slice ro n rc) (vl n vs) w1) (hg : ro = some ⟨g,0,none⟩) (j : Nat) (u : Value) : OwnV base (.slice ro n rc) (vl n fun i => if i = j then u else vs i) (w1.setCell ⟨g,j,none⟩ u) := by
 rcases hown.2 with ⟨h1,_⟩ | ⟨g',cap,cur,hv,hb,hh,hle,hcm,hsz,htake⟩
 · rw [hg] at h1; cases h1
 · rw [hg,vl_len] at hv
   cases hv
   have hlt := lt_of_block hh
   have h' : w1.heap[g] = .cells cur 22 (0,0) := by simpa [Array.getElem?_eq_getElem hlt] using hh
   refine ⟨by rw [vl_len]; omega,Or.inr ⟨g,rc,cur.setIfInBounds j u,by rw [hg,vl_len],hb, ?_,by rw [vl_len]; rw [vl_len] at hle; exact hle,hcm,by rw [Array.size_setIfInBounds]; exact hsz, ?_⟩⟩
   · show (w1.heap.modify g _)[g]? = _
     rw [Array.getElem?_eq_getElem (by simpa using hlt),Array.getElem_modify_self,h']
     rfl
   · rw [vl_len] at htake ⊢
     apply List.ext_getElem?
     intro i
     have h3 : (cur.toList.take (n * 1))[i]? = (vl n vs)[i]? := by rw [htake]
     rw [List.getElem?_take] at h3 ⊢
     by_cases hi : i < n * 1
     · rw [if_pos hi] at h3 ⊢
       have hik : i < n := by omega
       rw [vl_get n vs i hik] at h3
       rw [vl_get n _ i hik,Array.getElem?_toList,Array.getElem?_setIfInBounds]
       rw [Array.getElem?_toList] at h3
       by_cases e : j = i
       · rw [if_pos e,if_pos (by have := (Array.getElem?_eq_some_iff.1 h3).1; omega),if_pos e.symm]
       · rw [if_neg e,if_neg (fun x => e x.symm)]; exact h3
     · rw [if_neg hi,List.getElem?_eq_none (by rw [vl_len]; omega)]
end Go.Proofs.YtppggchhkckobaaGreat
namespace Go.Proofs.YtppggchhkckobaaGreat
open Go
def waitsB (ops : Array Oper) (L i : Nat) : Bool := ((ops[L]?).map fun o => o.after.any fun e => Region.binds .any e && e.on == i).getD false
end Go.Proofs.YtppggchhkckobaaGreat
namespace Go.Proofs.YtppggchhkckobaaGreat
open Go.RowKit Go.Sort
def FD.pn (D : FD) (a k : Nat) : Nat := (D.powZ a k).toNat
theorem pn_eq {D : FD} {a : Nat} (ha : a < D.q) (k : Nat) : D.powZ a k = (D.pn a k : Nat) := by
 have hh : D.has (a : Nat) = true := decide_eq_true ⟨by omega,by omega⟩
 have : (0 : Int) ≤ D.powZ a k := by
   unfold FD.powZ
   rw [hh,if_neg (by decide)]
   split
   · omega
   · split
     · rw [if_neg (by omega)]; omega
     · omega
 unfold FD.pn
 omega
theorem OwnI.form {base : Nat} {v : Value} {l : List Int} {w : World} (h : OwnI base v l w) : ∃ ao cap,v = .slice ao l.length cap := by
 rcases h.2 with ⟨h1,h2⟩ | ⟨g,cap,cur,hv,_⟩
 · exact ⟨none,0,by rw [h1,h2]⟩
 · exact ⟨_,cap,hv⟩
end Go.Proofs.YtppggchhkckobaaGreat
