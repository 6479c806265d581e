/- Texts of ours, one behind the other: K8 I37 S19. -/
import Derived.Test.YtinmkgohganllaaGreatDoorZI34
import Derived.Test.YtinmkgohganllaaGreatDoorZI12
import Derived.Test.YtinmkgohganllaaGreatDoorZX11
import Derived.Test.YtinmkgohganllaaGreatDoorZT1
import Derived.Test.YtinmkgohganllaaGreatDoorZU5
import Derived.Test.YtinmkgohganllaaGreatDoorZS12
namespace Go.Proofs.YtinmkgohganllaaGreatDoor
open Go.RowKit Go.Sort
theorem MkS.laid {base q c i b : Nat} {v : Value} {vs : Nat → Value} {Z : Nat → Nat → Int} {w : World} (h : MkS base q c i v vs Z w) (hb : b < base) (x y : Int) (u : Value) : MkS base q c i v vs Z (laid w b x y u) :=
 ⟨h.own.same (fun g hg => laid_heap w b x y u (by have := h.own.open_ge g hg; omega)),fun j hj => (h.row j hj).same (fun g hg => laid_heap w b x y u (by have := ((h.row j hj).lt g hg).1; omega)),h.blw⟩
set_option maxHeartbeats 8000000 in
set_option maxRecDepth 100000 in
theorem codeOf_any {ao : Option Addr} {n ca : Nat} {z : Nat → Int} (q m r : Int) {w : World} (ha : Arg ao n ca z w) (hn : n ≤ 256) (hq : I64 q) (hm : I64 m) (hr : I64 r) :
   Calls Tryz.prog 4 #[.slice ao n ca, .int .i64 q, .int .i64 m, .int .i64 r] w fun e w' => ∃ D N r' mo mc A C Z,D ∈ fieldsL ∧ D.q ≤ 8 ∧ N ≤ 12 ∧ r' ≤ 5 ∧ D.q ^ r' ≤ 4096 ∧ e = .returned (.agg #[.int .i64 D.q, .int .i64 (N : Nat), .slice mo r' mc]) ∧ CdZ D mo r' N A (fun _ => N) C Z w' ∧ Below w.heap.size w w' := by
 obtain ⟨P0,hP0,hP1⟩ := pick_nat6 (m := q) (k := 6) (by omega)
 obtain ⟨N0,hN0,hN1⟩ := pick_nat6 (m := m) (k := 12) (by omega)
 obtain ⟨D,hD,hDq,hD8⟩ := small_field P0 hP1
 have h2q := (fld hD).q2
 obtain ⟨w1,hw1⟩ : ∃ w1,w1 = (w.alloc (.cells #[.int .i64 0, .int .i64 0, .slice none 0 0] 25)).alloc (.cells #[.int .i64 2, .int .i64 2, .int .i64 3, .int .i64 4, .int .i64 5, .int .i64 8] 3) := ⟨_,rfl⟩
 have hcell : w1.cell? ⟨w.heap.size + 1,P0,none⟩ = some (.int .i64 (D.q : Nat)) := by
   rw [hw1, ← hDq]
   have : P0 = 0 ∨ P0 = 1 ∨ P0 = 2 ∨ P0 = 3 ∨ P0 = 4 ∨ P0 = 5 := by omega
   have hsz : (w.alloc (.cells #[.int .i64 0, .int .i64 0, .slice none 0 0] 25)).heap.size = w.heap.size + 1 := by simp
   rcases this with rfl | rfl | rfl | rfl | rfl | rfl <;> (rw [← hsz,cell_of_row _ _ _ _ _ (0,0) (two_new _)]; rfl)
 have HW : Hid (Below w.heap.size w w1 ∧ RB w.heap.size w1) := by
   rw [hw1]
   have h1 : Below w.heap.size w (w.alloc (.cells #[.int .i64 0, .int .i64 0, .slice none 0 0] 25)) := (Below.refl _ _).alloc (Nat.le_refl _) _
   have h2 : Below (w.alloc (.cells #[.int .i64 0, .int .i64 0, .slice none 0 0] 25)).heap.size (w.alloc (.cells #[.int .i64 0, .int .i64 0, .slice none 0 0] 25)) ((w.alloc (.cells #[.int .i64 0, .int .i64 0, .slice none 0 0] 25)).alloc (.cells #[.int .i64 2, .int .i64 2, .int .i64 3, .int .i64 4, .int .i64 5, .int .i64 8] 3)) := (Below.refl _ _).alloc (Nat.le_refl _) _
   exact ⟨bel_up' h1 h2,(RB.new _ _ _ w).keep h2⟩
 have HA : Hid (Arg ao n ca z w ∧ D ∈ fieldsL) := ⟨ha,hD⟩
 have HP1 : Hid (∀ w : World,Calls Tryz.prog 8 #[.int .i64 q, .int .i64 6] w fun e w' => e = .returned (.int .i64 P0) ∧ w' = w) := fun w => by rw [← hP0]; exact pick_any q 6 w hq.1 hq.2 (by omega) (by omega)
 have HP2 : Hid (∀ w : World,Calls Tryz.prog 8 #[.int .i64 m, .int .i64 12] w fun e w' => e = .returned (.int .i64 N0) ∧ w' = w) := fun w => by rw [← hN0]; exact pick_any m 12 w hm.1 hm.2 (by omega) (by omega)
 obtain ⟨N,hNe⟩ : ∃ N,N = 1 + N0 := ⟨_,rfl⟩
 have hwN : IntKind.i64.wrap (1 + (N0 : Int)) = (N : Int) := wrap_to (by omega) (by omega)
 have hNb : 1 ≤ N ∧ N ≤ 12 := by omega
 have HR : Hid (I64 r) := hr
 have hP1i : (P0 : Int) < 6 := by omega
 have hP1j : (0 : Int) ≤ (P0 : Int) := by omega
 clear hD hP0 hN0 ha hq hm hr hNe hDq
 go_enter Tryz.func4,Tryz.ntmps4
 go_wp2_with fail
 rw [← hw1]
 clear hw1
 refine (HP1.out w1).mono ?_
 rintro e w' ⟨rfl,hw⟩
 have hw := hw.symm
 subst hw
 go_wp2_with fail
 clear hcell
 refine (HP2.out w1).mono ?_
 rintro e w' ⟨rfl,hw⟩
 have hw := hw.symm
 subst hw
 go_wp2
 go_loopw [9] (fun vi wr => ∃ t : Nat,t ≤ 5 ∧ vi = .int .i64 t ∧ Hid (D.q ^ t ≤ 4096) ∧ wr = w1) (fun vi _ => 5 - (intOf vi).toNat)
 case atStart => exact ⟨0,by omega,rfl,by show D.q ^ 0 ≤ 4096; simp,rfl⟩
 case round =>
   obtain ⟨t,ht,rfl,HT,hw⟩ := hrel
   have hw := hw.symm
   subst hw
   obtain ⟨T,hTe⟩ : ∃ T,T = t + 1 := ⟨_,rfl⟩
   have HTi : Hid ((t : Int) + 1 = (T : Int) ∧ T = t + 1) := ⟨by omega,hTe⟩
   have hTb : 1 ≤ T ∧ T ≤ 6 := by omega
   have HF : Hid (Calls Tryz.prog 11 #[.int .i64 (D.q : Nat), .int .i64 (T : Nat)] w1 (FewP D.q T w1)) := fewR_any D.q T (by omega) (by omega) (by omega) w1
   clear hTe
   go_wp2_with fail
   rw [HTi.out.1]
   refine HF.out.mono ?_
   rintro e w' ⟨fb,rfl,hfb,hw⟩
   have HFB : Hid (fb = true ↔ D.q ^ T ≤ 4096) := hfb
   clear hfb
   have hw := hw.symm
   subst hw
   by_cases hc : fb = true ∧ t < 5
   · have ht5 : (t : Int) < 5 := by omega
     have hT2 := HFB.out.1 hc.1
     have HT2 : Hid (D.q ^ T ≤ 4096) := hT2
     obtain ⟨hfe,htl⟩ := hc
     subst hfe
     clear hT2 HFB
     go_wp2
     go_roundw
     case rel => exact ⟨T,by have := HTi.out.2; omega,by have h := HTi.out.1; first | rfl | rw [h] | simp [h],HT2.out,by first | rfl | trivial⟩
     case measure => have h := HTi.out; simp [intOf]; omega
   · obtain ⟨r',hr',hr2⟩ := pick_nat6 (m := r) (k := T) (by omega)
     have HP3 : Hid (∀ w : World,Calls Tryz.prog 8 #[.int .i64 r, .int .i64 (T : Nat)] w fun e w' => e = .returned (.int .i64 r') ∧ w' = w) := fun w => by rw [← hr']; exact pick_any r T w HR.out.1 HR.out.2 (by omega) (by omega)
     have HR2 : Hid (D.q ^ r' ≤ 4096) := Nat.le_trans (fewR_le (by omega) (show r' ≤ t by have := HTi.out.2; omega)) HT.out
     clear hr'
     have HM : Hid (∀ wx,Below w.heap.size w wx → Calls Tryz.prog 12 #[.slice ao n ca, .int .i64 0, .int .i64 (D.q : Nat), .int .i64 (r' : Nat), .int .i64 (N : Nat)] wx fun e w' => ∃ mo mc vs Z,e = .returned (.slice mo r' mc) ∧ MkS wx.heap.size D.q N r' (.slice mo r' mc) vs Z w' ∧ Below wx.heap.size wx w') := fun wx hx => by
       refine (matrixOf_any (HA.out.1.below hx) (by omega) 0 D.q r' N (by omega) (by omega) (by omega) (by omega) (by omega)).mono ?_
       rintro e w' ⟨v,vs,Z,rfl,hmk,hb⟩
       obtain ⟨mo,mc,rfl,hz⟩ := hmk.cdz (D := D) (by omega) hNb.1 (by omega)
       exact ⟨mo,mc,_,Z,rfl,hmk,hb⟩
     cases fb
     · clear hc HFB
       go_wp2_with fail
       rw [HTi.out.1]
       refine (HP3.out w1).mono ?_
       rintro e w' ⟨rfl,hw⟩
       have hw := hw.symm
       subst hw
       go_wp2_with fail
       refine (HM.out w1 HW.out.1).mono ?_
       rintro e w2 ⟨mo,mc,vs,Z,rfl,hmk,hb2⟩
       have H2 : Hid (MkS w1.heap.size D.q N r' (.slice mo r' mc) vs Z w2 ∧ Below w1.heap.size w1 w2 ∧ RB w.heap.size w2 ∧ w.heap.size < w1.heap.size) := ⟨hmk,hb2,HW.out.2.keep hb2,by obtain ⟨⟨x0,c0⟩,_⟩ := HW.out.2; exact cell_lt c0⟩
       clear hmk hb2
       obtain ⟨⟨x0,c0⟩,⟨x1,c1⟩,⟨x2,c2⟩,f0,f1,f2⟩ := H2.out.2.2.1
       go_wp2
       obtain ⟨w3,hw3⟩ : ∃ w3,w3 = laid w2 w.heap.size D.q (N : Nat) (.slice mo r' mc) := ⟨_,rfl⟩
       have H3 : Hid (CB w.heap.size D.q (N : Nat) (.slice mo r' mc) w3 ∧ MkS w1.heap.size D.q N r' (.slice mo r' mc) vs Z w3 ∧ Below w.heap.size w w3) := by
         rw [hw3]; exact ⟨laid_cb H2.out.2.2.1 _ _ _,H2.out.1.laid H2.out.2.2.2 _ _ _,laid_below (bel_up' HW.out.1 H2.out.2.1) (Nat.le_refl _) _ _ _⟩
       unfold laid at hw3
       rw [← hw3]
       clear hw3 c0 c1 c2 f0 f1 f2
       obtain ⟨c0,c1,c2⟩ := H3.out.1
       refine bodyPost_ret (v := .agg #[.int .i64 D.q, .int .i64 (N : Nat), .slice mo r' mc]) (by simp [results,Tryz.results4,go_sem,c0,c1,c2]) rfl ?_
       obtain ⟨mo',mc',he,hz⟩ := H3.out.2.1.cdz (D := D) (by omega) hNb.1 (by omega)
       cases he
       exact ⟨D,N,r',_,_,_,_,Z,HA.out.2,hD8,hNb.2,by omega,HR2.out,rfl,hz,H3.out.2.2⟩
     · have ht5 : ¬ (t : Int) < 5 := fun h => hc ⟨rfl,by omega⟩
       clear hc HFB
       go_wp2_with fail
       rw [HTi.out.1]
       refine (HP3.out w1).mono ?_
       rintro e w' ⟨rfl,hw⟩
       have hw := hw.symm
       subst hw
       go_wp2_with fail
       refine (HM.out w1 HW.out.1).mono ?_
       rintro e w2 ⟨mo,mc,vs,Z,rfl,hmk,hb2⟩
       have H2 : Hid (MkS w1.heap.size D.q N r' (.slice mo r' mc) vs Z w2 ∧ Below w1.heap.size w1 w2 ∧ RB w.heap.size w2 ∧ w.heap.size < w1.heap.size) := ⟨hmk,hb2,HW.out.2.keep hb2,by obtain ⟨⟨x0,c0⟩,_⟩ := HW.out.2; exact cell_lt c0⟩
       clear hmk hb2
       obtain ⟨⟨x0,c0⟩,⟨x1,c1⟩,⟨x2,c2⟩,f0,f1,f2⟩ := H2.out.2.2.1
       go_wp2
       obtain ⟨w3,hw3⟩ : ∃ w3,w3 = laid w2 w.heap.size D.q (N : Nat) (.slice mo r' mc) := ⟨_,rfl⟩
       have H3 : Hid (CB w.heap.size D.q (N : Nat) (.slice mo r' mc) w3 ∧ MkS w1.heap.size D.q N r' (.slice mo r' mc) vs Z w3 ∧ Below w.heap.size w w3) := by
         rw [hw3]; exact ⟨laid_cb H2.out.2.2.1 _ _ _,H2.out.1.laid H2.out.2.2.2 _ _ _,laid_below (bel_up' HW.out.1 H2.out.2.1) (Nat.le_refl _) _ _ _⟩
       unfold laid at hw3
       rw [← hw3]
       clear hw3 c0 c1 c2 f0 f1 f2
       obtain ⟨c0,c1,c2⟩ := H3.out.1
       refine bodyPost_ret (v := .agg #[.int .i64 D.q, .int .i64 (N : Nat), .slice mo r' mc]) (by simp [results,Tryz.results4,go_sem,c0,c1,c2]) rfl ?_
       obtain ⟨mo',mc',he,hz⟩ := H3.out.2.1.cdz (D := D) (by omega) hNb.1 (by omega)
       cases he
       exact ⟨D,N,r',_,_,_,_,Z,HA.out.2,hD8,hNb.2,by omega,HR2.out,rfl,hz,H3.out.2.2⟩
set_option maxHeartbeats 8000000 in
set_option maxRecDepth 100000 in
theorem rless2_any {D : FD} (hD : D ∈ fieldsL) (gen gm cm : Nat) {gr ofr cr go ofo co : Nat} {n c : Nat} {r o : Nat → Nat} {w : World} (hn : n ≤ 1000) (hr : El D r) (ho : El D o) (hc : c < D.q) (hvr : Sl (some ⟨gr,ofr,none⟩) (n + 1) r w) (hlr : gr < w.heap.size) (hvo : Sl (some ⟨go,ofo,none⟩) (n + 1) o w) (hlo : go < w.heap.size) (hM : ModAt D (.slice (some ⟨gm,0,none⟩) (D.m + 1) cm) D.md w) :
   Calls Tryz.prog 66 #[.agg #[.int .i64 D.q, .int .i64 D.p, .int .i64 D.m, .int .i64 gen, .slice (some ⟨gm,0,none⟩) (D.m + 1) cm], .slice (some ⟨gr,ofr,none⟩) (n + 1) cr, .slice (some ⟨go,ofo,none⟩) (n + 1) co, .int .i64 c] w fun e w' => ∃ v,e = .returned v ∧ Elm v (n,plss D r o c) w' ∧ (∀ k,v.ownBlock = some k → w.heap.size ≤ k) ∧ Below w.heap.size w w' := by
 have hrr : ∀ wx,Below w.heap.size w wx → ∀ j,j < n + 1 → wx.cell? ⟨gr,ofr + j,none⟩ = some (.int .i64 (r j : Nat)) := fun wx hx j hj => by
   obtain ⟨b,off,e,h⟩ := (hvr.below hx (fun x hx => by cases hx; exact hlr)) j hj
   cases e
   exact h
 have hro : ∀ wx,Below w.heap.size w wx → ∀ j,j < n + 1 → wx.cell? ⟨go,ofo + j,none⟩ = some (.int .i64 (o j : Nat)) := fun wx hx j hj => by
   obtain ⟨b,off,e,h⟩ := (hvo.below hx (fun x hx => by cases hx; exact hlo)) j hj
   cases e
   exact h
 have hbl : Below w.heap.size w (w.alloc (.cells #[.int .i64 D.q, .int .i64 D.p, .int .i64 D.m, .int .i64 gen, .slice (some ⟨gm,0,none⟩) (D.m + 1) cm] 48)) := (Below.refl _ _).alloc (Nat.le_refl _) _
 have HF : Hid (D ∈ fieldsL ∧ El D r ∧ El D o ∧ (∀ wx,Below w.heap.size w wx → ∀ j,j < n + 1 → wx.cell? ⟨gr,ofr + j,none⟩ = some (.int .i64 (r j : Nat))) ∧ (∀ wx,Below w.heap.size w wx → ∀ j,j < n + 1 → wx.cell? ⟨go,ofo + j,none⟩ = some (.int .i64 (o j : Nat))) ∧ ModAt D (.slice (some ⟨gm,0,none⟩) (D.m + 1) cm) D.md w) := ⟨hD,hr,ho,hrr,hro,hM⟩
 have HB0 : Hid (Box w.heap.size D gen (.slice (some ⟨gm,0,none⟩) (D.m + 1) cm) (w.alloc (.cells #[.int .i64 D.q, .int .i64 D.p, .int .i64 D.m, .int .i64 gen, .slice (some ⟨gm,0,none⟩) (D.m + 1) cm] 48)) ∧ Below w.heap.size w (w.alloc (.cells #[.int .i64 D.q, .int .i64 D.p, .int .i64 D.m, .int .i64 gen, .slice (some ⟨gm,0,none⟩) (D.m + 1) cm] 48))) := ⟨box_new D gen _ w,hbl⟩
 clear hD hr ho hrr hro hvr hvo hlr hlo hM hbl
 go_enter Tryz.func66,Tryz.ntmps66
 go_wp2
 go_loopw [9,10] (fun vl i wr => ∃ j : Nat,j ≤ n + 1 ∧ i = .int .i64 j ∧ Hid (OwnI (w.heap.size + 1) vl (zl j fun k => ((plss D r o c k : Nat) : Int)) wr ∧ Below w.heap.size w wr ∧ Box w.heap.size D gen (.slice (some ⟨gm,0,none⟩) (D.m + 1) cm) wr) ∧ w.heap.size < wr.heap.size) (fun _ i _ => n + 1 - (intOf i).toNat)
 case atStart => exact ⟨0,by omega,rfl,⟨OwnI.nil _ _,HB0.out.2,HB0.out.1⟩,by simp⟩
 case round =>
   clear HB0
   obtain ⟨j,hj,rfl,HG,hsz⟩ := hrel
   by_cases hlt : j < n + 1
   · have hib : (j : Int) < (n : Int) + 1 := by omega
     have hib0 : (0 : Int) ≤ (j : Int) := by omega
     obtain ⟨x,hx⟩ : ∃ x,x = r j := ⟨_,rfl⟩
     obtain ⟨y,hy⟩ : ∃ y,y = o j := ⟨_,rfl⟩
     obtain ⟨u,hu⟩ : ∃ u,u = plss D r o c j := ⟨_,rfl⟩
     have hc1 : wr.cell? ⟨gr,ofr + j,none⟩ = some (.int .i64 (x : Nat)) := by rw [hx]; exact HF.out.2.2.2.1 _ HG.out.2.1 j hlt
     have hc2 : wr.cell? ⟨go,ofo + j,none⟩ = some (.int .i64 (y : Nat)) := by rw [hy]; exact HF.out.2.2.2.2.1 _ HG.out.2.1 j hlt
     have HX : Hid (x = r j ∧ y = o j ∧ u = plss D r o c j) := ⟨hx,hy,hu⟩
     clear hx hy hu
     obtain ⟨bz,hbz⟩ : ∃ bz,bz = decide (¬ (c = 0 ∨ y = 0)) := ⟨_,rfl⟩
     have HBZ : Hid (bz = decide (¬ (c = 0 ∨ y = 0))) := hbz
     clear hbz
     go_upto_region 6 with fail
     go_cut [30] (fun vb wx => vb = .bool bz ∧ wx = wr)
     case first =>
       by_cases hz2 : c = 0
       · have hb1 : ((c : Int) != 0) = false := by rw [hz2]; rfl
         have hbz : bz = false := by rw [HBZ.out,decide_eq_false]; intro h; exact h (Or.inl hz2)
         clear hz2
         go_wp2
         go_meet
         case rel => exact ⟨by rw [hbz],rfl⟩
       · have hb1 : ((c : Int) != 0) = true := by rw [bne_iff_ne]; omega
         by_cases hz : y = 0
         · have hb2 : ((y : Int) != 0) = false := by rw [hz]; rfl
           have hbz : bz = false := by rw [HBZ.out,decide_eq_false]; intro h; exact h (Or.inr hz)
           clear hz2 hz
           go_wp2
           go_meet
           case rel => exact ⟨by rw [hbz],rfl⟩
         · have hb2 : ((y : Int) != 0) = true := by rw [bne_iff_ne]; omega
           have hbz : bz = true := by rw [HBZ.out,decide_eq_true]; omega
           clear hz2 hz
           go_wp2
           go_meet
           case rel => exact ⟨by rw [hbz],rfl⟩
     case rest =>
     obtain ⟨hv30,hwx⟩ := hcut
     have hwx := hwx.symm
     subst hv30 hwx
     go_upto_if 30 with fail
     go_cut [11] (fun vx wx => vx = .int .i64 (u : Nat) ∧ Hid (Below wr.heap.size wr wx))
     case first =>
       cases bz with
       | false =>
         have HU : Hid ((x : Int) = (u : Int)) := by
           show _ = _
           have hz : c = 0 ∨ y = 0 := by
             have h := HBZ.out
             exact Classical.byContradiction fun hn => by rw [decide_eq_true hn] at h; cases h
           have h := plss_zero (fld HF.out.1) o HF.out.2.1 (c := c) (k := j) (by rcases hz with h | h; exact Or.inl h; exact Or.inr (by rw [← HX.out.2.1]; exact h))
           rw [← HX.out.2.2, ← HX.out.1] at h
           omega
         go_wp2
         go_meet
         case rel => exact ⟨by rw [HU.out],Below.refl _ _⟩
       | true =>
         obtain ⟨m,hm⟩ : ∃ m,m = D.mul c y := ⟨_,rfl⟩
         have hxq : x < D.q := by rw [HX.out.1]; exact HF.out.2.1 j
         have hyq : y < D.q := by rw [HX.out.2.1]; exact HF.out.2.2.1 j
         have hmq : m < D.q := by rw [hm]; exact (fld HF.out.1).mul_lt _ _
         have k0 := cell_regrown HG.out.2.2.c0
         have k1 := cell_regrown HG.out.2.2.c1
         have k2 := cell_regrown HG.out.2.2.c2
         have k3 := cell_regrown HG.out.2.2.c3
         have k4 := cell_regrown HG.out.2.2.c4
         have k5 := cell_regrown hc2
         have HC1 : Hid (∀ d os,Calls Tryz.prog 68 #[.agg #[.int .i64 D.q, .int .i64 D.p, .int .i64 D.m, .int .i64 gen, .slice (some ⟨gm,0,none⟩) (D.m + 1) cm], .int .i64 (c : Nat), .int .i64 (y : Nat)] (grow (redrawn wr d) os) fun e w'' => e = .returned (.int .i64 (m : Nat)) ∧ ∃ p : Regrown,w'' = grow (redrawn wr p.d) p.os) := fun d os => by
           rw [hm]
           exact Calls.regrown_of (rmul_nat HF.out.1 gen HF.out.2.2.2.2.2 c y hc hyq _ (bel_up' HG.out.2.1 (below_regrown wr d os)))
         have HC2 : Hid (∀ d os,Calls Tryz.prog 94 #[.agg #[.int .i64 D.q, .int .i64 D.p, .int .i64 D.m, .int .i64 gen, .slice (some ⟨gm,0,none⟩) (D.m + 1) cm], .int .i64 (x : Nat), .int .i64 (m : Nat)] (grow (redrawn wr d) os) fun e w'' => e = .returned (.int .i64 (u : Nat)) ∧ ∃ p : Regrown,w'' = grow (redrawn wr p.d) p.os) := fun d os => by
           have h := rsub_any HF.out.1 gen (.slice (some ⟨gm,0,none⟩) (D.m + 1) cm) (x : Nat) (m : Nat) (grow (redrawn wr d) os)
           rw [subZ_nat (fld HF.out.1) hxq hmq,show D.sb x m = u from by rw [HX.out.2.2,HX.out.1,hm,HX.out.2.1]; rfl] at h
           exact Calls.regrown_of h
         clear hm hc1 hc2
         go_wp2
         refine wp_region_quiet_below (by kernel_rfl) (by kernel_rfl) ?_
         repeat (go_big_quiet_step (first | (go_at_call 68; exact HC1.out _ _) | (go_at_call 94; exact HC2.out _ _)))
         refine wpQuiet_nil ?_
         intro _ hw'
         obtain ⟨⟨dq,osq⟩,hw''⟩ := hw'
         subst hw''
         have HBQ : Hid (Below wr.heap.size wr (grow (redrawn wr dq) osq)) := below_regrown wr dq osq
         clear k0 k1 k2 k3 k4 k5 HC1 HC2
         go_wp2
         go_meet
         case rel => exact ⟨rfl,HBQ.out⟩
     case rest =>
       obtain ⟨hv11,HBX⟩ := hcut
       subst hv11
       clear hc1 hc2
       have hsx := HBX.out.size
       have HGX : Hid (OwnI (w.heap.size + 1) u9 (zl j fun k => ((plss D r o c k : Nat) : Int)) wc ∧ Below w.heap.size w wc ∧ Box w.heap.size D gen (.slice (some ⟨gm,0,none⟩) (D.m + 1) cm) wc) := ⟨HG.out.1.below HBX.out (fun k hk => (HG.out.1.lt k hk).2),bel_up' HG.out.2.1 HBX.out,HG.out.2.2.below HBX.out hsz⟩
       go_wp2_with (at_builtin; refine append_int rfl _ _ rfl (w.heap.size + 1) _ (zl j fun k => ((plss D r o c k : Nat) : Int)) rfl (HGX.out.1.alloc _) ⟨_,0,none⟩ 1 u rfl (by simp) (by rw [zl_len]; omega) (by simp; omega) ?_; intro v2 w4 hown4 hg4)
       have hal : Below wc.heap.size wc (wc.alloc (.cells #[.int .i64 (u : Int)] 3)) := (Below.refl _ _).alloc (Nat.le_refl _) _
       have hs4 := hg4.size
       have HR : Hid (OwnI (w.heap.size + 1) v2 (zl (j + 1) fun k => ((plss D r o c k : Nat) : Int)) w4 ∧ Below w.heap.size w w4 ∧ Box w.heap.size D gen (.slice (some ⟨gm,0,none⟩) (D.m + 1) cm) w4) := by
         refine ⟨by rw [zl_succ, ← HX.out.2.2]; exact hown4,(bel_up' HGX.out.2.1 hal).grown hg4 (by simp; omega) (fun k hk => by have := (HGX.out.1.lt k hk).1; omega), ?_⟩
         refine (HGX.out.2.2.below hal (by omega)).other (hg4.block w.heap.size (by simp; omega) fun e => ?_)
         have := (HGX.out.1.lt _ e.symm).1
         omega
       simp at hs4
       clear hown4 hg4 hal
       go_roundw
       case rel => exact ⟨j + 1,by omega,by go_num,HR.out,by omega⟩
       case measure => simp [intOf]; omega
   · have hib : ¬ (j : Int) < (n : Int) + 1 := by omega
     have hje : j = n + 1 := by omega
     subst hje
     go_wp2
     go_ret
     have h := elm_of_own HG.out.1
     exact ⟨_,rfl,h.1,fun k hk => by have := h.2 k hk; omega,HG.out.2.1⟩
end Go.Proofs.YtinmkgohganllaaGreatDoor
namespace Go.Proofs.YtinmkgohganllaaGreatDoor
theorem ng_ad19 {D : FD} (F : Fld D) {a b : Nat} (ha : a < D.q) (hb : b < D.q) : D.ng (D.ad a b) = D.ad (D.ng a) (D.ng b) := by
 have h1 : D.ad (D.ad a b) (D.ad (D.ng a) (D.ng b)) = 0 := by
   rw [ad4 F ha hb (ng_lt F ha) (ng_lt F hb),ad_ng F ha,ad_ng F hb,ad_zero F (zero_lt' F)]
 exact (ad_cancel F (ad_lt F ha hb) (ad_lt F (ng_lt F ha) (ng_lt F hb)) (ng_lt F (ad_lt F ha hb)) (h1.trans (ad_ng F (ad_lt F ha hb)).symm)).symm
def xsm (D : FD) (v : Nat → Nat) : Nat → Nat
 | 0 => 0
 | n + 1 => D.ad (xsm D v n) (v n)
def xng (D : FD) (v : Nat → Nat) : Nat → Nat
 | 0 => 0
 | n + 1 => D.sb (xng D v n) (v n)
theorem xsm_lt {D : FD} (F : Fld D) {v : Nat → Nat} (hv : El D v) : ∀ n,xsm D v n < D.q
 | 0 => zero_lt' F
 | n + 1 => ad_lt F (xsm_lt F hv n) (hv n)
theorem xng_lt {D : FD} (F : Fld D) {v : Nat → Nat} (hv : El D v) : ∀ n,xng D v n < D.q
 | 0 => zero_lt' F
 | n + 1 => sb_lt F (xng_lt F hv n) (hv n)
theorem xng_is {D : FD} (F : Fld D) {v : Nat → Nat} (hv : El D v) : ∀ n,xng D v n = D.ng (xsm D v n)
 | 0 => (ng_zero F).symm
 | n + 1 => by
   show D.ad (xng D v n) (D.ng (v n)) = D.ng (D.ad (xsm D v n) (v n))
   rw [xng_is F hv n,ng_ad19 F (xsm_lt F hv n) (hv n)]
def xtd (D : FD) (n : Nat) (v : Nat → Nat) : Nat → Nat := fun j => if j = n then D.ng (xsm D v n) else v j
theorem xtd_el {D : FD} (F : Fld D) {n : Nat} {v : Nat → Nat} (hv : El D v) : El D (xtd D n v) := fun j => by
 unfold xtd
 by_cases e : j = n
 · rw [if_pos e]; exact ng_lt F (xsm_lt F hv n)
 · rw [if_neg e]; exact hv j
theorem xtd_bd {D : FD} {n : Nat} {v : Nat → Nat} (hb : Bd n v) : Bd (n + 1) (xtd D n v) := fun j hj => by
 unfold xtd
 rw [if_neg (by omega)]; exact hb j (by omega)
end Go.Proofs.YtinmkgohganllaaGreatDoor
