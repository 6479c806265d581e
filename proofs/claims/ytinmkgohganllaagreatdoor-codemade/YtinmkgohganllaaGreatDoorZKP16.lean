/- Texts of ours, one behind the other: KP16 KP17. -/
import Derived.Test.YtinmkgohganllaaGreatDoorZLS3
import Derived.Test.YtinmkgohganllaaGreatDoorZI12
import Derived.Test.YtinmkgohganllaaGreatDoorZK8
import Derived.Test.YtinmkgohganllaaGreatDoorZL11
import Derived.Test.YtinmkgohganllaaGreatDoorZI43
import Derived.Test.YtinmkgohganllaaGreatDoorZKL15
import Derived.Test.YtinmkgohganllaaGreatDoorZW13
namespace Go.Proofs.YtinmkgohganllaaGreatDoor
open Go.RowKit Go.Sort
theorem cdL_congr {q n k : Nat} {R R' : Nat → Nat → Nat} (h : ∀ i,i < k → R i = R' i) : cdL q n k R = cdL q n k R' := by
 unfold cdL
 congr 1
 exact List.map_congr_left (fun i hi => by rw [h i (List.mem_range.1 hi)])
theorem cdz_check {D : FD} (hD : D ∈ fieldsL) {ao : Option Addr} {m n ca : Nat} {A : Nat → Option Addr} {N C : Nat → Nat} {Z : Nat → Nat → Int} {w : World} (h : CdZ D ao m n A N C Z w) (hm : m ≤ 1000000) :
   Calls Tryz.prog 19 #[.agg #[.int .i64 D.q, .int .i64 (n : Nat), .slice ao m ca]] w fun x w' => x = .returned (.int .i64 0) ∧ Below w.heap.size w w' := by
 have := ccheck_any (ca := ca) hD n h.mat hm
 rw [cchk_cdz h] at this
 exact this
theorem codePrint_at {D : FD} {ao : Option Addr} {n k rc : Nat} {R R' : Nat → Nat → Nat} {s : ByteArray} {w : World} (hA : RLz (.slice ao k rc) k n R w) (hk : k ≤ 64) (hn : n ≤ 64) (hq : D.q < 100) (hR : ∀ i,i < k → ∀ j,j < n → R i j < 100) (he : ∀ i,i < k → R i = R' i) (hs : s = tob (txL (cdL D.q n k R'))) :
   Calls Tryz.prog 42 #[.agg #[.int .i64 D.q, .int .i64 (n : Nat), .slice ao k rc]] w fun e w' => e = .returned (.string s) ∧ Below w.heap.size w w' := by
 obtain ⟨ao',ca',A,C,hv,hM⟩ := hA
 cases hv
 rw [hs, ← cdL_congr he]
 exact codePrint_any hM hk hn hq hR
set_option maxHeartbeats 8000000 in
set_option maxRecDepth 100000 in
theorem codeText_any {D : FD} (hD : D ∈ fieldsL) {mo : Option Addr} {m n mc : Nat} {A : Nat → Option Addr} {N C : Nat → Nat} {Z : Nat → Nat → Int} {w : World} (hz : CdZ D mo m n A N C Z w) (hn19 : n ≤ 19) (mx : Int) (hmx : w.cell? ⟨mxl,0,none⟩ = some (.int .i64 mx)) :
   Calls Tryz.prog 10 #[.agg #[.int .i64 D.q, .int .i64 (n : Nat), .slice mo m mc]] w fun e w' => e = .returned (.bool true) ∧ Below w.heap.size w w' := by
 have F := fld hD
 have hn1 := hz.n1
 obtain ⟨hm64,hel,hbd,hmr⟩ := hz.rows F
 have hq : D.q < 100 := by
   have : ∀ D ∈ fieldsL,D.q < 100 := by decide +kernel
   exact this D hD
 obtain ⟨w0,hw0⟩ : ∃ w0,w0 = w.alloc (.cells #[.int .i64 D.q, .int .i64 (n : Nat), .slice mo m mc] 25) := ⟨_,rfl⟩
 obtain ⟨b,hbe⟩ : ∃ b,b = w.heap.size := ⟨_,rfl⟩
 have HW : Hid (Below w.heap.size w w0 ∧ CB b D.q n (.slice mo m mc) w0 ∧ CdZ D mo m n A N C Z w0 ∧ D ∈ fieldsL) := by
   have hal : Below w.heap.size w w0 := by rw [hw0]; exact (Below.refl _ _).alloc (Nat.le_refl _) _
   refine ⟨hal, ?_,hz.below hal,hD⟩
   rw [hw0,hbe]; exact CB.new _ _ _ w
 have HX : Hid ((∀ i,i < m → El D (mzc N Z i)) ∧ (∀ i,i < m → Bd n (mzc N Z i)) ∧ m ≤ 64 ∧ w.cell? ⟨mxl,0,none⟩ = some (.int .i64 mx)) := ⟨hel,hbd,hm64,hmx⟩
 clear hz hel hbd hmr hm64 hmx
 go_enter Tryz.func10,Tryz.ntmps10
 go_wp2_with fail
 rw [← hw0, ← hbe]
 clear hw0 hbe
 refine (print_any HW.out.2.2.2 HW.out.2.2.1 (fun wx hx => cdz_check HW.out.2.2.2 (HW.out.2.2.1.below hx) (by have := HX.out.2.2.1; omega))).mono ?_
 rintro e w1 ⟨⟨k,R,rfl,hred⟩,hb1⟩
 obtain ⟨s,hs⟩ : ∃ s,s = tob (txL (cdL D.q n k R)) := ⟨_,rfl⟩
 rw [← hs]
 have H1 : Hid (s = tob (txL (cdL D.q n k R)) ∧ Red D n m (mzc N Z) k R ∧ Below w0.heap.size w0 w1 ∧ k ≤ 19) := ⟨hs,hred,hb1,by have := hred.le; omega⟩
 clear hs hred hb1
 have HM1 : Hid (w1.cell? ⟨mxl,0,none⟩ = some (.int .i64 mx)) := ((bel_up' HW.out.1 H1.out.2.2.1).cell (p := ⟨mxl,0,none⟩) (cell_lt HX.out.2.2.2)).trans HX.out.2.2.2
 go_wp2_with fail
 refine (parse_text HW.out.2.2.2 mx HM1.out H1.out.1 hn1 (by omega) H1.out.2.2.2 H1.out.2.1.rows.1 H1.out.2.1.rows.2).mono ?_
 rintro e w2 ⟨⟨k2,R2,ro2,rc2,rfl,hmv2,hred2⟩,hb2⟩
 have H2 : Hid (MV w1.heap.size (.slice ro2 k2 rc2) k2 n R2 w2 ∧ Red D n k R k2 R2 ∧ Below w1.heap.size w1 w2) := ⟨hmv2,hred2,hb2⟩
 clear hmv2 hred2 hb2
 obtain ⟨b5,hb5⟩ : ∃ b5,b5 = w2.heap.size := ⟨_,rfl⟩
 obtain ⟨w3,hw3⟩ : ∃ w3,w3 = w2.alloc (.cells #[.int .i64 D.q, .int .i64 (n : Nat), .slice ro2 k2 rc2] 25) := ⟨_,rfl⟩
 have H3 : Hid (CB b5 D.q n (.slice ro2 k2 rc2) w3 ∧ Below w0.heap.size w0 w3 ∧ Below w2.heap.size w2 w3 ∧ CB b D.q n (.slice mo m mc) w3) := by
   have hal : Below w2.heap.size w2 w3 := by rw [hw3]; exact (Below.refl _ _).alloc (Nat.le_refl _) _
   have h02 : Below w0.heap.size w0 w3 := bel_up' (bel_up' H1.out.2.2.1 H2.out.2.2) hal
   refine ⟨?_,h02,hal,HW.out.2.1.keep h02⟩
   rw [hw3,hb5]; exact CB.new _ _ _ w2
 obtain ⟨d0,d1,d2⟩ := H3.out.2.2.2
 rw [hw3] at d0 d1 d2
 go_wp2_with fail
 rw [← hw3, ← hb5]
 clear hw3 hb5 d0 d1 d2
 have hzr := (HW.out.2.2.1.below H3.out.2.1).rows (fld HW.out.2.2.2)
 have e1 : n - 1 + 1 = n := by omega
 refine (made_any (n1 := n - 1) HW.out.2.2.2 (by have := HX.out.2.2.1; omega) (by omega) (by omega) (fun i hi => ⟨HX.out.1 i hi,by rw [e1]; exact HX.out.2.1 i hi⟩) hzr.2.2.2).mono ?_
 rintro e w4 ⟨k3,R3,ro3,rc3,rfl,hll,hred3,hb4⟩
 obtain ⟨ek,eR⟩ := H1.out.2.1.uniq (fld HW.out.2.2.2) hred3 (fun v => Iff.rfl)
 have hsp : ∀ v,Spn D (RowsOf k R) v ↔ Spn D (RowsOf m (mzc N Z)) v := by
   obtain ⟨p,_,h2⟩ := H1.out.2.1
   exact h2
 obtain ⟨ek2,eR2⟩ := H2.out.2.1.uniq (fld HW.out.2.2.2) H1.out.2.1 hsp
 have hrl := hll.rlz (by omega)
 rw [e1] at hrl
 subst ek
 subst ek2
 have H4 : Hid (RLz (.slice ro3 k2 rc3) k2 n R3 w4 ∧ Below w3.heap.size w3 w4 ∧ (∀ i,i < k2 → R3 i = R i) ∧ (∀ i,i < k2 → R2 i = R3 i)) := ⟨hrl,hb4,fun i hi => (eR i hi).symm,fun i hi => (eR2 i hi).trans (eR i hi)⟩
 clear hll hred3 hb4 eR eR2 hsp hrl hzr e1
 have HR3 : Hid (∀ i,i < k2 → ∀ j,j < n → R3 i j < 100) := fun i hi j _ => by
   rw [H4.out.2.2.1 i hi]
   have := H1.out.2.1.rows.1 i hi j
   omega
 obtain ⟨b7,hb7⟩ : ∃ b7,b7 = w4.heap.size := ⟨_,rfl⟩
 obtain ⟨w5,hw5⟩ : ∃ w5,w5 = w4.alloc (.cells #[.int .i64 D.q, .int .i64 (n : Nat), .slice ro3 k2 rc3] 25) := ⟨_,rfl⟩
 have H5 : Hid (CB b7 D.q n (.slice ro3 k2 rc3) w5 ∧ Below w4.heap.size w4 w5 ∧ CB b5 D.q n (.slice ro2 k2 rc2) w5 ∧ RLz (.slice ro3 k2 rc3) k2 n R3 w5) := by
   have hal : Below w4.heap.size w4 w5 := by rw [hw5]; exact (Below.refl _ _).alloc (Nat.le_refl _) _
   refine ⟨?_,hal,(H3.out.1.keep H4.out.2.1).keep hal,H4.out.1.below hal⟩
   rw [hw5,hb7]; exact CB.new _ _ _ w4
 obtain ⟨d0,d1,d2⟩ := H5.out.1
 rw [hw5,hb7] at d0 d1 d2
 go_wp2_with fail
 rw [← hw5]
 clear hw5 d0 d1 d2
 refine (codePrint_at H5.out.2.2.2 (by have := H1.out.2.2.2; omega) (by omega) hq HR3.out H4.out.2.2.1 H1.out.1).mono ?_
 rintro e w6 ⟨rfl,hb6⟩
 have H6 : Hid (CB b7 D.q n (.slice ro3 k2 rc3) w6 ∧ CB b5 D.q n (.slice ro2 k2 rc2) w6 ∧ RL (.slice ro3 k2 rc3) k2 n R3 w6 ∧ RL (.slice ro2 k2 rc2) k2 n R3 w6 ∧ Below w.heap.size w w6) := by
   have h26 : Below w2.heap.size w2 w6 := bel_up' (bel_up' (bel_up' H3.out.2.2.1 H4.out.2.1) H5.out.2.1) hb6
   have hr2 := (H2.out.1.below h26).rl.congr H4.out.2.2.2
   exact ⟨H5.out.1.keep hb6,H5.out.2.2.1.keep hb6,(H5.out.2.2.2.below hb6).rl,hr2,bel_up' (bel_up' HW.out.1 H1.out.2.2.1) (bel_up' H2.out.2.2 h26)⟩
 clear hb6
 obtain ⟨d0,d1,d2⟩ := H6.out.1
 obtain ⟨f0,f1,f2⟩ := H6.out.2.1
 rw [hb7] at d0 d1 d2
 go_wp2_with fail
 clear d0 d1 d2 f0 f1 f2 hb7
 refine (rsameCode_any D.q n H6.out.2.2.2.1 H6.out.2.2.1 (by have := H1.out.2.2.2; omega) (by omega)).mono ?_
 rintro e w7 ⟨rfl,hb8⟩
 have H7 : Hid (Below w.heap.size w w7) := bel_up' H6.out.2.2.2.2 hb8
 clear hb8
 go_wp2
 go_ret
 exact ⟨rfl,H7.out⟩
set_option maxHeartbeats 1000000 in
set_option maxRecDepth 100000 in
theorem codeMade_long {ao : Option Addr} {n ca : Nat} (q m r a : Int) (w : World) (hn : ¬ n ≤ 256) (hn2 : n ≤ 17592186044416) :
   Calls Tryz.prog 3 #[.slice ao n ca, .int .i64 q, .int .i64 m, .int .i64 r, .int .i64 a] w fun e w' => e = .returned (.bool true) ∧ Below w.heap.size w w' := by
 have h1 : (256 : Int) < (n : Int) := by omega
 go_enter Tryz.func3,Tryz.ntmps3
 go_wp2
 go_ret
 exact ⟨rfl,Below.refl _ _⟩
set_option maxHeartbeats 16000000 in
set_option maxRecDepth 100000 in
theorem codeMade_walk {ao : Option Addr} {n ca : Nat} {z : Nat → Int} (q m r0 a : Int) {w : World} (ha : Arg ao n ca z w) (hn : n ≤ 256) (hq : I64 q) (hm : I64 m) (hr : I64 r0) (haI : I64 a) (mx : Int) (hmx : w.cell? ⟨mxl,0,none⟩ = some (.int .i64 mx)) :
   Calls Tryz.prog 3 #[.slice ao n ca, .int .i64 q, .int .i64 m, .int .i64 r0, .int .i64 a] w fun e w' => e = .returned (.bool true) ∧ Below w.heap.size w w' := by
 have HA : Hid (Arg ao n ca z w ∧ I64 a ∧ w.cell? ⟨mxl,0,none⟩ = some (.int .i64 mx)) := ⟨ha,haI,hmx⟩
 have HCo : Hid (Calls Tryz.prog 4 #[.slice ao n ca, .int .i64 q, .int .i64 m, .int .i64 r0] w fun e w' => ∃ D N r' mo mc A C Z,D ∈ fieldsL ∧ D.q ≤ 8 ∧ N ≤ 12 ∧ r' ≤ 5 ∧ D.q ^ r' ≤ 4096 ∧ e = .returned (.agg #[.int .i64 D.q, .int .i64 (N : Nat), .slice mo r' mc]) ∧ CdZ D mo r' N A (fun _ => N) C Z w' ∧ Below w.heap.size w w') := codeOf_any q m r0 ha hn hq hm hr
 have hnb : ¬ (256 : Int) < (n : Int) := by omega
 clear ha haI hmx hq hm hr
 go_enter Tryz.func3,Tryz.ntmps3
 go_wp2_with fail
 refine HCo.out.mono ?_
 rintro e w1 ⟨D,N,r,mo,mc,A,C,Z,hD,hq8,hN12,hr5,hpw,rfl,hcd,hb1⟩
 obtain ⟨B0,hB0⟩ : ∃ B0,B0 = w1.heap.size := ⟨_,rfl⟩
 obtain ⟨w2,hw2⟩ : ∃ w2,w2 = w1.alloc (.cells #[.int .i64 D.q, .int .i64 (N : Nat), .slice mo r mc] 25) := ⟨_,rfl⟩
 have hN1 := hcd.n1
 have h2q := (fld hD).q2
 have H2 : Hid (D ∈ fieldsL ∧ CdZ D mo r N A (fun _ => N) C Z w2 ∧ Below w.heap.size w w2 ∧ CB B0 D.q N (.slice mo r mc) w2) := by
   have hal : Below w1.heap.size w1 w2 := by rw [hw2]; exact (Below.refl _ _).alloc (Nat.le_refl _) _
   refine ⟨hD,hcd.below hal,bel_up' hb1 hal, ?_⟩
   rw [hw2,hB0]; exact CB.new _ _ _ w1
 have HNm : Hid (∀ wx,Below w.heap.size w wx → ∀ f : Nat,f ≤ 100 → ∀ k : Nat,k ≤ 100 → Calls Tryz.prog 5 #[.slice ao n ca, .int .i64 f, .int .i64 D.q, .int .i64 k] wx fun e w' => ∃ bo cb y,e = .returned (.slice bo k cb) ∧ ArgL bo k cb y w' ∧ Below wx.heap.size wx w') := fun wx hx f hf k hk => by
   refine (numbers_any (HA.out.1.below hx) (by omega) f D.q k (by omega) (by omega) (by omega) (by omega)).mono ?_
   rintro e w' ⟨v,y,rfl,ho,hbl,hb⟩
   obtain ⟨bo,cb,rfl,hA⟩ := ho.argL
   exact ⟨bo,cb,y,rfl,hA,hb⟩
 obtain ⟨P0,hP0,hP1⟩ := pick_nat6 (m := a) (k := N) (by omega)
 have HPk : Hid (∀ w : World,Calls Tryz.prog 8 #[.int .i64 a, .int .i64 (N : Nat)] w fun e w' => e = .returned (.int .i64 P0) ∧ w' = w) := fun w => by rw [← hP0]; exact pick_any a N w HA.out.2.1.1 HA.out.2.1.2 (by omega) (by omega)
 obtain ⟨d0,d1,d2⟩ := H2.out.2.2.2
 rw [hw2,hB0] at d0 d1 d2
 clear hD hcd hb1 hP0 hpw
 go_wp2_with fail
 rw [← hw2]
 clear hw2 d0 d1 d2
 refine (HNm.out w2 H2.out.2.2.1 11 (by omega) N (by omega)).mono ?_
 rintro e w3 ⟨zo,zc,yz,rfl,hz3,hb3⟩
 have H3 : Hid (ArgL zo N zc yz w3 ∧ Below w2.heap.size w2 w3 ∧ Below w.heap.size w w3) := ⟨hz3,hb3,bel_up' H2.out.2.2.1 hb3⟩
 clear hz3 hb3
 have HSk : Hid (∀ wx,Below w3.heap.size w3 wx → CB B0 D.q N (.slice mo r mc) wx ∧ CdZ D mo r N A (fun _ => N) C Z wx ∧ ArgL zo N zc yz wx ∧ Below w.heap.size w wx) := fun wx hx => ⟨H2.out.2.2.2.keep (bel_up' H3.out.2.1 hx),H2.out.2.1.below (bel_up' H3.out.2.1 hx),⟨slz_below H3.out.1.sl hx,H3.out.1.lt.mono hx.size,H3.out.1.nil,H3.out.1.le,H3.out.1.cap⟩,bel_up' H3.out.2.2 hx⟩
 have hb0 : Below w3.heap.size w3 w3.drew := (Below.refl _ _).drew
 have HB0 : Hid (Below w3.heap.size w3 w3.drew) := hb0
 have hS0 : CB B0 D.q N (.slice mo r mc) w3.drew := (HSk.out _ hb0).1
 clear hb0
 go_wp2
 try rw [← hB0]
 clear hB0
 refine wp_region_noPanic ?_
 refine wp_region_L (S := CB B0 D.q N (.slice mo r mc)) [] (by kernel_rfl) ?_
 refine wpAnyL_take (i := 0) (v := ?_) (by rw [List.getElem?_toArray]; rfl) (by decide +kernel) (by decide +kernel) (by decide +kernel) (by decide +kernel) (by decide +kernel) (fun _ _ _ h => h) hS0 (Or.inl ⟨by rfl, ?_⟩) ?_
 rotate_left
 · intro wz hSz; obtain ⟨z0,z1,z2⟩ := hSz; go_simp; first | done | with_reducible rfl | rfl | (simp [z0,z1,z2]; done)
 try simp only [Act.put,List.setIfInBounds_toArray,List.set_cons_zero,List.set_cons_succ]
 refine wpAnyL_take (i := 1) (v := ?_) (by rw [List.getElem?_toArray]; rfl) (by decide +kernel) (by decide +kernel) (by decide +kernel) (by decide +kernel) (by decide +kernel) (fun _ _ _ h => h) hS0 (Or.inl ⟨by rfl, ?_⟩) ?_
 rotate_left
 · intro wz hSz; obtain ⟨z0,z1,z2⟩ := hSz; go_simp; first | done | with_reducible rfl | rfl | (simp [z0,z1,z2]; done)
 try simp only [Act.put,List.setIfInBounds_toArray,List.set_cons_zero,List.set_cons_succ]
 refine wpAnyL_take (i := 2) (v := ?_) (by rw [List.getElem?_toArray]; rfl) (by decide +kernel) (by decide +kernel) (by decide +kernel) (by decide +kernel) (by decide +kernel) (fun _ _ _ h => h) hS0 (Or.inl ⟨by rfl, ?_⟩) ?_
 rotate_left
 · intro wz hSz; obtain ⟨z0,z1,z2⟩ := hSz; go_simp; first | done | with_reducible rfl | rfl | (simp [z0,z1,z2]; done)
 try simp only [Act.put,List.setIfInBounds_toArray,List.set_cons_zero,List.set_cons_succ]
 refine wpAnyL_take (i := 3) (v := ?_) (by rw [List.getElem?_toArray]; rfl) (by decide +kernel) (by decide +kernel) (by decide +kernel) (by decide +kernel) (by decide +kernel) (fun _ _ _ h => h) hS0 (Or.inl ⟨by rfl, ?_⟩) ?_
 rotate_left
 · intro wz hSz; obtain ⟨z0,z1,z2⟩ := hSz; go_simp; first | done | with_reducible rfl | rfl | (simp [z0,z1,z2]; done)
 try simp only [Act.put,List.setIfInBounds_toArray,List.set_cons_zero,List.set_cons_succ]
 refine wpAnyL_take (i := 4) (v := ?_) (by rw [List.getElem?_toArray]; rfl) (by decide +kernel) (by decide +kernel) (by decide +kernel) (by decide +kernel) (by decide +kernel) (fun _ _ _ h => h) hS0 (Or.inl ⟨by rfl, ?_⟩) ?_
 rotate_left
 · intro wz hSz; obtain ⟨z0,z1,z2⟩ := hSz; go_simp; first | done | with_reducible rfl | rfl | (simp [z0,z1,z2]; done)
 try simp only [Act.put,List.setIfInBounds_toArray,List.set_cons_zero,List.set_cons_succ]
 refine wpAnyL_take (i := 9) (v := ?_) (by rw [List.getElem?_toArray]; rfl) (by decide +kernel) (by decide +kernel) (by decide +kernel) (by decide +kernel) (by decide +kernel) (fun _ _ _ h => h) hS0 (Or.inl ⟨by rfl, ?_⟩) ?_
 rotate_left
 · intro wz hSz; obtain ⟨z0,z1,z2⟩ := hSz; go_simp; first | done | with_reducible rfl | rfl | (simp [z0,z1,z2]; done)
 try simp only [Act.put,List.setIfInBounds_toArray,List.set_cons_zero,List.set_cons_succ]
 refine wpAnyL_take (i := 10) (v := ?_) (by rw [List.getElem?_toArray]; rfl) (by decide +kernel) (by decide +kernel) (by decide +kernel) (by decide +kernel) (by decide +kernel) (fun _ _ _ h => h) hS0 (Or.inl ⟨by rfl, ?_⟩) ?_
 rotate_left
 · intro wz hSz; obtain ⟨z0,z1,z2⟩ := hSz; go_simp; first | done | with_reducible rfl | rfl | (simp [z0,z1,z2]; done)
 try simp only [Act.put,List.setIfInBounds_toArray,List.set_cons_zero,List.set_cons_succ]
 refine wpAnyL_take (i := 11) (v := ?_) (by rw [List.getElem?_toArray]; rfl) (by decide +kernel) (by decide +kernel) (by decide +kernel) (by decide +kernel) (by decide +kernel) (fun _ _ _ h => h) hS0 (Or.inl ⟨by rfl, ?_⟩) ?_
 rotate_left
 · intro wz hSz; obtain ⟨z0,z1,z2⟩ := hSz; go_simp; first | done | with_reducible rfl | rfl | (simp [z0,z1,z2]; done)
 try simp only [Act.put,List.setIfInBounds_toArray,List.set_cons_zero,List.set_cons_succ]
 refine wpAnyL_take (i := 12) (v := ?_) (by rw [List.getElem?_toArray]; rfl) (by decide +kernel) (by decide +kernel) (by decide +kernel) (by decide +kernel) (by decide +kernel) (fun _ _ _ h => h) hS0 (Or.inl ⟨by rfl, ?_⟩) ?_
 rotate_left
 · intro wz hSz; obtain ⟨z0,z1,z2⟩ := hSz; go_simp; first | done | with_reducible rfl | rfl | (simp [z0,z1,z2]; done)
 try simp only [Act.put,List.setIfInBounds_toArray,List.set_cons_zero,List.set_cons_succ]
 refine wpAnyL_one (i := 5) (by kernel_rfl) (by rw [List.getElem?_toArray]; rfl) (fun K hK => ?_)
 have HK : Hid _ := hK
 clear hK
 go_simp
 have hzr := (HSk.out _ HB0.out).2.1.rows (fld H2.out.1)
 have e1 : N - 1 + 1 = N := by omega
 refine (made_any (n1 := N - 1) H2.out.1 (by omega) (by omega) (by omega) (fun i hi => ⟨hzr.2.1 i hi,by rw [e1]; exact hzr.2.2.1 i hi⟩) hzr.2.2.2).mono ?_
 rintro e w4 ⟨k,R,ro,rc,rfl,hll,hred,hb4⟩
 have hk12 : k ≤ 12 := by have := hred.le; omega
 have HB4 : Hid (Below w3.heap.size w3 w4) := bel_up' HB0.out hb4
 have hS4 : CB B0 D.q N (.slice mo r mc) w4 := (HSk.out _ HB4.out).1
 clear hll hred hb4 hzr e1
 refine HK.out _ _ (fun _ => hS4) ?_
 clear HK K
 try simp only [Act.put,List.setIfInBounds_toArray,List.set_cons_zero,List.set_cons_succ]
 refine wpAnyL_take (i := 6) (v := ?_) (by rw [List.getElem?_toArray]; rfl) (by decide +kernel) (by decide +kernel) (by decide +kernel) (by decide +kernel) (by decide +kernel) (fun _ _ _ h => h) hS4 (Or.inl ⟨by rfl, ?_⟩) ?_
 rotate_left
 · intro wz hSz; obtain ⟨z0,z1,z2⟩ := hSz; go_simp; first | done | with_reducible rfl | rfl | (simp [z0,z1,z2]; done)
 try simp only [Act.put,List.setIfInBounds_toArray,List.set_cons_zero,List.set_cons_succ]
 refine wpAnyL_take (i := 7) (v := ?_) (by rw [List.getElem?_toArray]; rfl) (by decide +kernel) (by decide +kernel) (by decide +kernel) (by decide +kernel) (by decide +kernel) (fun _ _ _ h => h) hS4 (Or.inl ⟨by rfl, ?_⟩) ?_
 rotate_left
 · intro wz hSz; obtain ⟨z0,z1,z2⟩ := hSz; go_simp; first | done | with_reducible rfl | rfl | (simp [z0,z1,z2]; done)
 try simp only [Act.put,List.setIfInBounds_toArray,List.set_cons_zero,List.set_cons_succ]
 refine wpAnyL_one (i := 8) (by kernel_rfl) (by rw [List.getElem?_toArray]; rfl) (fun K hK => ?_)
 have HK : Hid _ := hK
 clear hK
 go_simp
 refine (HNm.out w4 (HSk.out _ HB4.out).2.2.2 5 (by omega) k (by omega)).mono ?_
 rintro e w5 ⟨yo,yc,y,rfl,hy5,hb5⟩
 have HB5 : Hid (Below w3.heap.size w3 w5 ∧ ArgL yo k yc y w5) := ⟨bel_up' HB4.out hb5,hy5⟩
 have hS5 : CB B0 D.q N (.slice mo r mc) w5 := (HSk.out _ HB5.out.1).1
 clear hy5 hb5
 refine HK.out _ _ (fun _ => hS5) ?_
 clear HK K
 try simp only [Act.put,List.setIfInBounds_toArray,List.set_cons_zero,List.set_cons_succ]
 refine wpAnyL_one (i := 13) (by kernel_rfl) (by rw [List.getElem?_toArray]; rfl) (fun K hK => ?_)
 have HK : Hid _ := hK
 clear hK
 go_simp
 refine (HPk.out w5).mono ?_
 rintro e w' ⟨rfl,hw⟩
 have hw := hw.symm
 subst hw
 refine HK.out _ _ (fun _ => hS5) ?_
 clear HK K
 try simp only [Act.put,List.setIfInBounds_toArray,List.set_cons_zero,List.set_cons_succ]
 refine wpAnyL_one (i := 14) (by kernel_rfl) (by rw [List.getElem?_toArray]; rfl) (fun K hK => ?_)
 have HK : Hid _ := hK
 clear hK
 go_simp
 refine (codeSays_walk D.q N P0 (HSk.out _ HB5.out.1).2.1.mat.matO (by omega) (fun i _ => by omega) HB5.out.2 (HSk.out _ HB5.out.1).2.2.1 (by omega) (by omega)).mono ?_
 rintro e w6 ⟨rfl,hb6⟩
 have HB6 : Hid (Below w3.heap.size w3 w6) := bel_up' HB5.out.1 hb6
 have hS6 : CB B0 D.q N (.slice mo r mc) w6 := (HSk.out _ HB6.out).1
 clear hb6
 refine HK.out _ _ (fun _ => hS6) ?_
 clear HK K
 try simp only [Act.put,List.setIfInBounds_toArray,List.set_cons_zero,List.set_cons_succ]
 refine wpAnyL_take (i := 15) (v := ?_) (by rw [List.getElem?_toArray]; rfl) (by decide +kernel) (by decide +kernel) (by decide +kernel) (by decide +kernel) (by decide +kernel) (fun _ _ _ h => h) hS6 (Or.inl ⟨by rfl, ?_⟩) ?_
 rotate_left
 · intro wz hSz; obtain ⟨z0,z1,z2⟩ := hSz; go_simp; first | done | with_reducible rfl | rfl | (simp [z0,z1,z2]; done)
 try simp only [Act.put,List.setIfInBounds_toArray,List.set_cons_zero,List.set_cons_succ]
 refine wpAnyL_take (i := 16) (v := ?_) (by rw [List.getElem?_toArray]; rfl) (by decide +kernel) (by decide +kernel) (by decide +kernel) (by decide +kernel) (by decide +kernel) (fun _ _ _ h => h) hS6 (Or.inl ⟨by rfl, ?_⟩) ?_
 rotate_left
 · intro wz hSz; obtain ⟨z0,z1,z2⟩ := hSz; go_simp; first | done | with_reducible rfl | rfl | (simp [z0,z1,z2]; done)
 try simp only [Act.put,List.setIfInBounds_toArray,List.set_cons_zero,List.set_cons_succ]
 refine wpAnyL_take (i := 17) (v := ?_) (by rw [List.getElem?_toArray]; rfl) (by decide +kernel) (by decide +kernel) (by decide +kernel) (by decide +kernel) (by decide +kernel) (fun _ _ _ h => h) hS6 (Or.inl ⟨by rfl, ?_⟩) ?_
 rotate_left
 · intro wz hSz; obtain ⟨z0,z1,z2⟩ := hSz; go_simp; first | done | with_reducible rfl | rfl | (simp [z0,z1,z2]; done)
 try simp only [Act.put,List.setIfInBounds_toArray,List.set_cons_zero,List.set_cons_succ]
 refine wpAnyL_one (i := 18) (by kernel_rfl) (by rw [List.getElem?_toArray]; rfl) (fun K hK => ?_)
 have HK : Hid _ := hK
 clear hK
 go_simp
 refine (codeCounts_walk D.q N (HSk.out _ HB6.out).2.1.mat.matO (by omega) (fun i _ => by omega) (HSk.out _ HB6.out).2.2.1).mono ?_
 rintro e w7 ⟨rfl,hb7⟩
 have HB7 : Hid (Below w3.heap.size w3 w7) := bel_up' HB6.out hb7
 have hS7 : CB B0 D.q N (.slice mo r mc) w7 := (HSk.out _ HB7.out).1
 clear hb7
 refine HK.out _ _ (fun _ => hS7) ?_
 clear HK K
 try simp only [Act.put,List.setIfInBounds_toArray,List.set_cons_zero,List.set_cons_succ]
 refine wpAnyL_take (i := 19) (v := ?_) (by rw [List.getElem?_toArray]; rfl) (by decide +kernel) (by decide +kernel) (by decide +kernel) (by decide +kernel) (by decide +kernel) (fun _ _ _ h => h) hS7 (Or.inl ⟨by rfl, ?_⟩) ?_
 rotate_left
 · intro wz hSz; obtain ⟨z0,z1,z2⟩ := hSz; go_simp; first | done | with_reducible rfl | rfl | (simp [z0,z1,z2]; done)
 try simp only [Act.put,List.setIfInBounds_toArray,List.set_cons_zero,List.set_cons_succ]
 refine wpAnyL_take (i := 20) (v := ?_) (by rw [List.getElem?_toArray]; rfl) (by decide +kernel) (by decide +kernel) (by decide +kernel) (by decide +kernel) (by decide +kernel) (fun _ _ _ h => h) hS7 (Or.inl ⟨by rfl, ?_⟩) ?_
 rotate_left
 · intro wz hSz; obtain ⟨z0,z1,z2⟩ := hSz; go_simp; first | done | with_reducible rfl | rfl | (simp [z0,z1,z2]; done)
 try simp only [Act.put,List.setIfInBounds_toArray,List.set_cons_zero,List.set_cons_succ]
 refine wpAnyL_take (i := 21) (v := ?_) (by rw [List.getElem?_toArray]; rfl) (by decide +kernel) (by decide +kernel) (by decide +kernel) (by decide +kernel) (by decide +kernel) (fun _ _ _ h => h) hS7 (Or.inl ⟨by rfl, ?_⟩) ?_
 rotate_left
 · intro wz hSz; obtain ⟨z0,z1,z2⟩ := hSz; go_simp; first | done | with_reducible rfl | rfl | (simp [z0,z1,z2]; done)
 try simp only [Act.put,List.setIfInBounds_toArray,List.set_cons_zero,List.set_cons_succ]
 refine wpAnyL_one (i := 22) (by kernel_rfl) (by rw [List.getElem?_toArray]; rfl) (fun K hK => ?_)
 have HK : Hid _ := hK
 clear hK
 go_simp
 refine (codeText_any H2.out.1 (HSk.out _ HB7.out).2.1 (by omega) mx (((HSk.out _ HB7.out).2.2.2.cell (p := ⟨mxl,0,none⟩) (cell_lt HA.out.2.2)).trans HA.out.2.2)).mono ?_
 rintro e w8 ⟨rfl,hb8⟩
 have HB8 : Hid (Below w3.heap.size w3 w8) := bel_up' HB7.out hb8
 have hS8 : CB B0 D.q N (.slice mo r mc) w8 := (HSk.out _ HB8.out).1
 clear hb8
 refine HK.out _ _ (fun _ => hS8) ?_
 clear HK K
 try simp only [Act.put,List.setIfInBounds_toArray,List.set_cons_zero,List.set_cons_succ]
 refine wpAnyL_take (i := 23) (v := ?_) (by rw [List.getElem?_toArray]; rfl) (by decide +kernel) (by decide +kernel) (by decide +kernel) (by decide +kernel) (by decide +kernel) (fun _ _ _ h => h) hS8 (Or.inl ⟨by rfl, ?_⟩) ?_
 rotate_left
 · intro wz hSz; obtain ⟨z0,z1,z2⟩ := hSz; go_simp; first | done | with_reducible rfl | rfl | (simp [z0,z1,z2]; done)
 try simp only [Act.put,List.setIfInBounds_toArray,List.set_cons_zero,List.set_cons_succ]
 refine wpAnyL_take (i := 24) (v := ?_) (by rw [List.getElem?_toArray]; rfl) (by decide +kernel) (by decide +kernel) (by decide +kernel) (by decide +kernel) (by decide +kernel) (fun _ _ _ h => h) hS8 (Or.inl ⟨by rfl, ?_⟩) ?_
 rotate_left
 · intro wz hSz; obtain ⟨z0,z1,z2⟩ := hSz; go_simp; first | done | with_reducible rfl | rfl | (simp [z0,z1,z2]; done)
 try simp only [Act.put,List.setIfInBounds_toArray,List.set_cons_zero,List.set_cons_succ]
 refine wpAnyL_done (by kernel_rfl) (NoPanic.normal ?_)
 have HF : Hid (Below w.heap.size w w8) := (HSk.out _ HB8.out).2.2.2
 clear hS0 hS4 hS5 hS6 hS7 hS8
 go_wp2
 go_ret
 exact ⟨by first | rfl | simp,HF.out⟩
end Go.Proofs.YtinmkgohganllaaGreatDoor
