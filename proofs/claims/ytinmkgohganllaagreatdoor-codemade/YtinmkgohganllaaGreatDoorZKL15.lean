/- Texts of ours, one behind the other: KL15 KL16 KL17 KL18 KL19. -/
import Derived.Test.YtinmkgohganllaaGreatDoorZKL9
import Derived.Test.YtinmkgohganllaaGreatDoorZKL7
import Derived.Test.YtinmkgohganllaaGreatDoorZKL10
import Derived.Test.YtinmkgohganllaaGreatDoorZL1
import Derived.Test.YtinmkgohganllaaGreatDoorZL11
import Derived.Test.YtinmkgohganllaaGreatDoorZR13
import Derived.Test.YtinmkgohganllaaGreatDoorZI12
import Derived.Test.YtinmkgohganllaaGreatDoorZS12
import Derived.Test.YtinmkgohganllaaGreatDoorZI43
namespace Go.Proofs.YtinmkgohganllaaGreatDoor
open Go.RowKit Go.Sort Go.Shelf
set_option maxHeartbeats 8000000 in
set_option maxRecDepth 100000 in
theorem nearest_err (e : Int) (he : e ≠ 0) (q n : Int) {ao : Option Addr} {m ca my cy : Nat} {yo : Option Addr} {w : World}
   (hC : ∀ wx,Below w.heap.size w wx → Calls Tryz.prog 70 #[.agg #[.int .i64 q, .int .i64 n, .slice ao m ca]] wx fun x w' => x = .returned (.tuple #[.agg #[.int .i64 0, .int .i64 0, .slice none 0 0], .int .i64 e]) ∧ Below wx.heap.size wx w') :
   Calls Tryz.prog 37 #[.agg #[.int .i64 q, .int .i64 n, .slice ao m ca], .slice yo my cy] w fun x w' => x = .returned (.tuple #[.slice none 0 0, .int .i64 0, .int .i64 e]) ∧ Below w.heap.size w w' := by
 obtain ⟨w0,hw0⟩ : ∃ w0,w0 = (w.alloc (.cells #[.int .i64 q, .int .i64 n, .slice ao m ca] 25)).alloc (.cells #[.slice yo my cy] 22) := ⟨_,rfl⟩
 have hb0 : Below w.heap.size w w0 := by rw [hw0]; exact ((Below.refl _ _).alloc (Nat.le_refl _) _).alloc (by simp) _
 have HS : Hid (Calls Tryz.prog 70 #[.agg #[.int .i64 q, .int .i64 n, .slice ao m ca]] w0 fun x w' => x = .returned (.tuple #[.agg #[.int .i64 0, .int .i64 0, .slice none 0 0], .int .i64 e]) ∧ Below w0.heap.size w0 w') := hC w0 hb0
 have hz : (e != 0) = true := by rw [bne_iff_ne]; exact he
 refine callsIn_wide.1 (callsIn_of_wp_marks (n := 0) Tryz.func37 rfl trivial ?_ rfl)
 refine wpIn_wide.2 ?_
 simp only [Tryz.ntmps37,List.size_toArray,List.length_cons,List.length_nil,Nat.reduceAdd,Nat.reduceSub,Array.replicate_succ,Array.replicate_zero,List.push_toArray,List.append_toArray,List.nil_append,List.cons_append]
 go_wp2_with fail
 rw [← hw0]
 have HB0 : Hid (Below w.heap.size w w0 ∧ RB w.heap.size w0) := ⟨hb0,by rw [hw0]; exact (RB.new (.int .i64 q) (.int .i64 n) (.slice ao m ca) w).keep ((Below.refl _ _).alloc (Nat.le_refl _) (.cells #[.slice yo my cy] 22))⟩
 clear hw0 hb0 hC he
 refine HS.out.mono ?_
 rintro x w1 ⟨rfl,hb1⟩
 have H1 : Hid (Below w.heap.size w w1 ∧ RB w.heap.size w1) := ⟨below_two' HB0.out.1 hb1,HB0.out.2.keep hb1⟩
 clear hb1
 obtain ⟨⟨x0,c0⟩,⟨x1,c1⟩,⟨x2,c2⟩,f0,f1,f2⟩ := H1.out.2
 obtain ⟨w2,hw2⟩ : ∃ w2,w2 = laid w1 w.heap.size 0 0 (.slice none 0 0) := ⟨_,rfl⟩
 have HB : Hid (Below w.heap.size w w2) := by rw [hw2]; exact laid_below H1.out.1 (Nat.le_refl _) _ _ _
 unfold laid at hw2
 go_wp2
 rw [← hw2]
 refine ⟨.tuple #[.slice none 0 0, .int .i64 0, .int .i64 e],by simp [results,Tryz.results37,go_sem], ?_⟩
 exact ⟨rfl,HB.out⟩
def NeE (D : FD) (n m : Nat) (M : Nat → Nat → Nat) (e : Int) (w : World) (x : Ending) (w' : World) : Prop :=
 ∃ k R,Red D n m M k R ∧ Below w.heap.size w w' ∧ ((D.q ^ k ≤ 4096 ∧ x = .returned (.tuple #[.slice none 0 0, .int .i64 0, .int .i64 e])) ∨
   (¬ D.q ^ k ≤ 4096 ∧ x = .returned (.tuple #[.slice none 0 0, .int .i64 0, .int .i64 4])))
set_option maxHeartbeats 8000000 in
set_option maxRecDepth 100000 in
theorem nearest_num {D : FD} (hD : D ∈ fieldsL) {ao yo : Option Addr} {m n my ca cy : Nat} {M : Nat → Nat → Nat} {y : Nat → Int} {w : World} {e : Int} (hE : e = D.nchk my y n) (he : e ≠ 0) (hA : Arg yo my cy y w)
   (hS : ∀ wx,Below w.heap.size w wx → Calls Tryz.prog 70 #[.agg #[.int .i64 D.q, .int .i64 (n : Nat), .slice ao m ca]] wx (SmP D n m M wx)) :
   Calls Tryz.prog 37 #[.agg #[.int .i64 D.q, .int .i64 (n : Nat), .slice ao m ca], .slice yo my cy] w (NeE D n m M e w) := by
 obtain ⟨w0,hw0⟩ : ∃ w0,w0 = (w.alloc (.cells #[.int .i64 D.q, .int .i64 (n : Nat), .slice ao m ca] 25)).alloc (.cells #[.slice yo my cy] 22) := ⟨_,rfl⟩
 have hb0 : Below w.heap.size w w0 := by rw [hw0]; exact ((Below.refl _ _).alloc (Nat.le_refl _) _).alloc (by simp) _
 have HS : Hid (Calls Tryz.prog 70 #[.agg #[.int .i64 D.q, .int .i64 (n : Nat), .slice ao m ca]] w0 (SmP D n m M w0)) := hS w0 hb0
 have hrb0 : RB w.heap.size w0 := by
   rw [hw0]
   have h := (RB.new (.int .i64 D.q) (.int .i64 (n : Nat)) (.slice ao m ca) w).keep ((Below.refl _ _).alloc (Nat.le_refl _) (.cells #[.slice yo my cy] 22))
   exact h
 have hyb0 : w0.cell? ⟨w.heap.size + 1,0,none⟩ = some (.slice yo my cy) := by
   have h := World.cell?_alloc_new (w := w.alloc (.cells #[.int .i64 D.q, .int .i64 (n : Nat), .slice ao m ca] 25)) #[.slice yo my cy] 22 0
   rw [show (w.alloc (.cells #[.int .i64 D.q, .int .i64 (n : Nat), .slice ao m ca] 25)).heap.size = w.heap.size + 1 by simp] at h
   rw [hw0]; exact h
 have HB0 : Hid (Below w.heap.size w w0 ∧ RB w.heap.size w0 ∧ w0.cell? ⟨w.heap.size + 1,0,none⟩ = some (.slice yo my cy) ∧ w0.heap.size = w.heap.size + 2) := ⟨hb0,hrb0,hyb0,by rw [hw0]; simp⟩
 have HA : Hid (D ∈ fieldsL ∧ Arg yo my cy y w ∧ e = D.nchk my y n) := ⟨hD,hA,hE⟩
 have hFl := fld hD
 have hz : (e != 0) = true := by rw [bne_iff_ne]; exact he
 have HE0 : Hid (e ≠ 0) := he
 clear hS hA hE he hrb0 hyb0
 refine callsIn_wide.1 (callsIn_of_wp_marks (n := 0) Tryz.func37 rfl trivial ?_ rfl)
 refine wpIn_wide.2 ?_
 simp only [Tryz.ntmps37,List.size_toArray,List.length_cons,List.length_nil,Nat.reduceAdd,Nat.reduceSub,Array.replicate_succ,Array.replicate_zero,List.push_toArray,List.append_toArray,List.nil_append,List.cons_append]
 go_wp2_with fail
 rw [← hw0]
 clear hw0 hb0
 refine HS.out.mono ?_
 rintro x w1 ⟨k,R,hred,hb1,hx⟩
 have H1 : Hid (Below w.heap.size w w1 ∧ RB w.heap.size w1 ∧ Red D n m M k R ∧ w0.heap.size ≤ w1.heap.size ∧ w1.cell? ⟨w.heap.size + 1,0,none⟩ = some (.slice yo my cy)) := ⟨below_two' HB0.out.1 hb1,HB0.out.2.1.keep hb1,hred,hb1.size,((bcell hb1).1 _ 0 (cell_lt HB0.out.2.2.1)).trans HB0.out.2.2.1⟩
 clear hred hb1
 obtain ⟨⟨x0,c0⟩,⟨x1,c1⟩,⟨x2,c2⟩,f0,f1,f2⟩ := H1.out.2.1
 rcases hx with ⟨hfew,ro,rc,hkr,hmv,rfl⟩ | ⟨hmany,rfl⟩
 · obtain ⟨w2,hw2⟩ : ∃ w2,w2 = laid w1 w.heap.size D.q n (.slice ro k rc) := ⟨_,rfl⟩
   have H2 : Hid (CB w.heap.size D.q n (.slice ro k rc) w2 ∧ MV w0.heap.size (.slice ro k rc) k n R w2 ∧ Below w.heap.size w w2 ∧ w2.cell? ⟨w.heap.size + 1,0,none⟩ = some (.slice yo my cy) ∧ w2.heap.size = w1.heap.size) := by
     have h9 := HB0.out.2.2.2
     rw [hw2]
     refine ⟨laid_cb H1.out.2.1 _ _ _,laid_mv hmv (by omega) _ _ _,laid_below H1.out.1 (Nat.le_refl _) _ _ _, ?_,by simp [laid,World.setCell]⟩
     have e := laid_heap w1 w.heap.size D.q n (.slice ro k rc) (g := w.heap.size + 1) (by omega)
     have h8 := H1.out.2.2.2.2
     unfold World.cell? at h8 ⊢
     rw [e]; exact h8
   have HKR : Hid (D.q ^ k ≤ 4096 ∧ k ≤ rc ∧ rc ≤ 1000000) := ⟨hfew,hkr⟩
   obtain ⟨e0,e1,e2⟩ := H2.out.1
   have e3 := H2.out.2.2.2.1
   rw [hw2] at e0 e1 e2 e3
   unfold laid at e0 e1 e2 e3 hw2
   have HNm : Hid (Calls Tryz.prog 73 #[.int .i64 D.q, .slice yo my cy, .int .i64 (n : Nat)] w2 fun x w' => x = .returned (.tuple #[.pointer none, .int .i64 e]) ∧ Below w2.heap.size w2 w') := by have h := HA.out.2.2; rw [h]; exact cnum_err HA.out.1 (HA.out.2.1.below H2.out.2.2.1) (by rw [← h]; exact HE0.out)
   clear hmv hfew hkr
   go_wp2_with fail
   rw [← hw2]
   clear hw2 e0 e1 e2 e3 c0 c1 c2 f0 f1 f2
   refine HNm.out.mono ?_
   rintro x w3 ⟨rfl,hb3⟩
   have HB3 : Hid (Below w.heap.size w w3) := bel_up' H2.out.2.2.1 hb3
   clear hb3
   go_wp2
   refine ⟨.tuple #[.slice none 0 0, .int .i64 0, .int .i64 e],by simp [results,Tryz.results37,go_sem], ?_⟩
   exact ⟨k,R,H1.out.2.2.1,HB3.out,Or.inl ⟨HKR.out.1,rfl⟩⟩
 · have HM : Hid (¬ D.q ^ k ≤ 4096) := hmany
   obtain ⟨w2,hw2⟩ : ∃ w2,w2 = laid w1 w.heap.size 0 0 (.slice none 0 0) := ⟨_,rfl⟩
   have HB : Hid (Below w.heap.size w w2) := by rw [hw2]; exact laid_below H1.out.1 (Nat.le_refl _) _ _ _
   unfold laid at hw2
   go_wp2
   rw [← hw2]
   refine ⟨.tuple #[.slice none 0 0, .int .i64 0, .int .i64 4],by simp [results,Tryz.results37,go_sem], ?_⟩
   exact ⟨k,R,H1.out.2.2.1,HB.out,Or.inr ⟨HM.out,rfl⟩⟩
end Go.Proofs.YtinmkgohganllaaGreatDoor
namespace Go.Proofs.YtinmkgohganllaaGreatDoor
open Go.RowKit Go.Sort
set_option maxHeartbeats 8000000 in
set_option maxRecDepth 100000 in
theorem cc_heavy (q n : Int) {ao yo : Option Addr} {m ca my cy : Nat} {bh : Bool} {w : World} (hHv : ∀ wx,Below w.heap.size w wx → Calls Tryz.prog 14 #[.slice ao m ca] wx fun r w' => r = .returned (.bool bh) ∧ w' = wx) (hh : bh = true ∨ 100 < my) :
   Calls Tryz.prog 9 #[.agg #[.int .i64 q, .int .i64 n, .slice ao m ca], .slice yo my cy] w fun r w' => r = .returned (.bool true) ∧ Below w.heap.size w w' := by
 obtain ⟨w0,hw0⟩ : ∃ w0,w0 = w.alloc (.cells #[.int .i64 q, .int .i64 n, .slice ao m ca] 25) := ⟨_,rfl⟩
 have hb0 : Below w.heap.size w w0 := by rw [hw0]; exact (Below.refl _ _).alloc (Nat.le_refl _) _
 have HW : Hid (Below w.heap.size w w0 ∧ CB w.heap.size q n (.slice ao m ca) w0) := ⟨hb0,by rw [hw0]; exact CB.new _ _ _ _⟩
 have HHv : Hid _ := hHv
 clear hHv hb0
 go_enter Tryz.func9,Tryz.ntmps9
 go_wp2_with fail
 rw [← hw0]
 clear hw0
 refine (HHv.out _ HW.out.1).mono ?_
 rintro r w' ⟨rfl,hw⟩
 have hw := hw.symm
 subst hw
 obtain ⟨q0,q1,q2⟩ := HW.out.2
 cases bh with
 | true =>
   go_wp2
   go_ret
   exact ⟨rfl,HW.out.1⟩
 | false =>
   have hl2 : (100 : Int) < (my : Int) := by
     rcases hh with h | h
     · cases h
     · omega
   go_wp2
   go_ret
   exact ⟨rfl,HW.out.1⟩
set_option maxHeartbeats 8000000 in
set_option maxRecDepth 100000 in
theorem cc_err (e : Int) (he : e ≠ 0) (q n : Int) {ao yo : Option Addr} {m ca my cy : Nat} {w : World} (hmy : my ≤ 100) (hHv : ∀ wx,Below w.heap.size w wx → Calls Tryz.prog 14 #[.slice ao m ca] wx fun r w' => r = .returned (.bool false) ∧ w' = wx)
   (hWm : ∀ wx,Below w.heap.size w wx → Calls Tryz.prog 29 #[.agg #[.int .i64 q, .int .i64 n, .slice ao m ca]] wx fun x w' => x = .returned (.int .i64 e) ∧ Below wx.heap.size wx w')
   (hCw : ∀ wx,Below w.heap.size w wx → Calls Tryz.prog 31 #[.agg #[.int .i64 q, .int .i64 n, .slice ao m ca]] wx fun x w' => x = .returned (.tuple #[.slice none 0 0, .int .i64 e]) ∧ Below wx.heap.size wx w')
   (hCd : ∀ wx,Below w.heap.size w wx → Calls Tryz.prog 32 #[.agg #[.int .i64 q, .int .i64 n, .slice ao m ca]] wx fun x w' => x = .returned (.tuple #[.int .i64 0, .int .i64 e]) ∧ Below wx.heap.size wx w')
   (hCn : ∀ wx,Below w.heap.size w wx → Calls Tryz.prog 37 #[.agg #[.int .i64 q, .int .i64 n, .slice ao m ca], .slice yo my cy] wx fun x w' => x = .returned (.tuple #[.slice none 0 0, .int .i64 0, .int .i64 e]) ∧ Below wx.heap.size wx w') :
   Calls Tryz.prog 9 #[.agg #[.int .i64 q, .int .i64 n, .slice ao m ca], .slice yo my cy] w fun r w' => r = .returned (.bool true) ∧ Below w.heap.size w w' := by
 obtain ⟨w0,hw0⟩ : ∃ w0,w0 = w.alloc (.cells #[.int .i64 q, .int .i64 n, .slice ao m ca] 25) := ⟨_,rfl⟩
 have hb0 : Below w.heap.size w w0 := by rw [hw0]; exact (Below.refl _ _).alloc (Nat.le_refl _) _
 have HW : Hid (Below w.heap.size w w0 ∧ CB w.heap.size q n (.slice ao m ca) w0) := ⟨hb0,by rw [hw0]; exact CB.new _ _ _ _⟩
 have HHv : Hid _ := hHv
 have HWm : Hid _ := hWm
 have HCw : Hid _ := hCw
 have HCd : Hid _ := hCd
 have HCn : Hid _ := hCn
 have HE : Hid (e ≠ 0) := he
 have hz1 : (e == 0) = false := by rw [beq_eq_false_iff_ne]; exact he
 have hz2 : (e != 0) = true := by rw [bne_iff_ne]; exact he
 have hl : ¬ (100 : Int) < (my : Int) := by omega
 clear hWm hCw hCd hCn he
 clear hHv hb0
 go_enter Tryz.func9,Tryz.ntmps9
 go_wp2_with fail
 rw [← hw0]
 clear hw0
 refine (HHv.out _ HW.out.1).mono ?_
 rintro r w' ⟨rfl,hw⟩
 have hw := hw.symm
 subst hw
 obtain ⟨q0,q1,q2⟩ := HW.out.2
 have H0 := HW
 go_wp2_with fail
 refine (HWm.out _ H0.out.1).mono ?_
 rintro x w1 ⟨rfl,hb1⟩
 have H1 : Hid (Below w.heap.size w w1 ∧ CB w.heap.size q n (.slice ao m ca) w1) := ⟨bel_up' H0.out.1 hb1,H0.out.2.keep hb1⟩
 clear hb1 q0 q1 q2
 obtain ⟨q0,q1,q2⟩ := H1.out.2
 go_wp2_with fail
 refine (HCw.out _ H1.out.1).mono ?_
 rintro x w2 ⟨rfl,hb2⟩
 have H2 : Hid (Below w.heap.size w w2 ∧ CB w.heap.size q n (.slice ao m ca) w2) := ⟨bel_up' H1.out.1 hb2,H1.out.2.keep hb2⟩
 clear hb2 q0 q1 q2
 obtain ⟨q0,q1,q2⟩ := H2.out.2
 go_wp2_with fail
 refine (HCd.out _ H2.out.1).mono ?_
 rintro x w3 ⟨rfl,hb3⟩
 have H3 : Hid (Below w.heap.size w w3 ∧ CB w.heap.size q n (.slice ao m ca) w3) := ⟨bel_up' H2.out.1 hb3,H2.out.2.keep hb3⟩
 clear hb3 q0 q1 q2
 obtain ⟨q0,q1,q2⟩ := H3.out.2
 go_wp2_with fail
 refine (list_err e HE.out _).mono ?_
 rintro x w' ⟨rfl,hw⟩
 have hw := hw.symm
 subst hw
 go_wp2_with fail
 refine (rleast_nil _).mono ?_
 rintro x w' ⟨rfl,hw⟩
 have hw := hw.symm
 subst hw
 go_wp2_with fail
 refine (num_err e HE.out 0 _).mono ?_
 rintro x w' ⟨rfl,hw⟩
 have hw := hw.symm
 subst hw
 go_wp2_with fail
 refine (HCn.out _ H3.out.1).mono ?_
 rintro x w4 ⟨rfl,hb4⟩
 have H4 : Hid (Below w.heap.size w w4 ∧ CB w.heap.size q n (.slice ao m ca) w4) := ⟨bel_up' H3.out.1 hb4,H3.out.2.keep hb4⟩
 clear hb4 q0 q1 q2
 obtain ⟨q0,q1,q2⟩ := H4.out.2
 go_wp2
 go_ret
 exact ⟨by simp,H4.out.1⟩
set_option maxHeartbeats 8000000 in
set_option maxRecDepth 100000 in
theorem cc_word (e : Int) (he : e ≠ 0) (q n : Int) {ao yo : Option Addr} {m ca my cy n2 : Nat} {c : Nat → Nat} {w : World} (hmy : my ≤ 100) (hn2 : n2 ≤ 65) (hHv : ∀ wx,Below w.heap.size w wx → Calls Tryz.prog 14 #[.slice ao m ca] wx fun r w' => r = .returned (.bool false) ∧ w' = wx)
   (hWm : ∀ wx,Below w.heap.size w wx → Calls Tryz.prog 29 #[.agg #[.int .i64 q, .int .i64 n, .slice ao m ca]] wx fun x w' => x = .returned (.int .i64 0) ∧ Below wx.heap.size wx w')
   (hRw : ∀ wx,Below w.heap.size w wx → Calls Tryz.prog 30 #[.agg #[.int .i64 q, .int .i64 n, .slice ao m ca]] wx fun x w' => ∃ g,x = .returned (.slice (some ⟨g,0,none⟩) n2 n2) ∧ Row g n2 c w' ∧ Below wx.heap.size wx w')
   (hCw : ∀ wx,Below w.heap.size w wx → Calls Tryz.prog 31 #[.agg #[.int .i64 q, .int .i64 n, .slice ao m ca]] wx fun x w' => ∃ g,x = .returned (.tuple #[.slice (some ⟨g,0,none⟩) n2 n2, .int .i64 0]) ∧ Row g n2 c w' ∧ Below wx.heap.size wx w')
   (hCd : ∀ wx,Below w.heap.size w wx → Calls Tryz.prog 32 #[.agg #[.int .i64 q, .int .i64 n, .slice ao m ca]] wx fun x w' => ∃ d,Lwt c n2 d ∧ x = .returned (.tuple #[.int .i64 (d : Nat), .int .i64 0]) ∧ Below wx.heap.size wx w')
   (hRm : ∀ wx,Below w.heap.size w wx → Calls Tryz.prog 36 #[.agg #[.int .i64 q, .int .i64 n, .slice ao m ca], .slice yo my cy] wx fun x w' => x = .returned (.int .i64 e) ∧ Below wx.heap.size wx w')
   (hCn : ∀ wx,Below w.heap.size w wx → Calls Tryz.prog 37 #[.agg #[.int .i64 q, .int .i64 n, .slice ao m ca], .slice yo my cy] wx fun x w' => x = .returned (.tuple #[.slice none 0 0, .int .i64 0, .int .i64 e]) ∧ Below wx.heap.size wx w') :
   Calls Tryz.prog 9 #[.agg #[.int .i64 q, .int .i64 n, .slice ao m ca], .slice yo my cy] w fun r w' => r = .returned (.bool true) ∧ Below w.heap.size w w' := by
 obtain ⟨w0,hw0⟩ : ∃ w0,w0 = w.alloc (.cells #[.int .i64 q, .int .i64 n, .slice ao m ca] 25) := ⟨_,rfl⟩
 have hb0 : Below w.heap.size w w0 := by rw [hw0]; exact (Below.refl _ _).alloc (Nat.le_refl _) _
 have HW : Hid (Below w.heap.size w w0 ∧ CB w.heap.size q n (.slice ao m ca) w0) := ⟨hb0,by rw [hw0]; exact CB.new _ _ _ _⟩
 have HHv : Hid _ := hHv
 have HWm : Hid _ := hWm
 have HRw : Hid _ := hRw
 have HCw : Hid _ := hCw
 have HCd : Hid _ := hCd
 have HRm : Hid _ := hRm
 have HCn : Hid _ := hCn
 have hl : ¬ (100 : Int) < (my : Int) := by omega
 clear hWm hRw hCw hCd hRm hCn
 have hz1 : (e == 0) = false := by rw [beq_eq_false_iff_ne]; exact he
 have hz2 : (e != 0) = true := by rw [bne_iff_ne]; exact he
 clear he
 clear hHv hb0
 go_enter Tryz.func9,Tryz.ntmps9
 go_wp2_with fail
 rw [← hw0]
 clear hw0
 refine (HHv.out _ HW.out.1).mono ?_
 rintro r w' ⟨rfl,hw⟩
 have hw := hw.symm
 subst hw
 obtain ⟨q0,q1,q2⟩ := HW.out.2
 have H0 := HW
 go_wp2_with fail
 refine (HWm.out _ H0.out.1).mono ?_
 rintro x w1 ⟨rfl,hb1⟩
 have H1 : Hid (Below w.heap.size w w1 ∧ CB w.heap.size q n (.slice ao m ca) w1) := ⟨bel_up' H0.out.1 hb1,H0.out.2.keep hb1⟩
 clear hb1 q0 q1 q2
 obtain ⟨q0,q1,q2⟩ := H1.out.2
 go_wp2_with fail
 refine (HRw.out _ H1.out.1).mono ?_
 rintro x w2 ⟨g1,rfl,hr2,hb2⟩
 have H2 : Hid (Below w.heap.size w w2 ∧ CB w.heap.size q n (.slice ao m ca) w2) := ⟨bel_up' H1.out.1 hb2,H1.out.2.keep hb2⟩
 clear hb2 q0 q1 q2
 obtain ⟨q0,q1,q2⟩ := H2.out.2
 go_wp2_with fail
 refine (HCw.out _ H2.out.1).mono ?_
 rintro x w3 ⟨g2,rfl,hr3,hb3⟩
 have H3 : Hid (Below w.heap.size w w3 ∧ CB w.heap.size q n (.slice ao m ca) w3) := ⟨bel_up' H2.out.1 hb3,H2.out.2.keep hb3⟩
 have hr2 := hr2.below hb3 hr2.lt
 clear hb3 q0 q1 q2
 obtain ⟨q0,q1,q2⟩ := H3.out.2
 go_wp2_with fail
 refine (HCd.out _ H3.out.1).mono ?_
 rintro x w4 ⟨d,hd,rfl,hb4⟩
 have H4 : Hid (Below w.heap.size w w4 ∧ CB w.heap.size q n (.slice ao m ca) w4) := ⟨bel_up' H3.out.1 hb4,H3.out.2.keep hb4⟩
 have HD : Hid (Row g1 n2 c w4 ∧ Row g2 n2 c w4 ∧ Lwt c n2 d) := ⟨hr2.below hb4 hr2.lt,hr3.below hb4 hr3.lt,hd⟩
 clear hr2 hr3 hd
 clear hb4 q0 q1 q2
 obtain ⟨q0,q1,q2⟩ := H4.out.2
 go_wp2_with fail
 refine (list_same (sl_sliceI (HD.out.2.1.sl (Nat.le_refl _)) (by omega)) (sl_sliceI (HD.out.1.sl (Nat.le_refl _)) (by omega))).mono ?_
 rintro x w5 ⟨rfl,nd,hw5⟩
 have H5 : Hid (Below w.heap.size w w5 ∧ CB w.heap.size q n (.slice ao m ca) w5 ∧ Row g1 n2 c w5) := by rw [hw5]; exact ⟨below_drewN2 H4.out.1 _,H4.out.2.keep (below_drewN2 (Below.refl _ _) _),HD.out.1.drewN nd⟩
 clear hw5 q0 q1 q2
 obtain ⟨q0,q1,q2⟩ := H5.out.2.1
 go_wp2_with fail
 refine (rleast_any H5.out.2.2 (by omega)).mono ?_
 rintro x w' ⟨d',hd',rfl,hw⟩
 have hw := hw.symm
 subst hw
 have hdd := hd'.uniq HD.out.2.2
 subst hdd
 clear hd'
 go_wp2_with fail
 refine (num_same _ _).mono ?_
 rintro x w' ⟨rfl,hw⟩
 have hw := hw.symm
 subst hw
 have H5 : Hid (Below w.heap.size w w5 ∧ CB w.heap.size q n (.slice ao m ca) w5) := ⟨H5.out.1,H5.out.2.1⟩
 go_wp2_with fail
 refine (HRm.out _ H5.out.1).mono ?_
 rintro x w6 ⟨rfl,hb6⟩
 have H6 : Hid (Below w.heap.size w w6 ∧ CB w.heap.size q n (.slice ao m ca) w6) := ⟨bel_up' H5.out.1 hb6,H5.out.2.keep hb6⟩
 clear hb6 q0 q1 q2
 obtain ⟨q0,q1,q2⟩ := H6.out.2
 go_wp2_with fail
 refine (HCn.out _ H6.out.1).mono ?_
 rintro x w7 ⟨rfl,hb7⟩
 have H7 : Hid (Below w.heap.size w w7 ∧ CB w.heap.size q n (.slice ao m ca) w7) := ⟨bel_up' H6.out.1 hb7,H6.out.2.keep hb7⟩
 clear hb7 q0 q1 q2
 obtain ⟨q0,q1,q2⟩ := H7.out.2
 go_wp2
 go_ret
 exact ⟨by simp,H7.out.1⟩
set_option maxHeartbeats 8000000 in
set_option maxRecDepth 100000 in
theorem cc_ok (q n : Int) {ao yo : Option Addr} {m ca my cy n2 nw Nw : Nat} {c f : Nat → Nat} {W : Nat → Nat → Nat} {w : World} (hmy : my ≤ 100) (hn2 : n2 ≤ 65) (hHv : ∀ wx,Below w.heap.size w wx → Calls Tryz.prog 14 #[.slice ao m ca] wx fun r w' => r = .returned (.bool false) ∧ w' = wx)
   (hWm : ∀ wx,Below w.heap.size w wx → Calls Tryz.prog 29 #[.agg #[.int .i64 q, .int .i64 n, .slice ao m ca]] wx fun x w' => x = .returned (.int .i64 0) ∧ Below wx.heap.size wx w')
   (hRw : ∀ wx,Below w.heap.size w wx → Calls Tryz.prog 30 #[.agg #[.int .i64 q, .int .i64 n, .slice ao m ca]] wx fun x w' => ∃ g,x = .returned (.slice (some ⟨g,0,none⟩) n2 n2) ∧ Row g n2 c w' ∧ Below wx.heap.size wx w')
   (hCw : ∀ wx,Below w.heap.size w wx → Calls Tryz.prog 31 #[.agg #[.int .i64 q, .int .i64 n, .slice ao m ca]] wx fun x w' => ∃ g,x = .returned (.tuple #[.slice (some ⟨g,0,none⟩) n2 n2, .int .i64 0]) ∧ Row g n2 c w' ∧ Below wx.heap.size wx w')
   (hCd : ∀ wx,Below w.heap.size w wx → Calls Tryz.prog 32 #[.agg #[.int .i64 q, .int .i64 n, .slice ao m ca]] wx fun x w' => ∃ d,Lwt c n2 d ∧ x = .returned (.tuple #[.int .i64 (d : Nat), .int .i64 0]) ∧ Below wx.heap.size wx w')
   (hRm : ∀ wx,Below w.heap.size w wx → Calls Tryz.prog 36 #[.agg #[.int .i64 q, .int .i64 n, .slice ao m ca], .slice yo my cy] wx fun x w' => x = .returned (.int .i64 0) ∧ Below wx.heap.size wx w')
   (hnw : nw ≤ 64)
   (hCn : ∀ wx,Below w.heap.size w wx → Calls Tryz.prog 37 #[.agg #[.int .i64 q, .int .i64 n, .slice ao m ca], .slice yo my cy] wx fun x w' => ∃ b g c,Bst f Nw b ∧ nw ≤ c ∧ c ≤ 9223372036854775807 ∧ Row g nw (W b) w' ∧ x = .returned (.tuple #[.slice (some ⟨g,0,none⟩) nw c, .int .i64 (f b : Nat), .int .i64 0]) ∧ Below wx.heap.size wx w')
   (hRn : ∀ wx,Below w.heap.size w wx → Calls Tryz.prog 38 #[.agg #[.int .i64 q, .int .i64 n, .slice ao m ca], .slice yo my cy] wx fun x w' => ∃ b g c,Bst f Nw b ∧ nw ≤ c ∧ c ≤ 9223372036854775807 ∧ Row g nw (W b) w' ∧ x = .returned (.tuple #[.slice (some ⟨g,0,none⟩) nw c, .int .i64 (f b : Nat)]) ∧ Below wx.heap.size wx w') :
   Calls Tryz.prog 9 #[.agg #[.int .i64 q, .int .i64 n, .slice ao m ca], .slice yo my cy] w fun r w' => r = .returned (.bool true) ∧ Below w.heap.size w w' := by
 obtain ⟨w0,hw0⟩ : ∃ w0,w0 = w.alloc (.cells #[.int .i64 q, .int .i64 n, .slice ao m ca] 25) := ⟨_,rfl⟩
 have hb0 : Below w.heap.size w w0 := by rw [hw0]; exact (Below.refl _ _).alloc (Nat.le_refl _) _
 have HW : Hid (Below w.heap.size w w0 ∧ CB w.heap.size q n (.slice ao m ca) w0) := ⟨hb0,by rw [hw0]; exact CB.new _ _ _ _⟩
 have HHv : Hid _ := hHv
 have HWm : Hid _ := hWm
 have HRw : Hid _ := hRw
 have HCw : Hid _ := hCw
 have HCd : Hid _ := hCd
 have HRm : Hid _ := hRm
 have HCn : Hid _ := hCn
 have hl : ¬ (100 : Int) < (my : Int) := by omega
 clear hWm hRw hCw hCd hRm hCn
 have HRn : Hid _ := hRn
 clear hRn
 clear hHv hb0
 go_enter Tryz.func9,Tryz.ntmps9
 go_wp2_with fail
 rw [← hw0]
 clear hw0
 refine (HHv.out _ HW.out.1).mono ?_
 rintro r w' ⟨rfl,hw⟩
 have hw := hw.symm
 subst hw
 obtain ⟨q0,q1,q2⟩ := HW.out.2
 have H0 := HW
 go_wp2_with fail
 refine (HWm.out _ H0.out.1).mono ?_
 rintro x w1 ⟨rfl,hb1⟩
 have H1 : Hid (Below w.heap.size w w1 ∧ CB w.heap.size q n (.slice ao m ca) w1) := ⟨bel_up' H0.out.1 hb1,H0.out.2.keep hb1⟩
 clear hb1 q0 q1 q2
 obtain ⟨q0,q1,q2⟩ := H1.out.2
 go_wp2_with fail
 refine (HRw.out _ H1.out.1).mono ?_
 rintro x w2 ⟨g1,rfl,hr2,hb2⟩
 have H2 : Hid (Below w.heap.size w w2 ∧ CB w.heap.size q n (.slice ao m ca) w2) := ⟨bel_up' H1.out.1 hb2,H1.out.2.keep hb2⟩
 clear hb2 q0 q1 q2
 obtain ⟨q0,q1,q2⟩ := H2.out.2
 go_wp2_with fail
 refine (HCw.out _ H2.out.1).mono ?_
 rintro x w3 ⟨g2,rfl,hr3,hb3⟩
 have H3 : Hid (Below w.heap.size w w3 ∧ CB w.heap.size q n (.slice ao m ca) w3) := ⟨bel_up' H2.out.1 hb3,H2.out.2.keep hb3⟩
 have hr2 := hr2.below hb3 hr2.lt
 clear hb3 q0 q1 q2
 obtain ⟨q0,q1,q2⟩ := H3.out.2
 go_wp2_with fail
 refine (HCd.out _ H3.out.1).mono ?_
 rintro x w4 ⟨d,hd,rfl,hb4⟩
 have H4 : Hid (Below w.heap.size w w4 ∧ CB w.heap.size q n (.slice ao m ca) w4) := ⟨bel_up' H3.out.1 hb4,H3.out.2.keep hb4⟩
 have HD : Hid (Row g1 n2 c w4 ∧ Row g2 n2 c w4 ∧ Lwt c n2 d) := ⟨hr2.below hb4 hr2.lt,hr3.below hb4 hr3.lt,hd⟩
 clear hr2 hr3 hd
 clear hb4 q0 q1 q2
 obtain ⟨q0,q1,q2⟩ := H4.out.2
 go_wp2_with fail
 refine (list_same (sl_sliceI (HD.out.2.1.sl (Nat.le_refl _)) (by omega)) (sl_sliceI (HD.out.1.sl (Nat.le_refl _)) (by omega))).mono ?_
 rintro x w5 ⟨rfl,nd,hw5⟩
 have H5 : Hid (Below w.heap.size w w5 ∧ CB w.heap.size q n (.slice ao m ca) w5 ∧ Row g1 n2 c w5) := by rw [hw5]; exact ⟨below_drewN2 H4.out.1 _,H4.out.2.keep (below_drewN2 (Below.refl _ _) _),HD.out.1.drewN nd⟩
 clear hw5 q0 q1 q2
 obtain ⟨q0,q1,q2⟩ := H5.out.2.1
 go_wp2_with fail
 refine (rleast_any H5.out.2.2 (by omega)).mono ?_
 rintro x w' ⟨d',hd',rfl,hw⟩
 have hw := hw.symm
 subst hw
 have hdd := hd'.uniq HD.out.2.2
 subst hdd
 clear hd'
 go_wp2_with fail
 refine (num_same _ _).mono ?_
 rintro x w' ⟨rfl,hw⟩
 have hw := hw.symm
 subst hw
 have H5 : Hid (Below w.heap.size w w5 ∧ CB w.heap.size q n (.slice ao m ca) w5) := ⟨H5.out.1,H5.out.2.1⟩
 go_wp2_with fail
 refine (HRm.out _ H5.out.1).mono ?_
 rintro x w6 ⟨rfl,hb6⟩
 have H6 : Hid (Below w.heap.size w w6 ∧ CB w.heap.size q n (.slice ao m ca) w6) := ⟨bel_up' H5.out.1 hb6,H5.out.2.keep hb6⟩
 clear hb6 q0 q1 q2
 obtain ⟨q0,q1,q2⟩ := H6.out.2
 go_wp2_with fail
 refine (HCn.out _ H6.out.1).mono ?_
 rintro x w7 ⟨b1,g3,c3,hb,hc1,hc2,hr7,rfl,hb7⟩
 have H7 : Hid (Below w.heap.size w w7 ∧ CB w.heap.size q n (.slice ao m ca) w7) := ⟨bel_up' H6.out.1 hb7,H6.out.2.keep hb7⟩
 clear hb7 q0 q1 q2
 obtain ⟨q0,q1,q2⟩ := H7.out.2
 go_wp2_with fail
 refine (HRn.out _ H7.out.1).mono ?_
 rintro x w8 ⟨b2,g4,c4,hb',hc3,hc4,hr8,rfl,hb8⟩
 have H8 : Hid (Below w.heap.size w w8 ∧ CB w.heap.size q n (.slice ao m ca) w8) := ⟨bel_up' H7.out.1 hb8,H7.out.2.keep hb8⟩
 have hbb := hb'.uniq hb
 subst hbb
 have HN : Hid (Row g3 nw (W b2) w8 ∧ Row g4 nw (W b2) w8) := ⟨hr7.below hb8 hr7.lt,hr8⟩
 clear hr7 hr8 hb hb'
 clear hb8 q0 q1 q2
 obtain ⟨q0,q1,q2⟩ := H8.out.2
 go_wp2_with fail
 refine (same_any (sl_sliceI (HN.out.1.sl (Nat.le_refl _)) (by omega)) (sl_sliceI (HN.out.2.sl (Nat.le_refl _)) (by omega))).mono ?_
 rintro x w9 ⟨rfl,nd,hw9⟩
 have H9 : Hid (Below w.heap.size w w9) := by rw [hw9]; exact below_drewN2 H8.out.1 _
 clear hw9
 rw [decide_eq_true rfl]
 go_wp2
 go_ret
 exact ⟨by simp,H9.out⟩
theorem wdr_congr {D : FD} {R R' : Nat → Nat → Nat} {k : Nat} (h : ∀ i,i < k → R i = R' i) : wdr D R k = wdr D R' k := funext fun _ => enw_congr h
theorem wgr_congr {D : FD} {R R' : Nat → Nat → Nat} {n k : Nat} (h : wdr D R k = wdr D R' k) : wgr D R n k = wgr D R' n k := funext fun _ => by unfold wgr; rw [h]
theorem wcn_congr {D : FD} {R R' : Nat → Nat → Nat} {n k : Nat} (h : wdr D R k = wdr D R' k) : wcn D R n k = wcn D R' n k := funext fun r => by
 induction r with
 | zero => rfl
 | succ r ih => funext x; show wcn D R n k r x + _ = wcn D R' n k r x + _; rw [ih,wgr_congr h]
theorem apr'_congr {D : FD} {R R' : Nat → Nat → Nat} {n k : Nat} {y : Nat → Int} (h : wdr D R k = wdr D R' k) : apr' D R n k y = apr' D R' n k y := funext fun _ => by unfold apr'; rw [h]
theorem codeCounts_light (q n : Int) {ao yo : Option Addr} {m ca my cy : Nat} {A : Nat → Option Addr} {N C : Nat → Nat} {Z : Nat → Nat → Int} {y : Nat → Int} {w : World} (hA : MatZ ao m A N C Z w) (hm : m ≤ 1000000) (hY : Arg yo my cy y w) (hmy : my ≤ 100)
   (hHv : ∀ wx,Below w.heap.size w wx → Calls Tryz.prog 14 #[.slice ao m ca] wx fun r w' => r = .returned (.bool false) ∧ w' = wx) :
   Calls Tryz.prog 9 #[.agg #[.int .i64 q, .int .i64 n, .slice ao m ca], .slice yo my cy] w fun r w' => r = .returned (.bool true) ∧ Below w.heap.size w w' := by
 obtain ⟨E,hChk,hMay,hok⟩ := code_may q n ca hA hm
 by_cases hE : E = 0
 · subst hE
   obtain ⟨D,hD,rfl,n',rfl,cA⟩ := hok rfl
   have F := fld hD
   obtain ⟨hm64,hel,hbd,_⟩ := cA.rows F
   have hn1 := cA.n1
   have hn64 := cA.n64
   have mat : ∀ wx,Below w.heap.size w wx → MatR ao m (n' - 1) (mzc N Z) wx := fun wx hx => ((cA.below hx).rows F).2.2.2
   have hnn : n' = n' - 1 + 1 := by omega
   have hel' : ∀ i,i < m → El D (mzc N Z i) ∧ Bd (n' - 1 + 1) (mzc N Z i) := fun i hi => ⟨hel i hi,by rw [← hnn]; exact hbd i hi⟩
   obtain ⟨k,R,p,_,hrre,hsp⟩ := rre_ex hD hel hbd
   have hred : Red D n' m (mzc N Z) k R := ⟨p,hrre,hsp⟩
   have same : ∀ k' R',Red D n' m (mzc N Z) k' R' → k' = k ∧ wdr D R' k' = wdr D R k := fun k' R' h => by
     obtain ⟨e,e2⟩ := Red.uniq F h hred (fun _ => Iff.rfl)
     subst e
     exact ⟨rfl,wdr_congr e2⟩
   clear hrre hsp
   have hS : ∀ wx,Below w.heap.size w wx → Calls Tryz.prog 70 #[.agg #[.int .i64 D.q, .int .i64 (n' : Nat), .slice ao m ca]] wx (SmP D n' m (mzc N Z) wx) := fun wx hx => small_ok hD (cA.below hx) (fun wy hy => hChk wy (bel_up' hx hy))
   have hW : ∀ wx,Below w.heap.size w wx → Calls Tryz.prog 31 #[.agg #[.int .i64 D.q, .int .i64 (n' : Nat), .slice ao m ca]] wx (WsP D n' m (mzc N Z) wx) := fun wx hx => weights_ok hD hn1 hn64 (fun wy hy => hS wy (bel_up' hx hy))
   have hDs : ∀ wx,Below w.heap.size w wx → Calls Tryz.prog 32 #[.agg #[.int .i64 D.q, .int .i64 (n' : Nat), .slice ao m ca]] wx (DsP D n' m (mzc N Z) wx) := fun wx hx => distance_ok hn64 (fun wy hy => hW wy (bel_up' hx hy))
   have hWm : ∀ wx,Below w.heap.size w wx → Calls Tryz.prog 29 #[.agg #[.int .i64 D.q, .int .i64 (n' : Nat), .slice ao m ca]] wx (WmP D n' m (mzc N Z) wx) := fun wx hx => rweightsMay_ok hD (by omega) hn64 hnn hel' (mat wx hx) (fun wy hy => hMay wy (bel_up' hx hy))
   by_cases hfew : D.q ^ k ≤ 4096
   · have hF : ∀ k' R',Red D n' m (mzc N Z) k' R' → D.q ^ k' ≤ 4096 := fun k' R' h => by rw [(same k' R' h).1]; exact hfew
     have a1 : ∀ wx,Below w.heap.size w wx → Calls Tryz.prog 29 #[.agg #[.int .i64 D.q, .int .i64 (n' : Nat), .slice ao m ca]] wx fun x w' => x = .returned (.int .i64 0) ∧ Below wx.heap.size wx w' := fun wx hx => (hWm wx hx).mono fun x w' ⟨k',R',hr,hx',hb⟩ => ⟨by rw [hx',if_pos (hF k' R' hr)],hb⟩
     have a2 : ∀ wx,Below w.heap.size w wx → Calls Tryz.prog 30 #[.agg #[.int .i64 D.q, .int .i64 (n' : Nat), .slice ao m ca]] wx fun x w' => ∃ g,x = .returned (.slice (some ⟨g,0,none⟩) (n' + 1 : Nat) (n' + 1 : Nat)) ∧ Row g (n' + 1) (wcn D R n' k (D.q ^ k)) w' ∧ Below wx.heap.size wx w' := fun wx hx => (rweighed_any hD (by omega) hn64 hnn hel' (mat wx hx) hF).mono fun x w' ⟨k',R',g,hr,hx',hrow,_,hb⟩ => by
       obtain ⟨e,e2⟩ := same k' R' hr
       subst e
       rw [wcn_congr e2] at hrow
       exact ⟨g,hx',hrow,hb⟩
     have a3 : ∀ wx,Below w.heap.size w wx → Calls Tryz.prog 31 #[.agg #[.int .i64 D.q, .int .i64 (n' : Nat), .slice ao m ca]] wx fun x w' => ∃ g,x = .returned (.tuple #[.slice (some ⟨g,0,none⟩) (n' + 1 : Nat) (n' + 1 : Nat), .int .i64 0]) ∧ Row g (n' + 1) (wcn D R n' k (D.q ^ k)) w' ∧ Below wx.heap.size wx w' := fun wx hx => (hW wx hx).mono fun x w' ⟨k',R',hr,hb,h⟩ => by
       obtain ⟨e,e2⟩ := same k' R' hr
       subst e
       rcases h with ⟨_,g,_,hrow,hx'⟩ | ⟨h,_⟩
       · rw [wcn_congr e2] at hrow
         exact ⟨g,hx',hrow,hb⟩
       · exact absurd hfew h
     have a4 : ∀ wx,Below w.heap.size w wx → Calls Tryz.prog 32 #[.agg #[.int .i64 D.q, .int .i64 (n' : Nat), .slice ao m ca]] wx fun x w' => ∃ d,Lwt (wcn D R n' k (D.q ^ k)) (n' + 1) d ∧ x = .returned (.tuple #[.int .i64 (d : Nat), .int .i64 0]) ∧ Below wx.heap.size wx w' := fun wx hx => (hDs wx hx).mono fun x w' ⟨k',R',hr,hb,h⟩ => by
       obtain ⟨e,e2⟩ := same k' R' hr
       subst e
       rcases h with ⟨_,d,hl,hx'⟩ | ⟨h,_⟩
       · rw [wcn_congr e2] at hl
         exact ⟨d,hl,hx',hb⟩
       · exact absurd hfew h
     have a5 : ∀ wx,Below w.heap.size w wx → Calls Tryz.prog 36 #[.agg #[.int .i64 D.q, .int .i64 (n' : Nat), .slice ao m ca], .slice yo my cy] wx fun x w' => x = .returned (.int .i64 (D.nchk my y n')) ∧ Below wx.heap.size wx w' := fun wx hx => wordMay_any hD (n' : Nat) (hY.below hx)
     by_cases hnc : D.nchk my y n' = 0
     · have e : my = n' := by have := (nchk_ok hnc).1; omega
       subst e
       rw [hnc] at a5
       refine cc_ok D.q (my : Nat) (n2 := my + 1) (nw := my) (Nw := D.q ^ k) (f := apr' D R my k y) (W := wdr D R k) hmy (by omega) hHv a1 a2 a3 a4 a5 hn64 (fun wx hx => ?_) (fun wx hx => ?_)
       · refine (nearest_ok hD hn1 hn64 (hY.below hx) hnc (fun wy hy => hS wy (bel_up' hx hy))).mono fun x w' ⟨k',R',hr,hb,h⟩ => ?_
         obtain ⟨e,e2⟩ := same k' R' hr
         subst e
         rcases h with ⟨_,b,g,c,h1,_,h3,h4,h5,hx'⟩ | ⟨h,_⟩
         · rw [apr'_congr e2] at h1 hx'
           rw [e2] at h5
           exact ⟨b,g,c,h1,h3,h4,h5,hx',hb⟩
         · exact absurd hfew h
       · refine (rnearest_any hD (by omega) hn64 hnn hel' (mat wx hx) hF (hY.below hx).sl (hY.below hx).lt).mono fun x w' ⟨k',R',b,g,c,hr,h1,h3,h4,h5,hx',hb⟩ => ?_
         obtain ⟨e,e2⟩ := same k' R' hr
         subst e
         rw [apr'_congr e2] at h1 hx'
         rw [e2] at h5
         exact ⟨b,g,c,h1,h3,h4,h5,hx',hb⟩
     · refine cc_word (D.nchk my y n') hnc D.q (n' : Nat) (n2 := n' + 1) hmy (by omega) hHv a1 a2 a3 a4 a5 (fun wx hx => ?_)
       refine (nearest_num hD rfl hnc (hY.below hx) (fun wy hy => hS wy (bel_up' hx hy))).mono fun x w' ⟨k',R',hr,hb,h⟩ => ?_
       rcases h with ⟨_,hx'⟩ | ⟨h,_⟩
       · exact ⟨hx',hb⟩
       · exact absurd (hF k' R' hr) h
   · have hF : ∀ k' R',Red D n' m (mzc N Z) k' R' → ¬ D.q ^ k' ≤ 4096 := fun k' R' h => by rw [(same k' R' h).1]; exact hfew
     refine cc_err 4 (by omega) D.q (n' : Nat) hmy hHv (fun wx hx => ?_) (fun wx hx => ?_) (fun wx hx => ?_) (fun wx hx => ?_)
     · exact (hWm wx hx).mono fun x w' ⟨k',R',hr,hx',hb⟩ => ⟨by rw [hx',if_neg (hF k' R' hr)],hb⟩
     · refine (hW wx hx).mono fun x w' ⟨k',R',hr,hb,h⟩ => ?_
       rcases h with ⟨h,_⟩ | ⟨_,hx'⟩
       · exact absurd h (hF k' R' hr)
       · exact ⟨hx',hb⟩
     · refine (hDs wx hx).mono fun x w' ⟨k',R',hr,hb,h⟩ => ?_
       rcases h with ⟨h,_⟩ | ⟨_,hx'⟩
       · exact absurd h (hF k' R' hr)
       · exact ⟨hx',hb⟩
     · by_cases hnc : D.nchk my y n' = 0
       · have e : my = n' := by have := (nchk_ok hnc).1; omega
         subst e
         refine (nearest_ok hD hn1 hn64 (hY.below hx) hnc (fun wy hy => hS wy (bel_up' hx hy))).mono fun x w' ⟨k',R',hr,hb,h⟩ => ?_
         rcases h with ⟨h,_⟩ | ⟨_,hx'⟩
         · exact absurd h (hF k' R' hr)
         · exact ⟨hx',hb⟩
       · refine (nearest_num hD rfl hnc (hY.below hx) (fun wy hy => hS wy (bel_up' hx hy))).mono fun x w' ⟨k',R',hr,hb,h⟩ => ?_
         rcases h with ⟨h,_⟩ | ⟨_,hx'⟩
         · exact absurd h (hF k' R' hr)
         · exact ⟨hx',hb⟩
 · have hS : ∀ wx,Below w.heap.size w wx → Calls Tryz.prog 70 #[.agg #[.int .i64 q, .int .i64 n, .slice ao m ca]] wx fun x w' => x = .returned (.tuple #[.agg #[.int .i64 0, .int .i64 0, .slice none 0 0], .int .i64 E]) ∧ Below wx.heap.size wx w' := fun wx hx => small_err E hE q n (fun wy hy => hChk wy (bel_up' hx hy))
   have hW : ∀ wx,Below w.heap.size w wx → Calls Tryz.prog 31 #[.agg #[.int .i64 q, .int .i64 n, .slice ao m ca]] wx fun x w' => x = .returned (.tuple #[.slice none 0 0, .int .i64 E]) ∧ Below wx.heap.size wx w' := fun wx hx => weights_err E hE q n (fun wy hy => hS wy (bel_up' hx hy))
   exact cc_err E hE q n hmy hHv (fun wx hx => rweightsMay_err E hE q n (fun wy hy => hMay wy (bel_up' hx hy))) hW (fun wx hx => distance_none E q n (fun wy hy => hW wy (bel_up' hx hy))) (fun wx hx => nearest_err E hE q n (fun wy hy => hS wy (bel_up' hx hy)))
theorem codeCounts_walk (q n : Int) {ao yo : Option Addr} {m ca my cy : Nat} {A : Nat → Option Addr} {N C : Nat → Nat} {Z : Nat → Nat → Int} {y : Nat → Int} {w : World} (hA : MatO ao m A N C Z w) (hm : m ≤ 17592186044416) (hN : ∀ i,i < m → N i ≤ 17592186044416) (hY : ArgL yo my cy y w) :
   Calls Tryz.prog 9 #[.agg #[.int .i64 q, .int .i64 n, .slice ao m ca], .slice yo my cy] w fun r w' => r = .returned (.bool true) ∧ Below w.heap.size w w' := by
 have hHa := fun wx hx => heavy_below (ca := ca) hA hm hN wx hx
 by_cases h1 : hvs N m m ≤ 6000
 · by_cases h2 : my ≤ 100
   · rw [decide_eq_false (by omega)] at hHa
     have f1 := hvs_few m h1
     exact codeCounts_light q n (hA.matZ (fun i hi => by have := f1.2 i hi; omega)) (by omega) (hY.arg (by omega)) h2 hHa
   · exact cc_heavy q n hHa (Or.inr (by omega))
 · exact cc_heavy q n hHa (Or.inl (decide_eq_true (by omega)))
end Go.Proofs.YtinmkgohganllaaGreatDoor
