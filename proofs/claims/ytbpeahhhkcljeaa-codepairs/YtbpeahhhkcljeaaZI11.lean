/- Sums of codes and what both have: the program's Sum and Meet of codes that may be. -/
import Derived.Test.YtbpeahhhkcljeaaZI10
namespace Go.Proofs.Ytbpeahhhkcljeaa
open Go.RowKit Go.Sort

set_option maxHeartbeats 4000000 in
set_option maxRecDepth 100000 in
theorem cMeet_err (e : Int) (he : e ≠ 0) (qa qb na nb : Int) {ao bo : Option Addr} {m m' ca cb : Nat} {w : World}
    (hC : ∀ wx, Below w.heap.size w wx → Calls Try.prog 79 #[.agg #[.int .i64 qa, .int .i64 na, .slice ao m ca], .agg #[.int .i64 qb, .int .i64 nb, .slice bo m' cb]] wx fun x w' => x = .returned (.int .i64 e) ∧ Below wx.heap.size wx w') :
    Calls Try.prog 35 #[.agg #[.int .i64 qa, .int .i64 na, .slice ao m ca], .agg #[.int .i64 qb, .int .i64 nb, .slice bo m' cb]] w fun x w' => x = .returned (.tuple #[.agg #[.int .i64 0, .int .i64 0, .slice none 0 0], .int .i64 e]) ∧ Below w.heap.size w w' := by
  have HC : Hid (∀ wx, Below w.heap.size w wx → Calls Try.prog 79 #[.agg #[.int .i64 qa, .int .i64 na, .slice ao m ca], .agg #[.int .i64 qb, .int .i64 nb, .slice bo m' cb]] wx fun x w' => x = .returned (.int .i64 e) ∧ Below wx.heap.size wx w') := hC
  have hz : (e != 0) = true := by rw [bne_iff_ne]; exact he
  clear hC he
  obtain ⟨w0, hw0⟩ : ∃ w0, w0 = ((w.alloc (.cells #[.int .i64 qa, .int .i64 na, .slice ao m ca] 43)).alloc (.cells #[.int .i64 qb, .int .i64 nb, .slice bo m' cb] 43)).alloc (.cells #[.int .i64 0, .int .i64 0, .slice none 0 0] 43) := ⟨_, rfl⟩
  have HW : Hid (Below w.heap.size w w0 ∧ RB (w.heap.size + 1 + 1) w0) := by
    obtain ⟨h1, _, _, h4⟩ := two_boxes qa na qb nb (.slice ao m ca) (.slice bo m' cb) w
    have h5 := RB.new (.int .i64 0) (.int .i64 0) (.slice none 0 0) ((w.alloc (.cells #[.int .i64 qa, .int .i64 na, .slice ao m ca] 43)).alloc (.cells #[.int .i64 qb, .int .i64 nb, .slice bo m' cb] 43))
    rw [h4] at h5
    rw [hw0]; exact ⟨bel_up' h1 ((Below.refl _ _).alloc (Nat.le_refl _) _), h5⟩
  go_enter Try.func35, Try.ntmps35
  go_wp2_with fail
  rw [← hw0]
  clear hw0
  refine (HC.out _ HW.out.1).mono ?_
  rintro x w1 ⟨rfl, hb1⟩
  have H1 : Hid (Below w.heap.size w w1 ∧ RB (w.heap.size + 1 + 1) w1) := ⟨bel_up' HW.out.1 hb1, HW.out.2.keep hb1⟩
  clear hb1
  obtain ⟨⟨x0, c0⟩, ⟨x1, c1⟩, ⟨x2, c2⟩, f0, f1, f2⟩ := H1.out.2
  go_wp2
  obtain ⟨w2, hw2⟩ : ∃ w2, w2 = laid w1 (w.heap.size + 1 + 1) 0 0 (.slice none 0 0) := ⟨_, rfl⟩
  have H2 : Hid (CB (w.heap.size + 1 + 1) 0 0 (.slice none 0 0) w2 ∧ Below w.heap.size w w2) := by
    rw [hw2]; exact ⟨laid_cb H1.out.2 _ _ _, laid_below H1.out.1 (by omega) _ _ _⟩
  unfold laid at hw2
  rw [← hw2]
  clear hw2 c0 c1 c2 f0 f1 f2
  obtain ⟨c0, c1, c2⟩ := H2.out.1
  refine bodyPost_ret (v := .tuple #[.agg #[.int .i64 0, .int .i64 0, .slice none 0 0], .int .i64 e]) (by simp [results, Try.results35, go_sem, c0, c1, c2]) rfl ?_
  exact ⟨rfl, H2.out.2⟩
set_option maxHeartbeats 4000000 in
set_option maxRecDepth 100000 in
theorem cSum_ok {D : FD} (hD : D ∈ fieldsL) {ao bo : Option Addr} {m m' n ca cb : Nat} {A B : Nat → Option Addr} {N C N' C' : Nat → Nat} {Z Z' : Nat → Nat → Int} {w : World} (ha : CdZ D ao m n A N C Z w) (hb : CdZ D bo m' n B N' C' Z' w)
    (hC : ∀ wx, Below w.heap.size w wx → Calls Try.prog 79 #[.agg #[.int .i64 D.q, .int .i64 (n : Nat), .slice ao m ca], .agg #[.int .i64 D.q, .int .i64 (n : Nat), .slice bo m' cb]] wx fun x w' => x = .returned (.int .i64 0) ∧ Below wx.heap.size wx w') :
    Calls Try.prog 34 #[.agg #[.int .i64 D.q, .int .i64 (n : Nat), .slice ao m ca], .agg #[.int .i64 D.q, .int .i64 (n : Nat), .slice bo m' cb]] w fun x w' => ∃ k R ro rc, x = .returned (.tuple #[.agg #[.int .i64 D.q, .int .i64 (n : Nat), .slice ro k rc], .int .i64 0]) ∧ MV w.heap.size (.slice ro k rc) k n R w' ∧ Red D n (m + m') (apr m (mzc N Z) (mzc N' Z')) k R ∧ Below w.heap.size w w' := by
  obtain ⟨w0, hw0⟩ : ∃ w0, w0 = ((w.alloc (.cells #[.int .i64 D.q, .int .i64 (n : Nat), .slice ao m ca] 43)).alloc (.cells #[.int .i64 D.q, .int .i64 (n : Nat), .slice bo m' cb] 43)).alloc (.cells #[.int .i64 0, .int .i64 0, .slice none 0 0] 43) := ⟨_, rfl⟩
  have HW : Hid (Below w.heap.size w w0 ∧ RB (w.heap.size + 1 + 1) w0 ∧ CB w.heap.size D.q n (.slice ao m ca) w0 ∧ CB (w.heap.size + 1) D.q n (.slice bo m' cb) w0 ∧ w0.heap.size = w.heap.size + 3) := by
    obtain ⟨h1, h2, h3, h4⟩ := two_boxes D.q n D.q n (.slice ao m ca) (.slice bo m' cb) w
    have h5 := RB.new (.int .i64 0) (.int .i64 0) (.slice none 0 0) ((w.alloc (.cells #[.int .i64 D.q, .int .i64 (n : Nat), .slice ao m ca] 43)).alloc (.cells #[.int .i64 D.q, .int .i64 (n : Nat), .slice bo m' cb] 43))
    have hbl : Below ((w.alloc (.cells #[.int .i64 D.q, .int .i64 (n : Nat), .slice ao m ca] 43)).alloc (.cells #[.int .i64 D.q, .int .i64 (n : Nat), .slice bo m' cb] 43)).heap.size ((w.alloc (.cells #[.int .i64 D.q, .int .i64 (n : Nat), .slice ao m ca] 43)).alloc (.cells #[.int .i64 D.q, .int .i64 (n : Nat), .slice bo m' cb] 43)) (((w.alloc (.cells #[.int .i64 D.q, .int .i64 (n : Nat), .slice ao m ca] 43)).alloc (.cells #[.int .i64 D.q, .int .i64 (n : Nat), .slice bo m' cb] 43)).alloc (.cells #[.int .i64 0, .int .i64 0, .slice none 0 0] 43)) := (Below.refl _ _).alloc (Nat.le_refl _) _
    rw [h4] at h5
    rw [hw0]; exact ⟨bel_up' h1 hbl, h5, h2.keep hbl, h3.keep hbl, by simp⟩
  have HA : Hid (D ∈ fieldsL ∧ CdZ D ao m n A N C Z w ∧ CdZ D bo m' n B N' C' Z' w) := ⟨hD, ha, hb⟩
  have HC : Hid (∀ wx, Below w.heap.size w wx → Calls Try.prog 79 #[.agg #[.int .i64 D.q, .int .i64 (n : Nat), .slice ao m ca], .agg #[.int .i64 D.q, .int .i64 (n : Nat), .slice bo m' cb]] wx fun x w' => x = .returned (.int .i64 0) ∧ Below wx.heap.size wx w') := hC
  have hn1 := ha.n1
  have hn := ha.n64
  clear hD ha hb hC
  go_enter Try.func34, Try.ntmps34
  go_wp2_with fail
  rw [← hw0]
  clear hw0
  refine (HC.out _ HW.out.1).mono ?_
  rintro x w1 ⟨rfl, hb1⟩
  have H1 : Hid (Below w.heap.size w w1 ∧ RB (w.heap.size + 1 + 1) w1 ∧ CB w.heap.size D.q n (.slice ao m ca) w1 ∧ CB (w.heap.size + 1) D.q n (.slice bo m' cb) w1 ∧ w.heap.size + 3 ≤ w1.heap.size) := ⟨bel_up' HW.out.1 hb1, HW.out.2.1.keep hb1, HW.out.2.2.1.keep hb1, HW.out.2.2.2.1.keep hb1, by have := hb1.size; have := HW.out.2.2.2.2; omega⟩
  clear hb1
  have hcb1 := H1.out.2.2.1
  obtain ⟨a0, a1, a2⟩ := hcb1
  have hcb2 := H1.out.2.2.2.1
  obtain ⟨b0, b1, b2⟩ := hcb2
  go_wp2_with fail
  refine (csum_any HA.out.1 (HA.out.2.1.below H1.out.1) (HA.out.2.2.below H1.out.1)).mono ?_
  rintro x w2 ⟨k, R, ro, rc, rfl, hmv, hred, hb2⟩
  have H2 : Hid (MV w1.heap.size (.slice ro k rc) k n R w2 ∧ Red D n (m + m') (apr m (mzc N Z) (mzc N' Z')) k R ∧ Below w.heap.size w w2 ∧ RB (w.heap.size + 1 + 1) w2) := ⟨hmv, hred, bel_up' H1.out.1 hb2, H1.out.2.1.keep hb2⟩
  clear hmv hred hb2 a0 a1 a2 b0 b1 b2
  obtain ⟨⟨x0, c0⟩, ⟨x1, c1⟩, ⟨x2, c2⟩, f0, f1, f2⟩ := H2.out.2.2.2
  go_wp2
  obtain ⟨w3, hw3⟩ : ∃ w3, w3 = laid w2 (w.heap.size + 1 + 1) D.q n (.slice ro k rc) := ⟨_, rfl⟩
  have H3 : Hid (CB (w.heap.size + 1 + 1) D.q n (.slice ro k rc) w3 ∧ MV w.heap.size (.slice ro k rc) k n R w3 ∧ Below w.heap.size w w3) := by
    have := H1.out.2.2.2.2
    rw [hw3]; exact ⟨laid_cb H2.out.2.2.2 _ _ _, (laid_mv H2.out.1 (by omega) _ _ _).mono (by omega), laid_below H2.out.2.2.1 (by omega) _ _ _⟩
  unfold laid at hw3
  rw [← hw3]
  clear hw3 c0 c1 c2 f0 f1 f2
  obtain ⟨c0, c1, c2⟩ := H3.out.1
  refine bodyPost_ret (v := .tuple #[.agg #[.int .i64 D.q, .int .i64 (n : Nat), .slice ro k rc], .int .i64 0]) (by simp [results, Try.results34, go_sem, c0, c1, c2]) rfl ?_
  exact ⟨_, R, _, _, rfl, H3.out.2.1, H2.out.2.1, H3.out.2.2⟩
theorem Dul.of_spn {D : FD} {n m m' k : Nat} {M M' R : Nat → Nat → Nat} (h : Dul D n m M k R) (hs : ∀ v, Spn D (RowsOf m M) v ↔ Spn D (RowsOf m' M') v) : Dul D n m' M' k R := by
  obtain ⟨a, A, q, q2, h1, h2, h3⟩ := h
  exact ⟨a, A, q, q2, h1, fun v => (h2 v).trans (hs v), h3⟩
/-- What Meet reads. -/
def meF (b q n : Nat) (ao : Option Addr) (m ca : Nat) (bo : Option Addr) (m' cb : Nat) (wx : World) : Prop := CB b q n (.slice ao m ca) wx ∧ CB (b + 1) q n (.slice bo m' cb) wx
set_option maxHeartbeats 8000000 in
set_option maxRecDepth 100000 in
theorem cMeet_ok {D : FD} (hD : D ∈ fieldsL) {ao bo : Option Addr} {m m' n ca cb : Nat} {A B : Nat → Option Addr} {N C N' C' : Nat → Nat} {Z Z' : Nat → Nat → Int} {w : World} (ha : CdZ D ao m n A N C Z w) (hb : CdZ D bo m' n B N' C' Z' w)
    (hC : ∀ wx, Below w.heap.size w wx → Calls Try.prog 79 #[.agg #[.int .i64 D.q, .int .i64 (n : Nat), .slice ao m ca], .agg #[.int .i64 D.q, .int .i64 (n : Nat), .slice bo m' cb]] wx fun x w' => x = .returned (.int .i64 0) ∧ Below wx.heap.size wx w') :
    Calls Try.prog 35 #[.agg #[.int .i64 D.q, .int .i64 (n : Nat), .slice ao m ca], .agg #[.int .i64 D.q, .int .i64 (n : Nat), .slice bo m' cb]] w fun x w' => ∃ k R ro rc, x = .returned (.tuple #[.agg #[.int .i64 D.q, .int .i64 (n : Nat), .slice ro k rc], .int .i64 0]) ∧ MV w.heap.size (.slice ro k rc) k n R w' ∧ (∃ ka Ra kb Rb, Dul D n m (mzc N Z) ka Ra ∧ Dul D n m' (mzc N' Z') kb Rb ∧ Dul D n (ka + kb) (apr ka Ra Rb) k R) ∧ Below w.heap.size w w' := by
  obtain ⟨w0, hw0⟩ : ∃ w0, w0 = ((w.alloc (.cells #[.int .i64 D.q, .int .i64 (n : Nat), .slice ao m ca] 43)).alloc (.cells #[.int .i64 D.q, .int .i64 (n : Nat), .slice bo m' cb] 43)).alloc (.cells #[.int .i64 0, .int .i64 0, .slice none 0 0] 43) := ⟨_, rfl⟩
  have HW : Hid (Below w.heap.size w w0 ∧ RB (w.heap.size + 1 + 1) w0 ∧ CB w.heap.size D.q n (.slice ao m ca) w0 ∧ CB (w.heap.size + 1) D.q n (.slice bo m' cb) w0 ∧ w0.heap.size = w.heap.size + 3) := by
    obtain ⟨h1, h2, h3, h4⟩ := two_boxes D.q n D.q n (.slice ao m ca) (.slice bo m' cb) w
    have h5 := RB.new (.int .i64 0) (.int .i64 0) (.slice none 0 0) ((w.alloc (.cells #[.int .i64 D.q, .int .i64 (n : Nat), .slice ao m ca] 43)).alloc (.cells #[.int .i64 D.q, .int .i64 (n : Nat), .slice bo m' cb] 43))
    have hbl : Below ((w.alloc (.cells #[.int .i64 D.q, .int .i64 (n : Nat), .slice ao m ca] 43)).alloc (.cells #[.int .i64 D.q, .int .i64 (n : Nat), .slice bo m' cb] 43)).heap.size ((w.alloc (.cells #[.int .i64 D.q, .int .i64 (n : Nat), .slice ao m ca] 43)).alloc (.cells #[.int .i64 D.q, .int .i64 (n : Nat), .slice bo m' cb] 43)) (((w.alloc (.cells #[.int .i64 D.q, .int .i64 (n : Nat), .slice ao m ca] 43)).alloc (.cells #[.int .i64 D.q, .int .i64 (n : Nat), .slice bo m' cb] 43)).alloc (.cells #[.int .i64 0, .int .i64 0, .slice none 0 0] 43)) := (Below.refl _ _).alloc (Nat.le_refl _) _
    rw [h4] at h5
    rw [hw0]; exact ⟨bel_up' h1 hbl, h5, h2.keep hbl, h3.keep hbl, by simp⟩
  have HA : Hid (D ∈ fieldsL ∧ CdZ D ao m n A N C Z w ∧ CdZ D bo m' n B N' C' Z' w) := ⟨hD, ha, hb⟩
  have HC : Hid (∀ wx, Below w.heap.size w wx → Calls Try.prog 79 #[.agg #[.int .i64 D.q, .int .i64 (n : Nat), .slice ao m ca], .agg #[.int .i64 D.q, .int .i64 (n : Nat), .slice bo m' cb]] wx fun x w' => x = .returned (.int .i64 0) ∧ Below wx.heap.size wx w') := hC
  have hn1 := ha.n1
  have hn := ha.n64
  clear hD ha hb hC
  go_enter Try.func35, Try.ntmps35
  go_wp2_with fail
  rw [← hw0]
  clear hw0
  refine (HC.out _ HW.out.1).mono ?_
  rintro x w1 ⟨rfl, hb1⟩
  have H1 : Hid (Below w.heap.size w w1 ∧ RB (w.heap.size + 1 + 1) w1 ∧ CB w.heap.size D.q n (.slice ao m ca) w1 ∧ CB (w.heap.size + 1) D.q n (.slice bo m' cb) w1 ∧ w.heap.size + 3 ≤ w1.heap.size) := ⟨bel_up' HW.out.1 hb1, HW.out.2.1.keep hb1, HW.out.2.2.1.keep hb1, HW.out.2.2.2.1.keep hb1, by have := hb1.size; have := HW.out.2.2.2.2; omega⟩
  clear hb1
  have hcb1 := H1.out.2.2.1
  obtain ⟨a0, a1, a2⟩ := hcb1
  have hcb2 := H1.out.2.2.2.1
  obtain ⟨b0, b1, b2⟩ := hcb2
  have HK5 : Hid (∀ wx, Below w1.heap.size w1 wx → meF w.heap.size D.q n ao m ca bo m' cb wx) := fun wx hx => ⟨H1.out.2.2.1.keep hx, H1.out.2.2.2.1.keep hx⟩
  have hS5 := HK5.out _ (Below.refl w1.heap.size w1).drew
  go_wp2
  refine wp_region_noPanic ?_
  refine wp_region_X (S := meF w.heap.size D.q n ao m ca bo m' cb) 6 (by kernel_rfl) ?_
  refine wpAnyX_take (i := 0) (v := ?_) (by rw [List.getElem?_toArray]; rfl) (by kernel_rfl) (by kernel_rfl) (by kernel_rfl) (by kernel_rfl) (fun _ _ _ h => h) hS5 (Or.inl ⟨by rfl, ?_⟩) ?_
  rotate_left
  · intro wz hSz; obtain ⟨⟨z0, z1, z2⟩, ⟨z3, z4, z5⟩⟩ := hSz; go_simp; first | done | with_reducible rfl
  try simp only [Act.put, List.setIfInBounds_toArray, List.set_cons_zero, List.set_cons_succ]
  refine wpAnyX_take (i := 2) (v := ?_) (by rw [List.getElem?_toArray]; rfl) (by kernel_rfl) (by kernel_rfl) (by kernel_rfl) (by kernel_rfl) (fun _ _ _ h => h) hS5 (Or.inl ⟨by rfl, ?_⟩) ?_
  rotate_left
  · intro wz hSz; obtain ⟨⟨z0, z1, z2⟩, ⟨z3, z4, z5⟩⟩ := hSz; go_simp; first | done | with_reducible rfl
  try simp only [Act.put, List.setIfInBounds_toArray, List.set_cons_zero, List.set_cons_succ]
  have hd1 := (Below.refl w1.heap.size w1).drew
  refine wpAnyX_one (i := 1) (by kernel_rfl) (by rw [List.getElem?_toArray]; rfl) (fun K hK => ?_)
  have HK : Hid _ := hK
  clear hK
  go_simp
  refine (dual_any HA.out.1 (HA.out.2.1.below (bel_up' H1.out.1 hd1))).mono ?_
  rintro x w2 ⟨ka, Ra, ra, rca, rfl, hmv2, hdu2, hb2⟩
  have H2 : Hid (RLz (.slice ra ka rca) ka n Ra w2 ∧ Dul D n m (mzc N Z) ka Ra ∧ Below w1.heap.size w1 w2) := ⟨hmv2.rlz (by omega), hdu2, bel_up' hd1 hb2⟩
  clear hmv2 hdu2 hb2 hd1
  refine HK.out _ _ (fun _ => HK5.out _ H2.out.2.2) ?_
  clear HK K
  try simp only [Act.put, List.setIfInBounds_toArray, List.set_cons_zero, List.set_cons_succ]
  refine wpAnyX_one (i := 3) (by kernel_rfl) (by rw [List.getElem?_toArray]; rfl) (fun K hK => ?_)
  have HK : Hid _ := hK
  clear hK
  go_simp
  refine (dual_any HA.out.1 (HA.out.2.2.below (bel_up' H1.out.1 H2.out.2.2))).mono ?_
  rintro x w3 ⟨kb, Rb, rb, rcb, rfl, hmv3, hdu3, hb3⟩
  have H3 : Hid (RLz (.slice rb kb rcb) kb n Rb w3 ∧ Dul D n m' (mzc N' Z') kb Rb ∧ Below w1.heap.size w1 w3 ∧ RLz (.slice ra ka rca) ka n Ra w3) := ⟨hmv3.rlz (by omega), hdu3, bel_up' H2.out.2.2 hb3, H2.out.1.below hb3⟩
  clear hmv3 hdu3 hb3
  refine HK.out _ _ (fun _ => HK5.out _ H3.out.2.2.1) ?_
  clear HK K
  try simp only [Act.put, List.setIfInBounds_toArray, List.set_cons_zero, List.set_cons_succ]
  obtain ⟨A2, C2, hcd2⟩ := H3.out.2.2.2.cdz (D := D) hn1 hn (by have := H2.out.2.1.le; omega) H2.out.2.1.rows.1
  obtain ⟨A3, C3, hcd3⟩ := H3.out.1.cdz (D := D) hn1 hn (by have := H3.out.2.1.le; omega) H3.out.2.1.rows.1
  refine wpAnyX_one (i := 4) (by kernel_rfl) (by rw [List.getElem?_toArray]; rfl) (fun K hK => ?_)
  have HK : Hid _ := hK
  clear hK
  go_simp
  refine (csum_any HA.out.1 hcd2 hcd3).mono ?_
  rintro x w4 ⟨ks, Rs, rs, rcs, rfl, hmv4, hred4, hb4⟩
  have H4 : Hid (RLz (.slice rs ks rcs) ks n Rs w4 ∧ Red D n (ka + kb) (apr ka Ra Rb) ks Rs ∧ Below w1.heap.size w1 w4) := by
    refine ⟨hmv4.rlz (by omega), ?_, bel_up' H3.out.2.2.1 hb4⟩
    obtain ⟨pp, q1, q2⟩ := hred4
    refine ⟨pp, q1, fun v => (q2 v).trans (rows_congr (fun a ha => ?_) v)⟩
    unfold apr
    by_cases e : a < ka
    · rw [if_pos e, if_pos e]; exact mzc_rows H2.out.2.1.rows.2 a e
    · rw [if_neg e, if_neg e]; exact mzc_rows H3.out.2.1.rows.2 (a - ka) (by omega)
  clear hcd2 hcd3 hmv4 hred4 hb4
  refine HK.out _ _ (fun _ => HK5.out _ H4.out.2.2) ?_
  clear HK K
  try simp only [Act.put, List.setIfInBounds_toArray, List.set_cons_zero, List.set_cons_succ]
  obtain ⟨A4, C4, hcd4⟩ := H4.out.1.cdz (D := D) hn1 hn (by have := H4.out.2.1.le; omega) H4.out.2.1.rows.1
  refine wpAnyX_one (i := 5) (by kernel_rfl) (by rw [List.getElem?_toArray]; rfl) (fun K hK => ?_)
  have HK : Hid _ := hK
  clear hK
  go_simp
  refine (dual_any HA.out.1 hcd4).mono ?_
  rintro x w5 ⟨k, R, ro, rc, rfl, hmv5, hdu5, hb5⟩
  have H5 : Hid (MV w4.heap.size (.slice ro k rc) k n R w5 ∧ Dul D n (ka + kb) (apr ka Ra Rb) k R ∧ Below w1.heap.size w1 w5 ∧ RB (w.heap.size + 1 + 1) w5 ∧ w.heap.size + 3 ≤ w4.heap.size) := by
    have hbb := bel_up' H4.out.2.2 hb5
    refine ⟨hmv5, ?_, hbb, H1.out.2.1.keep hbb, by have := H4.out.2.2.size; have := H1.out.2.2.2.2; omega⟩
    obtain ⟨pp, q1, q2⟩ := H4.out.2.1
    refine hdu5.of_spn (fun v => ?_)
    exact (rows_congr (fun a ha => mzc_rows q1.bd a ha) v).trans (q2 v)
  clear hcd4 hmv5 hdu5 hb5
  refine HK.out _ _ (fun _ => HK5.out _ H5.out.2.2.1) ?_
  clear HK K
  try simp only [Act.put, List.setIfInBounds_toArray, List.set_cons_zero, List.set_cons_succ]
  obtain ⟨⟨x0, e0⟩, ⟨x1, e1⟩, ⟨x2, e2⟩, f0, f1, f2⟩ := H5.out.2.2.2.1
  refine wpAnyX_one (i := 6) (by kernel_rfl) (by rw [List.getElem?_toArray]; rfl) (fun K hK => ?_)
  have HK : Hid _ := hK
  clear hK
  go_simp
  refine HK.out _ _ (fun h => absurd rfl h) ?_
  clear HK K
  try simp only [Act.put, List.setIfInBounds_toArray, List.set_cons_zero, List.set_cons_succ]
  obtain ⟨w6, hw6⟩ : ∃ w6, w6 = laid w5 (w.heap.size + 1 + 1) D.q n (.slice ro k rc) := ⟨_, rfl⟩
  have H6 : Hid (CB (w.heap.size + 1 + 1) D.q n (.slice ro k rc) w6 ∧ MV w.heap.size (.slice ro k rc) k n R w6 ∧ Below w.heap.size w w6 ∧ meF w.heap.size D.q n ao m ca bo m' cb w6) := by
    have hs := H5.out.2.2.2.2
    rw [hw6]
    refine ⟨laid_cb H5.out.2.2.2.1 _ _ _, (laid_mv H5.out.1 (by omega) _ _ _).mono (by omega), laid_below (bel_up' H1.out.1 H5.out.2.2.1) (by omega) _ _ _, ?_⟩
    obtain ⟨m1, m2⟩ := HK5.out _ H5.out.2.2.1
    have l1 := laid_heap w5 (w.heap.size + 1 + 1) D.q n (.slice ro k rc) (g := w.heap.size) (by omega)
    have l2 := laid_heap w5 (w.heap.size + 1 + 1) D.q n (.slice ro k rc) (g := w.heap.size + 1) (by omega)
    have k1 : ∀ o, (laid w5 (w.heap.size + 1 + 1) D.q n (.slice ro k rc)).cell? ⟨w.heap.size, o, none⟩ = w5.cell? ⟨w.heap.size, o, none⟩ := fun o => by simp [World.cell?, l1]
    have k2 : ∀ o, (laid w5 (w.heap.size + 1 + 1) D.q n (.slice ro k rc)).cell? ⟨w.heap.size + 1, o, none⟩ = w5.cell? ⟨w.heap.size + 1, o, none⟩ := fun o => by simp [World.cell?, l2]
    exact ⟨⟨(k1 0).trans m1.c0, (k1 1).trans m1.c1, (k1 2).trans m1.c2⟩, ⟨(k2 0).trans m2.c0, (k2 1).trans m2.c1, (k2 2).trans m2.c2⟩⟩
  unfold laid at hw6
  rw [← hw6]
  clear hw6 e0 e1 e2 f0 f1 f2
  refine wpAnyX_one (i := 7) (by kernel_rfl) (by rw [List.getElem?_toArray]; rfl) (fun K hK => ?_)
  have HK : Hid _ := hK
  clear hK
  go_simp
  refine HK.out _ _ (fun _ => H6.out.2.2.2) ?_
  clear HK K
  try simp only [Act.put, List.setIfInBounds_toArray, List.set_cons_zero, List.set_cons_succ]
  refine wpAnyX_done (by kernel_rfl) (NoPanic.normal ?_)
  go_wp2
  obtain ⟨e0, e1, e2⟩ := H6.out.1
  refine bodyPost_ret (v := .tuple #[.agg #[.int .i64 D.q, .int .i64 (n : Nat), .slice ro k rc], .int .i64 0]) (by simp [results, Try.results35, go_sem, e0, e1, e2]) rfl ?_
  exact ⟨_, R, _, _, rfl, H6.out.2.1, ⟨ka, Ra, kb, Rb, H2.out.2.1, H3.out.2.1, H5.out.2.1⟩, H6.out.2.2.1⟩
end Go.Proofs.Ytbpeahhhkcljeaa
