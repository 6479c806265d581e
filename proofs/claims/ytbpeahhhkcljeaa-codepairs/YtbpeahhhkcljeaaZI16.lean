/- CodePairs: two codes that may be. -/
import Derived.Test.YtbpeahhhkcljeaaZI15
namespace Go.Proofs.Ytbpeahhhkcljeaa
open Go.RowKit Go.Sort

theorem RB.of {b : Nat} {q n : Int} {v : Value} {w : World} (h : CB b q n v w) (ht : RBt b w) : RB b w := by
  obtain ⟨cs, hh⟩ := ht
  exact ⟨⟨_, h.c0⟩, ⟨_, h.c1⟩, ⟨_, h.c2⟩, frozen_of_row _ _ _ _ _ hh, frozen_of_row _ _ _ _ _ hh, frozen_of_row _ _ _ _ _ hh⟩
theorem laid_rbt {b b' : Nat} {w : World} (h : RBt b' w) (hne : b' ≠ b) (q n : Int) (v : Value) : RBt b' (laid w b q n v) := by
  obtain ⟨cs, h⟩ := h
  exact ⟨cs, by rw [laid_heap w b q n v hne]; exact h⟩
theorem laid_cb' {b b' : Nat} {q' n' : Int} {v' : Value} {w : World} (h : CB b' q' n' v' w) (hne : b' ≠ b) (q n : Int) (v : Value) : CB b' q' n' v' (laid w b q n v) := by
  have l1 := laid_heap w b q n v hne
  have k1 : ∀ o, (laid w b q n v).cell? ⟨b', o, none⟩ = w.cell? ⟨b', o, none⟩ := fun o => by simp [World.cell?, l1]
  exact ⟨(k1 0).trans h.c0, (k1 1).trans h.c1, (k1 2).trans h.c2⟩

set_option maxHeartbeats 16000000 in
set_option maxRecDepth 100000 in
theorem cp_ok {D : FD} (hD : D ∈ fieldsL) {ao bo : Option Addr} {m m' n ca cb : Nat} {A B : Nat → Option Addr} {N C N' C' : Nat → Nat} {Z Z' : Nat → Nat → Int} {w : World} (ha : CdZ D ao m n A N C Z w) (hb : CdZ D bo m' n B N' C' Z' w) (hna : ao = none → ca = 0) (hnb : bo = none → cb = 0)
    (hA : ∀ wx, Below w.heap.size w wx → Calls Try.prog 9 #[.slice ao m ca] wx fun r w' => r = .returned (.bool false) ∧ w' = wx)
    (hB : ∀ wx, Below w.heap.size w wx → Calls Try.prog 9 #[.slice bo m' cb] wx fun r w' => r = .returned (.bool false) ∧ w' = wx)
    (hMa : ∀ wx, Below w.heap.size w wx → Calls Try.prog 21 #[.agg #[.int .i64 D.q, .int .i64 (n : Nat), .slice ao m ca]] wx fun r w' => r = .returned (.int .i64 0) ∧ Below wx.heap.size wx w')
    (hMb : ∀ wx, Below w.heap.size w wx → Calls Try.prog 21 #[.agg #[.int .i64 D.q, .int .i64 (n : Nat), .slice bo m' cb]] wx fun r w' => r = .returned (.int .i64 0) ∧ Below wx.heap.size wx w')
    (hC : ∀ wx, Below w.heap.size w wx → Calls Try.prog 79 #[.agg #[.int .i64 D.q, .int .i64 (n : Nat), .slice ao m ca], .agg #[.int .i64 D.q, .int .i64 (n : Nat), .slice bo m' cb]] wx fun x w' => x = .returned (.int .i64 0) ∧ Below wx.heap.size wx w') :
    Calls Try.prog 6 #[.agg #[.int .i64 D.q, .int .i64 (n : Nat), .slice ao m ca], .agg #[.int .i64 D.q, .int .i64 (n : Nat), .slice bo m' cb]] w fun r w' => r = .returned (.bool true) ∧ Below w.heap.size w w' := by
  obtain ⟨w0, hw0⟩ : ∃ w0, w0 = (w.alloc (.cells #[.int .i64 D.q, .int .i64 (n : Nat), .slice ao m ca] 43)).alloc (.cells #[.int .i64 D.q, .int .i64 (n : Nat), .slice bo m' cb] 43) := ⟨_, rfl⟩
  have HW : Hid (Below w.heap.size w w0 ∧ meF w.heap.size D.q n ao m ca bo m' cb w0) := by
    obtain ⟨h1, h2, h3, _⟩ := two_boxes D.q n D.q n (.slice ao m ca) (.slice bo m' cb) w
    rw [hw0]; exact ⟨h1, h2, h3⟩
  have hm := (ha.rows (fld hD)).1
  have hm' := (hb.rows (fld hD)).1
  have hn1 := ha.n1
  have hn := ha.n64
  obtain ⟨n1, hnn⟩ : ∃ n1, n = n1 + 1 := ⟨n - 1, by omega⟩
  have HD : Hid (D ∈ fieldsL ∧ CdZ D ao m n A N C Z w ∧ CdZ D bo m' n B N' C' Z' w ∧ (ao = none → ca = 0) ∧ (bo = none → cb = 0) ∧ n = n1 + 1) := ⟨hD, ha, hb, hna, hnb, hnn⟩
  have HA : Hid _ := hA
  have HB : Hid _ := hB
  have HMa : Hid _ := hMa
  have HMb : Hid _ := hMb
  have HC : Hid _ := hC
  clear hA hB hMa hMb hC hD ha hb hna hnb hnn
  have hcb0 := HW.out.2
  obtain ⟨⟨a0, a1, a2⟩, ⟨b0, b1, b2⟩⟩ := hcb0
  go_enter Try.func6, Try.ntmps6
  go_wp2_with fail
  rw [← hw0]
  clear hw0
  refine (HA.out _ HW.out.1).mono ?_
  rintro r w' ⟨rfl, hw⟩
  have hw := hw.symm
  subst hw
  go_wp2_with fail
  refine (HB.out _ HW.out.1).mono ?_
  rintro r w' ⟨rfl, hw⟩
  have hw := hw.symm
  subst hw
  go_wp2_with fail
  refine (HMa.out _ HW.out.1).mono ?_
  rintro r w1 ⟨rfl, hb1⟩
  have H1 : Hid (Below w.heap.size w w1 ∧ meF w.heap.size D.q n ao m ca bo m' cb w1) := ⟨bel_up' HW.out.1 hb1, HW.out.2.1.keep hb1, HW.out.2.2.keep hb1⟩
  clear hb1 a0 a1 a2 b0 b1 b2
  have hcb1 := H1.out.2
  obtain ⟨⟨a0, a1, a2⟩, ⟨b0, b1, b2⟩⟩ := hcb1
  go_wp2_with fail
  refine (HMb.out _ H1.out.1).mono ?_
  rintro r w2 ⟨rfl, hb2⟩
  have H2 : Hid (Below w.heap.size w w2 ∧ meF w.heap.size D.q n ao m ca bo m' cb w2) := ⟨bel_up' H1.out.1 hb2, H1.out.2.1.keep hb2, H1.out.2.2.keep hb2⟩
  clear hb2 a0 a1 a2 b0 b1 b2
  have hcb1 := H2.out.2
  obtain ⟨⟨a0, a1, a2⟩, ⟨b0, b1, b2⟩⟩ := hcb1
  go_wp2_with fail
  refine (cSum_ok HD.out.1 (HD.out.2.1.below H2.out.1) (HD.out.2.2.1.below H2.out.1) (fun wx hx => HC.out _ (bel_up' H2.out.1 hx))).mono ?_
  rintro r w3 ⟨k, R, ro, rc, rfl, hmv3, hred3, hb3⟩
  obtain ⟨w4, hw4⟩ : ∃ w4, w4 = w3.alloc (.cells #[.int .i64 D.q, .int .i64 (n : Nat), .slice ro k rc] 43) := ⟨_, rfl⟩
  have H4 : Hid (Below w.heap.size w w4 ∧ meF w.heap.size D.q n ao m ca bo m' cb w4 ∧ CB w3.heap.size D.q n (.slice ro k rc) w4 ∧ MV w2.heap.size (.slice ro k rc) k n R w4 ∧ Red D n (m + m') (apr m (mzc N Z) (mzc N' Z')) k R ∧ w3.heap.size < w4.heap.size) := by
    have hal : Below w3.heap.size w3 w4 := by rw [hw4]; exact (Below.refl _ _).alloc (Nat.le_refl _) _
    have hbb := bel_up' hb3 hal
    exact ⟨bel_up' H2.out.1 hbb, ⟨H2.out.2.1.keep hbb, H2.out.2.2.keep hbb⟩, by rw [hw4]; exact CB.new _ _ _ _, hmv3.below hal, hred3, by rw [hw4]; simp⟩
  have hcb1 := H2.out.2.1.keep hb3
  have hcb2 := H2.out.2.2.keep hb3
  clear hb3 hmv3 hred3 a0 a1 a2 b0 b1 b2
  obtain ⟨a0, a1, a2⟩ := hcb1
  obtain ⟨b0, b1, b2⟩ := hcb2
  have hlt1 : w.heap.size < w3.heap.size := cell_lt a0
  have hlt2 : w.heap.size + 1 < w3.heap.size := cell_lt b0
  go_wp2_with fail
  rw [← hw4]
  clear hw4 a0 a1 a2 b0 b1 b2
  refine (cMeet_ok HD.out.1 (HD.out.2.1.below H4.out.1) (HD.out.2.2.1.below H4.out.1) (fun wx hx => HC.out _ (bel_up' H4.out.1 hx))).mono ?_
  rintro r w5 ⟨l, S, so, sc, rfl, hmv5, hdu5, hb5⟩
  obtain ⟨wz, hwz⟩ : ∃ wz, wz = ((w5.alloc (.cells #[.int .i64 D.q, .int .i64 (n : Nat), .slice so l sc] 43)).alloc (.cells #[.int .i64 0, .int .i64 0, .slice none 0 0] 43)).alloc (.cells #[.int .i64 0, .int .i64 0, .slice none 0 0] 43) := ⟨_, rfl⟩
  have HZ : Hid (Below w5.heap.size w5 wz ∧ CB w5.heap.size D.q n (.slice so l sc) wz ∧ RB (w5.heap.size + 1) wz ∧ RBt (w5.heap.size + 1) wz ∧ RB (w5.heap.size + 1 + 1) wz ∧ RBt (w5.heap.size + 1 + 1) wz ∧ wz.heap.size = w5.heap.size + 3) := by
    obtain ⟨h1, h2, h3, h4⟩ := two_boxes D.q n 0 0 (.slice so l sc) (.slice none 0 0) w5
    have hs1 : (w5.alloc (.cells #[.int .i64 D.q, .int .i64 (n : Nat), .slice so l sc] 43)).heap.size = w5.heap.size + 1 := by simp
    have h7 := RBt.new #[.int .i64 0, .int .i64 0, .slice none 0 0] (w5.alloc (.cells #[.int .i64 D.q, .int .i64 (n : Nat), .slice so l sc] 43))
    rw [hs1] at h7
    have h5 := CB.new 0 0 (.slice none 0 0) ((w5.alloc (.cells #[.int .i64 D.q, .int .i64 (n : Nat), .slice so l sc] 43)).alloc (.cells #[.int .i64 0, .int .i64 0, .slice none 0 0] 43))
    have h6 := RBt.new #[.int .i64 0, .int .i64 0, .slice none 0 0] ((w5.alloc (.cells #[.int .i64 D.q, .int .i64 (n : Nat), .slice so l sc] 43)).alloc (.cells #[.int .i64 0, .int .i64 0, .slice none 0 0] 43))
    have hbl : Below ((w5.alloc (.cells #[.int .i64 D.q, .int .i64 (n : Nat), .slice so l sc] 43)).alloc (.cells #[.int .i64 0, .int .i64 0, .slice none 0 0] 43)).heap.size ((w5.alloc (.cells #[.int .i64 D.q, .int .i64 (n : Nat), .slice so l sc] 43)).alloc (.cells #[.int .i64 0, .int .i64 0, .slice none 0 0] 43)) (((w5.alloc (.cells #[.int .i64 D.q, .int .i64 (n : Nat), .slice so l sc] 43)).alloc (.cells #[.int .i64 0, .int .i64 0, .slice none 0 0] 43)).alloc (.cells #[.int .i64 0, .int .i64 0, .slice none 0 0] 43)) := (Below.refl _ _).alloc (Nat.le_refl _) _
    rw [h4] at h5 h6
    rw [hwz]
    exact ⟨bel_up' h1 hbl, h2.keep hbl, RB.of (h3.keep hbl) (h7.keep hbl), h7.keep hbl, RB.of h5 h6, h6, by simp⟩
  have H5 : Hid (Below w.heap.size w wz ∧ meF w.heap.size D.q n ao m ca bo m' cb wz ∧ CB w3.heap.size D.q n (.slice ro k rc) wz ∧ MV w2.heap.size (.slice ro k rc) k n R wz ∧ MV w4.heap.size (.slice so l sc) l n S wz ∧ (∃ ka Ra kb Rb, Dul D n m (mzc N Z) ka Ra ∧ Dul D n m' (mzc N' Z') kb Rb ∧ Dul D n (ka + kb) (apr ka Ra Rb) l S) ∧ w3.heap.size < w5.heap.size) := by
    have hbb := bel_up' hb5 HZ.out.1
    exact ⟨bel_up' H4.out.1 hbb, ⟨H4.out.2.1.1.keep hbb, H4.out.2.1.2.keep hbb⟩, H4.out.2.2.1.keep hbb, H4.out.2.2.2.1.below hbb, hmv5.below HZ.out.1, hdu5, by have := hb5.size; have := H4.out.2.2.2.2.2; omega⟩
  have HMV3 : Hid (∀ wx, Below w5.heap.size w5 wx → MV w2.heap.size (.slice ro k rc) k n R wx) := fun wx hx => (H4.out.2.2.2.1.below hb5).below hx
  have HMV5 : Hid (∀ wx, Below w5.heap.size w5 wx → MV w4.heap.size (.slice so l sc) l n S wx) := fun wx hx => hmv5.below hx
  have hlt3 : w3.heap.size < w5.heap.size := H5.out.2.2.2.2.2.2
  clear hb5 hmv5 hdu5
  go_wp2
  rw [← hwz]
  clear hwz
  obtain ⟨hra, hrb⟩ : MatR ao m n1 (mzc N Z) wz ∧ MatR bo m' n1 (mzc N' Z') wz := by
    have e : n - 1 = n1 := by have := HD.out.2.2.2.2.2; omega
    have h1 := ((HD.out.2.1.below H5.out.1).rows (fld HD.out.1)).2.2.2
    have h2 := ((HD.out.2.2.1.below H5.out.1).rows (fld HD.out.1)).2.2.2
    rw [e] at h1 h2
    exact ⟨h1, h2⟩
  obtain ⟨va, hva1, hva2⟩ := hra.vals
  obtain ⟨vb, hvb1, hvb2⟩ := hrb.vals
  have HVA : Hid (SlV ao m va wz ∧ (∀ i, i < m → Rwv (va i) n1 (mzc N Z i) wz ∧ (va i).oneCell' = true) ∧ (ao = none → ca = 0)) := ⟨hva1, hva2, HD.out.2.2.2.1⟩
  have HVB : Hid (SlV bo m' vb wz ∧ (∀ i, i < m' → Rwv (vb i) n1 (mzc N' Z' i) wz ∧ (vb i).oneCell' = true) ∧ (bo = none → cb = 0)) := ⟨hvb1, hvb2, HD.out.2.2.2.2.1⟩
  have HRw : Hid ((∀ i, i < m → El D (mzc N Z i) ∧ Bd (n1 + 1) (mzc N Z i)) ∧ (∀ i, i < m' → El D (mzc N' Z' i) ∧ Bd (n1 + 1) (mzc N' Z' i)) ∧ MatR ao m n1 (mzc N Z) wz ∧ MatR bo m' n1 (mzc N' Z') wz) := by
    have h1 := HD.out.2.1.rows (fld HD.out.1)
    have h2 := HD.out.2.2.1.rows (fld HD.out.1)
    have e := HD.out.2.2.2.2.2
    exact ⟨fun i hi => ⟨h1.2.1 i hi, by rw [← e]; exact h1.2.2.1 i hi⟩, fun i hi => ⟨h2.2.1 i hi, by rw [← e]; exact h2.2.2.1 i hi⟩, hra, hrb⟩
  have HK5 : Hid (∀ wx, Below wz.heap.size wz wx → meF w.heap.size D.q n ao m ca bo m' cb wx) := fun wx hx => ⟨H5.out.2.1.1.keep hx, H5.out.2.1.2.keep hx⟩
  clear hra hrb hva1 hva2 hvb1 hvb2
  have hS5 := HK5.out _ (Below.refl wz.heap.size wz).drew
  refine wp_region_noPanic ?_
  refine wp_region_X (S := meF w.heap.size D.q n ao m ca bo m' cb) 13 (by kernel_rfl) ?_
  refine wpAnyX_take (i := 0) (v := ?_) (by rw [List.getElem?_toArray]; rfl) (by kernel_rfl) (by kernel_rfl) (by kernel_rfl) (by kernel_rfl) (fun _ _ _ h => h) hS5 (Or.inl ⟨by rfl, ?_⟩) ?_
  rotate_left
  · intro wz hSz; obtain ⟨⟨z0, z1, z2⟩, ⟨y0, y1, y2⟩⟩ := hSz; go_simp; first | done | with_reducible rfl
  try simp only [Act.put, List.setIfInBounds_toArray, List.set_cons_zero, List.set_cons_succ]
  refine wpAnyX_take (i := 1) (v := ?_) (by rw [List.getElem?_toArray]; rfl) (by kernel_rfl) (by kernel_rfl) (by kernel_rfl) (by kernel_rfl) (fun _ _ _ h => h) hS5 (Or.inl ⟨by rfl, ?_⟩) ?_
  rotate_left
  · intro wz hSz; obtain ⟨⟨z0, z1, z2⟩, ⟨y0, y1, y2⟩⟩ := hSz; go_simp; first | done | with_reducible rfl
  try simp only [Act.put, List.setIfInBounds_toArray, List.set_cons_zero, List.set_cons_succ]
  refine wpAnyX_take (i := 2) (v := ?_) (by rw [List.getElem?_toArray]; rfl) (by kernel_rfl) (by kernel_rfl) (by kernel_rfl) (by kernel_rfl) (fun _ _ _ h => h) hS5 (Or.inl ⟨by rfl, ?_⟩) ?_
  rotate_left
  · intro wz hSz; obtain ⟨⟨z0, z1, z2⟩, ⟨y0, y1, y2⟩⟩ := hSz; go_simp; first | done | with_reducible rfl
  try simp only [Act.put, List.setIfInBounds_toArray, List.set_cons_zero, List.set_cons_succ]
  refine wpAnyX_take (i := 3) (v := ?_) (by rw [List.getElem?_toArray]; rfl) (by kernel_rfl) (by kernel_rfl) (by kernel_rfl) (by kernel_rfl) (fun _ _ _ h => h) hS5 (Or.inl ⟨by rfl, ?_⟩) ?_
  rotate_left
  · intro wz hSz; obtain ⟨⟨z0, z1, z2⟩, ⟨y0, y1, y2⟩⟩ := hSz; go_simp; first | done | with_reducible rfl
  try simp only [Act.put, List.setIfInBounds_toArray, List.set_cons_zero, List.set_cons_succ]
  refine wpAnyX_take (i := 5) (v := ?_) (by rw [List.getElem?_toArray]; rfl) (by kernel_rfl) (by kernel_rfl) (by kernel_rfl) (by kernel_rfl) (fun _ _ _ h => h) hS5 (Or.inl ⟨by rfl, ?_⟩) ?_
  rotate_left
  · intro wz hSz; obtain ⟨⟨z0, z1, z2⟩, ⟨y0, y1, y2⟩⟩ := hSz; go_simp; first | done | with_reducible rfl
  try simp only [Act.put, List.setIfInBounds_toArray, List.set_cons_zero, List.set_cons_succ]
  refine wpAnyX_take (i := 6) (v := ?_) (by rw [List.getElem?_toArray]; rfl) (by kernel_rfl) (by kernel_rfl) (by kernel_rfl) (by kernel_rfl) (fun _ _ _ h => h) hS5 (Or.inl ⟨by rfl, ?_⟩) ?_
  rotate_left
  · intro wz hSz; obtain ⟨⟨z0, z1, z2⟩, ⟨y0, y1, y2⟩⟩ := hSz; go_simp; first | done | with_reducible rfl
  try simp only [Act.put, List.setIfInBounds_toArray, List.set_cons_zero, List.set_cons_succ]
  refine wpAnyX_take (i := 8) (v := ?_) (by rw [List.getElem?_toArray]; rfl) (by kernel_rfl) (by kernel_rfl) (by kernel_rfl) (by kernel_rfl) (fun _ _ _ h => h) hS5 (Or.inl ⟨by rfl, ?_⟩) ?_
  rotate_left
  · intro wz hSz; obtain ⟨⟨z0, z1, z2⟩, ⟨y0, y1, y2⟩⟩ := hSz; go_simp; first | done | with_reducible rfl
  try simp only [Act.put, List.setIfInBounds_toArray, List.set_cons_zero, List.set_cons_succ]
  refine wpAnyX_take (i := 9) (v := ?_) (by rw [List.getElem?_toArray]; rfl) (by kernel_rfl) (by kernel_rfl) (by kernel_rfl) (by kernel_rfl) (fun _ _ _ h => h) hS5 (Or.inl ⟨by rfl, ?_⟩) ?_
  rotate_left
  · intro wz hSz; obtain ⟨⟨z0, z1, z2⟩, ⟨y0, y1, y2⟩⟩ := hSz; go_simp; first | done | with_reducible rfl
  try simp only [Act.put, List.setIfInBounds_toArray, List.set_cons_zero, List.set_cons_succ]
  refine wpAnyX_one (i := 4) (by kernel_rfl) (by rw [List.getElem?_toArray]; rfl) (fun K hK => ?_)
  have HK : Hid _ := hK
  clear hK
  go_simp
  obtain ⟨we, hwe⟩ : ∃ we, we = wz.drew.alloc (.cells #[] 23) := ⟨_, rfl⟩
  have HE : Hid (OwnV wz.heap.size (.slice (some ⟨wz.heap.size, 0, none⟩) 0 0) [] we ∧ Below wz.heap.size wz we) := by
    rw [hwe]; exact ⟨own_e1 wz.drew (Nat.le_refl _), (Below.refl _ _).drew.alloc (Nat.le_refl _) _⟩
  have hwe' : (wz.alloc (.cells #[] 23)).drew = we := by rw [hwe]; rfl
  first | rw [hwe'] | rw [← hwe]
  clear hwe hwe'
  refine HK.out _ _ (fun _ => HK5.out _ HE.out.2) ?_
  clear HK K
  try simp only [Act.put, List.setIfInBounds_toArray, List.set_cons_zero, List.set_cons_succ]
  refine wpAnyX_one (i := 7) (by kernel_rfl) (by rw [List.getElem?_toArray]; rfl) (fun K hK => ?_)
  have HK : Hid _ := hK
  clear hK
  refine step_append_sls (by rfl) _ _ (by rfl) wz.heap.size (.slice (some ⟨wz.heap.size, 0, none⟩) 0 0) [] (by rfl) HE.out.1 ao m ca va (by rfl) (HVA.out.1.below HE.out.2) (fun j hj => (HVA.out.2.1 j hj).2) HVA.out.2.2 (by simp; omega) HE.out.2.size wz HE.out.2 (Nat.le_refl _) ?_
  intro v7 w7 hown7 _ hb7
  have H7 : Hid (OwnV wz.heap.size v7 (vl m va) w7 ∧ Below wz.heap.size wz w7) := ⟨hown7, hb7⟩
  clear hown7 hb7
  refine HK.out _ _ (fun _ => HK5.out _ H7.out.2) ?_
  clear HK K
  try simp only [Act.put, List.setIfInBounds_toArray, List.set_cons_zero, List.set_cons_succ]
  refine wpAnyX_one (i := 10) (by kernel_rfl) (by rw [List.getElem?_toArray]; rfl) (fun K hK => ?_)
  have HK : Hid _ := hK
  clear hK
  refine step_append_sls (by rfl) _ _ (by rfl) wz.heap.size v7 (vl m va) (by rfl) H7.out.1 bo m' cb vb (by rfl) (HVB.out.1.below H7.out.2) (fun j hj => (HVB.out.2.1 j hj).2) HVB.out.2.2 (by rw [vl_len]; omega) H7.out.2.size wz H7.out.2 (Nat.le_refl _) ?_
  intro v8 w8 hown8 _ hb8
  obtain ⟨so8, sc8, hv8, hmr⟩ := app_matR (fun i hi => (HVA.out.2.1 i hi).1) (fun i hi => (HVB.out.2.1 i hi).1) hb8 hown8
  subst hv8
  obtain ⟨mm, hmm⟩ : ∃ mm, mm = m + m' := ⟨_, rfl⟩
  rw [← hmm] at hmr ⊢
  have H8 : Hid (MatR so8 mm n1 (apr m (mzc N Z) (mzc N' Z')) w8 ∧ Below wz.heap.size wz w8 ∧ mm = m + m') := ⟨hmr, hb8, hmm⟩
  have hmm2 : mm ≤ 1000 := by omega
  clear hown8 hb8 hmr hmm
  refine HK.out _ _ (fun _ => HK5.out _ H8.out.2.1) ?_
  clear HK K
  try simp only [Act.put, List.setIfInBounds_toArray, List.set_cons_zero, List.set_cons_succ]
  refine wpAnyX_one (i := 11) (by kernel_rfl) (by rw [List.getElem?_toArray]; rfl) (fun K hK => ?_)
  have HK : Hid _ := hK
  clear hK
  go_simp
  refine HK.out _ _ (fun _ => HK5.out _ H8.out.2.1) ?_
  clear HK K
  try simp only [Act.put, List.setIfInBounds_toArray, List.set_cons_zero, List.set_cons_succ]
  refine wpAnyX_one (i := 12) (by kernel_rfl) (by rw [List.getElem?_toArray]; rfl) (fun K hK => ?_)
  have HK : Hid _ := hK
  clear hK
  go_simp
  refine (made_any HD.out.1 hmm2 hn HD.out.2.2.2.2.2 (by rw [H8.out.2.2]; exact apr_rows HRw.out.1 HRw.out.2.1) H8.out.1).mono ?_
  rintro e w9 ⟨k9, R9, ro9, rc9, rfl, hl9, hd9, hb9⟩
  have H9 : Hid (LLs w8.heap.size (.slice ro9 k9 rc9) (rl k9 n1 R9) w9 ∧ Red D n (m + m') (apr m (mzc N Z) (mzc N' Z')) k9 R9 ∧ Below wz.heap.size wz w9) := by
    refine ⟨hl9, ?_, bel_up' H8.out.2.1 hb9⟩
    rw [← H8.out.2.2]; exact hd9
  clear hl9 hd9 hb9
  refine HK.out _ _ (fun _ => HK5.out _ H9.out.2.2) ?_
  clear HK K
  try simp only [Act.put, List.setIfInBounds_toArray, List.set_cons_zero, List.set_cons_succ]
  obtain ⟨⟨x0, c0⟩, ⟨x1, c1⟩, ⟨x2, c2⟩, f0, f1, f2⟩ := HZ.out.2.2.1.keep H9.out.2.2
  refine wpAnyX_one (i := 13) (by kernel_rfl) (by rw [List.getElem?_toArray]; rfl) (fun K hK => ?_)
  have HK : Hid _ := hK
  clear hK
  go_simp
  refine HK.out _ _ (fun h => absurd rfl h) ?_
  clear HK K
  try simp only [Act.put, List.setIfInBounds_toArray, List.set_cons_zero, List.set_cons_succ]
  refine wpAnyX_done (by kernel_rfl) (NoPanic.normal ?_)
  obtain ⟨w10, hw10⟩ : ∃ w10, w10 = laid w9 (w5.heap.size + 1) D.q n (.slice ro9 k9 rc9) := ⟨_, rfl⟩
  have H10 : Hid (CB (w5.heap.size + 1) D.q n (.slice ro9 k9 rc9) w10 ∧ LLs w8.heap.size (.slice ro9 k9 rc9) (rl k9 n1 R9) w10 ∧ Below w5.heap.size w5 w10 ∧ Below w.heap.size w w10 ∧ CB w5.heap.size D.q n (.slice so l sc) w10 ∧ RB (w5.heap.size + 1 + 1) w10 ∧ RBt (w5.heap.size + 1 + 1) w10 ∧ meF w.heap.size D.q n ao m ca bo m' cb w10 ∧ CB w3.heap.size D.q n (.slice ro k rc) w10 ∧ MatR ao m n1 (mzc N Z) w10 ∧ MatR bo m' n1 (mzc N' Z') w10 ∧ w5.heap.size + 3 ≤ w10.heap.size ∧ Below w5.heap.size w5 w9) := by
    have hk := HK5.out _ H9.out.2.2
    have hb9 : Below w5.heap.size w5 w9 := bel_up' HZ.out.1 H9.out.2.2
    have hbw : Below w.heap.size w w9 := bel_up' H5.out.1 H9.out.2.2
    have hs := H9.out.2.2.size
    have hs2 := HZ.out.2.2.2.2.2.2
    have hs3 := H5.out.1.size
    have hss := H4.out.1.size
    rw [hw10]
    have hcb1 := laid_cb' (b := w5.heap.size + 1) (hk.1) (by omega) D.q n (.slice ro9 k9 rc9)
    have hcb2 := laid_cb' (b := w5.heap.size + 1) (hk.2) (by omega) D.q n (.slice ro9 k9 rc9)
    have hrb2 := laid_rbt (HZ.out.2.2.2.2.2.1.keep H9.out.2.2) (show w5.heap.size + 1 + 1 ≠ w5.heap.size + 1 by omega) D.q n (.slice ro9 k9 rc9)
    have hbl10 : Below w.heap.size w (laid w9 (w5.heap.size + 1) D.q n (.slice ro9 k9 rc9)) := laid_below hbw (by omega) _ _ _
    have e : n - 1 = n1 := by have := HD.out.2.2.2.2.2; omega
    have q1 := ((HD.out.2.1.below hbl10).rows (fld HD.out.1)).2.2.2
    have q2 := ((HD.out.2.2.1.below hbl10).rows (fld HD.out.1)).2.2.2
    rw [e] at q1 q2
    refine ⟨laid_cb (HZ.out.2.2.1.keep H9.out.2.2) _ _ _, H9.out.1.laid (HZ.out.2.2.2.1.keep H9.out.2.2) _ _ _, laid_below hb9 (by omega) _ _ _, hbl10, laid_cb' (HZ.out.2.1.keep H9.out.2.2) (by omega) _ _ _, ?_, hrb2, ⟨hcb1, hcb2⟩, laid_cb' (H5.out.2.2.1.keep H9.out.2.2) (by omega) _ _ _, q1, q2, by unfold laid; simp; omega, hb9⟩
    obtain ⟨⟨y0, e0⟩, ⟨y1, e1⟩, ⟨y2, e2⟩, t0, t1, t2⟩ := HZ.out.2.2.2.2.1.keep H9.out.2.2
    have l1 := laid_heap w9 (w5.heap.size + 1) D.q n (.slice ro9 k9 rc9) (g := w5.heap.size + 1 + 1) (by omega)
    have k1 : ∀ o, (laid w9 (w5.heap.size + 1) D.q n (.slice ro9 k9 rc9)).cell? ⟨w5.heap.size + 1 + 1, o, none⟩ = w9.cell? ⟨w5.heap.size + 1 + 1, o, none⟩ := fun o => by simp [World.cell?, l1]
    have k2 : ∀ o, (laid w9 (w5.heap.size + 1) D.q n (.slice ro9 k9 rc9)).frozen? ⟨w5.heap.size + 1 + 1, o, none⟩ = w9.frozen? ⟨w5.heap.size + 1 + 1, o, none⟩ := fun o => by simp [World.frozen?, l1]
    exact ⟨⟨y0, (k1 0).trans e0⟩, ⟨y1, (k1 1).trans e1⟩, ⟨y2, (k1 2).trans e2⟩, (k2 0).trans t0, (k2 1).trans t1, (k2 2).trans t2⟩
  unfold laid at hw10
  rw [← hw10]
  clear hw10 c0 c1 c2 f0 f1 f2 hS5
  obtain ⟨⟨a0, a1, a2⟩, ⟨b0, b1, b2⟩⟩ := H10.out.2.2.2.2.2.2.2.1
  go_wp2_with fail
  refine (both_any HD.out.1 hm hm' hn HD.out.2.2.2.2.2 HRw.out.1 HRw.out.2.1 H10.out.2.2.2.2.2.2.2.2.2.1 H10.out.2.2.2.2.2.2.2.2.2.2.1).mono ?_
  rintro r w11 ⟨k11, R11, ro11, rc11, rfl, hl11, hd11, hb11⟩
  have H11 : Hid (LLs w10.heap.size (.slice ro11 k11 rc11) (rl k11 n1 R11) w11 ∧ (∃ kx Rx ky Ry, Dul D n m (mzc N Z) kx Rx ∧ Dul D n m' (mzc N' Z') ky Ry ∧ Dul D n (kx + ky) (apr kx Rx Ry) k11 R11) ∧ Below w10.heap.size w10 w11) := ⟨hl11, hd11, hb11⟩
  clear hl11 hd11 hb11 a0 a1 a2 b0 b1 b2
  obtain ⟨⟨x0, c0⟩, ⟨x1, c1⟩, ⟨x2, c2⟩, f0, f1, f2⟩ := H10.out.2.2.2.2.2.1.keep H11.out.2.2
  obtain ⟨w12, hw12⟩ : ∃ w12, w12 = laid w11 (w5.heap.size + 1 + 1) D.q n (.slice ro11 k11 rc11) := ⟨_, rfl⟩
  have H12 : Hid (Below w.heap.size w w12 ∧ CB w3.heap.size D.q n (.slice ro k rc) w12 ∧ CB (w5.heap.size + 1) D.q n (.slice ro9 k9 rc9) w12 ∧ CB w5.heap.size D.q n (.slice so l sc) w12 ∧ CB (w5.heap.size + 1 + 1) D.q n (.slice ro11 k11 rc11) w12 ∧ RL (.slice ro k rc) k n R w12 ∧ RL (.slice ro9 k9 rc9) k9 n R9 w12 ∧ RL (.slice so l sc) l n S w12 ∧ RL (.slice ro11 k11 rc11) k11 n R11 w12 ∧ k = k9 ∧ (∀ i, i < k → R i = R9 i) ∧ l = k11 ∧ (∀ i, i < l → S i = R11 i)) := by
    have hs := H10.out.2.2.2.2.2.2.2.2.2.2.2.1
    have hs3 := H10.out.2.2.2.1.size
    have hsz := H11.out.2.2.size
    have e := HD.out.2.2.2.2.2
    have hb5 : Below w5.heap.size w5 w11 := bel_up' H10.out.2.2.1 H11.out.2.2
    have hlt := H5.out.2.2.2.2.2.2
    have hb12 : Below w5.heap.size w5 w12 := by rw [hw12]; exact laid_below hb5 (by omega) _ _ _
    have hrt := H10.out.2.2.2.2.2.2.1.keep H11.out.2.2
    have hc3 : CB w3.heap.size D.q n (.slice ro k rc) w12 := by rw [hw12]; exact laid_cb' (H10.out.2.2.2.2.2.2.2.2.1.keep H11.out.2.2) (by omega) _ _ _
    have hc10 : CB (w5.heap.size + 1) D.q n (.slice ro9 k9 rc9) w12 := by rw [hw12]; exact laid_cb' (H10.out.1.keep H11.out.2.2) (by omega) _ _ _
    have hc8 : CB w5.heap.size D.q n (.slice so l sc) w12 := by rw [hw12]; exact laid_cb' (H10.out.2.2.2.2.1.keep H11.out.2.2) (by omega) _ _ _
    have hc11 : CB (w5.heap.size + 1 + 1) D.q n (.slice ro11 k11 rc11) w12 := by rw [hw12]; exact laid_cb (H10.out.2.2.2.2.2.1.keep H11.out.2.2) _ _ _
    have hl9 : LLs w8.heap.size (.slice ro9 k9 rc9) (rl k9 n1 R9) w12 := by rw [hw12]; exact (H10.out.2.1.below H11.out.2.2 (Nat.le_refl _)).laid hrt _ _ _
    have hl11 : LLs w10.heap.size (.slice ro11 k11 rc11) (rl k11 n1 R11) w12 := by rw [hw12]; exact H11.out.1.laid hrt _ _ _
    have r9 := hl9.rl
    have r11 := hl11.rl
    rw [← e] at r9 r11
    have F' := fld HD.out.1
    have u1 := Red.uniq F' H4.out.2.2.2.2.1 H9.out.2.1 (fun v => Iff.rfl)
    obtain ⟨ka, Ra, kb, Rb, d1, d2, d3⟩ := H5.out.2.2.2.2.2.1
    obtain ⟨kx, Rx, ky, Ry, g1, g2, g3⟩ := H11.out.2.1
    obtain ⟨ex, eX⟩ := Dul.uniq F' d1 g1 (fun v => Iff.rfl)
    obtain ⟨ey, eY⟩ := Dul.uniq F' d2 g2 (fun v => Iff.rfl)
    have u2 := Dul.uniq F' d3 g3 (fun v => by
      rw [← ex, ← ey]
      exact rows_congr (fun i hi => by
        unfold apr
        by_cases h1 : i < ka
        · rw [if_pos h1, if_pos h1]; exact eX i h1
        · rw [if_neg h1, if_neg h1]; exact eY (i - ka) (by omega)) v)
    exact ⟨by rw [hw12]; exact laid_below (bel_up' H10.out.2.2.2.1 H11.out.2.2) (by omega) _ _ _, hc3, hc10, hc8, hc11, (HMV3.out w12 hb12).rl, r9, (HMV5.out w12 hb12).rl, r11, u1.1, u1.2, u2.1, u2.2⟩
  have ek : k = k9 := H12.out.2.2.2.2.2.2.2.2.2.1
  have el : l = k11 := H12.out.2.2.2.2.2.2.2.2.2.2.2.1
  subst ek
  subst el
  have hkl : k ≤ 1000000 ∧ l ≤ 1000000 ∧ n ≤ 1000000 := by
    refine ⟨?_, ?_, by omega⟩
    · have := H4.out.2.2.2.2.1.le; omega
    · obtain ⟨ka, Ra, kb, Rb, d1, d2, d3⟩ := H5.out.2.2.2.2.2.1
      have := d3.le; omega
  unfold laid at hw12
  have hq := H12.out.2.1
  rw [hw12] at hq
  obtain ⟨p0, p1, p2⟩ := hq
  have hq := H12.out.2.2.1
  rw [hw12] at hq
  obtain ⟨s0, s1, s2⟩ := hq
  go_wp2_with fail
  rw [← hw12]
  clear hw12 p0 p1 p2 s0 s1 s2 c0 c1 c2 f0 f1 f2
  refine (lsame_ok D.q n H12.out.2.2.2.2.2.1 (H12.out.2.2.2.2.2.2.1.congr (fun i hi => (H12.out.2.2.2.2.2.2.2.2.2.2.1 i hi).symm)) hkl.1 hkl.2.2).mono ?_
  rintro r w13 ⟨rfl, hb13⟩
  have H13 : Hid (Below w.heap.size w w13 ∧ CB w5.heap.size D.q n (.slice so l sc) w13 ∧ CB (w5.heap.size + 1 + 1) D.q n (.slice ro11 l rc11) w13 ∧ RL (.slice so l sc) l n S w13 ∧ RL (.slice ro11 l rc11) l n S w13) := ⟨bel_up' H12.out.1 hb13, H12.out.2.2.2.1.keep hb13, H12.out.2.2.2.2.1.keep hb13, H12.out.2.2.2.2.2.2.2.1.below hb13, (H12.out.2.2.2.2.2.2.2.2.1.congr (fun i hi => (H12.out.2.2.2.2.2.2.2.2.2.2.2.2 i hi).symm)).below hb13⟩
  clear hb13
  obtain ⟨p0, p1, p2⟩ := H13.out.2.1
  obtain ⟨s0, s1, s2⟩ := H13.out.2.2.1
  go_wp2_with fail
  refine (lsame_ok D.q n H13.out.2.2.2.1 H13.out.2.2.2.2 hkl.2.1 hkl.2.2).mono ?_
  rintro r w14 ⟨rfl, hb14⟩
  have H14 : Hid (Below w.heap.size w w14) := bel_up' H13.out.1 hb14
  clear hb14
  go_wp2
  go_ret
  exact ⟨rfl, H14.out⟩
end Go.Proofs.Ytbpeahhhkcljeaa
