/- Texts of ours, one behind the other: I13 I14. -/
import Derived.Test.YtbpeahhhkcljeaaZI12
import Derived.Test.YtbpeahhhkcljeaaZO2
/- Codes: rows of two codes in one list; what both have, of the reference (Both). -/
namespace Go.Proofs.Ytbpeahhhkcljeaa
open Go.RowKit Go.Sort

theorem MatR.vals {ao : Option Addr} {m n : Nat} {M : Nat → Nat → Nat} {w : World} (h : MatR ao m n M w) : ∃ va : Nat → Value, SlV ao m va w ∧ ∀ i, i < m → Rwv (va i) n (M i) w ∧ (va i).oneCell' = true := by
  have h' : ∀ i, ∃ u : Value, i < m → (∃ b off, ao = some ⟨b, off, none⟩ ∧ w.cell? ⟨b, off + i, none⟩ = some u) ∧ Rwv u n (M i) w := fun i => by
    by_cases hi : i < m
    · obtain ⟨b, off, u, h1, h2, h3⟩ := h i hi
      exact ⟨u, fun _ => ⟨⟨b, off, h1, h2⟩, h3⟩⟩
    · exact ⟨undef, fun x => absurd x hi⟩
  obtain ⟨va, hva⟩ := Classical.axiomOfChoice h'
  refine ⟨va, fun i hi => (hva i hi).1, fun i hi => ⟨(hva i hi).2, ?_⟩⟩
  obtain ⟨A, ca, e, _⟩ := (hva i hi).2
  rw [e]; rfl
theorem Rwv.keep {u : Value} {n : Nat} {c : Nat → Nat} {w w' : World} (h : Rwv u n c w) (hb : Below w.heap.size w w') : Rwv u n c w' := by
  obtain ⟨A, ca, e, hs, hl, h1, h2, h3⟩ := h
  exact ⟨A, ca, e, hs.below hb hl, hl.mono hb.size, h1, h2, h3⟩
theorem app_matR {base m m' n1 : Nat} {Ma Mb : Nat → Nat → Nat} {va vb : Nat → Value} {v' : Value} {w w' : World} (ha : ∀ i, i < m → Rwv (va i) n1 (Ma i) w) (hb : ∀ i, i < m' → Rwv (vb i) n1 (Mb i) w) (hbl : Below w.heap.size w w') (ho : OwnV base v' (vl m va ++ vl m' vb) w') :
    ∃ so sc, v' = .slice so (m + m') sc ∧ MatR so (m + m') n1 (apr m Ma Mb) w' := by
  obtain ⟨so, sc, e, _, _, _, hc⟩ := ho.open
  rw [List.length_append, vl_len, vl_len] at e
  refine ⟨so, sc, e, fun i hi => ?_⟩
  by_cases h1 : i < m
  · obtain ⟨g, e1, hc1, _⟩ := hc i (va i) (by rw [List.getElem?_append_left (by rw [vl_len]; exact h1), vl_get _ _ i h1])
    refine ⟨g, 0, va i, e1, by rw [Nat.zero_add]; exact hc1, ?_⟩
    unfold apr
    rw [if_pos h1]; exact (ha i h1).keep hbl
  · obtain ⟨g, e1, hc1, _⟩ := hc i (vb (i - m)) (by rw [List.getElem?_append_right (by rw [vl_len]; omega), vl_len, vl_get _ _ (i - m) (by omega)])
    refine ⟨g, 0, vb (i - m), e1, by rw [Nat.zero_add]; exact hc1, ?_⟩
    unfold apr
    rw [if_neg h1]; exact (hb (i - m) (by omega)).keep hbl
theorem apr_rows {D : FD} {m m' n : Nat} {Ma Mb : Nat → Nat → Nat} (ha : ∀ i, i < m → El D (Ma i) ∧ Bd n (Ma i)) (hb : ∀ i, i < m' → El D (Mb i) ∧ Bd n (Mb i)) : ∀ i, i < m + m' → El D (apr m Ma Mb i) ∧ Bd n (apr m Ma Mb i) := fun i hi => by
  unfold apr
  split
  · next h => exact ha i h
  · exact hb (i - m) (by omega)
theorem LLs.matR' {base k n : Nat} {ro : Option Addr} {rc : Nat} {R : Nat → Nat → Nat} {w : World} (h : LLs base (.slice ro k rc) (Go.Proofs.Ytbpeahhhkcljeaa.rl k n R) w) : MatR ro k n R w ∧ (ro = none → rc = 0) := by
  obtain ⟨ro', rc', vs, e, hw⟩ := h.rws
  cases e
  exact ⟨hw.matR, hw.nil⟩
/-- What Both reads. -/
def boF (b x y q n : Nat) (vx vy va : Value) (wx : World) : Prop := CB b q n va wx ∧ CB x q n vx wx ∧ CB y q n vy wx

set_option maxHeartbeats 8000000 in
set_option maxRecDepth 100000 in
theorem both_any {D : FD} (hD : D ∈ fieldsL) {ao bo : Option Addr} {m m' n n1 ca cb : Nat} {Ma Mb : Nat → Nat → Nat} {w : World} (hm : m ≤ 64) (hm' : m' ≤ 64) (hn : n ≤ 64) (hnn : n = n1 + 1) (hea : ∀ i, i < m → El D (Ma i) ∧ Bd (n1 + 1) (Ma i)) (heb : ∀ i, i < m' → El D (Mb i) ∧ Bd (n1 + 1) (Mb i)) (hA : MatR ao m n1 Ma w) (hB : MatR bo m' n1 Mb w) :
    Calls Try.prog 36 #[.agg #[.int .i64 D.q, .int .i64 (n : Nat), .slice ao m ca], .agg #[.int .i64 D.q, .int .i64 (n : Nat), .slice bo m' cb]] w fun e w' => ∃ k R ro rc, e = .returned (.agg #[.int .i64 D.q, .int .i64 (n : Nat), .slice ro k rc]) ∧ LLs w.heap.size (.slice ro k rc) (rl k n1 R) w' ∧ (∃ kx Rx ky Ry, Dul D n m Ma kx Rx ∧ Dul D n m' Mb ky Ry ∧ Dul D n (kx + ky) (apr kx Rx Ry) k R) ∧ Below w.heap.size w w' := by
  obtain ⟨w0, hw0⟩ : ∃ w0, w0 = ((w.alloc (.cells #[.int .i64 D.q, .int .i64 (n : Nat), .slice ao m ca] 43)).alloc (.cells #[.int .i64 D.q, .int .i64 (n : Nat), .slice bo m' cb] 43)).alloc (.cells #[.int .i64 0, .int .i64 0, .slice none 0 0] 43) := ⟨_, rfl⟩
  have HW : Hid (Below w.heap.size w w0 ∧ RB (w.heap.size + 1 + 1) w0 ∧ CB w.heap.size D.q n (.slice ao m ca) w0 ∧ CB (w.heap.size + 1) D.q n (.slice bo m' cb) w0 ∧ RBt (w.heap.size + 1 + 1) w0 ∧ w0.heap.size = w.heap.size + 3) := by
    obtain ⟨h1, h2, h3, h4⟩ := two_boxes D.q n D.q n (.slice ao m ca) (.slice bo m' cb) w
    have h5 := RB.new (.int .i64 0) (.int .i64 0) (.slice none 0 0) ((w.alloc (.cells #[.int .i64 D.q, .int .i64 (n : Nat), .slice ao m ca] 43)).alloc (.cells #[.int .i64 D.q, .int .i64 (n : Nat), .slice bo m' cb] 43))
    have h6 := RBt.new #[.int .i64 0, .int .i64 0, .slice none 0 0] ((w.alloc (.cells #[.int .i64 D.q, .int .i64 (n : Nat), .slice ao m ca] 43)).alloc (.cells #[.int .i64 D.q, .int .i64 (n : Nat), .slice bo m' cb] 43))
    have hbl : Below ((w.alloc (.cells #[.int .i64 D.q, .int .i64 (n : Nat), .slice ao m ca] 43)).alloc (.cells #[.int .i64 D.q, .int .i64 (n : Nat), .slice bo m' cb] 43)).heap.size ((w.alloc (.cells #[.int .i64 D.q, .int .i64 (n : Nat), .slice ao m ca] 43)).alloc (.cells #[.int .i64 D.q, .int .i64 (n : Nat), .slice bo m' cb] 43)) (((w.alloc (.cells #[.int .i64 D.q, .int .i64 (n : Nat), .slice ao m ca] 43)).alloc (.cells #[.int .i64 D.q, .int .i64 (n : Nat), .slice bo m' cb] 43)).alloc (.cells #[.int .i64 0, .int .i64 0, .slice none 0 0] 43)) := (Below.refl _ _).alloc (Nat.le_refl _) _
    rw [h4] at h5 h6
    rw [hw0]; exact ⟨bel_up' h1 hbl, h5, h2.keep hbl, h3.keep hbl, h6, by simp⟩
  have HA : Hid (D ∈ fieldsL ∧ (∀ i, i < m → El D (Ma i) ∧ Bd (n1 + 1) (Ma i)) ∧ (∀ i, i < m' → El D (Mb i) ∧ Bd (n1 + 1) (Mb i)) ∧ MatR ao m n1 Ma w ∧ MatR bo m' n1 Mb w ∧ n = n1 + 1) := ⟨hD, hea, heb, hA, hB, hnn⟩
  clear hD hea heb hA hB hnn
  go_enter Try.func36, Try.ntmps36
  go_wp2_with fail
  rw [← hw0]
  clear hw0
  refine (dualOf_any HA.out.1 (by omega) hn HA.out.2.2.2.2.2 HA.out.2.1 (HA.out.2.2.2.1.below HW.out.1)).mono ?_
  rintro e w1 ⟨kx, Rx, xo, xc, rfl, hl1, hd1, hb1⟩
  obtain ⟨wx, hwx⟩ : ∃ wx, wx = w1.alloc (.cells #[.int .i64 D.q, .int .i64 (n : Nat), .slice xo kx xc] 43) := ⟨_, rfl⟩
  have hbx : Below w1.heap.size w1 wx := by rw [hwx]; exact (Below.refl _ _).alloc (Nat.le_refl _) _
  have H1 : Hid (LLs w0.heap.size (.slice xo kx xc) (rl kx n1 Rx) wx ∧ Dul D n m Ma kx Rx ∧ Below w0.heap.size w0 wx ∧ CB w1.heap.size D.q n (.slice xo kx xc) wx) := ⟨hl1.below hbx (Nat.le_refl _), hd1, bel_up' hb1 hbx, by rw [hwx]; exact CB.new _ _ _ _⟩
  have hcb1 := HW.out.2.2.2.1.keep hb1
  obtain ⟨b0, b1, b2⟩ := hcb1
  have hlt1 : w.heap.size + 1 < w1.heap.size := cell_lt b0
  clear hl1 hd1 hb1 hbx
  go_wp2_with fail
  rw [← hwx]
  clear hwx b0 b1 b2
  refine (dualOf_any HA.out.1 (by omega) hn HA.out.2.2.2.2.2 HA.out.2.2.1 (HA.out.2.2.2.2.1.below (bel_up' HW.out.1 H1.out.2.2.1))).mono ?_
  rintro e w2 ⟨ky, Ry, yo, yc, rfl, hl2, hd2, hb2⟩
  obtain ⟨wy, hwy⟩ : ∃ wy, wy = w2.alloc (.cells #[.int .i64 D.q, .int .i64 (n : Nat), .slice yo ky yc] 43) := ⟨_, rfl⟩
  have hby : Below w2.heap.size w2 wy := by rw [hwy]; exact (Below.refl _ _).alloc (Nat.le_refl _) _
  have H2 : Hid (LLs w0.heap.size (.slice xo kx xc) (rl kx n1 Rx) wy ∧ LLs wx.heap.size (.slice yo ky yc) (rl ky n1 Ry) wy ∧ Dul D n m' Mb ky Ry ∧ Below w0.heap.size w0 wy ∧ boF w.heap.size w1.heap.size w2.heap.size D.q n (.slice xo kx xc) (.slice yo ky yc) (.slice ao m ca) wy) := by
    have hbb := bel_up' hb2 hby
    have hbt := bel_up' H1.out.2.2.1 hbb
    exact ⟨H1.out.1.below hbb (Nat.le_refl _), hl2.below hby (Nat.le_refl _), hd2, hbt, HW.out.2.2.1.keep hbt, H1.out.2.2.2.keep hbb, by rw [hwy]; exact CB.new _ _ _ _⟩
  clear hl2 hd2 hb2 hby
  go_wp2
  rw [← hwy]
  clear hwy
  obtain ⟨hmx, hnx⟩ := H2.out.1.matR'
  obtain ⟨hmy, hny⟩ := H2.out.2.1.matR'
  obtain ⟨va, hva1, hva2⟩ := hmx.vals
  obtain ⟨vb, hvb1, hvb2⟩ := hmy.vals
  have HVA : Hid (SlV xo kx va wy ∧ (∀ i, i < kx → Rwv (va i) n1 (Rx i) wy ∧ (va i).oneCell' = true) ∧ (xo = none → xc = 0)) := ⟨hva1, hva2, hnx⟩
  have HVB : Hid (SlV yo ky vb wy ∧ (∀ i, i < ky → Rwv (vb i) n1 (Ry i) wy ∧ (vb i).oneCell' = true) ∧ (yo = none → yc = 0)) := ⟨hvb1, hvb2, hny⟩
  have hkx : kx ≤ 64 := by have := H1.out.2.1.le; omega
  have hky : ky ≤ 64 := by have := H2.out.2.2.1.le; omega
  have HK5 : Hid (∀ wz, Below wy.heap.size wy wz → boF w.heap.size w1.heap.size w2.heap.size D.q n (.slice xo kx xc) (.slice yo ky yc) (.slice ao m ca) wz) := fun wz hz => ⟨H2.out.2.2.2.2.1.keep hz, H2.out.2.2.2.2.2.1.keep hz, H2.out.2.2.2.2.2.2.keep hz⟩
  clear hmx hnx hmy hny hva1 hva2 hvb1 hvb2
  have hS5 := HK5.out _ (Below.refl wy.heap.size wy).drew
  refine wp_region_noPanic ?_
  refine wp_region_X (S := boF w.heap.size w1.heap.size w2.heap.size D.q n (.slice xo kx xc) (.slice yo ky yc) (.slice ao m ca)) 13 (by kernel_rfl) ?_
  refine wpAnyX_take (i := 0) (v := ?_) (by rw [List.getElem?_toArray]; rfl) (by kernel_rfl) (by kernel_rfl) (by kernel_rfl) (by kernel_rfl) (fun _ _ _ h => h) hS5 (Or.inl ⟨by rfl, ?_⟩) ?_
  rotate_left
  · intro wz hSz; obtain ⟨⟨z0, z1, z2⟩, ⟨y0, y1, y2⟩, ⟨t0, t1, t2⟩⟩ := hSz; go_simp; first | done | with_reducible rfl
  try simp only [Act.put, List.setIfInBounds_toArray, List.set_cons_zero, List.set_cons_succ]
  refine wpAnyX_take (i := 1) (v := ?_) (by rw [List.getElem?_toArray]; rfl) (by kernel_rfl) (by kernel_rfl) (by kernel_rfl) (by kernel_rfl) (fun _ _ _ h => h) hS5 (Or.inl ⟨by rfl, ?_⟩) ?_
  rotate_left
  · intro wz hSz; obtain ⟨⟨z0, z1, z2⟩, ⟨y0, y1, y2⟩, ⟨t0, t1, t2⟩⟩ := hSz; go_simp; first | done | with_reducible rfl
  try simp only [Act.put, List.setIfInBounds_toArray, List.set_cons_zero, List.set_cons_succ]
  refine wpAnyX_take (i := 2) (v := ?_) (by rw [List.getElem?_toArray]; rfl) (by kernel_rfl) (by kernel_rfl) (by kernel_rfl) (by kernel_rfl) (fun _ _ _ h => h) hS5 (Or.inl ⟨by rfl, ?_⟩) ?_
  rotate_left
  · intro wz hSz; obtain ⟨⟨z0, z1, z2⟩, ⟨y0, y1, y2⟩, ⟨t0, t1, t2⟩⟩ := hSz; go_simp; first | done | with_reducible rfl
  try simp only [Act.put, List.setIfInBounds_toArray, List.set_cons_zero, List.set_cons_succ]
  refine wpAnyX_take (i := 3) (v := ?_) (by rw [List.getElem?_toArray]; rfl) (by kernel_rfl) (by kernel_rfl) (by kernel_rfl) (by kernel_rfl) (fun _ _ _ h => h) hS5 (Or.inl ⟨by rfl, ?_⟩) ?_
  rotate_left
  · intro wz hSz; obtain ⟨⟨z0, z1, z2⟩, ⟨y0, y1, y2⟩, ⟨t0, t1, t2⟩⟩ := hSz; go_simp; first | done | with_reducible rfl
  try simp only [Act.put, List.setIfInBounds_toArray, List.set_cons_zero, List.set_cons_succ]
  refine wpAnyX_take (i := 5) (v := ?_) (by rw [List.getElem?_toArray]; rfl) (by kernel_rfl) (by kernel_rfl) (by kernel_rfl) (by kernel_rfl) (fun _ _ _ h => h) hS5 (Or.inl ⟨by rfl, ?_⟩) ?_
  rotate_left
  · intro wz hSz; obtain ⟨⟨z0, z1, z2⟩, ⟨y0, y1, y2⟩, ⟨t0, t1, t2⟩⟩ := hSz; go_simp; first | done | with_reducible rfl
  try simp only [Act.put, List.setIfInBounds_toArray, List.set_cons_zero, List.set_cons_succ]
  refine wpAnyX_take (i := 6) (v := ?_) (by rw [List.getElem?_toArray]; rfl) (by kernel_rfl) (by kernel_rfl) (by kernel_rfl) (by kernel_rfl) (fun _ _ _ h => h) hS5 (Or.inl ⟨by rfl, ?_⟩) ?_
  rotate_left
  · intro wz hSz; obtain ⟨⟨z0, z1, z2⟩, ⟨y0, y1, y2⟩, ⟨t0, t1, t2⟩⟩ := hSz; go_simp; first | done | with_reducible rfl
  try simp only [Act.put, List.setIfInBounds_toArray, List.set_cons_zero, List.set_cons_succ]
  refine wpAnyX_take (i := 8) (v := ?_) (by rw [List.getElem?_toArray]; rfl) (by kernel_rfl) (by kernel_rfl) (by kernel_rfl) (by kernel_rfl) (fun _ _ _ h => h) hS5 (Or.inl ⟨by rfl, ?_⟩) ?_
  rotate_left
  · intro wz hSz; obtain ⟨⟨z0, z1, z2⟩, ⟨y0, y1, y2⟩, ⟨t0, t1, t2⟩⟩ := hSz; go_simp; first | done | with_reducible rfl
  try simp only [Act.put, List.setIfInBounds_toArray, List.set_cons_zero, List.set_cons_succ]
  refine wpAnyX_take (i := 9) (v := ?_) (by rw [List.getElem?_toArray]; rfl) (by kernel_rfl) (by kernel_rfl) (by kernel_rfl) (by kernel_rfl) (fun _ _ _ h => h) hS5 (Or.inl ⟨by rfl, ?_⟩) ?_
  rotate_left
  · intro wz hSz; obtain ⟨⟨z0, z1, z2⟩, ⟨y0, y1, y2⟩, ⟨t0, t1, t2⟩⟩ := hSz; go_simp; first | done | with_reducible rfl
  try simp only [Act.put, List.setIfInBounds_toArray, List.set_cons_zero, List.set_cons_succ]
  refine wpAnyX_one (i := 4) (by kernel_rfl) (by rw [List.getElem?_toArray]; rfl) (fun K hK => ?_)
  have HK : Hid _ := hK
  clear hK
  go_simp
  obtain ⟨we, hwe⟩ : ∃ we, we = wy.drew.alloc (.cells #[] 23) := ⟨_, rfl⟩
  have HE : Hid (OwnV wy.heap.size (.slice (some ⟨wy.heap.size, 0, none⟩) 0 0) [] we ∧ Below wy.heap.size wy we) := by
    rw [hwe]; exact ⟨own_e1 wy.drew (Nat.le_refl _), (Below.refl _ _).drew.alloc (Nat.le_refl _) _⟩
  have hwe' : (wy.alloc (.cells #[] 23)).drew = we := by rw [hwe]; rfl
  first | rw [hwe'] | rw [← hwe]
  clear hwe hwe'
  refine HK.out _ _ (fun _ => HK5.out _ HE.out.2) ?_
  clear HK K
  try simp only [Act.put, List.setIfInBounds_toArray, List.set_cons_zero, List.set_cons_succ]
  refine wpAnyX_one (i := 7) (by kernel_rfl) (by rw [List.getElem?_toArray]; rfl) (fun K hK => ?_)
  have HK : Hid _ := hK
  clear hK
  refine step_append_sls (by rfl) _ _ (by rfl) wy.heap.size (.slice (some ⟨wy.heap.size, 0, none⟩) 0 0) [] (by rfl) HE.out.1 xo kx xc va (by rfl) (HVA.out.1.below HE.out.2) (fun j hj => (HVA.out.2.1 j hj).2) HVA.out.2.2 (by simp; omega) HE.out.2.size wy HE.out.2 (Nat.le_refl _) ?_
  intro v7 w7 hown7 _ hb7
  have H7 : Hid (OwnV wy.heap.size v7 (vl kx va) w7 ∧ Below wy.heap.size wy w7) := ⟨hown7, hb7⟩
  clear hown7 hb7
  refine HK.out _ _ (fun _ => HK5.out _ H7.out.2) ?_
  clear HK K
  try simp only [Act.put, List.setIfInBounds_toArray, List.set_cons_zero, List.set_cons_succ]
  refine wpAnyX_one (i := 10) (by kernel_rfl) (by rw [List.getElem?_toArray]; rfl) (fun K hK => ?_)
  have HK : Hid _ := hK
  clear hK
  refine step_append_sls (by rfl) _ _ (by rfl) wy.heap.size v7 (vl kx va) (by rfl) H7.out.1 yo ky yc vb (by rfl) (HVB.out.1.below H7.out.2) (fun j hj => (HVB.out.2.1 j hj).2) HVB.out.2.2 (by rw [vl_len]; omega) H7.out.2.size wy H7.out.2 (Nat.le_refl _) ?_
  intro v8 w8 hown8 _ hb8
  obtain ⟨so, sc, hv8, hmr⟩ := app_matR (fun i hi => (HVA.out.2.1 i hi).1) (fun i hi => (HVB.out.2.1 i hi).1) hb8 hown8
  subst hv8
  obtain ⟨mm, hmm⟩ : ∃ mm, mm = kx + ky := ⟨_, rfl⟩
  rw [← hmm] at hmr ⊢
  have H8 : Hid (MatR so mm n1 (apr kx Rx Ry) w8 ∧ Below wy.heap.size wy w8 ∧ mm = kx + ky) := ⟨hmr, hb8, hmm⟩
  have hmm2 : mm ≤ 1000 := by omega
  clear hown8 hb8 hmr hmm
  refine HK.out _ _ (fun _ => HK5.out _ H8.out.2.1) ?_
  clear HK K
  try simp only [Act.put, List.setIfInBounds_toArray, List.set_cons_zero, List.set_cons_succ]
  refine wpAnyX_one (i := 11) (by kernel_rfl) (by rw [List.getElem?_toArray]; rfl) (fun K hK => ?_)
  have HK : Hid _ := hK
  clear hK
  go_simp
  refine HK.out _ _ (fun _ => HK5.out _ H8.out.2.1) ?_
  clear HK K
  try simp only [Act.put, List.setIfInBounds_toArray, List.set_cons_zero, List.set_cons_succ]
  refine wpAnyX_one (i := 12) (by kernel_rfl) (by rw [List.getElem?_toArray]; rfl) (fun K hK => ?_)
  have HK : Hid _ := hK
  clear hK
  go_simp
  refine (dualOf_any HA.out.1 hmm2 hn HA.out.2.2.2.2.2 (by rw [H8.out.2.2]; exact apr_rows (fun i hi => ⟨H1.out.2.1.rows.1 i hi, by have := H1.out.2.1.rows.2 i hi; rw [HA.out.2.2.2.2.2] at this; exact this⟩) (fun i hi => ⟨H2.out.2.2.1.rows.1 i hi, by have := H2.out.2.2.1.rows.2 i hi; rw [HA.out.2.2.2.2.2] at this; exact this⟩)) H8.out.1).mono ?_
  rintro e w9 ⟨k9, R9, ro9, rc9, rfl, hl9, hd9, hb9⟩
  have H9 : Hid (LLs w8.heap.size (.slice ro9 k9 rc9) (rl k9 n1 R9) w9 ∧ Dul D n (kx + ky) (apr kx Rx Ry) k9 R9 ∧ Below wy.heap.size wy w9 ∧ RB (w.heap.size + 1 + 1) w9 ∧ RBt (w.heap.size + 1 + 1) w9 ∧ Below w.heap.size w w9 ∧ w.heap.size ≤ w8.heap.size) := by
    have hbb := bel_up' H8.out.2.1 hb9
    have hbt := bel_up' H2.out.2.2.2.1 hbb
    refine ⟨hl9, ?_, hbb, HW.out.2.1.keep hbt, HW.out.2.2.2.2.1.keep hbt, bel_up' HW.out.1 hbt, ?_⟩
    · rw [← H8.out.2.2]; exact hd9
    · have h1 := H8.out.2.1.size
      have h2 := H2.out.2.2.2.1.size
      have h3 := HW.out.2.2.2.2.2
      omega
  clear hl9 hd9 hb9
  refine HK.out _ _ (fun _ => HK5.out _ H9.out.2.2.1) ?_
  clear HK K
  try simp only [Act.put, List.setIfInBounds_toArray, List.set_cons_zero, List.set_cons_succ]
  obtain ⟨⟨x0, c0⟩, ⟨x1, c1⟩, ⟨x2, c2⟩, f0, f1, f2⟩ := H9.out.2.2.2.1
  refine wpAnyX_one (i := 13) (by kernel_rfl) (by rw [List.getElem?_toArray]; rfl) (fun K hK => ?_)
  have HK : Hid _ := hK
  clear hK
  go_simp
  refine HK.out _ _ (fun h => absurd rfl h) ?_
  clear HK K
  try simp only [Act.put, List.setIfInBounds_toArray, List.set_cons_zero, List.set_cons_succ]
  refine wpAnyX_done (by kernel_rfl) (NoPanic.normal ?_)
  go_wp2
  obtain ⟨w3, hw3⟩ : ∃ w3, w3 = laid w9 (w.heap.size + 1 + 1) D.q n (.slice ro9 k9 rc9) := ⟨_, rfl⟩
  have H3 : Hid (CB (w.heap.size + 1 + 1) D.q n (.slice ro9 k9 rc9) w3 ∧ LLs w.heap.size (.slice ro9 k9 rc9) (rl k9 n1 R9) w3 ∧ Below w.heap.size w w3) := by
    rw [hw3]; exact ⟨laid_cb H9.out.2.2.2.1 _ _ _, (H9.out.1.laid H9.out.2.2.2.2.1 _ _ _).mono H9.out.2.2.2.2.2.2, laid_below H9.out.2.2.2.2.2.1 (by omega) _ _ _⟩
  unfold laid at hw3
  rw [← hw3]
  clear hw3 c0 c1 c2 f0 f1 f2
  obtain ⟨c0, c1, c2⟩ := H3.out.1
  refine bodyPost_ret (v := .agg #[.int .i64 D.q, .int .i64 (n : Nat), .slice ro9 k9 rc9]) (by simp [results, Try.results36, go_sem, c0, c1, c2]) rfl ?_
  exact ⟨_, R9, _, _, rfl, H3.out.2.1, ⟨kx, Rx, ky, Ry, H1.out.2.1, H2.out.2.2.1, H9.out.2.1⟩, H3.out.2.2⟩
end Go.Proofs.Ytbpeahhhkcljeaa

/- CodePairs: codes held against one another; the ways on which there is nothing. -/
namespace Go.Proofs.Ytbpeahhhkcljeaa
open Go.RowKit Go.Sort

set_option maxHeartbeats 4000000 in
set_option maxRecDepth 100000 in
theorem rsameCode_any (q n : Int) {ao bo : Option Addr} {k n' ca cb : Nat} {R : Nat → Nat → Nat} {w : World} (ha : RL (.slice ao k ca) k n' R w) (hb : RL (.slice bo k cb) k n' R w) (hk : k ≤ 1000000) (hn : n' ≤ 1000000) :
    Calls Try.prog 41 #[.agg #[.int .i64 q, .int .i64 n, .slice ao k ca], .agg #[.int .i64 q, .int .i64 n, .slice bo k cb]] w fun e w' => e = .returned (.bool true) ∧ Below w.heap.size w w' := by
  obtain ⟨w0, hw0⟩ : ∃ w0, w0 = (w.alloc (.cells #[.int .i64 q, .int .i64 n, .slice ao k ca] 43)).alloc (.cells #[.int .i64 q, .int .i64 n, .slice bo k cb] 43) := ⟨_, rfl⟩
  have HW : Hid (Below w.heap.size w w0 ∧ RL (.slice ao k ca) k n' R w0 ∧ RL (.slice bo k cb) k n' R w0) := by
    obtain ⟨h1, _, _, _⟩ := two_boxes q n q n (.slice ao k ca) (.slice bo k cb) w
    rw [hw0]; exact ⟨h1, ha.below h1, hb.below h1⟩
  clear ha hb
  go_enter Try.func41, Try.ntmps41
  go_wp2_with fail
  rw [← hw0]
  clear hw0
  refine (sameAll_rl HW.out.2.1 HW.out.2.2 hk hn).mono ?_
  rintro e w1 ⟨rfl, d, hw1⟩
  have H1 : Hid (Below w.heap.size w w1) := by rw [hw1]; exact below_drewN2 HW.out.1 d
  clear hw1
  go_wp2
  go_ret
  exact ⟨rfl, H1.out⟩
set_option maxHeartbeats 4000000 in
set_option maxRecDepth 100000 in
theorem lsame_ok (q n : Int) {ao bo : Option Addr} {k n' ca cb : Nat} {R : Nat → Nat → Nat} {w : World} (ha : RL (.slice ao k ca) k n' R w) (hb : RL (.slice bo k cb) k n' R w) (hk : k ≤ 1000000) (hn : n' ≤ 1000000) :
    Calls Try.prog 27 #[.agg #[.int .i64 q, .int .i64 n, .slice ao k ca], .int .i64 0, .agg #[.int .i64 q, .int .i64 n, .slice bo k cb], .int .i64 0] w fun e w' => e = .returned (.bool true) ∧ Below w.heap.size w w' := by
  obtain ⟨w0, hw0⟩ : ∃ w0, w0 = (w.alloc (.cells #[.int .i64 q, .int .i64 n, .slice ao k ca] 43)).alloc (.cells #[.int .i64 q, .int .i64 n, .slice bo k cb] 43) := ⟨_, rfl⟩
  have HW : Hid (Below w.heap.size w w0 ∧ RL (.slice ao k ca) k n' R w0 ∧ RL (.slice bo k cb) k n' R w0) := by
    obtain ⟨h1, _, _, _⟩ := two_boxes q n q n (.slice ao k ca) (.slice bo k cb) w
    rw [hw0]; exact ⟨h1, ha.below h1, hb.below h1⟩
  clear ha hb
  go_enter Try.func27, Try.ntmps27
  go_wp2_with fail
  rw [← hw0]
  clear hw0
  refine (rsameCode_any q n HW.out.2.1 HW.out.2.2 hk hn).mono ?_
  rintro e w1 ⟨rfl, hb1⟩
  have H1 : Hid (Below w.heap.size w w1) := bel_up' HW.out.1 hb1
  clear hb1
  go_wp2
  go_ret
  exact ⟨rfl, H1.out⟩
set_option maxHeartbeats 4000000 in
set_option maxRecDepth 100000 in
theorem lsame_err (e : Int) (he : e ≠ 0) (q n : Int) (bo : Option Addr) (m cb : Nat) (w : World) :
    Calls Try.prog 27 #[.agg #[.int .i64 0, .int .i64 0, .slice none 0 0], .int .i64 e, .agg #[.int .i64 q, .int .i64 n, .slice bo m cb], .int .i64 e] w fun x w' => x = .returned (.bool true) ∧ Below w.heap.size w w' := by
  have hz : (e != 0) = true := by rw [bne_iff_ne]; exact he
  clear he
  obtain ⟨w0, hw0⟩ : ∃ w0, w0 = (w.alloc (.cells #[.int .i64 0, .int .i64 0, .slice none 0 0] 43)).alloc (.cells #[.int .i64 q, .int .i64 n, .slice bo m cb] 43) := ⟨_, rfl⟩
  have HW : Hid (Below w.heap.size w w0) := by
    obtain ⟨h1, _, _, _⟩ := two_boxes 0 0 q n (.slice none 0 0) (.slice bo m cb) w
    rw [hw0]; exact h1
  go_enter Try.func27, Try.ntmps27
  go_wp2_with fail
  rw [← hw0]
  clear hw0
  refine (rsameCode_any (k := 0) (n' := 0) (R := fun _ => pnil) 0 0 (RL.nil _ _ _) (RL.nil _ _ _) (by omega) (by omega)).mono ?_
  rintro x w1 ⟨rfl, hb1⟩
  have H1 : Hid (Below w.heap.size w w1) := bel_up' HW.out hb1
  clear hb1
  go_wp2
  go_ret
  exact ⟨rfl, H1.out⟩

set_option maxHeartbeats 4000000 in
set_option maxRecDepth 100000 in
theorem cp_heavy (qa na qb nb : Int) {ao bo : Option Addr} {m m' ca cb : Nat} {ba bb : Bool} {w : World}
    (hA : ∀ wx, Below w.heap.size w wx → Calls Try.prog 9 #[.slice ao m ca] wx fun r w' => r = .returned (.bool ba) ∧ w' = wx)
    (hB : ∀ wx, Below w.heap.size w wx → Calls Try.prog 9 #[.slice bo m' cb] wx fun r w' => r = .returned (.bool bb) ∧ w' = wx) (hh : ba = true ∨ bb = true) :
    Calls Try.prog 6 #[.agg #[.int .i64 qa, .int .i64 na, .slice ao m ca], .agg #[.int .i64 qb, .int .i64 nb, .slice bo m' cb]] w fun r w' => r = .returned (.bool true) ∧ Below w.heap.size w w' := by
  obtain ⟨w0, hw0⟩ : ∃ w0, w0 = (w.alloc (.cells #[.int .i64 qa, .int .i64 na, .slice ao m ca] 43)).alloc (.cells #[.int .i64 qb, .int .i64 nb, .slice bo m' cb] 43) := ⟨_, rfl⟩
  have HW : Hid (Below w.heap.size w w0 ∧ CB (w.heap.size + 1) qb nb (.slice bo m' cb) w0) := by
    obtain ⟨h1, _, h3, _⟩ := two_boxes qa na qb nb (.slice ao m ca) (.slice bo m' cb) w
    rw [hw0]; exact ⟨h1, h3⟩
  have HA : Hid (∀ wx, Below w.heap.size w wx → Calls Try.prog 9 #[.slice ao m ca] wx fun r w' => r = .returned (.bool ba) ∧ w' = wx) := hA
  have HB : Hid (∀ wx, Below w.heap.size w wx → Calls Try.prog 9 #[.slice bo m' cb] wx fun r w' => r = .returned (.bool bb) ∧ w' = wx) := hB
  clear hA hB
  go_enter Try.func6, Try.ntmps6
  go_wp2_with fail
  rw [← hw0]
  clear hw0
  refine (HA.out _ HW.out.1).mono ?_
  rintro r w' ⟨rfl, hw⟩
  have hw := hw.symm
  subst hw
  cases ba with
  | true =>
    go_wp2
    go_ret
    exact ⟨rfl, HW.out.1⟩
  | false =>
    have hbb : bb = true := by
      rcases hh with h | h
      · cases h
      · exact h
    subst hbb
    obtain ⟨b0, b1, b2⟩ := HW.out.2
    go_wp2_with fail
    refine (HB.out _ HW.out.1).mono ?_
    rintro r w' ⟨rfl, hw⟩
    have hw := hw.symm
    subst hw
    go_wp2
    go_ret
    exact ⟨rfl, HW.out.1⟩
end Go.Proofs.Ytbpeahhhkcljeaa
