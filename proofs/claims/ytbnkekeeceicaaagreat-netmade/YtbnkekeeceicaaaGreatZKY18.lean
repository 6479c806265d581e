/- Nets: a plan that carries is told to carry (the reference's Carries). -/
import Derived.Test.YtbnkekeeceicaaaGreatZKY15
import Derived.Test.YtbnkekeeceicaaaGreatZS12
namespace Go.Proofs.YtbnkekeeceicaaaGreat
open Go.RowKit Go.Sort

theorem cell_drew (w : World) (v : Value) : (w.drew.alloc (.cells #[v] 25)).cell? ⟨w.heap.size, 0, none⟩ = some v := by
  have h := cell_of_row (w.drew.alloc (.cells #[v] 25)) w.drew.heap.size 0 #[v] 25 (0, 0) (two_new (w := w.drew) _)
  exact h
set_option maxHeartbeats 8000000 in
set_option maxRecDepth 100000 in
theorem rcarries_any {D : FD} (hD : D ∈ fieldsL) {n h k m ec sc G gm cm : Nat} {eo so : Option Addr} {F T tt vo : Nat → Nat} {V : Nat → Nat → Nat} {w : World} (hE : EdZ eo m (fun i => ((F i : Nat) : Int)) (fun i => ((T i : Nat) : Int)) w) (hm : m ≤ 24) (h1 : 1 ≤ h) (h24 : h ≤ 24) (hk : k ≤ 1000) (hS : SlZ so k (fun s => ((tt s : Nat) : Int)) w) (hV : VcM G m h vo V w) (hP : PlV D m h k F T tt V) (hM : ModAt D (.slice (some ⟨gm, 0, none⟩) (D.m + 1) cm) D.md w) :
    Calls Tryz.prog 16 #[.agg #[.int .i64 D.q, .int .i64 D.p, .int .i64 D.m, .int .i64 D.gen, .slice (some ⟨gm, 0, none⟩) (D.m + 1) cm], .agg #[.int .i64 (n : Nat), .slice eo m ec], .slice so k sc, .int .i64 (h : Nat), .slice (some ⟨G, 0, none⟩) m m] w fun e w' => e = .returned (.bool true) ∧ Below w.heap.size w w' := by
  obtain ⟨wa, hwa⟩ : ∃ wa, wa = w.alloc (.cells #[.int .i64 D.q, .int .i64 D.p, .int .i64 D.m, .int .i64 D.gen, (.slice (some ⟨gm, 0, none⟩) (D.m + 1) cm)] 42) := ⟨_, rfl⟩
  have hba : Below w.heap.size w wa := by rw [hwa]; exact (Below.refl _ _).alloc (Nat.le_refl _) _
  have hsa : wa.heap.size = w.heap.size + 1 := by rw [hwa]; simp
  obtain ⟨wb, hwb⟩ : ∃ wb, wb = wa.alloc (.cells #[.int .i64 (n : Nat), .slice eo m ec] 24) := ⟨_, rfl⟩
  have hbb : Below wa.heap.size wa wb := by rw [hwb]; exact (Below.refl _ _).alloc (Nat.le_refl _) _
  obtain ⟨bF, hbF⟩ : ∃ bF, bF = w.heap.size := ⟨_, rfl⟩
  obtain ⟨bN, hbN⟩ : ∃ bN, bN = w.heap.size + 1 := ⟨_, rfl⟩
  have HB : Hid (Box bF D D.gen (.slice (some ⟨gm, 0, none⟩) (D.m + 1) cm) wb ∧ NB bN (n : Nat) (.slice eo m ec) wb ∧ Below w.heap.size w wb ∧ bF < wb.heap.size) := by
    refine ⟨?_, ?_, bel_up' hba hbb, ?_⟩
    · have h9 := box_new D D.gen (.slice (some ⟨gm, 0, none⟩) (D.m + 1) cm) w
      rw [← hwa] at h9
      rw [hbF]
      exact h9.below hbb (by omega)
    · rw [hbN, ← hsa, hwb]; exact NB.new _ _ _
    · have := hbb.size; omega
  have HE : Hid (EdZ eo m (fun i => ((F i : Nat) : Int)) (fun i => ((T i : Nat) : Int)) w) := hE
  have HS : Hid (SlZ so k (fun s => ((tt s : Nat) : Int)) w) := hS
  have HV : Hid (∀ wx, Below w.heap.size w wx → VcM G m h vo V wx ∧ ModAt D (.slice (some ⟨gm, 0, none⟩) (D.m + 1) cm) D.md wx) := fun wx hb => ⟨hV.below hb, hM.below hb⟩
  have HEl : Hid (∀ i wx, i < m → Below w.heap.size w wx → Calls Tryz.prog 37 #[.agg #[.int .i64 D.q, .int .i64 D.p, .int .i64 D.m, .int .i64 D.gen, .slice (some ⟨gm, 0, none⟩) (D.m + 1) cm], .slice (some ⟨vo i, 0, none⟩) h h] wx fun e w' => e = .returned (.bool true) ∧ Below wx.heap.size wx w') := fun i wx hi hb => by
    have h9 := relements_any (D := D) (ca := h) D.gen (.slice (some ⟨gm, 0, none⟩) (D.m + 1) cm) (by omega) (((hV.below hb).mat (by omega)).sl i hi)
    rw [show D.allHas (fun c => ((V i c : Nat) : Int)) h = true from allHas_iff.2 (fun c _ => by
      have := (hP.el i hi).1 c
      unfold FD.has
      rw [decide_eq_true_iff]; omega)] at h9
    exact h9
  have HIn : Hid (∀ x wx, Below w.heap.size w wx → Calls Tryz.prog 38 #[.agg #[.int .i64 D.q, .int .i64 D.p, .int .i64 D.m, .int .i64 D.gen, .slice (some ⟨gm, 0, none⟩) (D.m + 1) cm], .agg #[.int .i64 (n : Nat), .slice eo m ec], .slice (some ⟨G, 0, none⟩) m m, .int .i64 x] wx fun e w' => ∃ v, e = .returned v ∧ OwnV wx.heap.size v (rowsN (fun s => some ⟨vo s, 0, none⟩) (fun _ => h) (fun _ => h) (tlN (fun i => ((T i : Nat) : Int)) x m)) w' ∧ Below wx.heap.size wx w') := fun x wx hb => rinto_any (n : Nat) x (hE.below hb) ((hV.below hb).mat (by omega)) (by omega)
  have HC2 : Hid (∀ e, e < m → F e ≠ 0 → ∃ r, RdC D h m r vo V (tlN (fun i => ((T i : Nat) : Int)) ((F e : Nat) : Int) m) ∧ RdC D h m r vo V (tlN (fun i => ((T i : Nat) : Int)) ((F e : Nat) : Int) m ++ [e])) := fun e he hF => car_two hD hP hm h1 h24 vo he hF
  have HS1 : Hid (∀ s, s < k → RdC D h m h vo V (tlN (fun i => ((T i : Nat) : Int)) ((tt s : Nat) : Int) m)) := fun s hs => snk_one hD hP hm h1 h24 vo hs
  clear hE hS hV hM hP hba hbb hD hsa
  go_enter Tryz.func16, Tryz.ntmps16
  have c01 := HB.out.2.1.c0
  have c11 := HB.out.2.1.c1
  rw [hwb, hwa, hbN] at c01 c11
  go_wp2
  clear c01 c11
  rw [← hbN, ← hbF]
  rw [← hwa, ← hwb]
  clear hwa hwb hbF hbN
  go_loopw [11] (fun vi wr => ∃ i : Nat, i ≤ m ∧ vi = .int .i64 (i : Nat) ∧ Hid (Box bF D D.gen (.slice (some ⟨gm, 0, none⟩) (D.m + 1) cm) wr ∧ NB bN (n : Nat) (.slice eo m ec) wr ∧ Below w.heap.size w wr ∧ bF < wr.heap.size)) (fun vi _ => m - (RowKit.intOf vi).toNat)
  case atStart => exact ⟨0, by omega, rfl, HB.out⟩
  case round =>
    obtain ⟨i, hi, rfl, HG⟩ := hrel
    rename World => wr
    by_cases hlt : i < m
    · have hib : (i : Int) < (m : Int) := by omega
      have hib0 : (0 : Int) ≤ (i : Int) := by omega
      have hz : (((h : Nat) : Int) != ((h : Nat) : Int)) = false := by simp
      have hcv := (HV.out wr HG.out.2.2.1).1.row.cell i hlt
      have hcv : wr.cell? ⟨G, i, none⟩ = some (.slice (some ⟨vo i, 0, none⟩) h h) := hcv
      have HK5 : Hid (∀ wy, Below wr.heap.size wr wy → (fun wx : World => Box bF D D.gen (.slice (some ⟨gm, 0, none⟩) (D.m + 1) cm) wx ∧ NB bN (n : Nat) (.slice eo m ec) wx ∧ wx.cell? ⟨G, i, none⟩ = some (.slice (some ⟨vo i, 0, none⟩) h h)) wy) := fun wy hy => ⟨HG.out.1.below hy HG.out.2.2.2, HG.out.2.1.keep hy, ((bcell hy).1 _ _ (cell_lt hcv)).trans hcv⟩
      clear hcv
      go_wp2
      have hS0 := HK5.out _ (Below.refl wr.heap.size wr).drew
      refine wp_region_noPanic ?_
      refine wp_region_L (S := (fun wx : World => Box bF D D.gen (.slice (some ⟨gm, 0, none⟩) (D.m + 1) cm) wx ∧ NB bN (n : Nat) (.slice eo m ec) wx ∧ wx.cell? ⟨G, i, none⟩ = some (.slice (some ⟨vo i, 0, none⟩) h h))) [] (by kernel_rfl) ?_
      refine wpAnyL_take (i := 0) (v := ?_) (by rw [List.getElem?_toArray]; rfl) (by decide +kernel) (by decide +kernel) (by decide +kernel) (by decide +kernel) (by decide +kernel) (fun _ _ _ h => h) hS0 (Or.inl ⟨by rfl, ?_⟩) ?_
      rotate_left
      · intro wz hSz; obtain ⟨⟨z0, z1, z2, z3, z4⟩, ⟨z5, z6⟩, z7⟩ := hSz; go_simp; first | done | with_reducible rfl | (simp only [hib0, hib, and_self, if_true, Int.toNat_natCast]; first | done | with_reducible rfl) | (simp [hib0, hib]; first | done | with_reducible rfl)
      try simp only [Act.put, List.setIfInBounds_toArray, List.set_cons_zero, List.set_cons_succ]
      refine wpAnyL_take (i := 1) (v := ?_) (by rw [List.getElem?_toArray]; rfl) (by decide +kernel) (by decide +kernel) (by decide +kernel) (by decide +kernel) (by decide +kernel) (fun _ _ _ h => h) hS0 (Or.inl ⟨by rfl, ?_⟩) ?_
      rotate_left
      · intro wz hSz; obtain ⟨⟨z0, z1, z2, z3, z4⟩, ⟨z5, z6⟩, z7⟩ := hSz; go_simp; first | done | with_reducible rfl | (simp only [hib0, hib, and_self, if_true, Int.toNat_natCast]; first | done | with_reducible rfl) | (simp [hib0, hib]; first | done | with_reducible rfl)
      try simp only [Act.put, List.setIfInBounds_toArray, List.set_cons_zero, List.set_cons_succ]
      refine wpAnyL_take (i := 2) (v := ?_) (by rw [List.getElem?_toArray]; rfl) (by decide +kernel) (by decide +kernel) (by decide +kernel) (by decide +kernel) (by decide +kernel) (fun _ _ _ h => h) hS0 (Or.inl ⟨by rfl, ?_⟩) ?_
      rotate_left
      · intro wz hSz; obtain ⟨⟨z0, z1, z2, z3, z4⟩, ⟨z5, z6⟩, z7⟩ := hSz; go_simp; first | done | with_reducible rfl | (simp only [hib0, hib, and_self, if_true, Int.toNat_natCast]; first | done | with_reducible rfl) | (simp [hib0, hib]; first | done | with_reducible rfl)
      try simp only [Act.put, List.setIfInBounds_toArray, List.set_cons_zero, List.set_cons_succ]
      refine wpAnyL_take (i := 3) (v := ?_) (by rw [List.getElem?_toArray]; rfl) (by decide +kernel) (by decide +kernel) (by decide +kernel) (by decide +kernel) (by decide +kernel) (fun _ _ _ h => h) hS0 (Or.inl ⟨by rfl, ?_⟩) ?_
      rotate_left
      · intro wz hSz; obtain ⟨⟨z0, z1, z2, z3, z4⟩, ⟨z5, z6⟩, z7⟩ := hSz; go_simp; first | done | with_reducible rfl | (simp only [hib0, hib, and_self, if_true, Int.toNat_natCast]; first | done | with_reducible rfl) | (simp [hib0, hib]; first | done | with_reducible rfl)
      try simp only [Act.put, List.setIfInBounds_toArray, List.set_cons_zero, List.set_cons_succ]
      refine wpAnyL_take (i := 4) (v := ?_) (by rw [List.getElem?_toArray]; rfl) (by decide +kernel) (by decide +kernel) (by decide +kernel) (by decide +kernel) (by decide +kernel) (fun _ _ _ h => h) hS0 (Or.inl ⟨by rfl, ?_⟩) ?_
      rotate_left
      · intro wz hSz; obtain ⟨⟨z0, z1, z2, z3, z4⟩, ⟨z5, z6⟩, z7⟩ := hSz; go_simp; first | done | with_reducible rfl | (simp only [hib0, hib, and_self, if_true, Int.toNat_natCast]; first | done | with_reducible rfl) | (simp [hib0, hib]; first | done | with_reducible rfl)
      try simp only [Act.put, List.setIfInBounds_toArray, List.set_cons_zero, List.set_cons_succ]
      refine wpAnyL_take (i := 5) (v := ?_) (by rw [List.getElem?_toArray]; rfl) (by decide +kernel) (by decide +kernel) (by decide +kernel) (by decide +kernel) (by decide +kernel) (fun _ _ _ h => h) hS0 (Or.inl ⟨by rfl, ?_⟩) ?_
      rotate_left
      · intro wz hSz; obtain ⟨⟨z0, z1, z2, z3, z4⟩, ⟨z5, z6⟩, z7⟩ := hSz; go_simp; first | done | with_reducible rfl | (simp only [hib0, hib, and_self, if_true, Int.toNat_natCast]; first | done | with_reducible rfl) | (simp [hib0, hib]; first | done | with_reducible rfl)
      try simp only [Act.put, List.setIfInBounds_toArray, List.set_cons_zero, List.set_cons_succ]
      refine wpAnyL_take (i := 6) (v := ?_) (by rw [List.getElem?_toArray]; rfl) (by decide +kernel) (by decide +kernel) (by decide +kernel) (by decide +kernel) (by decide +kernel) (fun _ _ _ h => h) hS0 (Or.inl ⟨by rfl, ?_⟩) ?_
      rotate_left
      · intro wz hSz; obtain ⟨⟨z0, z1, z2, z3, z4⟩, ⟨z5, z6⟩, z7⟩ := hSz; go_simp; first | done | with_reducible rfl | (simp only [hib0, hib, and_self, if_true, Int.toNat_natCast]; first | done | with_reducible rfl) | (simp [hib0, hib]; first | done | with_reducible rfl)
      try simp only [Act.put, List.setIfInBounds_toArray, List.set_cons_zero, List.set_cons_succ]
      refine wpAnyL_take (i := 7) (v := ?_) (by rw [List.getElem?_toArray]; rfl) (by decide +kernel) (by decide +kernel) (by decide +kernel) (by decide +kernel) (by decide +kernel) (fun _ _ _ h => h) hS0 (Or.inl ⟨by rfl, ?_⟩) ?_
      rotate_left
      · intro wz hSz; obtain ⟨⟨z0, z1, z2, z3, z4⟩, ⟨z5, z6⟩, z7⟩ := hSz; go_simp; first | done | with_reducible rfl | (simp only [hib0, hib, and_self, if_true, Int.toNat_natCast]; first | done | with_reducible rfl) | (simp [hib0, hib]; first | done | with_reducible rfl)
      try simp only [Act.put, List.setIfInBounds_toArray, List.set_cons_zero, List.set_cons_succ]
      refine wpAnyL_take (i := 8) (v := ?_) (by rw [List.getElem?_toArray]; rfl) (by decide +kernel) (by decide +kernel) (by decide +kernel) (by decide +kernel) (by decide +kernel) (fun _ _ _ h => h) hS0 (Or.inl ⟨by rfl, ?_⟩) ?_
      rotate_left
      · intro wz hSz; obtain ⟨⟨z0, z1, z2, z3, z4⟩, ⟨z5, z6⟩, z7⟩ := hSz; go_simp; first | done | with_reducible rfl | (simp only [hib0, hib, and_self, if_true, Int.toNat_natCast]; first | done | with_reducible rfl) | (simp [hib0, hib]; first | done | with_reducible rfl)
      try simp only [Act.put, List.setIfInBounds_toArray, List.set_cons_zero, List.set_cons_succ]
      refine wpAnyL_take (i := 9) (v := ?_) (by rw [List.getElem?_toArray]; rfl) (by decide +kernel) (by decide +kernel) (by decide +kernel) (by decide +kernel) (by decide +kernel) (fun _ _ _ h => h) hS0 (Or.inl ⟨by rfl, ?_⟩) ?_
      rotate_left
      · intro wz hSz; obtain ⟨⟨z0, z1, z2, z3, z4⟩, ⟨z5, z6⟩, z7⟩ := hSz; go_simp; first | done | with_reducible rfl | (simp only [hib0, hib, and_self, if_true, Int.toNat_natCast]; first | done | with_reducible rfl) | (simp [hib0, hib]; first | done | with_reducible rfl)
      try simp only [Act.put, List.setIfInBounds_toArray, List.set_cons_zero, List.set_cons_succ]
      refine wpAnyL_take (i := 10) (v := ?_) (by rw [List.getElem?_toArray]; rfl) (by decide +kernel) (by decide +kernel) (by decide +kernel) (by decide +kernel) (by decide +kernel) (fun _ _ _ h => h) hS0 (Or.inl ⟨by rfl, ?_⟩) ?_
      rotate_left
      · intro wz hSz; obtain ⟨⟨z0, z1, z2, z3, z4⟩, ⟨z5, z6⟩, z7⟩ := hSz; go_simp; first | done | with_reducible rfl | (simp only [hib0, hib, and_self, if_true, Int.toNat_natCast]; first | done | with_reducible rfl) | (simp [hib0, hib]; first | done | with_reducible rfl)
      try simp only [Act.put, List.setIfInBounds_toArray, List.set_cons_zero, List.set_cons_succ]
      refine wpAnyL_take (i := 11) (v := ?_) (by rw [List.getElem?_toArray]; rfl) (by decide +kernel) (by decide +kernel) (by decide +kernel) (by decide +kernel) (by decide +kernel) (fun _ _ _ h => h) hS0 (Or.inl ⟨by rfl, ?_⟩) ?_
      rotate_left
      · intro wz hSz; obtain ⟨⟨z0, z1, z2, z3, z4⟩, ⟨z5, z6⟩, z7⟩ := hSz; go_simp; first | done | with_reducible rfl | (simp only [hib0, hib, and_self, if_true, Int.toNat_natCast]; first | done | with_reducible rfl) | (simp [hib0, hib]; first | done | with_reducible rfl)
      try simp only [Act.put, List.setIfInBounds_toArray, List.set_cons_zero, List.set_cons_succ]
      refine wpAnyL_take (i := 12) (v := ?_) (by rw [List.getElem?_toArray]; rfl) (by decide +kernel) (by decide +kernel) (by decide +kernel) (by decide +kernel) (by decide +kernel) (fun _ _ _ h => h) hS0 (Or.inl ⟨by rfl, ?_⟩) ?_
      rotate_left
      · intro wz hSz; obtain ⟨⟨z0, z1, z2, z3, z4⟩, ⟨z5, z6⟩, z7⟩ := hSz; go_simp; first | done | with_reducible rfl | (simp only [hib0, hib, and_self, if_true, Int.toNat_natCast]; first | done | with_reducible rfl) | (simp [hib0, hib]; first | done | with_reducible rfl)
      try simp only [Act.put, List.setIfInBounds_toArray, List.set_cons_zero, List.set_cons_succ]
      refine wpAnyL_one (i := 13) (by kernel_rfl) (by rw [List.getElem?_toArray]; rfl) (fun KK hK => ?_)
      have HK : Hid _ := hK
      clear hK
      go_simp
      refine (HEl.out i _ hlt (HG.out.2.2.1.drew)).mono ?_
      rintro e w3 ⟨rfl, hb3⟩
      have H3 : Hid (Below wr.heap.size wr w3) := bel_up' (Below.refl wr.heap.size wr).drew hb3
      have hS3 := HK5.out w3 H3.out
      clear hb3
      refine HK.out _ _ (fun _ => hS3) ?_
      clear HK KK
      try simp only [Act.put, List.setIfInBounds_toArray, List.set_cons_zero, List.set_cons_succ]
      refine wpAnyL_take (i := 14) (v := ?_) (by rw [List.getElem?_toArray]; rfl) (by decide +kernel) (by decide +kernel) (by decide +kernel) (by decide +kernel) (by decide +kernel) (fun _ _ _ h => h) hS3 (Or.inl ⟨by rfl, ?_⟩) ?_
      rotate_left
      · intro wz hSz; obtain ⟨⟨z0, z1, z2, z3, z4⟩, ⟨z5, z6⟩, z7⟩ := hSz; go_simp; first | done | with_reducible rfl
      try simp only [Act.put, List.setIfInBounds_toArray, List.set_cons_zero, List.set_cons_succ]
      refine wpAnyL_take (i := 15) (v := ?_) (by rw [List.getElem?_toArray]; rfl) (by decide +kernel) (by decide +kernel) (by decide +kernel) (by decide +kernel) (by decide +kernel) (fun _ _ _ h => h) hS3 (Or.inl ⟨by rfl, ?_⟩) ?_
      rotate_left
      · intro wz hSz; obtain ⟨⟨z0, z1, z2, z3, z4⟩, ⟨z5, z6⟩, z7⟩ := hSz; go_simp; first | done | with_reducible rfl
      try simp only [Act.put, List.setIfInBounds_toArray, List.set_cons_zero, List.set_cons_succ]
      refine wpAnyL_done (by kernel_rfl) (NoPanic.normal ?_)
      clear hS0 hS3
      have HR : Hid (Box bF D D.gen (.slice (some ⟨gm, 0, none⟩) (D.m + 1) cm) w3 ∧ NB bN (n : Nat) (.slice eo m ec) w3 ∧ Below w.heap.size w w3 ∧ bF < w3.heap.size) := ⟨HG.out.1.below H3.out HG.out.2.2.2, HG.out.2.1.keep H3.out, bel_up' HG.out.2.2.1 H3.out, by have := H3.out.size; have := HG.out.2.2.2; omega⟩
      clear HK5 H3
      go_wp2
      go_roundw
      case rel => exact ⟨i + 1, by omega, by go_num, HR.out⟩
      case measure => simp [RowKit.intOf]; omega
    · have e1 : i = m := by omega
      clear hlt hi
      subst e1
      go_wp2
      go_loopw [12] (fun vi wr => ∃ j : Nat, j ≤ i ∧ vi = .int .i64 (j : Nat) ∧ Hid (Box bF D D.gen (.slice (some ⟨gm, 0, none⟩) (D.m + 1) cm) wr ∧ NB bN (n : Nat) (.slice eo i ec) wr ∧ Below w.heap.size w wr ∧ bF < wr.heap.size)) (fun vi _ => i - (RowKit.intOf vi).toNat)
      case atStart => exact ⟨0, by omega, rfl, HG.out⟩
      case round =>
        clear HG
        obtain ⟨j, hj, rfl, HG⟩ := hrel
        rename World => wx
        by_cases hlt : j < i
        · have hib : (j : Int) < (i : Int) := by omega
          have hib0 : (0 : Int) ≤ (j : Int) := by omega
          obtain ⟨b, off, rfl, e0x, e1⟩ := (HE.out.below HG.out.2.2.1) j hlt
          clear e1
          obtain ⟨y, hy⟩ : ∃ y : Int, y = ((F j : Nat) : Int) := ⟨_, rfl⟩
          have e0 : wx.cell? ⟨b, off + j * 2, none⟩ = some (.int .i64 y) := by rw [hy]; exact e0x
          clear e0x
          obtain ⟨c0, c1⟩ := HG.out.2.1
          by_cases hy0 : y = 0
          · have hz : (y == 0) = true := by rw [hy0]; rfl
            clear hy hy0
            go_wp2
            go_roundw
            case rel => exact ⟨j + 1, by omega, by go_num, HG.out⟩
            case measure => simp [RowKit.intOf]; omega
          · have hz : (y == 0) = false := beq_eq_false_iff_ne.2 hy0
            obtain ⟨r, q1, q2⟩ := HC2.out j hlt (by omega)
            rw [← hy] at q1 q2
            obtain ⟨l, hl⟩ : ∃ l, l = tlN (fun i => ((T i : Nat) : Int)) y i := ⟨_, rfl⟩
            rw [← hl] at q1 q2
            have HQ : Hid (RdC D h i r vo V l ∧ RdC D h i r vo V (l ++ [j]) ∧ l = tlN (fun i => ((T i : Nat) : Int)) y i ∧ l.length ≤ i) := ⟨q1, q2, hl, by rw [hl]; exact tlN_len _ _ i⟩
            have hcv := (HV.out wx HG.out.2.2.1).1.row.cell j hlt
            have hcv : wx.cell? ⟨G, j, none⟩ = some (.slice (some ⟨vo j, 0, none⟩) h h) := hcv
            clear hy hy0 q1 q2 hl
            have HK5 : Hid (∀ wy, Below wx.heap.size wx wy → (fun wx : World => Box bF D D.gen (.slice (some ⟨gm, 0, none⟩) (D.m + 1) cm) wx ∧ NB bN (n : Nat) (.slice (some ⟨b, off, none⟩) i ec) wx ∧ wx.cell? ⟨b, off + j * 2, none⟩ = some (.int .i64 y)) wy) := fun wy hy => ⟨HG.out.1.below hy HG.out.2.2.2, HG.out.2.1.keep hy, ((bcell hy).1 _ _ (cell_lt e0)).trans e0⟩
            have HK6 : Hid (∀ wy, Below wx.heap.size wx wy → (fun wx : World => Box bF D D.gen (.slice (some ⟨gm, 0, none⟩) (D.m + 1) cm) wx ∧ NB bN (n : Nat) (.slice (some ⟨b, off, none⟩) i ec) wx ∧ wx.cell? ⟨G, j, none⟩ = some (.slice (some ⟨vo j, 0, none⟩) h h)) wy) := fun wy hy => ⟨HG.out.1.below hy HG.out.2.2.2, HG.out.2.1.keep hy, ((bcell hy).1 _ _ (cell_lt hcv)).trans hcv⟩
            clear hcv
            go_wp2
            clear e0 c0 c1
            have hS0 := HK5.out _ (Below.refl wx.heap.size wx).drew
            refine wp_region_noPanic ?_
            refine wp_region_L (S := (fun wx : World => Box bF D D.gen (.slice (some ⟨gm, 0, none⟩) (D.m + 1) cm) wx ∧ NB bN (n : Nat) (.slice (some ⟨b, off, none⟩) i ec) wx ∧ wx.cell? ⟨b, off + j * 2, none⟩ = some (.int .i64 y))) [] (by kernel_rfl) ?_
            refine wpAnyL_take (i := 0) (v := ?_) (by rw [List.getElem?_toArray]; rfl) (by decide +kernel) (by decide +kernel) (by decide +kernel) (by decide +kernel) (by decide +kernel) (fun _ _ _ h => h) hS0 (Or.inl ⟨by rfl, ?_⟩) ?_
            rotate_left
            · intro wz hSz; obtain ⟨⟨z0, z1, z2, z3, z4⟩, ⟨z5, z6⟩, z7⟩ := hSz; go_simp; first | done | with_reducible rfl | (simp only [hib0, hib, and_self, if_true, Int.toNat_natCast]; first | done | with_reducible rfl) | (simp [hib0, hib]; first | done | with_reducible rfl)
            try simp only [Act.put, List.setIfInBounds_toArray, List.set_cons_zero, List.set_cons_succ]
            refine wpAnyL_take (i := 1) (v := ?_) (by rw [List.getElem?_toArray]; rfl) (by decide +kernel) (by decide +kernel) (by decide +kernel) (by decide +kernel) (by decide +kernel) (fun _ _ _ h => h) hS0 (Or.inl ⟨by rfl, ?_⟩) ?_
            rotate_left
            · intro wz hSz; obtain ⟨⟨z0, z1, z2, z3, z4⟩, ⟨z5, z6⟩, z7⟩ := hSz; go_simp; first | done | with_reducible rfl | (simp only [hib0, hib, and_self, if_true, Int.toNat_natCast]; first | done | with_reducible rfl) | (simp [hib0, hib]; first | done | with_reducible rfl)
            try simp only [Act.put, List.setIfInBounds_toArray, List.set_cons_zero, List.set_cons_succ]
            refine wpAnyL_take (i := 2) (v := ?_) (by rw [List.getElem?_toArray]; rfl) (by decide +kernel) (by decide +kernel) (by decide +kernel) (by decide +kernel) (by decide +kernel) (fun _ _ _ h => h) hS0 (Or.inl ⟨by rfl, ?_⟩) ?_
            rotate_left
            · intro wz hSz; obtain ⟨⟨z0, z1, z2, z3, z4⟩, ⟨z5, z6⟩, z7⟩ := hSz; go_simp; first | done | with_reducible rfl | (simp only [hib0, hib, and_self, if_true, Int.toNat_natCast]; first | done | with_reducible rfl) | (simp [hib0, hib]; first | done | with_reducible rfl)
            try simp only [Act.put, List.setIfInBounds_toArray, List.set_cons_zero, List.set_cons_succ]
            refine wpAnyL_take (i := 3) (v := ?_) (by rw [List.getElem?_toArray]; rfl) (by decide +kernel) (by decide +kernel) (by decide +kernel) (by decide +kernel) (by decide +kernel) (fun _ _ _ h => h) hS0 (Or.inl ⟨by rfl, ?_⟩) ?_
            rotate_left
            · intro wz hSz; obtain ⟨⟨z0, z1, z2, z3, z4⟩, ⟨z5, z6⟩, z7⟩ := hSz; go_simp; first | done | with_reducible rfl | (simp only [hib0, hib, and_self, if_true, Int.toNat_natCast]; first | done | with_reducible rfl) | (simp [hib0, hib]; first | done | with_reducible rfl)
            try simp only [Act.put, List.setIfInBounds_toArray, List.set_cons_zero, List.set_cons_succ]
            refine wpAnyL_take (i := 4) (v := ?_) (by rw [List.getElem?_toArray]; rfl) (by decide +kernel) (by decide +kernel) (by decide +kernel) (by decide +kernel) (by decide +kernel) (fun _ _ _ h => h) hS0 (Or.inl ⟨by rfl, ?_⟩) ?_
            rotate_left
            · intro wz hSz; obtain ⟨⟨z0, z1, z2, z3, z4⟩, ⟨z5, z6⟩, z7⟩ := hSz; go_simp; first | done | with_reducible rfl | (simp only [hib0, hib, and_self, if_true, Int.toNat_natCast]; first | done | with_reducible rfl) | (simp [hib0, hib]; first | done | with_reducible rfl)
            try simp only [Act.put, List.setIfInBounds_toArray, List.set_cons_zero, List.set_cons_succ]
            refine wpAnyL_take (i := 5) (v := ?_) (by rw [List.getElem?_toArray]; rfl) (by decide +kernel) (by decide +kernel) (by decide +kernel) (by decide +kernel) (by decide +kernel) (fun _ _ _ h => h) hS0 (Or.inl ⟨by rfl, ?_⟩) ?_
            rotate_left
            · intro wz hSz; obtain ⟨⟨z0, z1, z2, z3, z4⟩, ⟨z5, z6⟩, z7⟩ := hSz; go_simp; first | done | with_reducible rfl | (simp only [hib0, hib, and_self, if_true, Int.toNat_natCast]; first | done | with_reducible rfl) | (simp [hib0, hib]; first | done | with_reducible rfl)
            try simp only [Act.put, List.setIfInBounds_toArray, List.set_cons_zero, List.set_cons_succ]
            refine wpAnyL_take (i := 6) (v := ?_) (by rw [List.getElem?_toArray]; rfl) (by decide +kernel) (by decide +kernel) (by decide +kernel) (by decide +kernel) (by decide +kernel) (fun _ _ _ h => h) hS0 (Or.inl ⟨by rfl, ?_⟩) ?_
            rotate_left
            · intro wz hSz; obtain ⟨⟨z0, z1, z2, z3, z4⟩, ⟨z5, z6⟩, z7⟩ := hSz; go_simp; first | done | with_reducible rfl | (simp only [hib0, hib, and_self, if_true, Int.toNat_natCast]; first | done | with_reducible rfl) | (simp [hib0, hib]; first | done | with_reducible rfl)
            try simp only [Act.put, List.setIfInBounds_toArray, List.set_cons_zero, List.set_cons_succ]
            refine wpAnyL_take (i := 7) (v := ?_) (by rw [List.getElem?_toArray]; rfl) (by decide +kernel) (by decide +kernel) (by decide +kernel) (by decide +kernel) (by decide +kernel) (fun _ _ _ h => h) hS0 (Or.inl ⟨by rfl, ?_⟩) ?_
            rotate_left
            · intro wz hSz; obtain ⟨⟨z0, z1, z2, z3, z4⟩, ⟨z5, z6⟩, z7⟩ := hSz; go_simp; first | done | with_reducible rfl | (simp only [hib0, hib, and_self, if_true, Int.toNat_natCast]; first | done | with_reducible rfl) | (simp [hib0, hib]; first | done | with_reducible rfl)
            try simp only [Act.put, List.setIfInBounds_toArray, List.set_cons_zero, List.set_cons_succ]
            refine wpAnyL_take (i := 8) (v := ?_) (by rw [List.getElem?_toArray]; rfl) (by decide +kernel) (by decide +kernel) (by decide +kernel) (by decide +kernel) (by decide +kernel) (fun _ _ _ h => h) hS0 (Or.inl ⟨by rfl, ?_⟩) ?_
            rotate_left
            · intro wz hSz; obtain ⟨⟨z0, z1, z2, z3, z4⟩, ⟨z5, z6⟩, z7⟩ := hSz; go_simp; first | done | with_reducible rfl | (simp only [hib0, hib, and_self, if_true, Int.toNat_natCast]; first | done | with_reducible rfl) | (simp [hib0, hib]; first | done | with_reducible rfl)
            try simp only [Act.put, List.setIfInBounds_toArray, List.set_cons_zero, List.set_cons_succ]
            refine wpAnyL_one (i := 9) (by kernel_rfl) (by rw [List.getElem?_toArray]; rfl) (fun KK hK => ?_)
            have HK : Hid _ := hK
            clear hK
            go_simp
            refine (HIn.out y _ (HG.out.2.2.1.drew)).mono ?_
            rintro e w3 ⟨v3, rfl, hown3, hb3⟩
            have H3 : Hid (OwnV wx.heap.size v3 (rowsN (fun s => some ⟨vo s, 0, none⟩) (fun _ => h) (fun _ => h) l) w3 ∧ Below wx.heap.size wx w3) := ⟨by rw [HQ.out.2.2.1]; exact hown3, bel_up' (Below.refl wx.heap.size wx).drew hb3⟩
            have hS3 := HK5.out w3 H3.out.2
            clear hown3 hb3
            refine HK.out _ _ (fun _ => hS3) ?_
            clear HK KK
            try simp only [Act.put, List.setIfInBounds_toArray, List.set_cons_zero, List.set_cons_succ]
            refine wpAnyL_take (i := 10) (v := ?_) (by rw [List.getElem?_toArray]; rfl) (by decide +kernel) (by decide +kernel) (by decide +kernel) (by decide +kernel) (by decide +kernel) (fun _ _ _ h => h) hS3 (Or.inl ⟨by rfl, ?_⟩) ?_
            rotate_left
            · intro wz hSz; obtain ⟨⟨z0, z1, z2, z3, z4⟩, ⟨z5, z6⟩, z7⟩ := hSz; go_simp; first | done | with_reducible rfl
            try simp only [Act.put, List.setIfInBounds_toArray, List.set_cons_zero, List.set_cons_succ]
            refine wpAnyL_done (by kernel_rfl) (NoPanic.normal ?_)
            clear hS0 hS3
            have H3v := HV.out w3 (bel_up' HG.out.2.2.1 H3.out.2)
            have HRd : Hid (Calls Tryz.prog 39 #[.agg #[.int .i64 D.q, .int .i64 D.p, .int .i64 D.m, .int .i64 D.gen, .slice (some ⟨gm, 0, none⟩) (D.m + 1) cm], v3] w3 (RdK r w3)) := HQ.out.1 D.gen gm cm _ v3 w3 H3.out.1 H3v.1.vec H3v.2
            obtain ⟨b0, b1, b2, b3, b4⟩ := HG.out.1.below H3.out.2 HG.out.2.2.2
            clear H3v
            go_wp2_with fail
            refine HRd.out.mono ?_
            rintro e w4 ⟨ro, rc, vp, rfl, hb4⟩
            have H4 : Hid (OwnV wx.heap.size v3 (rowsN (fun s => some ⟨vo s, 0, none⟩) (fun _ => h) (fun _ => h) l) w4 ∧ Below wx.heap.size wx w4) := ⟨H3.out.1.below hb4 (Nat.le_refl _), bel_up' H3.out.2 hb4⟩
            clear hb4 b0 b1 b2 b3 b4 HRd H3
            go_wp2
            have hS0 := HK6.out _ (H4.out.2.drew)
            refine wp_region_noPanic ?_
            refine wp_region_L (S := (fun wx : World => Box bF D D.gen (.slice (some ⟨gm, 0, none⟩) (D.m + 1) cm) wx ∧ NB bN (n : Nat) (.slice (some ⟨b, off, none⟩) i ec) wx ∧ wx.cell? ⟨G, j, none⟩ = some (.slice (some ⟨vo j, 0, none⟩) h h))) [] (by kernel_rfl) ?_
            refine wpAnyL_take (i := 0) (v := ?_) (by rw [List.getElem?_toArray]; rfl) (by decide +kernel) (by decide +kernel) (by decide +kernel) (by decide +kernel) (by decide +kernel) (fun _ _ _ h => h) hS0 (Or.inl ⟨by rfl, ?_⟩) ?_
            rotate_left
            · intro wz hSz; obtain ⟨⟨z0, z1, z2, z3, z4⟩, ⟨z5, z6⟩, z7⟩ := hSz; go_simp; first | done | with_reducible rfl | (simp only [hib0, hib, and_self, if_true, Int.toNat_natCast]; first | done | with_reducible rfl) | (simp [hib0, hib]; first | done | with_reducible rfl)
            try simp only [Act.put, List.setIfInBounds_toArray, List.set_cons_zero, List.set_cons_succ]
            refine wpAnyL_take (i := 1) (v := ?_) (by rw [List.getElem?_toArray]; rfl) (by decide +kernel) (by decide +kernel) (by decide +kernel) (by decide +kernel) (by decide +kernel) (fun _ _ _ h => h) hS0 (Or.inl ⟨by rfl, ?_⟩) ?_
            rotate_left
            · intro wz hSz; obtain ⟨⟨z0, z1, z2, z3, z4⟩, ⟨z5, z6⟩, z7⟩ := hSz; go_simp; first | done | with_reducible rfl | (simp only [hib0, hib, and_self, if_true, Int.toNat_natCast]; first | done | with_reducible rfl) | (simp [hib0, hib]; first | done | with_reducible rfl)
            try simp only [Act.put, List.setIfInBounds_toArray, List.set_cons_zero, List.set_cons_succ]
            refine wpAnyL_take (i := 2) (v := ?_) (by rw [List.getElem?_toArray]; rfl) (by decide +kernel) (by decide +kernel) (by decide +kernel) (by decide +kernel) (by decide +kernel) (fun _ _ _ h => h) hS0 (Or.inl ⟨by rfl, ?_⟩) ?_
            rotate_left
            · intro wz hSz; obtain ⟨⟨z0, z1, z2, z3, z4⟩, ⟨z5, z6⟩, z7⟩ := hSz; go_simp; first | done | with_reducible rfl | (simp only [hib0, hib, and_self, if_true, Int.toNat_natCast]; first | done | with_reducible rfl) | (simp [hib0, hib]; first | done | with_reducible rfl)
            try simp only [Act.put, List.setIfInBounds_toArray, List.set_cons_zero, List.set_cons_succ]
            refine wpAnyL_take (i := 3) (v := ?_) (by rw [List.getElem?_toArray]; rfl) (by decide +kernel) (by decide +kernel) (by decide +kernel) (by decide +kernel) (by decide +kernel) (fun _ _ _ h => h) hS0 (Or.inl ⟨by rfl, ?_⟩) ?_
            rotate_left
            · intro wz hSz; obtain ⟨⟨z0, z1, z2, z3, z4⟩, ⟨z5, z6⟩, z7⟩ := hSz; go_simp; first | done | with_reducible rfl | (simp only [hib0, hib, and_self, if_true, Int.toNat_natCast]; first | done | with_reducible rfl) | (simp [hib0, hib]; first | done | with_reducible rfl)
            try simp only [Act.put, List.setIfInBounds_toArray, List.set_cons_zero, List.set_cons_succ]
            refine wpAnyL_take (i := 4) (v := ?_) (by rw [List.getElem?_toArray]; rfl) (by decide +kernel) (by decide +kernel) (by decide +kernel) (by decide +kernel) (by decide +kernel) (fun _ _ _ h => h) hS0 (Or.inl ⟨by rfl, ?_⟩) ?_
            rotate_left
            · intro wz hSz; obtain ⟨⟨z0, z1, z2, z3, z4⟩, ⟨z5, z6⟩, z7⟩ := hSz; go_simp; first | done | with_reducible rfl | (simp only [hib0, hib, and_self, if_true, Int.toNat_natCast]; first | done | with_reducible rfl) | (simp [hib0, hib]; first | done | with_reducible rfl)
            try simp only [Act.put, List.setIfInBounds_toArray, List.set_cons_zero, List.set_cons_succ]
            refine wpAnyL_take (i := 5) (v := ?_) (by rw [List.getElem?_toArray]; rfl) (by decide +kernel) (by decide +kernel) (by decide +kernel) (by decide +kernel) (by decide +kernel) (fun _ _ _ h => h) hS0 (Or.inl ⟨by rfl, ?_⟩) ?_
            rotate_left
            · intro wz hSz; obtain ⟨⟨z0, z1, z2, z3, z4⟩, ⟨z5, z6⟩, z7⟩ := hSz; go_simp; first | done | with_reducible rfl | (simp only [hib0, hib, and_self, if_true, Int.toNat_natCast]; first | done | with_reducible rfl) | (simp [hib0, hib]; first | done | with_reducible rfl)
            try simp only [Act.put, List.setIfInBounds_toArray, List.set_cons_zero, List.set_cons_succ]
            refine wpAnyL_one (i := 6) (by kernel_rfl) (by rw [List.getElem?_toArray]; rfl) (fun KK hK => ?_)
            have HK : Hid _ := hK
            clear hK
            go_simp
            obtain ⟨w5, hw5⟩ : ∃ w5, w5 = w4.drew.alloc (.cells #[.slice (some ⟨vo j, 0, none⟩) h h] 25) := ⟨_, rfl⟩
            have hw5' : (w4.alloc (.cells #[.slice (some ⟨vo j, 0, none⟩) h h] 25)).drew = w5 := by rw [hw5]; rfl
            have h45 : Below w4.heap.size w4 w5 := by rw [hw5]; exact (Below.refl _ _).drew.alloc (Nat.le_refl _) _
            have H5 : Hid (OwnV wx.heap.size v3 (rowsN (fun s => some ⟨vo s, 0, none⟩) (fun _ => h) (fun _ => h) l) w5 ∧ Below wx.heap.size wx w5 ∧ w5.cell? ⟨w4.heap.size, 0, none⟩ = some (.slice (some ⟨vo j, 0, none⟩) h h)) := ⟨H4.out.1.below h45 (Nat.le_refl _), bel_up' H4.out.2 h45, by rw [hw5]; exact cell_drew _ _⟩
            have hS5 := HK6.out w5 H5.out.2.1
            first | rw [hw5'] | rw [← hw5]
            clear hw5 hw5' h45
            refine HK.out _ _ (fun _ => hS5) ?_
            clear HK KK
            try simp only [Act.put, List.setIfInBounds_toArray, List.set_cons_zero, List.set_cons_succ]
            refine wpAnyL_one (i := 7) (by kernel_rfl) (by rw [List.getElem?_toArray]; rfl) (fun KK hK => ?_)
            refine step_append_sls (by rfl) _ _ (by rfl) wx.heap.size v3 (rowsN (fun s => some ⟨vo s, 0, none⟩) (fun _ => h) (fun _ => h) l) (by rfl) H5.out.1 (some ⟨w4.heap.size, 0, none⟩) 1 1 (fun _ => .slice (some ⟨vo j, 0, none⟩) h h) (by rfl) (SlV.one H5.out.2.2) (fun _ _ => rfl) (fun e => by cases e) (by unfold rowsN; rw [List.length_map]; have := HQ.out.2.2.2; omega) H5.out.2.1.size wx H5.out.2.1 (Nat.le_refl _) ?_
            intro v6 w6 hown6 hg6 hb6
            have H6 : Hid (OwnV wx.heap.size v6 (rowsN (fun s => some ⟨vo s, 0, none⟩) (fun _ => h) (fun _ => h) (l ++ [j])) w6 ∧ Below wx.heap.size wx w6) := by
              refine ⟨?_, hb6⟩
              have he : (rowsN (fun s => some ⟨vo s, 0, none⟩) (fun _ => h) (fun _ => h) (l ++ [j])) = (rowsN (fun s => some ⟨vo s, 0, none⟩) (fun _ => h) (fun _ => h) l) ++ vl 1 (fun _ => .slice (some ⟨vo j, 0, none⟩) h h) := by unfold rowsN; rw [List.map_append]; rfl
              rw [he]; exact hown6
            have hS6 := HK6.out w6 hb6
            clear hown6 hg6 hb6
            refine hK _ _ (fun _ => hS6) ?_
            clear hK KK
            try simp only [Act.put, List.setIfInBounds_toArray, List.set_cons_zero, List.set_cons_succ]
            refine wpAnyL_one (i := 8) (by kernel_rfl) (by rw [List.getElem?_toArray]; rfl) (fun KK hK => ?_)
            have HK : Hid _ := hK
            clear hK
            go_simp
            refine (HQ.out.2.1 D.gen gm cm _ v6 w6 H6.out.1 (HV.out w6 (bel_up' HG.out.2.2.1 H6.out.2)).1.vec (HV.out w6 (bel_up' HG.out.2.2.1 H6.out.2)).2).mono ?_
            rintro e w7 ⟨ro2, rc2, vp2, rfl, hb7⟩
            have H7 : Hid (Below wx.heap.size wx w7) := bel_up' H6.out.2 hb7
            have hS7 := HK6.out w7 H7.out
            clear hb7
            refine HK.out _ _ (fun _ => hS7) ?_
            clear HK KK
            try simp only [Act.put, List.setIfInBounds_toArray, List.set_cons_zero, List.set_cons_succ]
            refine wpAnyL_take (i := 9) (v := ?_) (by rw [List.getElem?_toArray]; rfl) (by decide +kernel) (by decide +kernel) (by decide +kernel) (by decide +kernel) (by decide +kernel) (fun _ _ _ h => h) hS7 (Or.inl ⟨by rfl, ?_⟩) ?_
            rotate_left
            · intro wz hSz; obtain ⟨⟨z0, z1, z2, z3, z4⟩, ⟨z5, z6⟩, z7⟩ := hSz; go_simp; first | done | with_reducible rfl
            try simp only [Act.put, List.setIfInBounds_toArray, List.set_cons_zero, List.set_cons_succ]
            refine wpAnyL_take (i := 10) (v := ?_) (by rw [List.getElem?_toArray]; rfl) (by decide +kernel) (by decide +kernel) (by decide +kernel) (by decide +kernel) (by decide +kernel) (fun _ _ _ h => h) hS7 (Or.inl ⟨by rfl, ?_⟩) ?_
            rotate_left
            · intro wz hSz; obtain ⟨⟨z0, z1, z2, z3, z4⟩, ⟨z5, z6⟩, z7⟩ := hSz; go_simp; first | done | with_reducible rfl
            try simp only [Act.put, List.setIfInBounds_toArray, List.set_cons_zero, List.set_cons_succ]
            refine wpAnyL_take (i := 11) (v := ?_) (by rw [List.getElem?_toArray]; rfl) (by decide +kernel) (by decide +kernel) (by decide +kernel) (by decide +kernel) (by decide +kernel) (fun _ _ _ h => h) hS7 (Or.inl ⟨by rfl, ?_⟩) ?_
            rotate_left
            · intro wz hSz; obtain ⟨⟨z0, z1, z2, z3, z4⟩, ⟨z5, z6⟩, z7⟩ := hSz; go_simp; first | done | with_reducible rfl
            try simp only [Act.put, List.setIfInBounds_toArray, List.set_cons_zero, List.set_cons_succ]
            refine wpAnyL_take (i := 12) (v := ?_) (by rw [List.getElem?_toArray]; rfl) (by decide +kernel) (by decide +kernel) (by decide +kernel) (by decide +kernel) (by decide +kernel) (fun _ _ _ h => h) hS7 (Or.inl ⟨by rfl, ?_⟩) ?_
            rotate_left
            · intro wz hSz; obtain ⟨⟨z0, z1, z2, z3, z4⟩, ⟨z5, z6⟩, z7⟩ := hSz; go_simp; first | done | with_reducible rfl
            try simp only [Act.put, List.setIfInBounds_toArray, List.set_cons_zero, List.set_cons_succ]
            refine wpAnyL_take (i := 13) (v := ?_) (by rw [List.getElem?_toArray]; rfl) (by decide +kernel) (by decide +kernel) (by decide +kernel) (by decide +kernel) (by decide +kernel) (fun _ _ _ h => h) hS7 (Or.inl ⟨by rfl, ?_⟩) ?_
            rotate_left
            · intro wz hSz; obtain ⟨⟨z0, z1, z2, z3, z4⟩, ⟨z5, z6⟩, z7⟩ := hSz; go_simp; first | done | with_reducible rfl
            try simp only [Act.put, List.setIfInBounds_toArray, List.set_cons_zero, List.set_cons_succ]
            refine wpAnyL_done (by kernel_rfl) (NoPanic.normal ?_)
            clear hS0 hS5 hS6 hS7 H6 H5 H4
            have HR : Hid (Box bF D D.gen (.slice (some ⟨gm, 0, none⟩) (D.m + 1) cm) w7 ∧ NB bN (n : Nat) (.slice (some ⟨b, off, none⟩) i ec) w7 ∧ Below w.heap.size w w7 ∧ bF < w7.heap.size) := ⟨HG.out.1.below H7.out HG.out.2.2.2, HG.out.2.1.keep H7.out, bel_up' HG.out.2.2.1 H7.out, by have := H7.out.size; have := HG.out.2.2.2; omega⟩
            have hzr : (((r : Nat) : Int) != ((r : Nat) : Int)) = false := by simp
            clear HK5 HK6 H7 HQ
            go_wp2
            go_roundw
            case rel => exact ⟨j + 1, by omega, by go_num, HR.out⟩
            case measure => simp [RowKit.intOf]; omega
        · have e2 : j = i := by omega
          clear hlt hj
          subst e2
          go_wp2
          go_loopw [18] (fun vi wr => ∃ s : Nat, s ≤ k ∧ vi = .int .i64 (s : Nat) ∧ Hid (Box bF D D.gen (.slice (some ⟨gm, 0, none⟩) (D.m + 1) cm) wr ∧ NB bN (n : Nat) (.slice eo j ec) wr ∧ Below w.heap.size w wr ∧ bF < wr.heap.size)) (fun vi _ => k - (RowKit.intOf vi).toNat)
          case atStart => exact ⟨0, by omega, rfl, HG.out⟩
          case round =>
            clear HG
            obtain ⟨s, hs, rfl, HG⟩ := hrel
            rename World => wx
            by_cases hlt : s < k
            · have hib : (s : Int) < (k : Int) := by omega
              have hib0 : (0 : Int) ≤ (s : Int) := by omega
              obtain ⟨b, off, rfl, hcsx⟩ := (slz_below HS.out HG.out.2.2.1) s hlt
              obtain ⟨y, hy⟩ : ∃ y : Int, y = ((tt s : Nat) : Int) := ⟨_, rfl⟩
              have hcs : wx.cell? ⟨b, off + s, none⟩ = some (.int .i64 y) := by rw [hy]; exact hcsx
              clear hcsx
              have q1 := HS1.out s hlt
              rw [← hy] at q1
              have HQ : Hid (RdC D h j h vo V (tlN (fun i => ((T i : Nat) : Int)) y j)) := q1
              clear hy q1
              have HK5 : Hid (∀ wy, Below wx.heap.size wx wy → (fun wx : World => Box bF D D.gen (.slice (some ⟨gm, 0, none⟩) (D.m + 1) cm) wx ∧ NB bN (n : Nat) (.slice eo j ec) wx ∧ wx.cell? ⟨b, off + s, none⟩ = some (.int .i64 y)) wy) := fun wy hy => ⟨HG.out.1.below hy HG.out.2.2.2, HG.out.2.1.keep hy, ((bcell hy).1 _ _ (cell_lt hcs)).trans hcs⟩
              go_wp2
              clear hcs
              have hS0 := HK5.out _ (Below.refl wx.heap.size wx).drew
              refine wp_region_noPanic ?_
              refine wp_region_L (S := (fun wx : World => Box bF D D.gen (.slice (some ⟨gm, 0, none⟩) (D.m + 1) cm) wx ∧ NB bN (n : Nat) (.slice eo j ec) wx ∧ wx.cell? ⟨b, off + s, none⟩ = some (.int .i64 y))) [] (by kernel_rfl) ?_
              refine wpAnyL_take (i := 0) (v := ?_) (by rw [List.getElem?_toArray]; rfl) (by decide +kernel) (by decide +kernel) (by decide +kernel) (by decide +kernel) (by decide +kernel) (fun _ _ _ h => h) hS0 (Or.inl ⟨by rfl, ?_⟩) ?_
              rotate_left
              · intro wz hSz; obtain ⟨⟨z0, z1, z2, z3, z4⟩, ⟨z5, z6⟩, z7⟩ := hSz; go_simp; first | done | with_reducible rfl | (simp only [hib0, hib, and_self, if_true, Int.toNat_natCast]; first | done | with_reducible rfl) | (simp [hib0, hib]; first | done | with_reducible rfl)
              try simp only [Act.put, List.setIfInBounds_toArray, List.set_cons_zero, List.set_cons_succ]
              refine wpAnyL_take (i := 1) (v := ?_) (by rw [List.getElem?_toArray]; rfl) (by decide +kernel) (by decide +kernel) (by decide +kernel) (by decide +kernel) (by decide +kernel) (fun _ _ _ h => h) hS0 (Or.inl ⟨by rfl, ?_⟩) ?_
              rotate_left
              · intro wz hSz; obtain ⟨⟨z0, z1, z2, z3, z4⟩, ⟨z5, z6⟩, z7⟩ := hSz; go_simp; first | done | with_reducible rfl | (simp only [hib0, hib, and_self, if_true, Int.toNat_natCast]; first | done | with_reducible rfl) | (simp [hib0, hib]; first | done | with_reducible rfl)
              try simp only [Act.put, List.setIfInBounds_toArray, List.set_cons_zero, List.set_cons_succ]
              refine wpAnyL_take (i := 2) (v := ?_) (by rw [List.getElem?_toArray]; rfl) (by decide +kernel) (by decide +kernel) (by decide +kernel) (by decide +kernel) (by decide +kernel) (fun _ _ _ h => h) hS0 (Or.inl ⟨by rfl, ?_⟩) ?_
              rotate_left
              · intro wz hSz; obtain ⟨⟨z0, z1, z2, z3, z4⟩, ⟨z5, z6⟩, z7⟩ := hSz; go_simp; first | done | with_reducible rfl | (simp only [hib0, hib, and_self, if_true, Int.toNat_natCast]; first | done | with_reducible rfl) | (simp [hib0, hib]; first | done | with_reducible rfl)
              try simp only [Act.put, List.setIfInBounds_toArray, List.set_cons_zero, List.set_cons_succ]
              refine wpAnyL_take (i := 3) (v := ?_) (by rw [List.getElem?_toArray]; rfl) (by decide +kernel) (by decide +kernel) (by decide +kernel) (by decide +kernel) (by decide +kernel) (fun _ _ _ h => h) hS0 (Or.inl ⟨by rfl, ?_⟩) ?_
              rotate_left
              · intro wz hSz; obtain ⟨⟨z0, z1, z2, z3, z4⟩, ⟨z5, z6⟩, z7⟩ := hSz; go_simp; first | done | with_reducible rfl | (simp only [hib0, hib, and_self, if_true, Int.toNat_natCast]; first | done | with_reducible rfl) | (simp [hib0, hib]; first | done | with_reducible rfl)
              try simp only [Act.put, List.setIfInBounds_toArray, List.set_cons_zero, List.set_cons_succ]
              refine wpAnyL_take (i := 4) (v := ?_) (by rw [List.getElem?_toArray]; rfl) (by decide +kernel) (by decide +kernel) (by decide +kernel) (by decide +kernel) (by decide +kernel) (fun _ _ _ h => h) hS0 (Or.inl ⟨by rfl, ?_⟩) ?_
              rotate_left
              · intro wz hSz; obtain ⟨⟨z0, z1, z2, z3, z4⟩, ⟨z5, z6⟩, z7⟩ := hSz; go_simp; first | done | with_reducible rfl | (simp only [hib0, hib, and_self, if_true, Int.toNat_natCast]; first | done | with_reducible rfl) | (simp [hib0, hib]; first | done | with_reducible rfl)
              try simp only [Act.put, List.setIfInBounds_toArray, List.set_cons_zero, List.set_cons_succ]
              refine wpAnyL_take (i := 5) (v := ?_) (by rw [List.getElem?_toArray]; rfl) (by decide +kernel) (by decide +kernel) (by decide +kernel) (by decide +kernel) (by decide +kernel) (fun _ _ _ h => h) hS0 (Or.inl ⟨by rfl, ?_⟩) ?_
              rotate_left
              · intro wz hSz; obtain ⟨⟨z0, z1, z2, z3, z4⟩, ⟨z5, z6⟩, z7⟩ := hSz; go_simp; first | done | with_reducible rfl | (simp only [hib0, hib, and_self, if_true, Int.toNat_natCast]; first | done | with_reducible rfl) | (simp [hib0, hib]; first | done | with_reducible rfl)
              try simp only [Act.put, List.setIfInBounds_toArray, List.set_cons_zero, List.set_cons_succ]
              refine wpAnyL_take (i := 6) (v := ?_) (by rw [List.getElem?_toArray]; rfl) (by decide +kernel) (by decide +kernel) (by decide +kernel) (by decide +kernel) (by decide +kernel) (fun _ _ _ h => h) hS0 (Or.inl ⟨by rfl, ?_⟩) ?_
              rotate_left
              · intro wz hSz; obtain ⟨⟨z0, z1, z2, z3, z4⟩, ⟨z5, z6⟩, z7⟩ := hSz; go_simp; first | done | with_reducible rfl | (simp only [hib0, hib, and_self, if_true, Int.toNat_natCast]; first | done | with_reducible rfl) | (simp [hib0, hib]; first | done | with_reducible rfl)
              try simp only [Act.put, List.setIfInBounds_toArray, List.set_cons_zero, List.set_cons_succ]
              refine wpAnyL_take (i := 7) (v := ?_) (by rw [List.getElem?_toArray]; rfl) (by decide +kernel) (by decide +kernel) (by decide +kernel) (by decide +kernel) (by decide +kernel) (fun _ _ _ h => h) hS0 (Or.inl ⟨by rfl, ?_⟩) ?_
              rotate_left
              · intro wz hSz; obtain ⟨⟨z0, z1, z2, z3, z4⟩, ⟨z5, z6⟩, z7⟩ := hSz; go_simp; first | done | with_reducible rfl | (simp only [hib0, hib, and_self, if_true, Int.toNat_natCast]; first | done | with_reducible rfl) | (simp [hib0, hib]; first | done | with_reducible rfl)
              try simp only [Act.put, List.setIfInBounds_toArray, List.set_cons_zero, List.set_cons_succ]
              refine wpAnyL_one (i := 8) (by kernel_rfl) (by rw [List.getElem?_toArray]; rfl) (fun KK hK => ?_)
              have HK : Hid _ := hK
              clear hK
              go_simp
              refine (HIn.out y _ (HG.out.2.2.1.drew)).mono ?_
              rintro e w3 ⟨v3, rfl, hown3, hb3⟩
              have H3 : Hid (OwnV wx.heap.size v3 (rowsN (fun s => some ⟨vo s, 0, none⟩) (fun _ => h) (fun _ => h) (tlN (fun i => ((T i : Nat) : Int)) y j)) w3 ∧ Below wx.heap.size wx w3) := ⟨hown3, bel_up' (Below.refl wx.heap.size wx).drew hb3⟩
              have hS3 := HK5.out w3 H3.out.2
              clear hown3 hb3
              refine HK.out _ _ (fun _ => hS3) ?_
              clear HK KK
              try simp only [Act.put, List.setIfInBounds_toArray, List.set_cons_zero, List.set_cons_succ]
              refine wpAnyL_one (i := 9) (by kernel_rfl) (by rw [List.getElem?_toArray]; rfl) (fun KK hK => ?_)
              have HK : Hid _ := hK
              clear hK
              go_simp
              refine (HQ.out D.gen gm cm _ v3 w3 H3.out.1 (HV.out w3 (bel_up' HG.out.2.2.1 H3.out.2)).1.vec (HV.out w3 (bel_up' HG.out.2.2.1 H3.out.2)).2).mono ?_
              rintro e w7 ⟨ro2, rc2, vp2, rfl, hb7⟩
              have H7 : Hid (Below wx.heap.size wx w7) := bel_up' H3.out.2 hb7
              have hS7 := HK5.out w7 H7.out
              clear hb7
              refine HK.out _ _ (fun _ => hS7) ?_
              clear HK KK
              try simp only [Act.put, List.setIfInBounds_toArray, List.set_cons_zero, List.set_cons_succ]
              refine wpAnyL_take (i := 10) (v := ?_) (by rw [List.getElem?_toArray]; rfl) (by decide +kernel) (by decide +kernel) (by decide +kernel) (by decide +kernel) (by decide +kernel) (fun _ _ _ h => h) hS7 (Or.inl ⟨by rfl, ?_⟩) ?_
              rotate_left
              · intro wz hSz; obtain ⟨⟨z0, z1, z2, z3, z4⟩, ⟨z5, z6⟩, z7⟩ := hSz; go_simp; first | done | with_reducible rfl
              try simp only [Act.put, List.setIfInBounds_toArray, List.set_cons_zero, List.set_cons_succ]
              refine wpAnyL_take (i := 11) (v := ?_) (by rw [List.getElem?_toArray]; rfl) (by decide +kernel) (by decide +kernel) (by decide +kernel) (by decide +kernel) (by decide +kernel) (fun _ _ _ h => h) hS7 (Or.inl ⟨by rfl, ?_⟩) ?_
              rotate_left
              · intro wz hSz; obtain ⟨⟨z0, z1, z2, z3, z4⟩, ⟨z5, z6⟩, z7⟩ := hSz; go_simp; first | done | with_reducible rfl
              try simp only [Act.put, List.setIfInBounds_toArray, List.set_cons_zero, List.set_cons_succ]
              refine wpAnyL_take (i := 12) (v := ?_) (by rw [List.getElem?_toArray]; rfl) (by decide +kernel) (by decide +kernel) (by decide +kernel) (by decide +kernel) (by decide +kernel) (fun _ _ _ h => h) hS7 (Or.inl ⟨by rfl, ?_⟩) ?_
              rotate_left
              · intro wz hSz; obtain ⟨⟨z0, z1, z2, z3, z4⟩, ⟨z5, z6⟩, z7⟩ := hSz; go_simp; first | done | with_reducible rfl
              try simp only [Act.put, List.setIfInBounds_toArray, List.set_cons_zero, List.set_cons_succ]
              refine wpAnyL_take (i := 13) (v := ?_) (by rw [List.getElem?_toArray]; rfl) (by decide +kernel) (by decide +kernel) (by decide +kernel) (by decide +kernel) (by decide +kernel) (fun _ _ _ h => h) hS7 (Or.inl ⟨by rfl, ?_⟩) ?_
              rotate_left
              · intro wz hSz; obtain ⟨⟨z0, z1, z2, z3, z4⟩, ⟨z5, z6⟩, z7⟩ := hSz; go_simp; first | done | with_reducible rfl
              try simp only [Act.put, List.setIfInBounds_toArray, List.set_cons_zero, List.set_cons_succ]
              refine wpAnyL_take (i := 14) (v := ?_) (by rw [List.getElem?_toArray]; rfl) (by decide +kernel) (by decide +kernel) (by decide +kernel) (by decide +kernel) (by decide +kernel) (fun _ _ _ h => h) hS7 (Or.inl ⟨by rfl, ?_⟩) ?_
              rotate_left
              · intro wz hSz; obtain ⟨⟨z0, z1, z2, z3, z4⟩, ⟨z5, z6⟩, z7⟩ := hSz; go_simp; first | done | with_reducible rfl
              try simp only [Act.put, List.setIfInBounds_toArray, List.set_cons_zero, List.set_cons_succ]
              refine wpAnyL_done (by kernel_rfl) (NoPanic.normal ?_)
              clear hS0 hS3 hS7 H3
              have HR : Hid (Box bF D D.gen (.slice (some ⟨gm, 0, none⟩) (D.m + 1) cm) w7 ∧ NB bN (n : Nat) (.slice eo j ec) w7 ∧ Below w.heap.size w w7 ∧ bF < w7.heap.size) := ⟨HG.out.1.below H7.out HG.out.2.2.2, HG.out.2.1.keep H7.out, bel_up' HG.out.2.2.1 H7.out, by have := H7.out.size; have := HG.out.2.2.2; omega⟩
              have hzr : (((h : Nat) : Int) != ((h : Nat) : Int)) = false := by simp
              clear HK5 H7 HQ
              go_wp2
              go_roundw
              case rel => exact ⟨s + 1, by omega, by go_num, HR.out⟩
              case measure => simp [RowKit.intOf]; omega
            · have e3 : s = k := by omega
              subst e3
              go_wp2
              go_ret
              exact ⟨rfl, HG.out.2.2.1⟩
end Go.Proofs.YtbnkekeeceicaaaGreat
