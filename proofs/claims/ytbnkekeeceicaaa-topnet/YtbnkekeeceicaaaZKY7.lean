/- Nets: all ways that take an edge are led over it (pass). -/
import Derived.Test.YtbnkekeeceicaaaZKY6b
namespace Go.Proofs.Ytbnkekeeceicaaa
open Go.RowKit Go.Sort Go.Maps

/-- What is known of the vector behind meeting. -/
def PsB (D : FD) (k h e gx : Nat) (As : Nat → List Nat) (wy : Nat → Nat → Nat) (L : Nat → Nat → Nat → Nat) (Y : Nat → Nat → Nat) (o : Nat → Nat) (w : World) : Prop := w.heap.size ≤ gx ∧ El D o ∧ Bd h o ∧ Spn D (fun v => ∃ s, s < k ∧ e ∈ As s ∧ v = L s (wy s e)) o ∧ ∀ s ∈ tkL As e k, (∀ j, j < h → dot D (L s j) (Y s) h = if j = wy s e then 1 else 0) ∧ dot D o (Y s) h ≠ 0
set_option maxHeartbeats 8000000 in
set_option maxRecDepth 100000 in
theorem pass_any {D : FD} (hD : D ∈ fieldsL) {Fb T : Nat} {g : Nat → Value} {fb k h e cf : Nat} {mb lb : Nat → Nat} {vb : Nat → Nat → Nat} {As : Nat → List Nat} {wy : Nat → Nat → Nat} {L : Nat → Nat → Nat → Nat} {w : World} (hF : FAt Fb T D g w) (h1 : 1 ≤ h) (h64 : h ≤ 64) (hk : k ≤ D.q) (he : e ≤ 1000) (H : Frs fb k h mb lb vb As wy L w) (hw : ∀ s, s < k → e ∈ As s → wy s e < h) (hB : ∀ s, s < k → Bas D h (L s)) (hBd : ∀ s, s < k → ∀ j, j < h → Bd h (L s j)) :
    Calls Try.prog 24 #[.pointer (some ⟨Fb, 0, none⟩), .slice (some ⟨fb, 0, none⟩) k cf, .int .i64 (e : Nat), .int .i64 (h : Nat)] w (PsQ D fb k h e mb lb vb As wy L w) := by
  have hkm : k ≤ 64 := Nat.le_trans hk (fld hD).q64
  have HF : Hid (FAt Fb T D g w ∧ D ∈ fieldsL ∧ Frs fb k h mb lb vb As wy L w ∧ (∀ s, s < k → e ∈ As s → wy s e < h) ∧ (∀ s, s < k → Bas D h (L s)) ∧ (∀ s, s < k → ∀ j, j < h → Bd h (L s j)) ∧ k ≤ D.q) := ⟨hF, hD, H, hw, hB, hBd, hk⟩
  have hew : (Lit.int .i64 (e : Nat)).wf = true := ct_wf he
  clear hD hF H hw hB hBd hk
  go_enter Try.func24, Try.ntmps24
  go_wp2
  go_loopw [9, 10, 22] (fun v9 v10 vi wr => ∃ (i : Nat) (yb : Nat → Nat) (Y : Nat → Nat → Nat), i ≤ k ∧ vi = .int .i64 i ∧ Hid (PsI D h w.heap.size e As wy L vb i v9 v10 yb Y w wr)) (fun _ _ vi _ => k - (RowKit.intOf vi).toNat)
  case atStart => exact ⟨0, fun _ => 0, fun _ _ => 0, by omega, rfl, (show Hid _ from ⟨OwnV.nil _ _, OwnV.nil _ _, fun _ => rfl, fun _ => rfl, fun s hs => (by simp [tkL, tlN] at hs), fun s hs => (by simp [tkL, tlN] at hs), Below.refl _ _⟩)⟩
  case round =>
    obtain ⟨i, yb, Y, hi, rfl, HG⟩ := hrel
    rename World => wr
    by_cases hlt : i < k
    · have hib : (i : Int) < (k : Int) := by omega
      have hib0 : (0 : Int) ≤ (i : Int) := by omega
      have hFr := HF.out.2.2.1.below HG.out.bel
      have hc0 := hFr.c0 i hlt
      have hc1 := hFr.c1 i hlt
      obtain ⟨m, hm⟩ : ∃ m, m = mb i := ⟨_, rfl⟩
      obtain ⟨l, hl⟩ : ∃ l, l = lb i := ⟨_, rfl⟩
      rw [← hm] at hc0
      rw [← hl] at hc1
      obtain ⟨wz, hwz⟩ : ∃ wz, wz = wr.alloc (.cells #[.map (some m), .slice (some ⟨l, 0, none⟩) h h] 62) := ⟨_, rfl⟩
      have hbz : Below wr.heap.size wr wz := by rw [hwz]; exact (Below.refl _ _).alloc (Nat.le_refl _) _
      obtain ⟨MD, hown, hmd⟩ := (hFr.below hbz).mp i hlt
      have HOw : Hid ((wr.alloc (.cells #[.map (some m), .slice (some ⟨l, 0, none⟩) h h] 62)).ownsMap Try.prog 3 (plainElem Try.prog 3) m (As i).length MD ∧ MnD MD (As i) (fun e => ((wy i e : Nat) : Int))) := ⟨by rw [← hwz, hm]; exact hown, hmd⟩
      by_cases hin : e ∈ As i
      · have hhs := hmd.in' hin
        have HIN : Hid (e ∈ As i) := hin
        have HML : Hid (m = mb i ∧ l = lb i ∧ Frs fb k h mb lb vb As wy L wr) := ⟨hm, hl, hFr⟩
        obtain ⟨y, hy⟩ : ∃ y, y = wy i e := ⟨_, rfl⟩
        have HYE : Hid (y = wy i e) := hy
        have hyl : (y : Int) < (h : Int) := by have := HF.out.2.2.2.1 i hlt hin; omega
        have hyl0 : (0 : Int) ≤ (y : Int) := by omega
        clear hin hm hl hFr hmd hown hbz hwz hy
        go_wp2_with (at_lookup; refine wpList_lookup_own_ok_int _ rfl _ _ 58 rfl 3 3 .i64 ct_law ct_map cty_int (ct_zero _) m (As i).length _ rfl HOw.out.1 _ _ rfl (ct_key _ hew) ?_; intro c hat hwc; obtain rfl : c = ((y : Nat) : Int) := lit_inj (by rw [HYE.out]; exact hat.symm.trans (HOw.out.2.yes e HIN.out)); clear hat hwc)
        obtain ⟨x, hx⟩ : ∃ x, x = vb i y := ⟨_, rfl⟩
        obtain ⟨b, hb⟩ : ∃ b, b = wr.heap.size := ⟨_, rfl⟩
        obtain ⟨wE, hwE⟩ : ∃ wE, wE = wr.alloc (.cells #[.map (some m), .slice (some ⟨l, 0, none⟩) h h] 62) := ⟨_, rfl⟩
        have hbE : Below wr.heap.size wr wE := by rw [hwE]; exact (Below.refl _ _).alloc (Nat.le_refl _) _
        have HSl : Hid (∀ wx, Below w.heap.size w wx → wx.cell? ⟨l, y, none⟩ = some (.slice (some ⟨x, 0, none⟩) h h)) := fun wx hxx => by
          rw [HML.out.2.1, hx]
          exact ((HF.out.2.2.1.below hxx).rows i hlt).cell y (by omega)
        have HXV : Hid (x = vb i (wy i e) ∧ x < w.heap.size) := ⟨by rw [hx, HYE.out], by rw [hx]; exact (HF.out.2.2.1.vec i hlt y (by omega)).lt⟩
        have HX : Hid (PsI D h w.heap.size e As wy L vb i u9 u10 yb Y w wE.drew ∧ wE.drew.cell? ⟨b, 1, none⟩ = some (.slice (some ⟨l, 0, none⟩) h h) ∧ (∀ q, u9.ownBlock = some q → q ≠ b) ∧ (∀ q, u10.ownBlock = some q → q ≠ b) ∧ w.heap.size ≤ b) := by
          refine ⟨(HG.out.below hbE (Nat.le_refl _)).below (Below.refl wE.heap.size wE).drew (Nat.le_refl _), ?_, fun q hq => ?_, fun q hq => ?_, by rw [hb]; exact HG.out.bel.size⟩
          · show wE.cell? ⟨b, 1, none⟩ = _
            rw [hwE, hb, cell_of_row _ _ _ _ _ (0, 0) (two_new _)]; rfl
          · have := (World.ownsRow.lt HG.out.xs q hq).2; omega
          · have := (World.ownsRow.lt HG.out.ys q hq).2; omega
        rw [← hwE, ← hb]
        clear hx hb hwE hbE
        obtain ⟨wd, hwd⟩ : ∃ wd, wd = wE.drew := ⟨_, rfl⟩
        rw [← hwd] at HX
        have hS0 : (fun wx : World => wx.cell? ⟨b, 1, none⟩ = some (.slice (some ⟨l, 0, none⟩) h h) ∧ wx.cell? ⟨l, y, none⟩ = some (.slice (some ⟨x, 0, none⟩) h h)) wd := ⟨HX.out.2.1, HSl.out wd HX.out.1.bel⟩
        refine wp_region_noPanic ?_
        refine wp_region_X (S := (fun wx : World => wx.cell? ⟨b, 1, none⟩ = some (.slice (some ⟨l, 0, none⟩) h h) ∧ wx.cell? ⟨l, y, none⟩ = some (.slice (some ⟨x, 0, none⟩) h h))) 17 (by kernel_rfl) ?_
        rw [← hwd]
        clear hwd
        refine wpAnyX_take (i := 0) (v := ?_) (by rw [List.getElem?_toArray]; rfl) (by kernel_rfl) (by kernel_rfl) (by kernel_rfl) (by kernel_rfl) (fun _ _ _ h => h) hS0 (Or.inl ⟨by rfl, ?_⟩) ?_
        rotate_left
        · intro wz hSz; obtain ⟨z0, z1⟩ := hSz; go_simp; first | done | with_reducible rfl
        try simp only [Act.put, List.setIfInBounds_toArray, List.set_cons_zero, List.set_cons_succ]
        refine wpAnyX_take (i := 1) (v := ?_) (by rw [List.getElem?_toArray]; rfl) (by kernel_rfl) (by kernel_rfl) (by kernel_rfl) (by kernel_rfl) (fun _ _ _ h => h) hS0 (Or.inl ⟨by rfl, ?_⟩) ?_
        rotate_left
        · intro wz hSz; obtain ⟨z0, z1⟩ := hSz; go_simp; first | done | with_reducible rfl
        try simp only [Act.put, List.setIfInBounds_toArray, List.set_cons_zero, List.set_cons_succ]
        refine wpAnyX_take (i := 2) (v := ?_) (by rw [List.getElem?_toArray]; rfl) (by kernel_rfl) (by kernel_rfl) (by kernel_rfl) (by kernel_rfl) (fun _ _ _ h => h) hS0 (Or.inl ⟨by rfl, ?_⟩) ?_
        rotate_left
        · intro wz hSz; obtain ⟨z0, z1⟩ := hSz; go_simp; first | done | with_reducible rfl
        try simp only [Act.put, List.setIfInBounds_toArray, List.set_cons_zero, List.set_cons_succ]
        refine wpAnyX_take (i := 3) (v := ?_) (by rw [List.getElem?_toArray]; rfl) (by kernel_rfl) (by kernel_rfl) (by kernel_rfl) (by kernel_rfl) (fun _ _ _ h => h) hS0 (Or.inl ⟨by rfl, ?_⟩) ?_
        rotate_left
        · intro wz hSz; obtain ⟨z0, z1⟩ := hSz; go_simp; first | done | with_reducible rfl
        try simp only [Act.put, List.setIfInBounds_toArray, List.set_cons_zero, List.set_cons_succ]
        refine wpAnyX_take (i := 4) (v := ?_) (by rw [List.getElem?_toArray]; rfl) (by kernel_rfl) (by kernel_rfl) (by kernel_rfl) (by kernel_rfl) (fun _ _ _ h => h) hS0 (Or.inl ⟨by rfl, ?_⟩) ?_
        rotate_left
        · intro wz hSz; obtain ⟨z0, z1⟩ := hSz; go_simp; first | done | with_reducible rfl
        try simp only [Act.put, List.setIfInBounds_toArray, List.set_cons_zero, List.set_cons_succ]
        refine wpAnyX_take (i := 5) (v := ?_) (by rw [List.getElem?_toArray]; rfl) (by kernel_rfl) (by kernel_rfl) (by kernel_rfl) (by kernel_rfl) (fun _ _ _ h => h) hS0 (Or.inl ⟨by rfl, ?_⟩) ?_
        rotate_left
        · intro wz hSz; obtain ⟨z0, z1⟩ := hSz; go_simp; first | done | with_reducible rfl
        try simp only [Act.put, List.setIfInBounds_toArray, List.set_cons_zero, List.set_cons_succ]
        refine wpAnyX_take (i := 8) (v := ?_) (by rw [List.getElem?_toArray]; rfl) (by kernel_rfl) (by kernel_rfl) (by kernel_rfl) (by kernel_rfl) (fun _ _ _ h => h) hS0 (Or.inl ⟨by rfl, ?_⟩) ?_
        rotate_left
        · intro wz hSz; obtain ⟨z0, z1⟩ := hSz; go_simp; first | done | with_reducible rfl
        try simp only [Act.put, List.setIfInBounds_toArray, List.set_cons_zero, List.set_cons_succ]
        refine wpAnyX_take (i := 9) (v := ?_) (by rw [List.getElem?_toArray]; rfl) (by kernel_rfl) (by kernel_rfl) (by kernel_rfl) (by kernel_rfl) (fun _ _ _ h => h) hS0 (Or.inl ⟨by rfl, ?_⟩) ?_
        rotate_left
        · intro wz hSz; obtain ⟨z0, z1⟩ := hSz; go_simp; first | done | with_reducible rfl
        try simp only [Act.put, List.setIfInBounds_toArray, List.set_cons_zero, List.set_cons_succ]
        refine wpAnyX_take (i := 10) (v := ?_) (by rw [List.getElem?_toArray]; rfl) (by kernel_rfl) (by kernel_rfl) (by kernel_rfl) (by kernel_rfl) (fun _ _ _ h => h) hS0 (Or.inl ⟨by rfl, ?_⟩) ?_
        rotate_left
        · intro wz hSz; obtain ⟨z0, z1⟩ := hSz; go_simp; first | done | with_reducible rfl
        try simp only [Act.put, List.setIfInBounds_toArray, List.set_cons_zero, List.set_cons_succ]
        refine wpAnyX_take (i := 11) (v := ?_) (by rw [List.getElem?_toArray]; rfl) (by kernel_rfl) (by kernel_rfl) (by kernel_rfl) (by kernel_rfl) (fun _ _ _ h => h) hS0 (Or.inl ⟨by rfl, ?_⟩) ?_
        rotate_left
        · intro wz hSz; obtain ⟨z0, z1⟩ := hSz; go_simp; first | done | with_reducible rfl
        try simp only [Act.put, List.setIfInBounds_toArray, List.set_cons_zero, List.set_cons_succ]
        refine wpAnyX_take (i := 12) (v := ?_) (by rw [List.getElem?_toArray]; rfl) (by kernel_rfl) (by kernel_rfl) (by kernel_rfl) (by kernel_rfl) (fun _ _ _ h => h) hS0 (Or.inl ⟨by rfl, ?_⟩) ?_
        rotate_left
        · intro wz hSz; obtain ⟨z0, z1⟩ := hSz; go_simp; first | done | with_reducible rfl
        try simp only [Act.put, List.setIfInBounds_toArray, List.set_cons_zero, List.set_cons_succ]
        refine wpAnyX_one (i := 6) (by kernel_rfl) (by rw [List.getElem?_toArray]; rfl) (fun KK hK => ?_)
        have HK : Hid _ := hK
        clear hK
        go_simp
        obtain ⟨w1x, hw1x⟩ : ∃ wx : World, wx = wd.alloc (.cells #[.slice (some ⟨x, 0, none⟩) h h] 22) := ⟨_, rfl⟩
        have hbw1x : Below wd.heap.size wd w1x := by rw [hw1x]; exact (Below.refl _ _).alloc (Nat.le_refl _) _
        obtain ⟨g1, hg1⟩ : ∃ g : Nat, g = wd.heap.size := ⟨_, rfl⟩
        have HY1 : Hid (PsI D h w.heap.size e As wy L vb i u9 u10 yb Y w w1x ∧ w1x.cell? ⟨g1, 0, none⟩ = some (.slice (some ⟨x, 0, none⟩) h h) ∧ w1x.cell? ⟨b, 1, none⟩ = some (.slice (some ⟨l, 0, none⟩) h h)) := ⟨HX.out.1.below hbw1x (Nat.le_refl _), by rw [hw1x, hg1, cell_of_row _ _ _ _ _ (0, 0) (two_new _)]; rfl, ((bcell hbw1x).1 b 1 (cell_lt HX.out.2.1)).trans HX.out.2.1⟩
        rw [← hw1x, ← hg1]
        clear hw1x hbw1x hg1
        refine HK.out _ _ (fun _ => ⟨HY1.out.2.2, HSl.out _ HY1.out.1.bel⟩) ?_
        clear HK KK
        try simp only [Act.put, List.setIfInBounds_toArray, List.set_cons_zero, List.set_cons_succ]
        refine wpAnyX_one (i := 7) (by kernel_rfl) (by rw [List.getElem?_toArray]; rfl) (fun KK hK => ?_)
        have HK : Hid _ := hK
        clear hK
        refine step_append_sls (by rfl) _ _ (by rfl) w.heap.size (u9) (rowsN (fun s => some ⟨vb s (wy s e), 0, none⟩) (fun _ => h) (fun _ => h) (tkL As e i)) (by rfl) HY1.out.1.xs (some ⟨g1, 0, none⟩) 1 1 (fun _ => .slice (some ⟨x, 0, none⟩) h h) (by rfl) (fun j hj => ⟨g1, 0, rfl, by rw [show j = 0 by omega]; exact HY1.out.2.1⟩) (fun _ _ => rfl) (fun e => by cases e) (by unfold rowsN; rw [List.length_map]; have := tkL_len As e i; omega) (Below.size HY1.out.1.bel) w HY1.out.1.bel (Nat.le_refl _) ?_
        intro v2 w2x hown2 hg2 hb2
        have HY2 : Hid (OwnV w.heap.size v2 ((rowsN (fun s => some ⟨vb s (wy s e), 0, none⟩) (fun _ => h) (fun _ => h) (tkL As e i)) ++ [.slice (some ⟨x, 0, none⟩) h h]) w2x ∧ OwnV w.heap.size u10 (rowsN (fun s => some ⟨yb s, 0, none⟩) (fun _ => h) (fun _ => h) (tkL As e i)) w2x ∧ (∀ s ∈ tkL As e i, w.heap.size ≤ yb s ∧ Row (yb s) h (Y s) w2x ∧ El D (Y s) ∧ ∀ j, j < h → dot D (L s j) (Y s) h = if j = wy s e then 1 else 0) ∧ Below w.heap.size w w2x ∧ w2x.cell? ⟨b, 1, none⟩ = some (.slice (some ⟨l, 0, none⟩) h h)) := by
          refine ⟨hown2, HY1.out.1.ys.grown hg2 HY1.out.1.yx, fun s hs => ?_, hb2, ?_⟩
          · have hr := HY1.out.1.row s hs
            exact ⟨hr.1, hr.2.1.other (hg2.block _ hr.2.1.lt (hr.2.1.apart HY1.out.1.xs)), hr.2.2⟩
          · rw [World.cell?_of_block (hg2.block b (cell_lt HY1.out.2.2) (fun q => HX.out.2.2.1 b q.symm rfl))]
            exact HY1.out.2.2
        clear hown2 hg2 hb2
        refine HK.out _ _ (fun _ => ⟨HY2.out.2.2.2.2, HSl.out _ HY2.out.2.2.2.1⟩) ?_
        clear HK KK
        try simp only [Act.put, List.setIfInBounds_toArray, List.set_cons_zero, List.set_cons_succ]
        refine wpAnyX_one (i := 13) (by kernel_rfl) (by rw [List.getElem?_toArray]; rfl) (fun KK hK => ?_)
        have HK : Hid _ := hK
        clear hK
        go_simp
        refine (beside_any (ca := h) HF.out.2.1 (HF.out.1.below HY2.out.2.2.2.1 HF.out.1.ltF HF.out.1.ltT) h1 h64 (HF.out.2.2.2.2.1 i hlt) (HF.out.2.2.2.2.2.1 i hlt) (by have hmt := (HF.out.2.2.1.below HY2.out.2.2.2.1).mat hlt h64; rw [← HML.out.2.1] at hmt; exact hmt) (one := y) (by omega)).mono ?_
        rintro e3 w3x ⟨gx, sv, rfl, k1, k2, k3, k4, k5⟩
        have HY3 : Hid (OwnV w.heap.size v2 ((rowsN (fun s => some ⟨vb s (wy s e), 0, none⟩) (fun _ => h) (fun _ => h) (tkL As e i)) ++ [.slice (some ⟨x, 0, none⟩) h h]) w3x ∧ OwnV w.heap.size u10 (rowsN (fun s => some ⟨yb s, 0, none⟩) (fun _ => h) (fun _ => h) (tkL As e i)) w3x ∧ (∀ s ∈ tkL As e i, w.heap.size ≤ yb s ∧ Row (yb s) h (Y s) w3x ∧ El D (Y s) ∧ ∀ j, j < h → dot D (L s j) (Y s) h = if j = wy s e then 1 else 0) ∧ Below w.heap.size w w3x ∧ w3x.cell? ⟨b, 1, none⟩ = some (.slice (some ⟨l, 0, none⟩) h h) ∧ w.heap.size ≤ gx ∧ Row gx h sv w3x ∧ El D sv ∧ (∀ j, j < h → dot D (L i j) sv h = if j = y then 1 else 0)) := ⟨HY2.out.1.below k5 (Nat.le_refl _), HY2.out.2.1.below k5 (Nat.le_refl _), fun s hs => ⟨(HY2.out.2.2.1 s hs).1, (HY2.out.2.2.1 s hs).2.1.below k5 (HY2.out.2.2.1 s hs).2.1.lt, (HY2.out.2.2.1 s hs).2.2⟩, bel_up' HY2.out.2.2.2.1 k5, ((bcell k5).1 b 1 (cell_lt HY2.out.2.2.2.2)).trans HY2.out.2.2.2.2, Nat.le_trans HY2.out.2.2.2.1.size k1, k2, k3, k4⟩
        clear k1 k2 k3 k4 k5
        refine HK.out _ _ (fun _ => ⟨HY3.out.2.2.2.2.1, HSl.out _ HY3.out.2.2.2.1⟩) ?_
        clear HK KK
        try simp only [Act.put, List.setIfInBounds_toArray, List.set_cons_zero, List.set_cons_succ]
        refine wpAnyX_one (i := 14) (by kernel_rfl) (by rw [List.getElem?_toArray]; rfl) (fun KK hK => ?_)
        have HK : Hid _ := hK
        clear hK
        go_simp
        obtain ⟨w4x, hw4x⟩ : ∃ wx : World, wx = w3x.alloc (.cells #[.slice (some ⟨gx, 0, none⟩) h h] 22) := ⟨_, rfl⟩
        have k5 : Below w3x.heap.size w3x w4x := by rw [hw4x]; exact (Below.refl _ _).alloc (Nat.le_refl _) _
        obtain ⟨g2, hg2⟩ : ∃ g : Nat, g = w3x.heap.size := ⟨_, rfl⟩
        have HY4 : Hid (OwnV w.heap.size v2 ((rowsN (fun s => some ⟨vb s (wy s e), 0, none⟩) (fun _ => h) (fun _ => h) (tkL As e i)) ++ [.slice (some ⟨x, 0, none⟩) h h]) w4x ∧ OwnV w.heap.size u10 (rowsN (fun s => some ⟨yb s, 0, none⟩) (fun _ => h) (fun _ => h) (tkL As e i)) w4x ∧ (∀ s ∈ tkL As e i, w.heap.size ≤ yb s ∧ Row (yb s) h (Y s) w4x ∧ El D (Y s) ∧ ∀ j, j < h → dot D (L s j) (Y s) h = if j = wy s e then 1 else 0) ∧ Below w.heap.size w w4x ∧ w4x.cell? ⟨b, 1, none⟩ = some (.slice (some ⟨l, 0, none⟩) h h) ∧ w.heap.size ≤ gx ∧ Row gx h sv w4x ∧ El D sv ∧ (∀ j, j < h → dot D (L i j) sv h = if j = y then 1 else 0) ∧ w4x.cell? ⟨g2, 0, none⟩ = some (.slice (some ⟨gx, 0, none⟩) h h)) := ⟨HY3.out.1.below k5 (Nat.le_refl _), HY3.out.2.1.below k5 (Nat.le_refl _), fun s hs => ⟨(HY3.out.2.2.1 s hs).1, (HY3.out.2.2.1 s hs).2.1.below k5 (HY3.out.2.2.1 s hs).2.1.lt, (HY3.out.2.2.1 s hs).2.2⟩, bel_up' HY3.out.2.2.2.1 k5, ((bcell k5).1 b 1 (cell_lt HY3.out.2.2.2.2.1)).trans HY3.out.2.2.2.2.1, HY3.out.2.2.2.2.2.1, HY3.out.2.2.2.2.2.2.1.below k5 HY3.out.2.2.2.2.2.2.1.lt, HY3.out.2.2.2.2.2.2.2.1, HY3.out.2.2.2.2.2.2.2.2, by rw [hw4x, hg2, cell_of_row _ _ _ _ _ (0, 0) (two_new _)]; rfl⟩
        rw [← hw4x, ← hg2]
        clear hw4x k5 hg2
        refine HK.out _ _ (fun _ => ⟨HY4.out.2.2.2.2.1, HSl.out _ HY4.out.2.2.2.1⟩) ?_
        clear HK KK
        try simp only [Act.put, List.setIfInBounds_toArray, List.set_cons_zero, List.set_cons_succ]
        refine wpAnyX_one (i := 15) (by kernel_rfl) (by rw [List.getElem?_toArray]; rfl) (fun KK hK => ?_)
        have HK : Hid _ := hK
        clear hK
        refine step_append_sls (by rfl) _ _ (by rfl) w.heap.size (u10) (rowsN (fun s => some ⟨yb s, 0, none⟩) (fun _ => h) (fun _ => h) (tkL As e i)) (by rfl) HY4.out.2.1 (some ⟨g2, 0, none⟩) 1 1 (fun _ => .slice (some ⟨gx, 0, none⟩) h h) (by rfl) (fun j hj => ⟨g2, 0, rfl, by rw [show j = 0 by omega]; exact HY4.out.2.2.2.2.2.2.2.2.2⟩) (fun _ _ => rfl) (fun e => by cases e) (by unfold rowsN; rw [List.length_map]; have := tkL_len As e i; omega) (Below.size HY4.out.2.2.2.1) w HY4.out.2.2.2.1 (Nat.le_refl _) ?_
        intro v5 w5x hown5 hg5 hb5
        have HY5 : Hid (PsI D h w.heap.size e As wy L vb (i + 1) v2 v5 (fun s => if s = i then gx else yb s) (fun s => if s = i then sv else Y s) w w5x ∧ w5x.cell? ⟨b, 1, none⟩ = some (.slice (some ⟨l, 0, none⟩) h h)) :=
          ⟨psI_push (i := i) (y := y) HIN.out HXV.out.1 HXV.out.2 HYE.out HX.out.1.ny HX.out.1.vlt HY4.out.1 HY4.out.2.1 HY4.out.2.2.1 HY4.out.2.2.2.2.2.1 HY4.out.2.2.2.2.2.2.1 HY4.out.2.2.2.2.2.2.2.1 HY4.out.2.2.2.2.2.2.2.2.1 hown5 hg5 hb5, by
            rw [World.cell?_of_block (hg5.block b (cell_lt HY4.out.2.2.2.2.1) (fun q => HX.out.2.2.2.1 b q.symm rfl))]
            exact HY4.out.2.2.2.2.1⟩
        clear hown5 hg5 hb5
        refine HK.out _ _ (fun _ => ⟨HY5.out.2, HSl.out _ HY5.out.1.bel⟩) ?_
        clear HK KK
        try simp only [Act.put, List.setIfInBounds_toArray, List.set_cons_zero, List.set_cons_succ]
        refine wpAnyX_one (i := 16) (by kernel_rfl) (by rw [List.getElem?_toArray]; rfl) (fun KK hK => ?_)
        have HK : Hid _ := hK
        clear hK
        go_simp
        refine HK.out _ _ (fun _ => ⟨HY5.out.2, HSl.out _ HY5.out.1.bel⟩) ?_
        clear HK KK
        try simp only [Act.put, List.setIfInBounds_toArray, List.set_cons_zero, List.set_cons_succ]
        refine wpAnyX_one (i := 17) (by kernel_rfl) (by rw [List.getElem?_toArray]; rfl) (fun KK hK => ?_)
        have HK : Hid _ := hK
        clear hK
        go_simp
        refine HK.out _ _ (fun h => absurd rfl h) ?_
        clear HK KK
        try simp only [Act.put, List.setIfInBounds_toArray, List.set_cons_zero, List.set_cons_succ]
        refine wpAnyX_done (by kernel_rfl) (NoPanic.normal ?_)
        go_wp2
        go_roundw
        case rel => exact ⟨i + 1, _, _, by omega, by go_num, HY5.out.1⟩
        case measure => simp [RowKit.intOf]; omega
      · have hhs := hmd.out' hin
        have HN : Hid (PsI D h w.heap.size e As wy L vb (i + 1) u9 u10 yb Y w wz) := (HG.out.skip hin).below hbz (Nat.le_refl _)
        have HWZ : Hid (wz = wr.alloc (.cells #[.map (some m), .slice (some ⟨l, 0, none⟩) h h] 62)) := hwz
        clear hin hm hl hFr hmd hown hbz hwz
        go_wp2_with (at_lookup; refine wpList_lookup_own_ok_int _ rfl _ _ 58 rfl 3 3 .i64 ct_law ct_map cty_int (ct_zero _) m (As i).length _ rfl HOw.out.1 _ _ rfl (ct_key _ hew) ?_; intro c hat hwc; clear hat hwc)
        rw [← HWZ.out]
        go_roundw
        case rel => exact ⟨i + 1, _, _, by omega, by go_num, HN⟩
        case measure => simp [RowKit.intOf]; omega
    · have e1 : i = k := by omega
      subst e1
      have hFr := HF.out.2.2.1.below HG.out.bel
      have hwl : ∀ s ∈ tkL As e i, wy s e < h := fun s hs => HF.out.2.2.2.1 s (tkL_lt s hs) (tkL_mem i s hs)
      obtain ⟨xo, xc, hv9, hxc, hMX⟩ := ownV_mat (R := fun s => L s (wy s e)) HG.out.xs (fun s hs => hFr.vec s (tkL_lt s hs) _ (hwl s hs)) h64
      obtain ⟨yo, yc, hv10, hyc, hMY⟩ := ownV_mat (R := Y) HG.out.ys (fun s hs => (HG.out.row s hs).2.1) h64
      obtain ⟨n, hn⟩ : ∃ n, n = (tkL As e i).length := ⟨_, rfl⟩
      have F := fld HF.out.2.1
      have HM : Hid (Calls Try.prog 38 #[.pointer (some ⟨Fb, 0, none⟩), .slice xo n xc, .slice yo n yc, .int .i64 (h : Nat)] wr (MtP D h n wr.heap.size (fun r => L ((tkL As e i).getD r 0) (wy ((tkL As e i).getD r 0) e)) (fun r => Y ((tkL As e i).getD r 0)) wr)) := by
        rw [hn]
        refine meeting_any HF.out.2.1 (HF.out.1.below HG.out.bel HF.out.1.ltF HF.out.1.ltT) h1 h64 (by have := tkL_len As e i; have := HF.out.2.2.2.2.2.2; omega) hyc hMX hMY (fun j hj => ?_) (fun j hj => ?_) (fun j hj => ?_) (fun j hj => ?_)
        · exact (HF.out.2.2.2.2.1 _ (tkL_lt _ (getD_inl hj))).el _ (hwl _ (getD_inl hj))
        · exact HF.out.2.2.2.2.2.1 _ (tkL_lt _ (getD_inl hj)) _ (hwl _ (getD_inl hj))
        · exact (HG.out.row _ (getD_inl hj)).2.2.1
        · show dot D (L ((tkL As e i).getD j 0) (wy ((tkL As e i).getD j 0) e)) (Y ((tkL As e i).getD j 0)) h ≠ 0
          rw [(HG.out.row _ (getD_inl hj)).2.2.2 _ (hwl _ (getD_inl hj)), if_pos rfl]
          decide
      rw [← hn] at hv9 hv10
      have HN : Hid (n = (tkL As e i).length) := hn
      subst hv9 hv10
      clear hMX hMY hxc hyc hn hFr hwl F
      go_wp2_with fail
      refine HM.out.mono ?_
      rintro r6 w6 ⟨gx, o, rfl, a1, a2, a3, a4, a5, a6, a7⟩
      have H6 : Hid (PsB D i h e gx As wy L Y o w ∧ Frs fb i h mb lb vb As wy L w6 ∧ Row gx h o w6 ∧ Kps (fun b => ∃ s, s < i ∧ b = lb s) w w6) := by
        have hb6 : Below w.heap.size w w6 := bel_up' HG.out.bel a7
        refine ⟨⟨Nat.le_trans HG.out.bel.size a1, a3, a4, ?_, fun s hs => ?_⟩, HF.out.2.2.1.below hb6, a2, Kps.of_below hb6⟩
        · refine spn_le (fld HF.out.2.1) (fun v hv => ?_) a5
          obtain ⟨r, hr, rfl⟩ := hv
          rw [HN.out] at hr
          have hs := getD_inl hr
          have hsl := tkL_lt _ hs
          have hse := tkL_mem i _ hs
          exact spn_mem (fld HF.out.2.1) ((HF.out.2.2.2.2.1 _ hsl).el _ (HF.out.2.2.2.1 _ hsl hse)) ⟨_, hsl, hse, rfl⟩
        · refine ⟨(HG.out.row s hs).2.2.2, ?_⟩
          obtain ⟨r, hr, hrs⟩ := List.mem_iff_getElem.1 hs
          have h9 : dot D o (Y ((tkL As e i).getD r 0)) h ≠ 0 := a6 r (by rw [HN.out]; exact hr)
          have e9 : (tkL As e i).getD r 0 = s := by rw [List.getD_eq_getElem?_getD, List.getElem?_eq_getElem hr]; exact hrs
          rw [e9] at h9
          exact h9
      clear a1 a2 a3 a4 a5 a6 a7 HM HG
      go_wp2
      go_loopw [58] (fun vi wx => ∃ (j : Nat), j ≤ i ∧ vi = .int .i64 j ∧ Hid (Frs fb i h mb lb (psV As wy e gx vb j) As wy (psL As wy e o L j) wx ∧ Row gx h o wx ∧ Kps (fun b => ∃ s, s < i ∧ b = lb s) w wx)) (fun vi _ => i - (RowKit.intOf vi).toNat)
      case atStart => exact ⟨0, by omega, rfl, (show Hid _ from by rw [psV_zero, psL_zero]; exact H6.out.2)⟩
      case round =>
        obtain ⟨j, hj, rfl, HI⟩ := hrel
        rename World => wx
        by_cases hlj : j < i
        · have hjb : (j : Int) < (i : Int) := by omega
          have hjb0 : (0 : Int) ≤ (j : Int) := by omega
          have hc0 := HI.out.1.c0 j hlj
          have hc1 := HI.out.1.c1 j hlj
          obtain ⟨m, hm⟩ : ∃ m, m = mb j := ⟨_, rfl⟩
          obtain ⟨l, hl⟩ : ∃ l, l = lb j := ⟨_, rfl⟩
          rw [← hm] at hc0
          rw [← hl] at hc1
          obtain ⟨wz, hwz⟩ : ∃ wz, wz = wx.alloc (.cells #[.map (some m), .slice (some ⟨l, 0, none⟩) h h] 62) := ⟨_, rfl⟩
          have hbz : Below wx.heap.size wx wz := by rw [hwz]; exact (Below.refl _ _).alloc (Nat.le_refl _) _
          obtain ⟨MD, hown, hmd⟩ := (HI.out.1.below hbz).mp j hlj
          have HOw : Hid ((wx.alloc (.cells #[.map (some m), .slice (some ⟨l, 0, none⟩) h h] 62)).ownsMap Try.prog 3 (plainElem Try.prog 3) m (As j).length MD ∧ MnD MD (As j) (fun e => ((wy j e : Nat) : Int))) := ⟨by rw [← hwz, hm]; exact hown, hmd⟩
          have HZ : Hid (Frs fb i h mb lb (psV As wy e gx vb j) As wy (psL As wy e o L j) wz ∧ Row gx h o wz ∧ Kps (fun b => ∃ s, s < i ∧ b = lb s) w wz ∧ l = lb j) := ⟨HI.out.1.below hbz, HI.out.2.1.below hbz HI.out.2.1.lt, HI.out.2.2.trans (Kps.of_below hbz), hl⟩
          have HWZ : Hid (wz = wx.alloc (.cells #[.map (some m), .slice (some ⟨l, 0, none⟩) h h] 62)) := hwz
          by_cases hin : e ∈ As j
          · have hhs := hmd.in' hin
            have HIN : Hid (e ∈ As j) := hin
            obtain ⟨y, hy⟩ : ∃ y, y = wy j e := ⟨_, rfl⟩
            have HYE : Hid (y = wy j e) := hy
            have hyn : y < h := by rw [hy]; exact HF.out.2.2.2.1 j hlj hin
            have hyl : (y : Int) < (h : Int) := by omega
            have hyl0 : (0 : Int) ≤ (y : Int) := by omega
            have hcl := (HZ.out.1.rows j hlj).cell y hyn
            have hfl := (HZ.out.1.rows j hlj).free y
            rw [← hl, hwz] at hcl hfl
            clear hin hm hl hmd hown hbz hwz hy
            go_wp2_with (at_lookup; refine wpList_lookup_own_ok_int _ rfl _ _ 58 rfl 3 3 .i64 ct_law ct_map cty_int (ct_zero _) m (As j).length _ rfl HOw.out.1 _ _ rfl (ct_key _ hew) ?_; intro c hat hwc; obtain rfl : c = ((y : Nat) : Int) := lit_inj (by rw [HYE.out]; exact hat.symm.trans (HOw.out.2.yes e HIN.out)); clear hat hwc)
            rw [← HWZ.out]
            go_roundw
            case rel =>
              refine ⟨j + 1, by omega, by go_num, ?_, ?_, ?_⟩
              · have hp := HZ.out.1.put (i := j) (y := wy j e) hlj HZ.out.2.1
                rw [psV_put HIN.out, psL_put HIN.out, ← HZ.out.2.2.2, ← HYE.out] at hp
                exact hp
              · rw [HZ.out.2.2.2]
                exact HZ.out.2.1.other (Below.heap_setCell wz ⟨lb j, y, none⟩ _ gx (rowF_ne_row (HZ.out.1.rows j hlj) HZ.out.2.1))
              · exact HZ.out.2.2.1.trans (Kps.setCell wz ⟨l, y, none⟩ _ ⟨j, hlj, HZ.out.2.2.2⟩)
            case measure => simp [RowKit.intOf]; omega
          · have hhs := hmd.out' hin
            have HN2 : Hid (Frs fb i h mb lb (psV As wy e gx vb (j + 1)) As wy (psL As wy e o L (j + 1)) wz ∧ Row gx h o wz ∧ Kps (fun b => ∃ s, s < i ∧ b = lb s) w wz) := by
              rw [psV_skip hin, psL_skip hin]
              exact ⟨HZ.out.1, HZ.out.2.1, HZ.out.2.2.1⟩
            clear hin hm hl hmd hown hbz hwz
            go_wp2_with (at_lookup; refine wpList_lookup_own_ok_int _ rfl _ _ 58 rfl 3 3 .i64 ct_law ct_map cty_int (ct_zero _) m (As j).length _ rfl HOw.out.1 _ _ rfl (ct_key _ hew) ?_; intro c hat hwc; clear hat hwc)
            rw [← HWZ.out]
            go_roundw
            case rel => exact ⟨j + 1, by omega, by go_num, HN2⟩
            case measure => simp [RowKit.intOf]; omega
        · have e2 : j = i := by omega
          subst e2
          go_wp2
          go_ret
          obtain ⟨p1, p2, p3, p4, p5⟩ := H6.out.1
          exact ⟨gx, o, rfl, p1, HI.out.2.1, p2, p3, p4, HI.out.1, ps_bas HF.out.2.1 HF.out.2.2.2.1 HF.out.2.2.2.2.1 HF.out.2.2.2.2.2.1 p2 p3 p5, HI.out.2.2⟩
end Go.Proofs.Ytbnkekeeceicaaa
