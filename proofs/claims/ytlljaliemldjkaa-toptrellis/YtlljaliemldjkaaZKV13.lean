/- Trellises: Viterbi (printed by make/kv13.py). -/
import Derived.Test.YtlljaliemldjkaaZKV12
namespace Go.Proofs.Ytlljaliemldjkaa
open Go.RowKit Go.Sort

set_option maxHeartbeats 16000000 in
set_option maxRecDepth 100000 in
theorem tvit_ok {ao so : Option Addr} {R ca l sc N : Nat} {z : Nat → Nat} {y : Nat → Int} {w : World} (hX : RlA ao R z w) (hY : SlZ so l y w) (hYl : LtB so w.heap.size) (hl : l ≤ 300) (hE : lgE (mmr z R) R l y = 0) (hN : lgN (mmr z R) R l y = N) :
    Calls Try.prog 22 #[.slice ao R ca, .slice so l sc] w fun e w' => ∃ b v, Fst (apt z R y N (mmr z R)) (2 ^ N) b ∧ e = .returned (.tuple #[v, .int .i64 (apt z R y N (mmr z R) b : Nat), .int .i64 0]) ∧ OwnI w.heap.size v (zl N fun j => ((bitN N b j : Nat) : Int)) w' ∧ Below w.heap.size w w' := by
  have hlg := lgE_ok hE
  rw [hN] at hlg
  obtain ⟨M, hM⟩ : ∃ M, M = mmr z R := ⟨_, rfl⟩
  have hM4 : M ≤ 4 := by rw [hM]; exact mmr_le z R
  have hzM : ∀ j, j < R → z j < 2 ^ (M + 1) := fun j hj => by
    have h1 := orz_le (z := z) R hj
    have h2 := mbl_pow (hX.rz.orz R (Nat.le_refl _)) hX.rz.pos
    rw [hM]; unfold mmr; omega
  obtain ⟨bm, hbF, hbe⟩ := vit_end (y := y) (n := N) hzM
  obtain ⟨off, hoff⟩ : ∃ off, off = apt z R y N M bm := ⟨_, rfl⟩
  rw [← hM] at hE hN hlg ⊢
  have hN20 : N ≤ 20 := hlg.2.1
  have hbm : bm ≤ 1048576 := Nat.le_of_lt (Nat.lt_of_lt_of_le hbF.1 (Nat.le_trans (Nat.pow_le_pow_right (n := 2) (by omega) hN20) (by decide)))
  have HB : Hid (Fst (apt z R y N M) (2 ^ N) bm ∧ apt z R y N M bm = off) := ⟨hbF, hoff.symm⟩
  obtain ⟨w2, hw2⟩ : ∃ w2, w2 = (w.alloc (.cells #[.slice ao R ca] 22)).alloc (.cells #[.slice so l sc] 22) := ⟨_, rfl⟩
  obtain ⟨b1, hb1⟩ : ∃ b1, b1 = w.heap.size := ⟨_, rfl⟩
  have H2 : Hid (Below w.heap.size w w2 ∧ w2.cell? ⟨b1, 0, none⟩ = some (.slice ao R ca) ∧ w2.cell? ⟨b1 + 1, 0, none⟩ = some (.slice so l sc) ∧ w2.heap.size = b1 + 2) := by
    have h1 : (w.alloc (.cells #[.slice ao R ca] 22)).cell? ⟨w.heap.size, 0, none⟩ = some (.slice ao R ca) := by rw [cell_of_row _ _ _ _ _ (0, 0) (World.alloc_heap_new w _)]; rfl
    have h2 : w2.cell? ⟨w.heap.size + 1, 0, none⟩ = some (.slice so l sc) := by
      rw [hw2, ← World.size_alloc w (.cells #[.slice ao R ca] 22), cell_of_row _ _ _ _ _ (0, 0) (World.alloc_heap_new _ _)]; rfl
    have h3 : Below (w.alloc (.cells #[.slice ao R ca] 22)).heap.size (w.alloc (.cells #[.slice ao R ca] 22)) w2 := by rw [hw2]; exact (Below.refl _ _).alloc (Nat.le_refl _) _
    refine ⟨by rw [hw2]; exact ((Below.refl _ _).alloc (Nat.le_refl _) _).alloc (by simp) _, ?_, by rw [hb1]; exact h2, by rw [hw2, hb1]; simp⟩
    rw [hb1]
    exact (h3.cell (p := ⟨w.heap.size, 0, none⟩) (by simp)).trans h1
  have HL : Hid (Calls Try.prog 13 #[.slice ao R ca, .slice so l sc] w2 fun e w' => e = .returned (.tuple #[.int .i64 (N : Nat), .int .i64 0]) ∧ ∃ d, w' = w2.drewN d) := by
    have h := tlength_any (ca := ca) (sc := sc) (hX.below H2.out.1).rz (hY.below H2.out.1 hYl) (by omega)
    rw [← hM, hE, hN] at h
    exact h
  have HX : Hid (RlA ao R z w ∧ SlZ so l y w ∧ LtB so w.heap.size ∧ l = R * (N + M) ∧ (∀ j, j < R → z j < 2 ^ (M + 1)) ∧ thF wyB M N (wyS z R y N) (0, 0) (N + M) 0 = some (off, bm) ∧ M = mmr z R) := ⟨hX, hY, hYl, hlg.1, hzM, by rw [hoff]; exact hbe, hM⟩
  have hR3 := hX.rz.few
  have p0 := H2.out.2.1
  have p1 := H2.out.2.2.1
  rw [hw2] at p0 p1
  clear hX hY hYl hE hN hlg hM hzM hbF hbe hoff
  rw [hb1] at p0 p1
  go_enter Try.func22, Try.ntmps22
  go_wp2_with fail
  rw [← hw2]
  clear hw2 p0 p1
  refine HL.out.mono ?_
  rintro e wl ⟨rfl, d, hwl⟩
  obtain ⟨w3, hw3⟩ : ∃ w3, w3 = wl.alloc (.cells #[.int .i64 (N : Nat)] 3) := ⟨_, rfl⟩
  obtain ⟨b7, hb7⟩ : ∃ b7, b7 = wl.heap.size := ⟨_, rfl⟩
  have hbl : Below w2.heap.size w2 wl := by rw [hwl]; exact below_drewN2 (Below.refl _ _) d
  have hb3 : Below wl.heap.size wl w3 := by rw [hw3]; exact (Below.refl _ _).alloc (Nat.le_refl _) _
  have HW3 : Hid (Below w.heap.size w w3) := bel_up' (bel_up' H2.out.1 hbl) hb3
  have HSz : Hid (w.heap.size ≤ w3.heap.size) := HW3.out.size
  have HC3 : Hid (w3.cell? ⟨b1, 0, none⟩ = some (.slice ao R ca) ∧ w3.cell? ⟨b1 + 1, 0, none⟩ = some (.slice so l sc) ∧ w3.cell? ⟨b7, 0, none⟩ = some (.int .i64 (N : Nat))) := by
    have hb23 := bel_up' hbl hb3
    refine ⟨(hb23.cell (p := ⟨b1, 0, none⟩) (cell_lt H2.out.2.1)).trans H2.out.2.1, (hb23.cell (p := ⟨b1 + 1, 0, none⟩) (cell_lt H2.out.2.2.1)).trans H2.out.2.2.1, ?_⟩
    rw [hw3, hb7, cell_of_row _ _ _ _ _ (0, 0) (World.alloc_heap_new _ _)]; rfl
  have HSk : Hid (∀ wx, Below w3.heap.size w3 wx → wx.cell? ⟨b1, 0, none⟩ = some (.slice ao R ca) ∧ wx.cell? ⟨b7, 0, none⟩ = some (.int .i64 (N : Nat))) := fun wx hb => ⟨(hb.cell (p := ⟨b1, 0, none⟩) (cell_lt HC3.out.1)).trans HC3.out.1, (hb.cell (p := ⟨b7, 0, none⟩) (cell_lt HC3.out.2.2)).trans HC3.out.2.2⟩
  have HMem : Hid (∀ wx, Below w3.heap.size w3 wx → Calls Try.prog 27 #[.slice ao R ca] wx fun e w' => e = .returned (.int .i64 (M : Nat)) ∧ w' = wx) := fun wx hb => by rw [HX.out.2.2.2.2.2.2]; exact tmemory_any (HX.out.1.below (bel_up' HW3.out hb)).rz
  have HTh : Hid (∀ wx, Below w3.heap.size w3 wx → Calls Try.prog 37 #[.int .i64 (M : Nat), .int .i64 (N : Nat), .agg #[.int .i64 0, .int .i64 0], .func (.func 35) #[] #[.pointer (some ⟨b1, 0, none⟩), .pointer (some ⟨b1 + 1, 0, none⟩), .pointer (some ⟨b7, 0, none⟩)], .func (.func 38) #[] #[]] wx fun e w' => e = .returned (.agg #[.int .i64 (off : Nat), .int .i64 (bm : Nat)]) ∧ Below wx.heap.size wx w') := fun wx hb => by
    have hVs : VsC b1 (b1 + 1) b7 ao so R ca l sc N z y w3 := ⟨HC3.out.1, HC3.out.2.1, HC3.out.2.2, HX.out.1.below HW3.out, HX.out.2.1.below HW3.out HX.out.2.2.1, HX.out.2.2.1.mono HW3.out.size⟩
    refine throughW_any (st := wyS z R y N) (Ok := wyOk N) (a0 := (0, 0)) (ar := (off, bm)) hM4 hN20 (fun k x a wy hk hx hOk hby => ?_) (fun k s a _ h => wyOk_all hR3 k s a h) HX.out.2.2.2.2.2.1
    have hx32 : x < 32 := Nat.lt_of_lt_of_le hx (Nat.pow_le_pow_right (n := 2) (by omega) (show M + 1 ≤ 5 by omega))
    refine vstep_any (hVs.below (bel_up' hb hby)) (by omega) ?_ (by omega) (by have := hOk.1; omega) (Nat.lt_of_lt_of_le hOk.2 (Nat.pow_le_pow_right (n := 2) (by omega) (show min k N ≤ 20 by omega)))
    rw [HX.out.2.2.2.1, Nat.mul_comm]
    exact Nat.mul_le_mul_left R hk
  clear hbl hb3 hwl HL H2
  go_upto_region 5 with fail
  rw [← hw3, ← hb7]
  try rw [← hb1]
  clear hw3 hb7 hb1
  go_cut [10] (fun v10 wx => ∃ bR, v10 = .pointer (some ⟨bR, 0, none⟩) ∧ Hid (W2 bR off bm wx ∧ Below w3.heap.size w3 wx ∧ w3.heap.size ≤ bR))
  case first =>
    refine wp_region_noPanic ?_
    have hS0 := HSk.out w3.drew (Below.refl w3.heap.size w3).drew
    refine wp_region_L (S := fun wx => wx.cell? ⟨b1, 0, none⟩ = some (.slice ao R ca) ∧ wx.cell? ⟨b7, 0, none⟩ = some (.int .i64 (N : Nat))) [] (by kernel_rfl) ?_
    refine wpAnyL_take (i := 0) (v := ?_) (by rw [List.getElem?_toArray]; rfl) (by decide +kernel) (by decide +kernel) (by decide +kernel) (by decide +kernel) (by decide +kernel) (fun _ _ _ h => h) hS0 (Or.inl ⟨by rfl, ?_⟩) ?_
    rotate_left
    · intro wz hSz; obtain ⟨z0, z1⟩ := hSz; go_simp; first | done | with_reducible rfl
    try simp only [Act.put, List.setIfInBounds_toArray, List.set_cons_zero, List.set_cons_succ]
    refine wpAnyL_take (i := 2) (v := ?_) (by rw [List.getElem?_toArray]; rfl) (by decide +kernel) (by decide +kernel) (by decide +kernel) (by decide +kernel) (by decide +kernel) (fun _ _ _ h => h) hS0 (Or.inl ⟨by rfl, ?_⟩) ?_
    rotate_left
    · intro wz hSz; obtain ⟨z0, z1⟩ := hSz; go_simp; first | done | with_reducible rfl
    try simp only [Act.put, List.setIfInBounds_toArray, List.set_cons_zero, List.set_cons_succ]
    refine wpAnyL_take (i := 3) (v := ?_) (by rw [List.getElem?_toArray]; rfl) (by decide +kernel) (by decide +kernel) (by decide +kernel) (by decide +kernel) (by decide +kernel) (fun _ _ _ h => h) hS0 (Or.inl ⟨by rfl, ?_⟩) ?_
    rotate_left
    · intro wz hSz; obtain ⟨z0, z1⟩ := hSz; go_simp; first | done | with_reducible rfl
    try simp only [Act.put, List.setIfInBounds_toArray, List.set_cons_zero, List.set_cons_succ]
    refine wpAnyL_take (i := 4) (v := ?_) (by rw [List.getElem?_toArray]; rfl) (by decide +kernel) (by decide +kernel) (by decide +kernel) (by decide +kernel) (by decide +kernel) (fun _ _ _ h => h) hS0 (Or.inl ⟨by rfl, ?_⟩) ?_
    rotate_left
    · intro wz hSz; obtain ⟨z0, z1⟩ := hSz; go_simp; first | done | with_reducible rfl
    try simp only [Act.put, List.setIfInBounds_toArray, List.set_cons_zero, List.set_cons_succ]
    refine wpAnyL_two (i := 1) (k := 6) (by kernel_rfl) (by rw [List.getElem?_toArray]; rfl) (by rw [List.getElem?_toArray]; rfl) (fun K hK => ?_) (fun K hK => ?_)
    · have HK : Hid _ := hK
      clear hK
      go_simp
      refine (HMem.out w3.drew (Below.refl w3.heap.size w3).drew).mono ?_
      rintro e wx ⟨rfl, hw⟩
      have hw := hw.symm
      subst hw
      refine HK.out _ _ (fun _ => hS0) ?_
      clear HK K
      try simp only [Act.put, List.setIfInBounds_toArray, List.set_cons_zero, List.set_cons_succ]
      refine wpAnyL_two (i := 5) (k := 6) (by kernel_rfl) (by rw [List.getElem?_toArray]; rfl) (by rw [List.getElem?_toArray]; rfl) (fun K hK => ?_) (fun K hK => ?_)
      · have HK : Hid _ := hK
        clear hK
        go_simp
        refine (HTh.out w3.drew (Below.refl w3.heap.size w3).drew).mono ?_
        rintro e w4 ⟨rfl, hb4⟩
        have H4 : Hid (Below w3.heap.size w3 w4) := bel_up' (Below.refl w3.heap.size w3).drew hb4
        clear hb4
        refine HK.out _ _ (fun _ => HSk.out _ H4.out) ?_
        clear HK K
        try simp only [Act.put, List.setIfInBounds_toArray, List.set_cons_zero, List.set_cons_succ]
        refine wpAnyL_one (i := 6) (by kernel_rfl) (by rw [List.getElem?_toArray]; rfl) (fun K hK => ?_)
        have HK : Hid _ := hK
        clear hK
        go_simp
        obtain ⟨wN, hwN⟩ : ∃ wN, wN = w4.alloc (.cells #[.int .i64 0, .int .i64 0] 59) := ⟨_, rfl⟩
        obtain ⟨bN, hbN⟩ : ∃ bN, bN = w4.heap.size := ⟨_, rfl⟩
        have HN : Hid (W2 bN 0 0 wN ∧ Below w3.heap.size w3 wN ∧ w3.heap.size ≤ bN) := by
          have := H4.out.size
          rw [hwN, hbN]
          exact ⟨W2.new 0 0 w4, bel_up' H4.out ((Below.refl _ _).alloc (Nat.le_refl _) _), this⟩
        rw [← hwN, ← hbN]
        clear hwN hbN
        refine HK.out _ _ (fun _ => HSk.out _ HN.out.2.1) ?_
        clear HK K
        try simp only [Act.put, List.setIfInBounds_toArray, List.set_cons_zero, List.set_cons_succ]
        refine wpAnyL_one (i := 7) (by kernel_rfl) (by rw [List.getElem?_toArray]; rfl) (fun K hK => ?_)
        have HK : Hid _ := hK
        clear hK
        have m0 := HN.out.1.c0
        have m1 := HN.out.1.c1
        have mf0 := HN.out.1.free 0
        have mf1 := HN.out.1.free 1
        have n1 := (HN.out.1.put0 (off : Int)).c1
        have nf1 := (HN.out.1.put0 (off : Int)).free 1
        go_simp
        obtain ⟨wS, hwS⟩ : ∃ wS, wS = (wN.setCell ⟨bN, 0, none⟩ (.int .i64 (off : Nat))).setCell ⟨bN, 1, none⟩ (.int .i64 (bm : Nat)) := ⟨_, rfl⟩
        have HS5 : Hid (W2 bN off bm wS ∧ Below w3.heap.size w3 wS) := by
          rw [hwS]
          have hbn := HN.out.2.2
          exact ⟨(HN.out.1.put0 _).put1 _, (HN.out.2.1.setCell (by show w3.heap.size ≤ bN; omega) _).setCell (by show w3.heap.size ≤ bN; omega) _⟩
        rw [← hwS]
        clear hwS m0 m1 mf0 mf1 n1 nf1
        refine HK.out _ _ (fun _ => HSk.out _ HS5.out.2) ?_
        clear HK K
        try simp only [Act.put, List.setIfInBounds_toArray, List.set_cons_zero, List.set_cons_succ]
        refine wpAnyL_done (by kernel_rfl) (NoPanic.normal ?_)
        go_wp2
        go_meet
        case rel => exact ⟨bN, rfl, HS5.out.1, HS5.out.2, HN.out.2.2⟩
      · have HK : Hid _ := hK
        clear hK
        go_simp
        obtain ⟨wA, hwA⟩ : ∃ wA, wA = w3.drew.alloc (.cells #[.int .i64 0, .int .i64 0] 59) := ⟨_, rfl⟩
        have hwA' : (w3.alloc (.cells #[.int .i64 0, .int .i64 0] 59)).drew = wA := by rw [hwA]; rfl
        obtain ⟨bN, hbN⟩ : ∃ bN, bN = w3.heap.size := ⟨_, rfl⟩
        have HA : Hid (W2 bN 0 0 wA ∧ Below w3.heap.size w3 wA ∧ bN = w3.heap.size) := by
          rw [hwA, hbN]
          exact ⟨W2.new 0 0 w3.drew, (Below.refl _ _).drew.alloc (Nat.le_refl _) _, rfl⟩
        first | rw [hwA'] | rw [← hwA]
        try rw [← hbN]
        clear hwA hwA' hbN
        refine HK.out _ _ (fun _ => HSk.out _ HA.out.2.1) ?_
        clear HK K
        try simp only [Act.put, List.setIfInBounds_toArray, List.set_cons_zero, List.set_cons_succ]
        refine wpAnyL_one (i := 5) (by kernel_rfl) (by rw [List.getElem?_toArray]; rfl) (fun K hK => ?_)
        have HK : Hid _ := hK
        clear hK
        go_simp
        refine (HTh.out wA HA.out.2.1).mono ?_
        rintro e wN ⟨rfl, hb4⟩
        have HN : Hid (W2 bN 0 0 wN ∧ Below w3.heap.size w3 wN ∧ w3.heap.size ≤ bN) := ⟨HA.out.1.below hb4, bel_up' HA.out.2.1 hb4, by rw [HA.out.2.2]; exact Nat.le_refl _⟩
        clear hb4
        refine HK.out _ _ (fun _ => HSk.out _ HN.out.2.1) ?_
        clear HK K
        try simp only [Act.put, List.setIfInBounds_toArray, List.set_cons_zero, List.set_cons_succ]
        refine wpAnyL_one (i := 7) (by kernel_rfl) (by rw [List.getElem?_toArray]; rfl) (fun K hK => ?_)
        have HK : Hid _ := hK
        clear hK
        have m0 := HN.out.1.c0
        have m1 := HN.out.1.c1
        have mf0 := HN.out.1.free 0
        have mf1 := HN.out.1.free 1
        have n1 := (HN.out.1.put0 (off : Int)).c1
        have nf1 := (HN.out.1.put0 (off : Int)).free 1
        go_simp
        obtain ⟨wS, hwS⟩ : ∃ wS, wS = (wN.setCell ⟨bN, 0, none⟩ (.int .i64 (off : Nat))).setCell ⟨bN, 1, none⟩ (.int .i64 (bm : Nat)) := ⟨_, rfl⟩
        have HS5 : Hid (W2 bN off bm wS ∧ Below w3.heap.size w3 wS) := by
          rw [hwS]
          have hbn := HN.out.2.2
          exact ⟨(HN.out.1.put0 _).put1 _, (HN.out.2.1.setCell (by show w3.heap.size ≤ bN; omega) _).setCell (by show w3.heap.size ≤ bN; omega) _⟩
        rw [← hwS]
        clear hwS m0 m1 mf0 mf1 n1 nf1
        refine HK.out _ _ (fun _ => HSk.out _ HS5.out.2) ?_
        clear HK K
        try simp only [Act.put, List.setIfInBounds_toArray, List.set_cons_zero, List.set_cons_succ]
        refine wpAnyL_done (by kernel_rfl) (NoPanic.normal ?_)
        go_wp2
        go_meet
        case rel => exact ⟨bN, rfl, HS5.out.1, HS5.out.2, HN.out.2.2⟩
    · have HK : Hid _ := hK
      clear hK
      go_simp
      obtain ⟨wA, hwA⟩ : ∃ wA, wA = w3.drew.alloc (.cells #[.int .i64 0, .int .i64 0] 59) := ⟨_, rfl⟩
      have hwA' : (w3.alloc (.cells #[.int .i64 0, .int .i64 0] 59)).drew = wA := by rw [hwA]; rfl
      obtain ⟨bN, hbN⟩ : ∃ bN, bN = w3.heap.size := ⟨_, rfl⟩
      have HA : Hid (W2 bN 0 0 wA ∧ Below w3.heap.size w3 wA ∧ bN = w3.heap.size) := by
        rw [hwA, hbN]
        exact ⟨W2.new 0 0 w3.drew, (Below.refl _ _).drew.alloc (Nat.le_refl _) _, rfl⟩
      first | rw [hwA'] | rw [← hwA]
      try rw [← hbN]
      clear hwA hwA' hbN
      refine HK.out _ _ (fun _ => HSk.out _ HA.out.2.1) ?_
      clear HK K
      try simp only [Act.put, List.setIfInBounds_toArray, List.set_cons_zero, List.set_cons_succ]
      refine wpAnyL_one (i := 1) (by kernel_rfl) (by rw [List.getElem?_toArray]; rfl) (fun K hK => ?_)
      have HK : Hid _ := hK
      clear hK
      go_simp
      refine (HMem.out wA HA.out.2.1).mono ?_
      rintro e wx ⟨rfl, hw⟩
      have hw := hw.symm
      subst hw
      refine HK.out _ _ (fun _ => HSk.out _ HA.out.2.1) ?_
      clear HK K
      try simp only [Act.put, List.setIfInBounds_toArray, List.set_cons_zero, List.set_cons_succ]
      refine wpAnyL_one (i := 5) (by kernel_rfl) (by rw [List.getElem?_toArray]; rfl) (fun K hK => ?_)
      have HK : Hid _ := hK
      clear hK
      go_simp
      refine (HTh.out wA HA.out.2.1).mono ?_
      rintro e wN ⟨rfl, hb4⟩
      have HN : Hid (W2 bN 0 0 wN ∧ Below w3.heap.size w3 wN ∧ w3.heap.size ≤ bN) := ⟨HA.out.1.below hb4, bel_up' HA.out.2.1 hb4, by rw [HA.out.2.2]; exact Nat.le_refl _⟩
      clear hb4
      refine HK.out _ _ (fun _ => HSk.out _ HN.out.2.1) ?_
      clear HK K
      try simp only [Act.put, List.setIfInBounds_toArray, List.set_cons_zero, List.set_cons_succ]
      refine wpAnyL_one (i := 7) (by kernel_rfl) (by rw [List.getElem?_toArray]; rfl) (fun K hK => ?_)
      have HK : Hid _ := hK
      clear hK
      have m0 := HN.out.1.c0
      have m1 := HN.out.1.c1
      have mf0 := HN.out.1.free 0
      have mf1 := HN.out.1.free 1
      have n1 := (HN.out.1.put0 (off : Int)).c1
      have nf1 := (HN.out.1.put0 (off : Int)).free 1
      go_simp
      obtain ⟨wS, hwS⟩ : ∃ wS, wS = (wN.setCell ⟨bN, 0, none⟩ (.int .i64 (off : Nat))).setCell ⟨bN, 1, none⟩ (.int .i64 (bm : Nat)) := ⟨_, rfl⟩
      have HS5 : Hid (W2 bN off bm wS ∧ Below w3.heap.size w3 wS) := by
        rw [hwS]
        have hbn := HN.out.2.2
        exact ⟨(HN.out.1.put0 _).put1 _, (HN.out.2.1.setCell (by show w3.heap.size ≤ bN; omega) _).setCell (by show w3.heap.size ≤ bN; omega) _⟩
      rw [← hwS]
      clear hwS m0 m1 mf0 mf1 n1 nf1
      refine HK.out _ _ (fun _ => HSk.out _ HS5.out.2) ?_
      clear HK K
      try simp only [Act.put, List.setIfInBounds_toArray, List.set_cons_zero, List.set_cons_succ]
      refine wpAnyL_done (by kernel_rfl) (NoPanic.normal ?_)
      go_wp2
      go_meet
      case rel => exact ⟨bN, rfl, HS5.out.1, HS5.out.2, HN.out.2.2⟩
  case rest =>
    rename World => w5
    obtain ⟨bR, rfl, HR⟩ := hcut
    clear HTh HMem
    go_upto_region 6 with fail
    refine wp_region_noPanic ?_
    have hS0 : W2 bR off bm w5.drew ∧ w5.drew.cell? ⟨b7, 0, none⟩ = some (.int .i64 (N : Nat)) := ⟨HR.out.1, (HSk.out w5 HR.out.2.1).2⟩
    refine wp_region_L (S := fun wx => W2 bR off bm wx ∧ wx.cell? ⟨b7, 0, none⟩ = some (.int .i64 (N : Nat))) [] (by kernel_rfl) ?_
    refine wpAnyL_take (i := 0) (v := ?_) (by rw [List.getElem?_toArray]; rfl) (by decide +kernel) (by decide +kernel) (by decide +kernel) (by decide +kernel) (by decide +kernel) (fun _ _ _ h => h) hS0 (Or.inl ⟨by rfl, ?_⟩) ?_
    rotate_left
    · intro wz hSz; obtain ⟨zz, z1⟩ := hSz; have z0 := W2.c0 zz; have z2 := W2.c1 zz; go_simp; first | done | with_reducible rfl
    try simp only [Act.put, List.setIfInBounds_toArray, List.set_cons_zero, List.set_cons_succ]
    refine wpAnyL_take (i := 1) (v := ?_) (by rw [List.getElem?_toArray]; rfl) (by decide +kernel) (by decide +kernel) (by decide +kernel) (by decide +kernel) (by decide +kernel) (fun _ _ _ h => h) hS0 (Or.inl ⟨by rfl, ?_⟩) ?_
    rotate_left
    · intro wz hSz; obtain ⟨zz, z1⟩ := hSz; have z0 := W2.c0 zz; have z2 := W2.c1 zz; go_simp; first | done | with_reducible rfl
    try simp only [Act.put, List.setIfInBounds_toArray, List.set_cons_zero, List.set_cons_succ]
    refine wpAnyL_take (i := 3) (v := ?_) (by rw [List.getElem?_toArray]; rfl) (by decide +kernel) (by decide +kernel) (by decide +kernel) (by decide +kernel) (by decide +kernel) (fun _ _ _ h => h) hS0 (Or.inl ⟨by rfl, ?_⟩) ?_
    rotate_left
    · intro wz hSz; obtain ⟨zz, z1⟩ := hSz; have z0 := W2.c0 zz; have z2 := W2.c1 zz; go_simp; first | done | with_reducible rfl
    try simp only [Act.put, List.setIfInBounds_toArray, List.set_cons_zero, List.set_cons_succ]
    refine wpAnyL_take (i := 4) (v := ?_) (by rw [List.getElem?_toArray]; rfl) (by decide +kernel) (by decide +kernel) (by decide +kernel) (by decide +kernel) (by decide +kernel) (fun _ _ _ h => h) hS0 (Or.inl ⟨by rfl, ?_⟩) ?_
    rotate_left
    · intro wz hSz; obtain ⟨zz, z1⟩ := hSz; have z0 := W2.c0 zz; have z2 := W2.c1 zz; go_simp; first | done | with_reducible rfl
    try simp only [Act.put, List.setIfInBounds_toArray, List.set_cons_zero, List.set_cons_succ]
    refine wpAnyL_one (i := 2) (by kernel_rfl) (by rw [List.getElem?_toArray]; rfl) (fun K hK => ?_)
    have HK : Hid _ := hK
    clear hK
    go_simp
    refine (wbits_any (a := off) (k := bm) (n := N) hN20 hbm w5.drew).mono ?_
    rintro e w6 ⟨v, rfl, hv6, hb6⟩
    have H6 : Hid (OwnI w5.heap.size v (zl N fun j => ((bitN N bm j : Nat) : Int)) w6 ∧ Below w5.heap.size w5 w6) := ⟨hv6, bel_up' (Below.refl w5.heap.size w5).drew hb6⟩
    have hS6 : W2 bR off bm w6 ∧ w6.cell? ⟨b7, 0, none⟩ = some (.int .i64 (N : Nat)) := ⟨W2.below hS0.1 hb6, (hb6.cell (p := ⟨b7, 0, none⟩) (cell_lt hS0.2)).trans hS0.2⟩
    clear hv6 hb6
    refine HK.out _ _ (fun _ => hS6) ?_
    clear HK K
    try simp only [Act.put, List.setIfInBounds_toArray, List.set_cons_zero, List.set_cons_succ]
    refine wpAnyL_one (i := 5) (by kernel_rfl) (by rw [List.getElem?_toArray]; rfl) (fun K hK => ?_)
    have HK : Hid _ := hK
    clear hK
    go_simp
    refine HK.out _ _ (fun _ => hS6) ?_
    clear HK K
    try simp only [Act.put, List.setIfInBounds_toArray, List.set_cons_zero, List.set_cons_succ]
    refine wpAnyL_one (i := 6) (by kernel_rfl) (by rw [List.getElem?_toArray]; rfl) (fun K hK => ?_)
    have HK : Hid _ := hK
    clear hK
    go_simp
    refine HK.out _ _ (fun _ => hS6) ?_
    clear HK K
    try simp only [Act.put, List.setIfInBounds_toArray, List.set_cons_zero, List.set_cons_succ]
    refine wpAnyL_one (i := 7) (by kernel_rfl) (by rw [List.getElem?_toArray]; rfl) (fun K hK => ?_)
    have HK : Hid _ := hK
    clear hK
    go_simp
    refine HK.out _ _ (fun _ => hS6) ?_
    clear HK K
    try simp only [Act.put, List.setIfInBounds_toArray, List.set_cons_zero, List.set_cons_succ]
    refine wpAnyL_done (by kernel_rfl) (NoPanic.normal ?_)
    go_wp2
    refine bodyPost_ret (v := .tuple #[v, .int .i64 (off : Nat), .int .i64 0]) (by simp [results, Try.results22, go_sem]) rfl ?_
    exact ⟨bm, v, HB.out.1, by rw [HB.out.2], H6.out.1.mono (by have := HR.out.2.1.size; have := HSz.out; omega), bel_up' (bel_up' HW3.out HR.out.2.1) H6.out.2⟩
end Go.Proofs.Ytlljaliemldjkaa
