/- Cyclic: the walk of TopTurned. -/
import Derived.Test.YtppggchhkckobaaGreatZKT9
import Derived.Test.YtppggchhkckobaaGreatZS2
import Derived.Test.YtppggchhkckobaaGreatZS14
import Derived.Test.YtppggchhkckobaaGreatZI5
import Derived.Test.YtppggchhkckobaaGreatZR5
import Derived.BigQuiet
namespace Go.Proofs.YtppggchhkckobaaGreat
open Go.RowKit Go.Sort

set_option maxHeartbeats 2000000 in
set_option maxRecDepth 100000 in
theorem topTurned_long (m k : Int) {ao bo : Option Addr} {n c n' c' : Nat} (w : World) (hn : 256 < n + n') (h1 : n ≤ 17592186044416) (h2 : n' ≤ 17592186044416) :
    Calls Tryz.prog 5 #[.slice ao n c, .int .i64 m, .int .i64 k, .slice bo n' c'] w fun e w' => e = .returned (.bool true) ∧ Below w.heap.size w w' := by
  obtain ⟨S, hS⟩ : ∃ S, S = n + n' := ⟨_, rfl⟩
  have hSi : (n : Int) + (n' : Int) = (S : Int) := by omega
  have hSw : IntKind.i64.wrap (S : Int) = (S : Int) := wrap_to rfl (by omega)
  have h3 : (S : Int) > 256 := by omega
  have h4 : (256 : Int) < (S : Int) := by omega
  clear hn hS
  go_enter Tryz.func5, Tryz.ntmps5
  go_wp2
  go_ret
  exact ⟨rfl, Below.refl _ _⟩
theorem twd_list {n : Nat} (hn : 1 ≤ n) (v : Nat → Nat) : [((v (n - 1) : Nat) : Int)] ++ zl (n - 1) (fun i => ((v i : Nat) : Int)) = zl n fun i => ((twd n v i : Nat) : Int) := by
  refine List.ext_getElem? (fun j => ?_)
  by_cases hj : j < n
  · rw [zl_get _ _ _ hj]
    cases j with
    | zero => rfl
    | succ j =>
      rw [List.singleton_append, List.getElem?_cons_succ, zl_get _ _ _ (by omega)]
      show some ((v j : Nat) : Int) = some (((if j + 1 = 0 then v (n - 1) else if j + 1 < n then v (j + 1 - 1) else 0) : Nat) : Int)
      rw [if_neg (by omega), if_pos hj, Nat.add_sub_cancel]
  · rw [List.getElem?_eq_none (by rw [List.length_append, zl_len]; simp; omega), List.getElem?_eq_none (by rw [zl_len]; omega)]
theorem slz_nat {ao : Option Addr} {n : Nat} {y : Nat → Int} {w : World} (h : SlZ ao n y w) (h0 : ∀ i, i < n → 0 ≤ y i) : SlZ ao n (fun i => (((y i).toNat : Nat) : Int)) w := fun i hi => by
  obtain ⟨b, off, e, hc⟩ := h i hi
  refine ⟨b, off, e, ?_⟩
  rw [hc]
  have := h0 i hi
  show some (Value.int .i64 (y i)) = some (Value.int .i64 (((y i).toNat : Nat) : Int))
  rw [Int.toNat_of_nonneg this]

set_option maxHeartbeats 16000000 in
set_option maxRecDepth 100000 in
theorem topTurned_walk {ao bo : Option Addr} {l ca lb cb : Nat} {z y : Nat → Int} {wh many : Int} {w : World} (hw : I64 wh) (hm : I64 many) (ha : Arg ao l ca z w) (hy : Arg bo lb cb y w) (hn : l + lb ≤ 256) :
    Calls Tryz.prog 5 #[.slice ao l ca, .int .i64 wh, .int .i64 many, .slice bo lb cb] w fun r w' => r = .returned (.bool true) ∧ Below w.heap.size w w' := by
  have HA : Hid (Arg ao l ca z w ∧ Arg bo lb cb y w) := ⟨ha, hy⟩
  obtain ⟨x4, hx4, hpe⟩ : ∃ x : Nat, x < 4 ∧ ∀ wx : World, Calls Tryz.prog 23 #[.int .i64 many, .int .i64 4] wx fun e w' => e = .returned (.int .i64 (x : Nat)) ∧ w' = wx := by
    have a1 := pick_lo many 4 (by omega)
    have a2 := pick_hi many 4 (by omega)
    refine ⟨(pick many 4).toNat, by omega, fun wx => ?_⟩
    rw [Int.toNat_of_nonneg a1]
    exact pick_any many 4 wx hm.1 hm.2 (by omega) (by omega)
  have HP : Hid (∀ wx : World, Calls Tryz.prog 23 #[.int .i64 many, .int .i64 4] wx fun e w' => e = .returned (.int .i64 (x4 : Nat)) ∧ w' = wx) := hpe
  have HC : Hid (I64 wh) := hw
  have hnb : ¬ (256 : Int) < (l : Int) + (lb : Int) := by omega
  clear ha hy hw hm hpe
  go_enter Tryz.func5, Tryz.ntmps5
  go_wp2_with fail
  refine (sizeOf_top HC.out.1 HC.out.2 w).mono ?_
  rintro e w1 ⟨q, n, rfl, hst, hb1⟩
  obtain ⟨E, hq, hz⟩ := stb_of hst
  subst hq
  have hn1 := hz.n1
  have hn64 := hz.n64
  have hE64 : E.q ≤ 64 := (fld hz.fld).q64
  have h2q := (fld hz.fld).q2
  have H1 : Hid (Szo E n ∧ Below w.heap.size w w1) := ⟨hz, hb1⟩
  clear hz hb1 hst HC
  go_wp2_with fail
  refine (HP.out w1).mono ?_
  rintro e w1' ⟨rfl, hw1⟩
  have hw1 := hw1.symm
  subst hw1
  go_wp2_with fail
  refine (numbers_any (HA.out.1.below H1.out.2) (by omega) 0 n x4 (by omega) (by omega) (by omega) (by omega)).mono ?_
  rintro e w2 ⟨v2, y2, rfl, ho2, hbl2, hb2⟩
  obtain ⟨zo, zc2, rfl, hA2⟩ := ho2.argL
  have H2 : Hid (ArgL zo x4 zc2 y2 w2 ∧ Blw n x4 y2 ∧ Below w.heap.size w w2) := ⟨hA2, hbl2, bel_up' H1.out.2 hb2⟩
  clear ho2 hbl2 hb2 hA2
  go_wp2_with fail
  refine (gen_top H1.out.1 (z := fun i => (y2 i).toNat) (by omega) (slz_nat H2.out.1.sl (fun i hi => (H2.out.2.1 i hi).1)) H2.out.1.lt (fun i hi => by have := H2.out.2.1 i hi; omega)).mono ?_
  rintro e w3 ⟨go, M, cg, g, Q, K, rfl, hAg, hdv, hb3⟩
  have hM1 := hdv.m1
  have hKM := hdv.sum
  have H3 : Hid (Arg go M cg (fun j => ((g j : Nat) : Int)) w3 ∧ Dvs E n g Q M K ∧ Below w.heap.size w w3) := ⟨hAg, hdv, bel_up' H2.out.2.2 hb3⟩
  clear hAg hdv hb3 H2
  go_wp2_with fail
  refine (cOf_ok H1.out.1.fld H3.out.1 hM1 H3.out.2.1.el H3.out.2.1.bd H3.out.2.1.top hn1 hn64 hKM H3.out.2.1.elQ H3.out.2.1.bdQ H3.out.2.1.topQ H3.out.2.1.mul).mono ?_
  rintro e w4 ⟨k, R, ro, rc, rfl, hcod, hred, hb4⟩
  have hkK := psh_red H1.out.1.fld hM1 H3.out.2.1.el H3.out.2.1.bd H3.out.2.1.top hKM hred
  subst hkK
  obtain ⟨k2, R2, hdu⟩ := hred.dul H1.out.1.fld
  obtain ⟨w5, hw5⟩ : ∃ w5, w5 = w4.alloc (.cells #[.int .i64 E.q, .int .i64 (n : Nat), .slice ro k rc] 35) := ⟨_, rfl⟩
  obtain ⟨g1, g2, g3⟩ := box_at E.q (n : Nat) (.slice ro k rc) w4
  rw [← hw5] at g1 g2 g3
  have H5 : Hid (Szo E n ∧ Dvs E n g Q M k ∧ Cod E n ro k R w5 ∧ Red E n k (fun i => psh i g) k R ∧ Dul E n k R k2 R2 ∧ CB w4.heap.size E.q (n : Nat) (.slice ro k rc) w5 ∧ Below w.heap.size w w5) := ⟨H1.out.1, H3.out.2.1, hcod.below g1, hred, hdu, g2, bel_up' (bel_up' H3.out.2.2 hb4) g1⟩
  clear hcod hred hdu hb4 g1 g2 g3 H1 H3
  have hM0 : ((M : Int) == 0) = false := by rw [beq_eq_false_iff_ne]; omega
  have hsb : (n : Int) - (M : Int) + 1 = (k : Int) := by omega
  have hzs : ((k : Int) != (k : Int)) = false := by rw [bne_eq_false_iff_eq]
  obtain ⟨qc0, qc1, qc2⟩ := H5.out.2.2.2.2.2.1
  have hlc := cell_lt qc0
  rw [hw5] at qc0 qc1 qc2 hlc
  go_upto_region 7 with fail
  rw [← hw5]
  rw [← hw5] at qc0 qc1 qc2 hlc
  clear hw5
  obtain ⟨B, hB⟩ : ∃ B, B = w4.heap.size := ⟨_, rfl⟩
  rw [← hB] at H5 qc0 qc1 qc2 hlc
  rw [← hB]
  clear hB
  go_upto_region 9 with fail
  clear qc0 qc1 qc2 hlc hM0 hzs
  go_cut [16, 13] (fun vd ve wx => ∃ v gr c, vd = .slice (some ⟨gr, 0, none⟩) n c ∧ ve = .int .i64 0 ∧ Hid (Wrd n v gr c wx ∧ (El E v ∧ Spn E (RowsOf k R) v) ∧ Below w5.heap.size w5 wx))
  case first =>
    have HK5 : Hid (∀ wx, Below w5.heap.size w5 wx → (fun wx => CB B E.q (n : Nat) (.slice ro k rc) wx) wx) := fun wx hx => H5.out.2.2.2.2.2.1.keep hx
    have hS5 := HK5.out _ (Below.refl w5.heap.size w5).drew
    refine wp_region_noPanic ?_
    refine wp_region_X (S := (fun wx => CB B E.q (n : Nat) (.slice ro k rc) wx)) 12 (by kernel_rfl) ?_
    refine wpAnyX_take (i := 0) (v := ?_) (by rw [List.getElem?_toArray]; rfl) (by kernel_rfl) (by kernel_rfl) (by kernel_rfl) (by kernel_rfl) (fun _ _ _ h => h) hS5 (Or.inl ⟨by rfl, ?_⟩) ?_
    rotate_left
    · intro wz hSz; obtain ⟨z0, z1, z2⟩ := hSz; go_simp; first | done | with_reducible rfl
    try simp only [Act.put, List.setIfInBounds_toArray, List.set_cons_zero, List.set_cons_succ]
    refine wpAnyX_take (i := 1) (v := ?_) (by rw [List.getElem?_toArray]; rfl) (by kernel_rfl) (by kernel_rfl) (by kernel_rfl) (by kernel_rfl) (fun _ _ _ h => h) hS5 (Or.inl ⟨by rfl, ?_⟩) ?_
    rotate_left
    · intro wz hSz; obtain ⟨z0, z1, z2⟩ := hSz; go_simp; first | done | with_reducible rfl
    try simp only [Act.put, List.setIfInBounds_toArray, List.set_cons_zero, List.set_cons_succ]
    refine wpAnyX_take (i := 2) (v := ?_) (by rw [List.getElem?_toArray]; rfl) (by kernel_rfl) (by kernel_rfl) (by kernel_rfl) (by kernel_rfl) (fun _ _ _ h => h) hS5 (Or.inl ⟨by rfl, ?_⟩) ?_
    rotate_left
    · intro wz hSz; obtain ⟨z0, z1, z2⟩ := hSz; go_simp; first | done | with_reducible rfl
    try simp only [Act.put, List.setIfInBounds_toArray, List.set_cons_zero, List.set_cons_succ]
    refine wpAnyX_take (i := 3) (v := ?_) (by rw [List.getElem?_toArray]; rfl) (by kernel_rfl) (by kernel_rfl) (by kernel_rfl) (by kernel_rfl) (fun _ _ _ h => h) hS5 (Or.inl ⟨by rfl, ?_⟩) ?_
    rotate_left
    · intro wz hSz; obtain ⟨z0, z1, z2⟩ := hSz; go_simp; first | done | with_reducible rfl
    try simp only [Act.put, List.setIfInBounds_toArray, List.set_cons_zero, List.set_cons_succ]
    refine wpAnyX_take (i := 4) (v := ?_) (by rw [List.getElem?_toArray]; rfl) (by kernel_rfl) (by kernel_rfl) (by kernel_rfl) (by kernel_rfl) (fun _ _ _ h => h) hS5 (Or.inl ⟨by rfl, ?_⟩) ?_
    rotate_left
    · intro wz hSz; obtain ⟨z0, z1, z2⟩ := hSz; go_simp; first | done | with_reducible rfl
    try simp only [Act.put, List.setIfInBounds_toArray, List.set_cons_zero, List.set_cons_succ]
    refine wpAnyX_take (i := 5) (v := ?_) (by rw [List.getElem?_toArray]; rfl) (by kernel_rfl) (by kernel_rfl) (by kernel_rfl) (by kernel_rfl) (fun _ _ _ h => h) hS5 (Or.inl ⟨by rfl, ?_⟩) ?_
    rotate_left
    · intro wz hSz; obtain ⟨z0, z1, z2⟩ := hSz; go_simp; first | done | with_reducible rfl
    try simp only [Act.put, List.setIfInBounds_toArray, List.set_cons_zero, List.set_cons_succ]
    refine wpAnyX_one (i := 6) (by kernel_rfl) (by rw [List.getElem?_toArray]; rfl) (fun K9 hK => ?_)
    have HK : Hid _ := hK
    clear hK
    go_simp
    refine (numbers_any (HA.out.2.below (bel_up' H5.out.2.2.2.2.2.2 (Below.refl w5.heap.size w5).drew)) (by omega) 0 E.q k (by omega) (by omega) (by omega) (by omega)).mono ?_
    rintro e w10 ⟨v10, y10, rfl, ho, hbl, hb⟩
    obtain ⟨yo, cy, rfl, hA⟩ := ho.argL
    have H10 : Hid (Arg yo k cy y10 w10 ∧ E.nchk k y10 (k : Nat) = 0 ∧ Below w5.heap.size w5 w10) := ⟨hA.arg (by omega), blw_nchk hbl, bel_up' (Below.refl w5.heap.size w5).drew hb⟩
    clear hA hbl hb ho
    refine HK.out _ _ (fun _ => HK5.out _ H10.out.2.2) ?_
    clear HK K9
    try simp only [Act.put, List.setIfInBounds_toArray, List.set_cons_zero, List.set_cons_succ]
    refine wpAnyX_one (i := 7) (by kernel_rfl) (by rw [List.getElem?_toArray]; rfl) (fun K9 hK => ?_)
    have HK : Hid _ := hK
    clear hK
    go_simp
    refine ((H5.out.2.2.1.below H10.out.2.2).encode H5.out.1.fld rc H10.out.1 H5.out.2.2.2.1.self H10.out.2.1).mono ?_
    rintro e w11 ⟨v, gr, c, rfl, hw, hv, hb⟩
    have H11 : Hid (Wrd n v gr c w11 ∧ (El E v ∧ Spn E (RowsOf k R) v) ∧ Below w5.heap.size w5 w11) := ⟨hw, hv, bel_up' H10.out.2.2 hb⟩
    clear hw hv hb
    refine HK.out _ _ (fun _ => HK5.out _ H11.out.2.2) ?_
    clear HK K9
    try simp only [Act.put, List.setIfInBounds_toArray, List.set_cons_zero, List.set_cons_succ]
    refine wpAnyX_one (i := 8) (by kernel_rfl) (by rw [List.getElem?_toArray]; rfl) (fun K9 hK => ?_)
    have HK : Hid _ := hK
    clear hK
    go_simp
    refine HK.out _ _ (fun _ => HK5.out _ H11.out.2.2) ?_
    clear HK K9
    try simp only [Act.put, List.setIfInBounds_toArray, List.set_cons_zero, List.set_cons_succ]
    have hS11 := HK5.out _ H11.out.2.2
    refine wpAnyX_take (i := 9) (v := ?_) (by rw [List.getElem?_toArray]; rfl) (by kernel_rfl) (by kernel_rfl) (by kernel_rfl) (by kernel_rfl) (fun _ _ _ h => h) hS11 (Or.inl ⟨by rfl, ?_⟩) ?_
    rotate_left
    · intro wz hSz; obtain ⟨z0, z1, z2⟩ := hSz; go_simp; first | done | with_reducible rfl
    try simp only [Act.put, List.setIfInBounds_toArray, List.set_cons_zero, List.set_cons_succ]
    refine wpAnyX_take (i := 10) (v := ?_) (by rw [List.getElem?_toArray]; rfl) (by kernel_rfl) (by kernel_rfl) (by kernel_rfl) (by kernel_rfl) (fun _ _ _ h => h) hS11 (Or.inl ⟨by rfl, ?_⟩) ?_
    rotate_left
    · intro wz hSz; obtain ⟨z0, z1, z2⟩ := hSz; go_simp; first | done | with_reducible rfl
    try simp only [Act.put, List.setIfInBounds_toArray, List.set_cons_zero, List.set_cons_succ]
    refine wpAnyX_one (i := 11) (by kernel_rfl) (by rw [List.getElem?_toArray]; rfl) (fun K9 hK => ?_)
    have HK : Hid _ := hK
    clear hK
    go_simp
    refine HK.out _ _ (fun _ => HK5.out _ H11.out.2.2) ?_
    clear HK K9
    try simp only [Act.put, List.setIfInBounds_toArray, List.set_cons_zero, List.set_cons_succ]
    refine wpAnyX_one (i := 12) (by kernel_rfl) (by rw [List.getElem?_toArray]; rfl) (fun K9 hK => ?_)
    have HK : Hid _ := hK
    clear hK
    go_simp
    refine HK.out _ _ (fun h => absurd rfl h) ?_
    clear HK K9
    try simp only [Act.put, List.setIfInBounds_toArray, List.set_cons_zero, List.set_cons_succ]
    refine wpAnyX_done (by kernel_rfl) (NoPanic.normal ?_)
    go_wp2
    go_meet
    case rel => exact ⟨v, gr, c, rfl, rfl, H11.out⟩
  case rest =>
    rename World => w12
    obtain ⟨v, gr, c, rfl, rfl, HV⟩ := hcut
    have H12 : Hid (Szo E n ∧ Dvs E n g Q M k ∧ Cod E n ro k R w12 ∧ Red E n k (fun i => psh i g) k R ∧ Dul E n k R k2 R2 ∧ CB B E.q (n : Nat) (.slice ro k rc) w12 ∧ Below w.heap.size w w12) := ⟨H5.out.1, H5.out.2.1, H5.out.2.2.1.below HV.out.2.2, H5.out.2.2.2.1, H5.out.2.2.2.2.1, H5.out.2.2.2.2.2.1.keep HV.out.2.2, bel_up' H5.out.2.2.2.2.2.2 HV.out.2.2⟩
    have HV2 : Hid (Wrd n v gr c w12 ∧ El E v ∧ Spn E (RowsOf k R) v) := ⟨HV.out.1, HV.out.2.1⟩
    have hnc : n ≤ c := HV.out.1.2.1
    have hcc : c ≤ 9223372036854775807 := HV.out.1.2.2
    clear HV H5
    obtain ⟨N1, hN1⟩ : ∃ N1, n = N1 + 1 := ⟨n - 1, by omega⟩
    have hni : (n : Int) - 1 = (N1 : Int) := by omega
    have hlt1 : (N1 : Int) < (n : Int) := by omega
    have hlt0 : (0 : Int) ≤ (N1 : Int) := by omega
    have hlt2 : (N1 : Int) ≤ (c : Int) := by omega
    obtain ⟨vl, hvl⟩ : ∃ vl, vl = v N1 := ⟨_, rfl⟩
    have HT : Hid ([(vl : Int)] ++ zl N1 (fun i => ((v i : Nat) : Int)) = zl n fun i => ((twd n v i : Nat) : Int)) := by
      have h := twd_list hn1 v
      rw [show n - 1 = N1 by omega, ← hvl] at h
      exact h
    have HK5 : Hid (∀ wx, Below w12.heap.size w12 wx → (fun wx => CB B E.q (n : Nat) (.slice ro k rc) wx ∧ wx.cell? ⟨gr, N1, none⟩ = some (.int .i64 (vl : Nat))) wx) := fun wx hx => ⟨H12.out.2.2.2.2.2.1.keep hx, by
      obtain ⟨b, off, e, hc⟩ := (HV2.out.1.below hx).1.sl (Nat.le_refl _) N1 (by omega)
      cases e
      rw [Nat.zero_add, ← hvl] at hc
      exact hc⟩
    clear hvl
    have hN2 : N1 < n := by omega
    have hNw : IntKind.i64.wrap (N1 : Int) = (N1 : Int) := wrap_to rfl (by omega)
    clear hN1
    have hS5 := HK5.out _ (Below.refl w12.heap.size w12).drew
    have hzn : ((n : Int) != (n : Int)) = false := by rw [bne_eq_false_iff_eq]
    go_upto_region 12 with fail
    go_cut [17, 13] (fun vd ve wx => vd = .bool true ∧ ve = .int .i64 0 ∧ Hid (Below w12.heap.size w12 wx))
    case first =>
      refine wp_region_noPanic ?_
      refine wp_region_X (S := (fun wx => CB B E.q (n : Nat) (.slice ro k rc) wx ∧ wx.cell? ⟨gr, N1, none⟩ = some (.int .i64 (vl : Nat)))) 17 (by kernel_rfl) ?_
      obtain ⟨x0, hx0⟩ : ∃ x0, x0 = w12.drew := ⟨_, rfl⟩
      have F0 : Hid (Below w12.heap.size w12 x0) := by rw [hx0]; exact (Below.refl _ _).drew
      rw [← hx0] at hS5
      rw [← hx0]
      clear hx0
      refine wpAnyX_take (i := 0) (v := ?_) (by rw [List.getElem?_toArray]; rfl) (by kernel_rfl) (by kernel_rfl) (by kernel_rfl) (by kernel_rfl) (fun _ _ _ h => h) hS5 (Or.inl ⟨by rfl, ?_⟩) ?_
      rotate_left
      · intro wz hSz; obtain ⟨⟨z0, z1, z2⟩, z3⟩ := hSz; go_simp; (try simp only [hNw]); (try go_simp); first | done | with_reducible rfl
      try simp only [Act.put, List.setIfInBounds_toArray, List.set_cons_zero, List.set_cons_succ]
      refine wpAnyX_take (i := 1) (v := ?_) (by rw [List.getElem?_toArray]; rfl) (by kernel_rfl) (by kernel_rfl) (by kernel_rfl) (by kernel_rfl) (fun _ _ _ h => h) hS5 (Or.inl ⟨by rfl, ?_⟩) ?_
      rotate_left
      · intro wz hSz; obtain ⟨⟨z0, z1, z2⟩, z3⟩ := hSz; go_simp; (try simp only [hNw]); (try go_simp); first | done | with_reducible rfl
      try simp only [Act.put, List.setIfInBounds_toArray, List.set_cons_zero, List.set_cons_succ]
      refine wpAnyX_take (i := 2) (v := ?_) (by rw [List.getElem?_toArray]; rfl) (by kernel_rfl) (by kernel_rfl) (by kernel_rfl) (by kernel_rfl) (fun _ _ _ h => h) hS5 (Or.inl ⟨by rfl, ?_⟩) ?_
      rotate_left
      · intro wz hSz; obtain ⟨⟨z0, z1, z2⟩, z3⟩ := hSz; go_simp; (try simp only [hNw]); (try go_simp); first | done | with_reducible rfl
      try simp only [Act.put, List.setIfInBounds_toArray, List.set_cons_zero, List.set_cons_succ]
      refine wpAnyX_take (i := 3) (v := ?_) (by rw [List.getElem?_toArray]; rfl) (by kernel_rfl) (by kernel_rfl) (by kernel_rfl) (by kernel_rfl) (fun _ _ _ h => h) hS5 (Or.inl ⟨by rfl, ?_⟩) ?_
      rotate_left
      · intro wz hSz; obtain ⟨⟨z0, z1, z2⟩, z3⟩ := hSz; go_simp; (try simp only [hNw]); (try go_simp); first | done | with_reducible rfl
      try simp only [Act.put, List.setIfInBounds_toArray, List.set_cons_zero, List.set_cons_succ]
      refine wpAnyX_take (i := 4) (v := ?_) (by rw [List.getElem?_toArray]; rfl) (by kernel_rfl) (by kernel_rfl) (by kernel_rfl) (by kernel_rfl) (fun _ _ _ h => h) hS5 (Or.inl ⟨by rfl, ?_⟩) ?_
      rotate_left
      · intro wz hSz; obtain ⟨⟨z0, z1, z2⟩, z3⟩ := hSz; go_simp; (try simp only [hNw]); (try go_simp); first | done | with_reducible rfl
      try simp only [Act.put, List.setIfInBounds_toArray, List.set_cons_zero, List.set_cons_succ]
      refine wpAnyX_take (i := 5) (v := ?_) (by rw [List.getElem?_toArray]; rfl) (by kernel_rfl) (by kernel_rfl) (by kernel_rfl) (by kernel_rfl) (fun _ _ _ h => h) hS5 (Or.inl ⟨by rfl, ?_⟩) ?_
      rotate_left
      · intro wz hSz; obtain ⟨⟨z0, z1, z2⟩, z3⟩ := hSz; go_simp; (try simp only [hNw]); (try go_simp); first | done | with_reducible rfl
      try simp only [Act.put, List.setIfInBounds_toArray, List.set_cons_zero, List.set_cons_succ]
      refine wpAnyX_take (i := 7) (v := ?_) (by rw [List.getElem?_toArray]; rfl) (by kernel_rfl) (by kernel_rfl) (by kernel_rfl) (by kernel_rfl) (fun _ _ _ h => h) hS5 (Or.inl ⟨by rfl, ?_⟩) ?_
      rotate_left
      · intro wz hSz; obtain ⟨⟨z0, z1, z2⟩, z3⟩ := hSz; go_simp; (try simp only [hNw]); (try go_simp); first | done | with_reducible rfl
      try simp only [Act.put, List.setIfInBounds_toArray, List.set_cons_zero, List.set_cons_succ]
      refine wpAnyX_take (i := 8) (v := ?_) (by rw [List.getElem?_toArray]; rfl) (by kernel_rfl) (by kernel_rfl) (by kernel_rfl) (by kernel_rfl) (fun _ _ _ h => h) hS5 (Or.inl ⟨by rfl, ?_⟩) ?_
      rotate_left
      · intro wz hSz; obtain ⟨⟨z0, z1, z2⟩, z3⟩ := hSz; go_simp; (try simp only [hNw]); (try go_simp); first | done | with_reducible rfl
      try simp only [Act.put, List.setIfInBounds_toArray, List.set_cons_zero, List.set_cons_succ]
      refine wpAnyX_take (i := 9) (v := ?_) (by rw [List.getElem?_toArray]; rfl) (by kernel_rfl) (by kernel_rfl) (by kernel_rfl) (by kernel_rfl) (fun _ _ _ h => h) hS5 (Or.inl ⟨by rfl, ?_⟩) ?_
      rotate_left
      · intro wz hSz; obtain ⟨⟨z0, z1, z2⟩, z3⟩ := hSz; go_simp; (try simp only [hNw]); (try go_simp); first | done | with_reducible rfl
      try simp only [Act.put, List.setIfInBounds_toArray, List.set_cons_zero, List.set_cons_succ]
      refine wpAnyX_take (i := 10) (v := ?_) (by rw [List.getElem?_toArray]; rfl) (by kernel_rfl) (by kernel_rfl) (by kernel_rfl) (by kernel_rfl) (fun _ _ _ h => h) hS5 (Or.inl ⟨by rfl, ?_⟩) ?_
      rotate_left
      · intro wz hSz; obtain ⟨⟨z0, z1, z2⟩, z3⟩ := hSz; go_simp; (try simp only [hNw]); (try go_simp); first | done | with_reducible rfl
      try simp only [Act.put, List.setIfInBounds_toArray, List.set_cons_zero, List.set_cons_succ]
      refine wpAnyX_one (i := 6) (by kernel_rfl) (by rw [List.getElem?_toArray]; rfl) (fun K9 hK => ?_)
      have HK : Hid _ := hK
      clear hK
      go_simp
      obtain ⟨x1, hx1⟩ : ∃ x1, x1 = x0.alloc (.cells #[.int .i64 (vl : Nat)] 3) := ⟨_, rfl⟩
      obtain ⟨gT, hgT⟩ : ∃ gT, gT = x0.heap.size := ⟨_, rfl⟩
      have F1 : Hid (OwnI w12.heap.size (.slice (some ⟨gT, 0, none⟩) 1 1) [(vl : Int)] x1 ∧ Below w12.heap.size w12 x1) := by
        rw [hx1, hgT]
        exact ⟨(ownI_lit x0 [(vl : Int)] (by simp)).mono F0.out.size, F0.out.alloc F0.out.size _⟩
      try rw [← hx1]
      try rw [← hgT]
      clear hx1 hgT
      refine HK.out _ _ (fun _ => HK5.out _ F1.out.2) ?_
      clear HK K9
      try simp only [Act.put, List.setIfInBounds_toArray, List.set_cons_zero, List.set_cons_succ]
      refine wpAnyX_one (i := 11) (by kernel_rfl) (by rw [List.getElem?_toArray]; rfl) (fun K9 hK => ?_)
      have HK : Hid _ := hK
      clear hK
      refine step_append_ints (by rfl) _ _ (by rfl) w12.heap.size (.slice (some ⟨gT, 0, none⟩) 1 1) [(vl : Int)] (by rfl) F1.out.1 (some ⟨gr, 0, none⟩) N1 c (fun i => ((v i : Nat) : Int)) (by rfl) (fun i hi => (HV2.out.1.below F1.out.2).1.sl (Nat.le_refl _) i (by omega)) (fun h => by cases h) (by show 1 + N1 ≤ 1000000; omega) F1.out.2.size w12 F1.out.2 (Nat.le_refl _) ?_
      intro v3 w3 ho3 _ hb3
      rw [HT.out] at ho3
      obtain ⟨yo, cy, rfl, hA3⟩ := ho3.argL
      have F3 : Hid (Arg yo n cy (fun i => ((twd n v i : Nat) : Int)) w3 ∧ Below w12.heap.size w12 w3) := ⟨hA3.arg (by omega), hb3⟩
      clear ho3 hb3 hA3
      refine HK.out _ _ (fun _ => HK5.out _ F3.out.2) ?_
      clear HK K9
      try simp only [Act.put, List.setIfInBounds_toArray, List.set_cons_zero, List.set_cons_succ]
      refine wpAnyX_one (i := 12) (by kernel_rfl) (by rw [List.getElem?_toArray]; rfl) (fun K9 hK => ?_)
      have HK : Hid _ := hK
      clear hK
      go_simp
      have hspn : Spn E (RowsOf k R) (twd n v) := by
        obtain ⟨_, _, hiff⟩ := H12.out.2.2.2.1
        exact (hiff _).2 (twd_spn (fld H12.out.1.fld) hM1 H12.out.2.1.el H12.out.2.1.bd hKM hn1 H12.out.2.1.mul ((hiff _).1 HV2.out.2.2))
      refine ((H12.out.2.2.1.below F3.out.2).hasA H12.out.1.fld rc F3.out.1 (twd_el (fld H12.out.1.fld) HV2.out.2.1) hspn H12.out.2.2.2.2.1).mono ?_
      clear hspn
      rintro e w4 ⟨rfl, hb4⟩
      have F4 : Hid (Below w12.heap.size w12 w4) := bel_up' F3.out.2 hb4
      clear hb4
      refine HK.out _ _ (fun _ => HK5.out _ F4.out) ?_
      clear HK K9
      try simp only [Act.put, List.setIfInBounds_toArray, List.set_cons_zero, List.set_cons_succ]
      refine wpAnyX_one (i := 13) (by kernel_rfl) (by rw [List.getElem?_toArray]; rfl) (fun K9 hK => ?_)
      have HK : Hid _ := hK
      clear hK
      go_simp
      refine HK.out _ _ (fun _ => HK5.out _ F4.out) ?_
      clear HK K9
      try simp only [Act.put, List.setIfInBounds_toArray, List.set_cons_zero, List.set_cons_succ]
      have hS11 := HK5.out _ F4.out
      refine wpAnyX_take (i := 14) (v := ?_) (by rw [List.getElem?_toArray]; rfl) (by kernel_rfl) (by kernel_rfl) (by kernel_rfl) (by kernel_rfl) (fun _ _ _ h => h) hS11 (Or.inl ⟨by rfl, ?_⟩) ?_
      rotate_left
      · intro wz hSz; obtain ⟨⟨z0, z1, z2⟩, z3⟩ := hSz; go_simp; first | done | with_reducible rfl
      try simp only [Act.put, List.setIfInBounds_toArray, List.set_cons_zero, List.set_cons_succ]
      refine wpAnyX_take (i := 15) (v := ?_) (by rw [List.getElem?_toArray]; rfl) (by kernel_rfl) (by kernel_rfl) (by kernel_rfl) (by kernel_rfl) (fun _ _ _ h => h) hS11 (Or.inl ⟨by rfl, ?_⟩) ?_
      rotate_left
      · intro wz hSz; obtain ⟨⟨z0, z1, z2⟩, z3⟩ := hSz; go_simp; first | done | with_reducible rfl
      try simp only [Act.put, List.setIfInBounds_toArray, List.set_cons_zero, List.set_cons_succ]
      refine wpAnyX_one (i := 16) (by kernel_rfl) (by rw [List.getElem?_toArray]; rfl) (fun K9 hK => ?_)
      have HK : Hid _ := hK
      clear hK
      go_simp
      refine HK.out _ _ (fun _ => HK5.out _ F4.out) ?_
      clear HK K9
      try simp only [Act.put, List.setIfInBounds_toArray, List.set_cons_zero, List.set_cons_succ]
      refine wpAnyX_one (i := 17) (by kernel_rfl) (by rw [List.getElem?_toArray]; rfl) (fun K9 hK => ?_)
      have HK : Hid _ := hK
      clear hK
      go_simp
      refine HK.out _ _ (fun h => absurd rfl h) ?_
      clear HK K9
      try simp only [Act.put, List.setIfInBounds_toArray, List.set_cons_zero, List.set_cons_succ]
      refine wpAnyX_done (by kernel_rfl) (NoPanic.normal ?_)
      go_wp2
      go_meet
      case rel => exact ⟨rfl, rfl, F4.out⟩
    case rest =>
      rename World => w13
      obtain ⟨rfl, rfl, HF⟩ := hcut
      have HR : Hid (Below w.heap.size w w13) := bel_up' H12.out.2.2.2.2.2.2 HF.out
      clear hS5 HK5
      go_wp2
      go_ret
      exact ⟨by first | rfl | simp, HR.out⟩
end Go.Proofs.YtppggchhkckobaaGreat
