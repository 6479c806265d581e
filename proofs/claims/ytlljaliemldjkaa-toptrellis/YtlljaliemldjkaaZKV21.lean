/- Trellises: Chances (printed by make/kv21.py). -/
import Derived.Test.YtlljaliemldjkaaZKV20
import Derived.Test.YtlljaliemldjkaaZI15
namespace Go.Proofs.Ytlljaliemldjkaa
open Go.RowKit Go.Sort

theorem shA_one : (#[.int .i64 1, .int .i64 0, .int .i64 0, .int .i64 0, .int .i64 0, .int .i64 0, .int .i64 0, .int .i64 0, .int .i64 0, .int .i64 0, .int .i64 0, .int .i64 0, .int .i64 0, .int .i64 0, .int .i64 0, .int .i64 0, .int .i64 0, .int .i64 0, .int .i64 0, .int .i64 0, .int .i64 0] : Array Value) = shA sh1 := by kernel_rfl
/-- The four variables of a call. -/
theorem four_new (ao so : Option Addr) (R ca l sc : Nat) (a b : Int) (w : World) : ∃ w4, w4 = (((w.alloc (.cells #[.slice ao R ca] 22)).alloc (.cells #[.slice so l sc] 22)).alloc (.cells #[.int .i64 a] 3)).alloc (.cells #[.int .i64 b] 3) ∧
    Below w.heap.size w w4 ∧ w4.cell? ⟨w.heap.size, 0, none⟩ = some (.slice ao R ca) ∧ w4.cell? ⟨w.heap.size + 1, 0, none⟩ = some (.slice so l sc) ∧ w4.cell? ⟨w.heap.size + 1 + 1, 0, none⟩ = some (.int .i64 a) ∧ w4.cell? ⟨w.heap.size + 1 + 1 + 1, 0, none⟩ = some (.int .i64 b) := by
  refine ⟨_, rfl, ((((Below.refl _ _).alloc (Nat.le_refl _) _).alloc (by simp) _).alloc (by simp; omega) _).alloc (by simp; omega) _, ?_⟩
  obtain ⟨w1, h1⟩ : ∃ w1, w1 = w.alloc (.cells #[.slice ao R ca] 22) := ⟨_, rfl⟩
  obtain ⟨w2, h2⟩ : ∃ w2, w2 = w1.alloc (.cells #[.slice so l sc] 22) := ⟨_, rfl⟩
  obtain ⟨w3, h3⟩ : ∃ w3, w3 = w2.alloc (.cells #[.int .i64 a] 3) := ⟨_, rfl⟩
  obtain ⟨w4, h4⟩ : ∃ w4, w4 = w3.alloc (.cells #[.int .i64 b] 3) := ⟨_, rfl⟩
  rw [← h1, ← h2, ← h3, ← h4]
  have s1 : w1.heap.size = w.heap.size + 1 := by rw [h1]; simp
  have s2 : w2.heap.size = w.heap.size + 1 + 1 := by rw [h2]; simp [s1]
  have s3 : w3.heap.size = w.heap.size + 1 + 1 + 1 := by rw [h3]; simp [s2]
  have c1 : w1.cell? ⟨w.heap.size, 0, none⟩ = some (.slice ao R ca) := by rw [h1, cell_of_row _ _ _ _ _ (0, 0) (World.alloc_heap_new w _)]; rfl
  have c2 : w2.cell? ⟨w.heap.size + 1, 0, none⟩ = some (.slice so l sc) := by rw [h2, ← s1, cell_of_row _ _ _ _ _ (0, 0) (World.alloc_heap_new w1 _)]; rfl
  have c3 : w3.cell? ⟨w.heap.size + 1 + 1, 0, none⟩ = some (.int .i64 a) := by rw [h3, ← s2, cell_of_row _ _ _ _ _ (0, 0) (World.alloc_heap_new w2 _)]; rfl
  have c4 : w4.cell? ⟨w.heap.size + 1 + 1 + 1, 0, none⟩ = some (.int .i64 b) := by rw [h4, ← s3, cell_of_row _ _ _ _ _ (0, 0) (World.alloc_heap_new w3 _)]; rfl
  have b2 : Below w1.heap.size w1 w2 := by rw [h2]; exact (Below.refl _ _).alloc (Nat.le_refl _) _
  have b3 : Below w2.heap.size w2 w3 := by rw [h3]; exact (Below.refl _ _).alloc (Nat.le_refl _) _
  have b4 : Below w3.heap.size w3 w4 := by rw [h4]; exact (Below.refl _ _).alloc (Nat.le_refl _) _
  exact ⟨((bel_up' (bel_up' b2 b3) b4).cell (p := ⟨w.heap.size, 0, none⟩) (cell_lt c1)).trans c1, ((bel_up' b3 b4).cell (p := ⟨w.heap.size + 1, 0, none⟩) (cell_lt c2)).trans c2, (b4.cell (p := ⟨w.heap.size + 1 + 1, 0, none⟩) (cell_lt c3)).trans c3, c4⟩

set_option maxHeartbeats 8000000 in
set_option maxRecDepth 100000 in
theorem tch_ok {ao so : Option Addr} {R ca l sc N a b : Nat} {z : Nat → Nat} {y : Nat → Int} {w : World} (hX : RlA ao R z w) (hY : SlZ so l y w) (hYl : LtB so w.heap.size) (hl : l ≤ 24) (hE : lgE (mmr z R) R l y = 0) (hN : lgN (mmr z R) R l y = N) (hN11 : N ≤ 11) (hb1 : 1 ≤ b) (hb4 : b ≤ 4) (hab : a ≤ b) :
    Calls Try.prog 24 #[.slice ao R ca, .slice so l sc, .int .i64 (a : Nat), .int .i64 (b : Nat)] w fun e w' => ∃ v, e = .returned (.tuple #[v, .int .i64 (shE z R y a b N (mmr z R) 0 : Nat), .int .i64 0]) ∧ OwnI w.heap.size v (zl N fun j => ((shE z R y a b N (mmr z R) (1 + j) : Nat) : Int)) w' ∧ Below w.heap.size w w' := by
  obtain ⟨d, hu⟩ := und_sh
  have hlg := lgE_ok hE
  rw [hN] at hlg
  obtain ⟨M, hM⟩ : ∃ M, M = mmr z R := ⟨_, rfl⟩
  have hM4 : M ≤ 4 := by rw [hM]; exact mmr_le z R
  have hR3 := hX.rz.few
  have hzM : ∀ j, j < R → z j < 2 ^ (M + 1) := fun j hj => by
    have h1 := orz_le (z := z) R hj
    have h2 := mbl_pow (hX.rz.orz R (Nat.le_refl _)) hX.rz.pos
    rw [hM]; unfold mmr; omega
  rw [← hM] at hE hN hlg ⊢
  have hN20z : (N : Int) ≤ 20 := by omega
  obtain ⟨ar, har⟩ : ∃ ar, ar = shE z R y a b N M := ⟨_, rfl⟩
  rw [← har]
  obtain ⟨al, hal⟩ : ∃ al, al = ar 0 := ⟨_, rfl⟩
  have HAl : Hid (al = ar 0) := hal
  rw [← hal]
  obtain ⟨w4, hw4, hbw4, k1, k2, k3, k4⟩ := four_new ao so R ca l sc (a : Int) (b : Int) w
  have H4 : Hid (Below w.heap.size w w4) := hbw4
  have HL : Hid (Calls Try.prog 13 #[.slice ao R ca, .slice so l sc] w4 fun e w' => e = .returned (.tuple #[.int .i64 (N : Nat), .int .i64 0]) ∧ ∃ d, w' = w4.drewN d) := by
    have h := tlength_any (ca := ca) (sc := sc) (hX.below hbw4).rz (hY.below hbw4 hYl) (by omega)
    rw [← hM, hE, hN] at h
    exact h
  have hCC : ChC w.heap.size (w.heap.size + 1) (w.heap.size + 1 + 1) (w.heap.size + 1 + 1 + 1) ao so R ca l sc a b z y w4 := ⟨k1, k2, k3, k4, hX.below hbw4, hY.below hbw4 hYl, hYl.mono hbw4.size⟩
  obtain ⟨B, hB⟩ : ∃ B, B = w.heap.size := ⟨_, rfl⟩
  rw [← hB] at hCC
  have hfew := sh_few R (by omega) N (by omega) M (by omega) (by rw [← hlg.1]; exact hl)
  have hpow : ∀ k, k < N + M → 2 ^ N * 4 ^ (R * (k + 1)) ≤ 2 ^ N * 4 ^ (R * (N + M)) := fun k hk => Nat.mul_le_mul_left _ (Nat.pow_le_pow_right (by omega) (Nat.mul_le_mul_left R hk))
  have h2M : 1 ≤ 2 ^ M := Nat.pow_pos (by omega)
  have HMem : Hid (∀ wx, Below w4.heap.size w4 wx → Calls Try.prog 27 #[.slice ao R ca] wx fun e w' => e = .returned (.int .i64 (M : Nat)) ∧ w' = wx) := fun wx hb => by rw [hM]; exact tmemory_any (hCC.rl.below hb).rz
  have HTh : Hid (∀ wx, Below w4.heap.size w4 wx → Calls Try.prog 43 #[.int .i64 (M : Nat), .int .i64 (N : Nat), .agg (shA sh1), .func (.func 40) #[] #[.pointer (some ⟨B, 0, none⟩), .pointer (some ⟨B + 1, 0, none⟩), .pointer (some ⟨B + 1 + 1, 0, none⟩), .pointer (some ⟨B + 1 + 1 + 1, 0, none⟩)], .func (.func 44) #[] #[]] wx fun e w' => e = .returned (.agg (shA ar)) ∧ Below wx.heap.size wx w') := fun wx hb => by
    refine throughS_any (st := chW z R y a b) (Ok := fun k s => ∀ i, s i ≤ 2 ^ N * 4 ^ (R * k)) (a0 := sh1) (ar := ar) hM4 (by omega) (fun k x s wy hk hx hOk hby => ?_) (fun k s p _ h i => thF_le hab hb4 k s p h i) (fun k V s bb ts tv hk hV hbb h i _ => ?_) (by rw [har]; exact sh_end hzM)
    · have hx32 : x < 32 := Nat.lt_of_lt_of_le hx (Nat.pow_le_pow_right (n := 2) (by omega) (show M + 1 ≤ 5 by omega))
      refine cstep_any (hCC.below (bel_up' hb hby)) (by omega) ?_ (by omega) hab hb4 (fun _ => by omega) (fun i _ => ?_)
      · rw [hlg.1, Nat.mul_comm]
        exact Nat.mul_le_mul_left R hk
      · have h1 : s i * cpw z R y a b k x ≤ 2 ^ N * 4 ^ (R * k) * 4 ^ R := Nat.mul_le_mul (hOk i) (cpw_le hab hb4 k x)
        rw [Nat.mul_assoc, ← Nat.pow_add, ← Nat.mul_succ] at h1
        have h2 := hpow k hk
        have h3 : 2 ^ N * 4 ^ (R * (N + M)) ≤ (2 * 2 ^ M + 2) * (2 ^ N * 4 ^ (R * (N + M))) := Nat.le_mul_of_pos_left _ (by omega)
        exact Nat.lt_of_le_of_lt (Nat.le_trans h1 (Nat.le_trans h2 h3)) hfew
    · have h1 := pbF_le hab hb4 k V s bb ts tv hV hbb h i
      exact Nat.lt_of_le_of_lt (Nat.le_trans h1 (Nat.mul_le_mul_left _ (hpow k hk))) hfew
  have z1 : ¬ (b : Int) < 1 := by omega
  have z2 : ¬ (4 : Int) < (b : Int) := by omega
  have z3 : ¬ (a : Int) < 0 := by omega
  have z4 : ¬ (b : Int) < (a : Int) := by omega
  have z5 : ¬ (24 : Int) < (l : Int) := by omega
  have hone := shA_one
  have hz := shA_zero
  have HK4 : Hid (ChC B (B + 1) (B + 1 + 1) (B + 1 + 1 + 1) ao so R ca l sc a b z y w4) := hCC
  have HN20 : Hid (N ≤ 20) := by show N ≤ 20; omega
  rw [hw4] at k1 k2 k3 k4
  clear hX hY hYl hE hN hlg hM hzM hfew hpow h2M har hal hCC hbw4 hb1 hb4 hab hl hR3
  go_enter Try.func24, Try.ntmps24
  go_wp2_with fail
  rw [← hw4, ← hB]
  clear hw4 k1 k2 k3 k4
  refine HL.out.mono ?_
  rintro e w5 ⟨rfl, d5, hw5⟩
  have H5 : Hid (Below w4.heap.size w4 w5) := by rw [hw5]; exact below_drewN2 (Below.refl _ _) d5
  have k1 : w5.cell? ⟨B, 0, none⟩ = some (.slice ao R ca) := (HK4.out.below H5.out).c1
  have k2 : w5.cell? ⟨B + 1, 0, none⟩ = some (.slice so l sc) := (HK4.out.below H5.out).c2
  have k3 : w5.cell? ⟨B + 1 + 1, 0, none⟩ = some (.int .i64 (a : Nat)) := (HK4.out.below H5.out).c3
  have k4 : w5.cell? ⟨B + 1 + 1 + 1, 0, none⟩ = some (.int .i64 (b : Nat)) := (HK4.out.below H5.out).c4
  have HB : Hid (B = w.heap.size) := hB
  clear hw5 HL hB
  go_wp2_with fail
  refine (HMem.out w5 H5.out).mono ?_
  rintro e w' ⟨rfl, hw⟩
  have hw := hw.symm
  subst hw
  go_wp2_with fail
  refine (HTh.out w5 H5.out).mono ?_
  rintro e w6 ⟨rfl, hb6⟩
  have H6 : Hid (Below w4.heap.size w4 w6) := bel_up' H5.out hb6
  clear hb6 k1 k2 k3 k4
  have hst := sh_fill w6 ar
  obtain ⟨w7, hw7⟩ : ∃ w7, w7 = w6.alloc (.cells (shA ar) 68) := ⟨_, rfl⟩
  obtain ⟨bR, hbR⟩ : ∃ bR, bR = w6.heap.size := ⟨_, rfl⟩
  have H7 : Hid (Sh bR ar w7 ∧ Below w.heap.size w w7) := by
    rw [hw7, hbR]
    exact ⟨Sh.new ar w6, bel_up' (bel_up' H4.out H6.out) ((Below.refl _ _).alloc (Nat.le_refl _) _)⟩
  go_upto_region 8 with fail
  rw [← hw7, ← hbR]
  clear hw7 hbR hst
  refine wp_region_noPanic ?_
  have hS0 : Sh bR ar w7.drew := H7.out.1
  refine wp_region_L (S := Sh bR ar) [] (by kernel_rfl) ?_
  refine wpAnyL_take (i := 0) (v := ?_) (by rw [List.getElem?_toArray]; rfl) (by decide +kernel) (by decide +kernel) (by decide +kernel) (by decide +kernel) (by decide +kernel) (fun _ _ _ h => h) hS0 (Or.inl ⟨by rfl, ?_⟩) ?_
  rotate_left
  · intro wz hSz; have z0 : wz.cell? ⟨bR, 0, none⟩ = some (.int .i64 (al : Nat)) := by rw [HAl.out]; exact Sh.cell hSz (by omega)
    go_simp; first | done | with_reducible rfl | (simp [hN20z]; first | done | with_reducible rfl)
  try simp only [Act.put, List.setIfInBounds_toArray, List.set_cons_zero, List.set_cons_succ]
  refine wpAnyL_take (i := 1) (v := ?_) (by rw [List.getElem?_toArray]; rfl) (by decide +kernel) (by decide +kernel) (by decide +kernel) (by decide +kernel) (by decide +kernel) (fun _ _ _ h => h) hS0 (Or.inl ⟨by rfl, ?_⟩) ?_
  rotate_left
  · intro wz hSz; have z0 : wz.cell? ⟨bR, 0, none⟩ = some (.int .i64 (al : Nat)) := by rw [HAl.out]; exact Sh.cell hSz (by omega)
    go_simp; first | done | with_reducible rfl | (simp [hN20z]; first | done | with_reducible rfl)
  try simp only [Act.put, List.setIfInBounds_toArray, List.set_cons_zero, List.set_cons_succ]
  refine wpAnyL_take (i := 2) (v := ?_) (by rw [List.getElem?_toArray]; rfl) (by decide +kernel) (by decide +kernel) (by decide +kernel) (by decide +kernel) (by decide +kernel) (fun _ _ _ h => h) hS0 (Or.inl ⟨by rfl, ?_⟩) ?_
  rotate_left
  · intro wz hSz; have z0 : wz.cell? ⟨bR, 0, none⟩ = some (.int .i64 (al : Nat)) := by rw [HAl.out]; exact Sh.cell hSz (by omega)
    go_simp; first | done | with_reducible rfl | (simp [hN20z]; first | done | with_reducible rfl)
  try simp only [Act.put, List.setIfInBounds_toArray, List.set_cons_zero, List.set_cons_succ]
  refine wpAnyL_take (i := 4) (v := ?_) (by rw [List.getElem?_toArray]; rfl) (by decide +kernel) (by decide +kernel) (by decide +kernel) (by decide +kernel) (by decide +kernel) (fun _ _ _ h => h) hS0 (Or.inl ⟨by rfl, ?_⟩) ?_
  rotate_left
  · intro wz hSz; have z0 : wz.cell? ⟨bR, 0, none⟩ = some (.int .i64 (al : Nat)) := by rw [HAl.out]; exact Sh.cell hSz (by omega)
    go_simp; first | done | with_reducible rfl | (simp [hN20z]; first | done | with_reducible rfl)
  try simp only [Act.put, List.setIfInBounds_toArray, List.set_cons_zero, List.set_cons_succ]
  refine wpAnyL_take (i := 5) (v := ?_) (by rw [List.getElem?_toArray]; rfl) (by decide +kernel) (by decide +kernel) (by decide +kernel) (by decide +kernel) (by decide +kernel) (fun _ _ _ h => h) hS0 (Or.inl ⟨by rfl, ?_⟩) ?_
  rotate_left
  · intro wz hSz; have z0 : wz.cell? ⟨bR, 0, none⟩ = some (.int .i64 (al : Nat)) := by rw [HAl.out]; exact Sh.cell hSz (by omega)
    go_simp; first | done | with_reducible rfl | (simp [hN20z]; first | done | with_reducible rfl)
  try simp only [Act.put, List.setIfInBounds_toArray, List.set_cons_zero, List.set_cons_succ]
  refine wpAnyL_one (i := 3) (by kernel_rfl) (by rw [List.getElem?_toArray]; rfl) (fun K hK => ?_)
  have HK : Hid _ := hK
  clear hK
  go_simp
  have HCl : Hid (Calls Try.prog 45 #[.slice (some ⟨bR, 1, none⟩) N 20] w7.drew fun e w' => ∃ v, e = .returned v ∧ OwnI w7.drew.heap.size v (zl N fun j => ((ar (1 + j) : Nat) : Int)) w' ∧ Below w7.drew.heap.size w7.drew w') := cloneI_any (fun j hj => ⟨bR, 1, rfl, Sh.cell hS0 (by have := HN20.out; omega)⟩) (by have := HN20.out; omega) (lt_of_block hS0)
  refine HCl.out.mono ?_
  rintro e w8 ⟨v, rfl, hv8, hb8⟩
  have H8 : Hid (OwnI w.heap.size v (zl N fun j => ((ar (1 + j) : Nat) : Int)) w8 ∧ Below w.heap.size w w8) := ⟨hv8.mono H7.out.2.size, bel_up' H7.out.2 (show Below w7.heap.size w7 w8 from bel_up' (Below.refl w7.heap.size w7).drew hb8)⟩
  have hS7 : Sh bR ar w8 := Sh.below hS0 hb8
  clear hv8 hb8
  refine HK.out _ _ (fun _ => hS7) ?_
  clear HK K
  try simp only [Act.put, List.setIfInBounds_toArray, List.set_cons_zero, List.set_cons_succ]
  refine wpAnyL_one (i := 6) (by kernel_rfl) (by rw [List.getElem?_toArray]; rfl) (fun K hK => ?_)
  have HK : Hid _ := hK
  clear hK
  go_simp
  refine HK.out _ _ (fun _ => hS7) ?_
  clear HK K
  try simp only [Act.put, List.setIfInBounds_toArray, List.set_cons_zero, List.set_cons_succ]
  refine wpAnyL_one (i := 7) (by kernel_rfl) (by rw [List.getElem?_toArray]; rfl) (fun K hK => ?_)
  have HK : Hid _ := hK
  clear hK
  go_simp
  refine HK.out _ _ (fun _ => hS7) ?_
  clear HK K
  try simp only [Act.put, List.setIfInBounds_toArray, List.set_cons_zero, List.set_cons_succ]
  refine wpAnyL_one (i := 8) (by kernel_rfl) (by rw [List.getElem?_toArray]; rfl) (fun K hK => ?_)
  have HK : Hid _ := hK
  clear hK
  go_simp
  refine HK.out _ _ (fun _ => hS7) ?_
  clear HK K
  try simp only [Act.put, List.setIfInBounds_toArray, List.set_cons_zero, List.set_cons_succ]
  refine wpAnyL_done (by kernel_rfl) (NoPanic.normal ?_)
  go_wp2
  refine bodyPost_ret (v := .tuple #[v, .int .i64 (al : Nat), .int .i64 0]) (by simp [results, Try.results24, go_sem]) rfl ?_
  exact ⟨v, rfl, H8.out⟩
end Go.Proofs.Ytlljaliemldjkaa
