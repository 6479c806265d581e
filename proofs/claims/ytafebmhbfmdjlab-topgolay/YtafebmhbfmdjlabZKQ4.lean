/- TopGolay: its walk (printed by make/kq4.py). -/
import Derived.Test.YtafebmhbfmdjlabZKQ3
import Derived.Test.YtafebmhbfmdjlabZS27
import Derived.Test.YtafebmhbfmdjlabZI35
namespace Go.Proofs.Ytafebmhbfmdjlab
open Go.RowKit Go.Sort

set_option maxHeartbeats 1000000 in
set_option maxRecDepth 100000 in
theorem topGolay_long {ao bo : Option Addr} {n ca m cb : Nat} (place : Int) (tern : Bool) (w : World) (hn : ¬ n + m ≤ 64) (hn2 : n ≤ 17592186044416) (hm2 : m ≤ 17592186044416) :
    Calls Try.prog 3 #[.int .i64 place, .slice ao n ca, .slice bo m cb, .bool tern] w fun e w' => e = .returned (.bool true) ∧ Below w.heap.size w w' := by
  obtain ⟨s, hs⟩ : ∃ s, s = n + m := ⟨_, rfl⟩
  have hsw : IntKind.i64.wrap ((n : Int) + (m : Int)) = (s : Int) := wrap_to (by omega) (by omega)
  have h1 : (64 : Int) < (s : Int) := by omega
  have hsb : s ≤ 35184372088832 := by omega
  clear hs
  go_enter Try.func3, Try.ntmps3
  go_wp2
  go_ret
  exact ⟨rfl, Below.refl _ _⟩

set_option maxHeartbeats 32000000 in
set_option maxRecDepth 100000 in
theorem topGolay_walk {ao bo : Option Addr} {n ca m cb : Nat} {z y : Nat → Int} (place : Int) (tern : Bool) {w : World} (ha : Arg ao n ca z w) (hb : Arg bo m cb y w) (hn : n + m ≤ 64) (hp : I64 place) :
    Calls Try.prog 3 #[.int .i64 place, .slice ao n ca, .slice bo m cb, .bool tern] w fun e w' => e = .returned (.bool true) ∧ Below w.heap.size w w' := by
  have HA : Hid (Arg ao n ca z w ∧ Arg bo m cb y w ∧ I64 place) := ⟨ha, hb, hp⟩
  obtain ⟨s, hs⟩ : ∃ s, s = n + m := ⟨_, rfl⟩
  have hsw : IntKind.i64.wrap ((n : Int) + (m : Int)) = (s : Int) := wrap_to (by omega) (by omega)
  have h1 : ¬ (64 : Int) < (s : Int) := by omega
  have hsb : s ≤ 64 := by omega
  have hnb : n ≤ 64 := by omega
  have hmb : m ≤ 64 := by omega
  clear hs ha hb hp hn
  go_enter Try.func3, Try.ntmps3
  go_wp2_with fail
  refine (bin_cod w).mono ?_
  rintro e w1 ⟨ro, rc, rfl, ⟨hc1, hrl1⟩, hb1⟩
  obtain ⟨w2, hw2⟩ : ∃ w2, w2 = w1.alloc (.cells #[.int .i64 2, .int .i64 24, .slice ro 12 rc] 25) := ⟨_, rfl⟩
  obtain ⟨bc, hbc⟩ : ∃ bc, bc = w1.heap.size := ⟨_, rfl⟩
  have H2 : Hid (Below w.heap.size w w2 ∧ Cod F2 24 ro 12 (lrs F2L) w2 ∧ RL (.slice ro 12 rc) 12 24 (lrs F2L) w2 ∧ CB bc 2 24 (.slice ro 12 rc) w2 ∧ RB bc w2 ∧ w2.heap.size = bc + 1 ∧ w.heap.size ≤ bc) := by
    obtain ⟨g1, g2, g3⟩ := box_at 2 24 (.slice ro 12 rc) w1
    have g4 := RB.new (.int .i64 2) (.int .i64 24) (.slice ro 12 rc) w1
    rw [← hw2] at g1 g2 g3 g4
    rw [hbc]
    exact ⟨bel_up' hb1 g1, hc1.below g1, hrl1.below g1, g2, g4, g3, hb1.size⟩
  clear hc1 hrl1 hb1
  go_upto_if 29 with fail
  rw [← hw2]
  try rw [← hbc]
  clear hw2 hbc
  go_cut [10] (fun v10 wx => ∃ (D : FD) (N K r : Nat) (R0 : Nat → Nat → Nat) (ro : Option Addr) (rc : Nat), v10 = .int .i64 (r : Nat) ∧ Hid (GoT D N K r R0 ∧ CB bc D.q N (.slice ro K rc) wx ∧ Cod D N ro K R0 wx ∧ RL (.slice ro K rc) K N R0 wx ∧ Below w.heap.size w wx))
  case first =>
    cases tern with
    | false =>
      go_wp2
      go_meet
      exact ⟨F2, 24, 12, 3, lrs F2L, ro, rc, rfl, got2, H2.out.2.2.2.1, H2.out.2.1, H2.out.2.2.1, H2.out.1⟩
    | true =>
      go_wp2_with fail
      refine (ternM_any w2).mono ?_
      rintro e w3 ⟨k, R, so, sc, rfl, ⟨B0, hB0, hmv⟩, hred, hb3⟩
      obtain ⟨w4, hw4⟩ : ∃ w4, w4 = laid w3 bc 3 12 (.slice so k sc) := ⟨_, rfl⟩
      have hbc2 := H2.out.2.2.2.2.2
      have hRB := H2.out.2.2.2.2.1.keep hb3
      have hmv4 : MV B0 (.slice so k sc) k 12 R w4 := by rw [hw4]; exact laid_mv hmv (by omega) _ _ _
      obtain ⟨e6, hc4, hrl4⟩ := cod_red F3_in F3_gol.2.1 hred hmv4 (by omega) (by omega)
      subst e6
      have H4 : Hid (CB bc 3 12 (.slice so 6 sc) w4 ∧ Cod F3 12 so 6 (lrs F3L) w4 ∧ RL (.slice so 6 sc) 6 12 (lrs F3L) w4 ∧ Below w.heap.size w w4) := ⟨by rw [hw4]; exact laid_cb hRB _ _ _, hc4, hrl4, by rw [hw4]; exact laid_below (below_two' H2.out.1 hb3) (by omega) _ _ _⟩
      obtain ⟨⟨x0, c0⟩, ⟨x1, c1⟩, ⟨x2, c2⟩, f0, f1, f2⟩ := hRB
      clear hmv hmv4 hred hb3 hc4 hrl4 hbc2 hB0
      unfold laid at hw4
      go_wp2
      rw [← hw4]
      clear hw4 c0 c1 c2 f0 f1 f2
      go_meet
      exact ⟨F3, 12, 6, 2, lrs F3L, so, sc, rfl, got3, H4.out⟩
  case rest =>
    obtain ⟨D, N, K, r, R0, ro, rc, rfl, HX⟩ := hcut
    obtain ⟨wA, hwA⟩ : ∃ wA, wA = wc := ⟨_, rfl⟩
    subst hwA
    clear H2
    have h2q := (fld HX.out.1.mem).q2
    have h64q := (fld HX.out.1.mem).q64
    have hN12 := HX.out.1.n1
    have hN24 := HX.out.1.n2
    have hr1 := HX.out.1.r1
    have hr3 := HX.out.1.r3
    obtain ⟨N1, hN1⟩ : ∃ N1, N1 = N - 1 := ⟨_, rfl⟩
    have hN1b : 11 ≤ N1 ∧ N1 ≤ 23 := by omega
    have HN1 : Hid (N1 = N - 1) := hN1
    have hK2 : (K : Int) * 2 = (N : Int) := by have := HX.out.1.two; omega
    have hKb : 6 ≤ K ∧ K ≤ 12 := by have := HX.out.1.two; omega
    have hNi : ¬ (N : Int) < 12 := by omega
    have hqi : ¬ (D.q : Int) < 2 := by omega
    clear hN1
    obtain ⟨c0, c1, c2⟩ := HX.out.2.1
    go_wp2_with fail
    clear c0 c1 c2
    refine (HX.out.1.dual rc HX.out.2.2.1).mono ?_
    rintro e w3 ⟨xo, xc, rfl, hrlx, hb3⟩
    obtain ⟨w4, hw4⟩ : ∃ w4, w4 = w3.alloc (.cells #[.int .i64 D.q, .int .i64 (N : Nat), .slice xo K xc] 25) := ⟨_, rfl⟩
    obtain ⟨g1, g2, g3⟩ := box_at D.q (N : Nat) (.slice xo K xc) w3
    rw [← hw4] at g1 g2 g3
    obtain ⟨bd, hbd⟩ : ∃ bd, bd = w3.heap.size := ⟨_, rfl⟩
    rw [← hbd] at g2
    have hb4 := bel_up' hb3 g1
    have H4 : Hid (Below wA.heap.size wA w4 ∧ RL (.slice xo K xc) K N R0 w4 ∧ RL (.slice ro K rc) K N R0 w4) := ⟨hb4, hrlx.below g1, HX.out.2.2.2.1.below hb4⟩
    obtain ⟨k0, k1, k2⟩ := HX.out.2.1.keep hb4
    obtain ⟨c0, c1, c2⟩ := g2
    clear hrlx hb3 g1 g3 hb4
    have HC : Hid (CB bc D.q N (.slice ro K rc) w4 ∧ CB bd D.q N (.slice xo K xc) w4) := ⟨⟨k0, k1, k2⟩, ⟨c0, c1, c2⟩⟩
    rw [hw4, hbd] at c0 c1 c2
    rw [hw4] at k0 k1 k2
    go_upto_region 9 with fail
    rw [← hw4]
    try rw [← hbd]
    clear hw4 hbd k0 k1 k2 c0 c1 c2
    obtain ⟨⟨k0, k1, k2⟩, ⟨c0, c1, c2⟩⟩ := HC.out
    have HSm : Hid (Calls Try.prog 7 #[.agg #[.int .i64 D.q, .int .i64 (N : Nat), .slice ro K rc], .agg #[.int .i64 D.q, .int .i64 (N : Nat), .slice xo K xc]] w4 fun e w' => e = .returned (.bool true) ∧ Below w4.heap.size w4 w') := rsameCode_any D.q N H4.out.2.2 H4.out.2.1 (by omega) (by omega)
    go_wp2_with fail
    clear k0 k1 k2 c0 c1 c2 HC
    refine HSm.out.mono ?_
    rintro e w5 ⟨rfl, hb5⟩
    have H5 : Hid (Below wA.heap.size wA w5) := bel_up' H4.out.1 hb5
    clear hb5 HSm
    obtain ⟨k0, k1, k2⟩ := HX.out.2.1.keep H5.out
    go_upto_region 11 with fail
    clear k0 k1 k2
    go_cut [13, 12] (fun v13 v12 wx => ∃ (bp : Nat) (po : Option Addr) (pc : Nat) (R1 : Nat → Nat → Nat) (p : Nat → Nat), v13 = .pointer (some ⟨bp, 0, none⟩) ∧ v12 = .int .i64 0 ∧ Hid (CB bp D.q N1 (.slice po K pc) wx ∧ Cod D N1 po K R1 wx ∧ RRE D N1 K R1 p ∧ Far D N1 K R1 (2 * r + 1) ∧ Below wA.heap.size wA wx))
    case first =>
      obtain ⟨P0, hP0, hP1⟩ := pick_nat6 (m := place) (k := N) (by omega)
      have HPk : Hid (∀ w : World, Calls Try.prog 9 #[.int .i64 place, .int .i64 (N : Nat)] w fun e w' => e = .returned (.int .i64 P0) ∧ w' = w) := fun w => by rw [← hP0]; exact pick_any place N w HA.out.2.2.1 HA.out.2.2.2 (by omega) (by omega)
      clear hP0
      have HK5 : Hid (∀ wx, Below w5.heap.size w5 wx → CB bc D.q N (.slice ro K rc) wx) := fun wx hx => HX.out.2.1.keep (bel_up' H5.out hx)
      have HPu : Hid (∀ wx, Below w5.heap.size w5 wx → Calls Try.prog 8 #[.agg #[.int .i64 D.q, .int .i64 (N : Nat), .slice ro K rc], .int .i64 (P0 : Nat)] wx fun x w' => ∃ po pc R' p, x = .returned (.tuple #[.agg #[.int .i64 D.q, .int .i64 (N1 : Nat), .slice po K pc], .int .i64 0]) ∧ (Cod D N1 po K R' w' ∧ MV wx.heap.size (.slice po K pc) K N1 R' w') ∧ RRE D N1 K R' p ∧ Far D N1 K R' (2 * r + 1) ∧ Below wx.heap.size wx w') := fun wx hx => HX.out.1.punct rc (HX.out.2.2.1.below (bel_up' H5.out hx)) hP1 HN1.out
      have hS0 := HK5.out _ (Below.refl w5.heap.size w5).drew
      have F0 : Hid (Below w5.heap.size w5 w5.drew) := (Below.refl _ _).drew
      refine wp_region_noPanic ?_
      refine wp_region_L (S := CB bc D.q N (.slice ro K rc)) [] (by kernel_rfl) ?_
      obtain ⟨x0, hx0⟩ : ∃ x0, x0 = w5.drew := ⟨_, rfl⟩
      rw [← hx0] at F0 hS0
      rw [← hx0]
      clear hx0
      refine wpAnyL_take (i := 0) (v := ?_) (by rw [List.getElem?_toArray]; rfl) (by decide +kernel) (by decide +kernel) (by decide +kernel) (by decide +kernel) (by decide +kernel) (fun _ _ _ h => h) hS0 (Or.inl ⟨by rfl, ?_⟩) ?_
      rotate_left
      · intro wz hSz; obtain ⟨z0, z1, z2⟩ := hSz; go_simp; first | done | with_reducible rfl | rfl
      try simp only [Act.put, List.setIfInBounds_toArray, List.set_cons_zero, List.set_cons_succ]
      refine wpAnyL_take (i := 1) (v := ?_) (by rw [List.getElem?_toArray]; rfl) (by decide +kernel) (by decide +kernel) (by decide +kernel) (by decide +kernel) (by decide +kernel) (fun _ _ _ h => h) hS0 (Or.inl ⟨by rfl, ?_⟩) ?_
      rotate_left
      · intro wz hSz; obtain ⟨z0, z1, z2⟩ := hSz; go_simp; first | done | with_reducible rfl | rfl
      try simp only [Act.put, List.setIfInBounds_toArray, List.set_cons_zero, List.set_cons_succ]
      refine wpAnyL_take (i := 2) (v := ?_) (by rw [List.getElem?_toArray]; rfl) (by decide +kernel) (by decide +kernel) (by decide +kernel) (by decide +kernel) (by decide +kernel) (fun _ _ _ h => h) hS0 (Or.inl ⟨by rfl, ?_⟩) ?_
      rotate_left
      · intro wz hSz; obtain ⟨z0, z1, z2⟩ := hSz; go_simp; first | done | with_reducible rfl | rfl
      try simp only [Act.put, List.setIfInBounds_toArray, List.set_cons_zero, List.set_cons_succ]
      refine wpAnyL_take (i := 3) (v := ?_) (by rw [List.getElem?_toArray]; rfl) (by decide +kernel) (by decide +kernel) (by decide +kernel) (by decide +kernel) (by decide +kernel) (fun _ _ _ h => h) hS0 (Or.inl ⟨by rfl, ?_⟩) ?_
      rotate_left
      · intro wz hSz; obtain ⟨z0, z1, z2⟩ := hSz; go_simp; first | done | with_reducible rfl | rfl
      try simp only [Act.put, List.setIfInBounds_toArray, List.set_cons_zero, List.set_cons_succ]
      refine wpAnyL_two (i := 4) (k := 9) (by kernel_rfl) (by rw [List.getElem?_toArray]; rfl) (by rw [List.getElem?_toArray]; rfl) (fun K9 hK => ?_) (fun K9 hK => ?_)
      · have HK : Hid _ := hK
        clear hK
        go_simp
        refine (HPk.out x0).mono ?_
        rintro e w' ⟨rfl, hw⟩
        have hw := hw.symm
        subst hw
        refine HK.out _ _ (fun _ => hS0) ?_
        clear HK K9
        try simp only [Act.put, List.setIfInBounds_toArray, List.set_cons_zero, List.set_cons_succ]
        refine wpAnyL_two (i := 5) (k := 9) (by kernel_rfl) (by rw [List.getElem?_toArray]; rfl) (by rw [List.getElem?_toArray]; rfl) (fun K9 hK => ?_) (fun K9 hK => ?_)
        · have HK : Hid _ := hK
          clear hK
          go_simp
          refine (HPu.out x0 F0.out).mono ?_
          rintro e x1 ⟨po, pc, R1, p, rfl, ⟨hco, hmv⟩, hrr, hff, hb⟩
          have F1 : Hid (Below w5.heap.size w5 x1 ∧ (Cod D N1 po K R1 x1 ∧ RRE D N1 K R1 p ∧ Far D N1 K R1 (2 * r + 1))) := ⟨bel_up' (F0.out) hb, ⟨hco, hrr, hff⟩⟩
          have hS1 := HK5.out x1 F1.out.1
          clear hco hmv hrr hff hb
          refine HK.out _ _ (fun _ => hS1) ?_
          clear HK K9
          try simp only [Act.put, List.setIfInBounds_toArray, List.set_cons_zero, List.set_cons_succ]
          refine wpAnyL_take (i := 6) (v := ?_) (by rw [List.getElem?_toArray]; rfl) (by decide +kernel) (by decide +kernel) (by decide +kernel) (by decide +kernel) (by decide +kernel) (fun _ _ _ h => h) hS1 (Or.inl ⟨by rfl, ?_⟩) ?_
          rotate_left
          · intro wz hSz; obtain ⟨z0, z1, z2⟩ := hSz; go_simp; first | done | with_reducible rfl | rfl
          try simp only [Act.put, List.setIfInBounds_toArray, List.set_cons_zero, List.set_cons_succ]
          refine wpAnyL_take (i := 7) (v := ?_) (by rw [List.getElem?_toArray]; rfl) (by decide +kernel) (by decide +kernel) (by decide +kernel) (by decide +kernel) (by decide +kernel) (fun _ _ _ h => h) hS1 (Or.inl ⟨by rfl, ?_⟩) ?_
          rotate_left
          · intro wz hSz; obtain ⟨z0, z1, z2⟩ := hSz; go_simp; first | done | with_reducible rfl | rfl
          try simp only [Act.put, List.setIfInBounds_toArray, List.set_cons_zero, List.set_cons_succ]
          refine wpAnyL_take (i := 8) (v := ?_) (by rw [List.getElem?_toArray]; rfl) (by decide +kernel) (by decide +kernel) (by decide +kernel) (by decide +kernel) (by decide +kernel) (fun _ _ _ h => h) hS1 (Or.inl ⟨by rfl, ?_⟩) ?_
          rotate_left
          · intro wz hSz; obtain ⟨z0, z1, z2⟩ := hSz; go_simp; first | done | with_reducible rfl | rfl
          try simp only [Act.put, List.setIfInBounds_toArray, List.set_cons_zero, List.set_cons_succ]
          refine wpAnyL_one (i := 9) (by kernel_rfl) (by rw [List.getElem?_toArray]; rfl) (fun K9 hK => ?_)
          have HK : Hid _ := hK
          clear hK
          go_simp
          obtain ⟨x2, hx⟩ : ∃ x, x = x1.alloc (.cells #[.int .i64 0, .int .i64 0, .slice none 0 0] 25) := ⟨_, rfl⟩
          have hb : Below x1.heap.size x1 x2 := by rw [hx]; exact (Below.refl _ _).alloc (Nat.le_refl _) _
          obtain ⟨bp, hG⟩ : ∃ bp, bp = x1.heap.size := ⟨_, rfl⟩
          have hcb : RB bp x2 ∧ w5.heap.size ≤ bp := by rw [hG, hx]; exact ⟨RB.new _ _ _ _, (F1.out.1).size⟩
          have F2 : Hid (Below w5.heap.size w5 x2 ∧ (Cod D N1 po K R1 (laid x2 bp D.q N1 (.slice po K pc)) ∧ RRE D N1 K R1 p ∧ Far D N1 K R1 (2 * r + 1)) ∧ (RB bp x2 ∧ w5.heap.size ≤ bp)) := ⟨bel_up' (F1.out.1) hb, ⟨F1.out.2.1.below (laid_below hb (Nat.le_of_eq hG.symm) _ _ _), F1.out.2.2⟩, hcb⟩
          have hS2 := HK5.out x2 F2.out.1
          try rw [← hx]
          try rw [← hG]
          have HK2 := HK.out
          clear hcb hb hG hx
          refine HK2 _ _ (fun _ => hS2) ?_
          clear HK2 HK K9
          try simp only [Act.put, List.setIfInBounds_toArray, List.set_cons_zero, List.set_cons_succ]
          obtain ⟨⟨q0, c0⟩, ⟨q1, c1⟩, ⟨q2, c2⟩, f0, f1, f2⟩ := F2.out.2.2.1
          refine wpAnyL_one (i := 10) (by kernel_rfl) (by rw [List.getElem?_toArray]; rfl) (fun K9 hK => ?_)
          have HK : Hid _ := hK
          clear hK
          go_simp
          have hSE : CB bc D.q N (.slice ro K rc) (laid x2 bp D.q N1 (.slice po K pc)) := (HK5.out _ F2.out.1).oth (laid_heap _ _ _ _ _ (by have := F2.out.2.2.2; have := HX.out.2.1.c0; have := cell_lt this; have := H5.out.size; simp only at *; omega))
          unfold laid at hSE
          refine HK.out _ _ (fun _ => hSE) ?_
          clear HK K9 c0 c1 c2 f0 f1 f2
          try simp only [Act.put, List.setIfInBounds_toArray, List.set_cons_zero, List.set_cons_succ]
          have HE : Hid (CB bp D.q N1 (.slice po K pc) (laid x2 bp D.q N1 (.slice po K pc)) ∧ Cod D N1 po K R1 (laid x2 bp D.q N1 (.slice po K pc)) ∧ RRE D N1 K R1 p ∧ Far D N1 K R1 (2 * r + 1) ∧ Below wA.heap.size wA (laid x2 bp D.q N1 (.slice po K pc))) := ⟨laid_cb F2.out.2.2.1 _ _ _, F2.out.2.1.1, F2.out.2.1.2.1, F2.out.2.1.2.2, laid_below (bel_up' H5.out F2.out.1) (by have := F2.out.2.2.2; have := H5.out.size; omega) _ _ _⟩
          unfold laid at HE
          refine wpAnyL_one (i := 11) (by kernel_rfl) (by rw [List.getElem?_toArray]; rfl) (fun K9 hK => ?_)
          have HK : Hid _ := hK
          clear hK
          go_simp
          refine HK.out _ _ (fun _ => hSE) ?_
          clear HK K9
          refine wpAnyL_done (by kernel_rfl) (NoPanic.normal ?_)
          go_wp2
          go_meet
          exact ⟨bp, po, pc, R1, p, rfl, rfl, HE⟩
        · have HK : Hid _ := hK
          clear hK
          go_simp
          obtain ⟨x1, hx⟩ : ∃ x, x = x0.alloc (.cells #[.int .i64 0, .int .i64 0, .slice none 0 0] 25) := ⟨_, rfl⟩
          have hb : Below x0.heap.size x0 x1 := by rw [hx]; exact (Below.refl _ _).alloc (Nat.le_refl _) _
          obtain ⟨bp, hG⟩ : ∃ bp, bp = x0.heap.size := ⟨_, rfl⟩
          have hcb : RB bp x1 ∧ w5.heap.size ≤ bp := by rw [hG, hx]; exact ⟨RB.new _ _ _ _, (F0.out).size⟩
          have F1 : Hid (Below w5.heap.size w5 x1 ∧ (RB bp x1 ∧ w5.heap.size ≤ bp)) := ⟨bel_up' (F0.out) hb, hcb⟩
          have hS1 := HK5.out x1 F1.out.1
          try rw [← hx]
          try rw [← hG]
          have HK2 := HK.out
          clear hcb hb hG hx
          refine HK2 _ _ (fun _ => hS1) ?_
          clear HK2 HK K9
          try simp only [Act.put, List.setIfInBounds_toArray, List.set_cons_zero, List.set_cons_succ]
          refine wpAnyL_one (i := 5) (by kernel_rfl) (by rw [List.getElem?_toArray]; rfl) (fun K9 hK => ?_)
          have HK : Hid _ := hK
          clear hK
          go_simp
          refine (HPu.out x1 F1.out.1).mono ?_
          rintro e x2 ⟨po, pc, R1, p, rfl, ⟨hco, hmv⟩, hrr, hff, hb⟩
          have hltb : bp < x1.heap.size := by obtain ⟨⟨q0, c0⟩, _⟩ := F1.out.2.1; exact cell_lt c0
          have hcl : Cod D N1 po K R1 (laid x2 bp D.q N1 (.slice po K pc)) := (laid_mv hmv hltb _ _ _).cod (by omega) (by omega) (by omega) hrr.el hrr.bd
          have F2 : Hid (Below w5.heap.size w5 x2 ∧ (Cod D N1 po K R1 (laid x2 bp D.q N1 (.slice po K pc)) ∧ RRE D N1 K R1 p ∧ Far D N1 K R1 (2 * r + 1)) ∧ (RB bp x2 ∧ w5.heap.size ≤ bp)) := ⟨bel_up' (F1.out.1) hb, ⟨hcl, hrr, hff⟩, ⟨F1.out.2.1.keep hb, F1.out.2.2⟩⟩
          have hS2 := HK5.out x2 F2.out.1
          clear hco hmv hrr hff hb hltb hcl
          refine HK.out _ _ (fun _ => hS2) ?_
          clear HK K9
          try simp only [Act.put, List.setIfInBounds_toArray, List.set_cons_zero, List.set_cons_succ]
          refine wpAnyL_take (i := 6) (v := ?_) (by rw [List.getElem?_toArray]; rfl) (by decide +kernel) (by decide +kernel) (by decide +kernel) (by decide +kernel) (by decide +kernel) (fun _ _ _ h => h) hS2 (Or.inl ⟨by rfl, ?_⟩) ?_
          rotate_left
          · intro wz hSz; obtain ⟨z0, z1, z2⟩ := hSz; go_simp; first | done | with_reducible rfl | rfl
          try simp only [Act.put, List.setIfInBounds_toArray, List.set_cons_zero, List.set_cons_succ]
          refine wpAnyL_take (i := 7) (v := ?_) (by rw [List.getElem?_toArray]; rfl) (by decide +kernel) (by decide +kernel) (by decide +kernel) (by decide +kernel) (by decide +kernel) (fun _ _ _ h => h) hS2 (Or.inl ⟨by rfl, ?_⟩) ?_
          rotate_left
          · intro wz hSz; obtain ⟨z0, z1, z2⟩ := hSz; go_simp; first | done | with_reducible rfl | rfl
          try simp only [Act.put, List.setIfInBounds_toArray, List.set_cons_zero, List.set_cons_succ]
          refine wpAnyL_take (i := 8) (v := ?_) (by rw [List.getElem?_toArray]; rfl) (by decide +kernel) (by decide +kernel) (by decide +kernel) (by decide +kernel) (by decide +kernel) (fun _ _ _ h => h) hS2 (Or.inl ⟨by rfl, ?_⟩) ?_
          rotate_left
          · intro wz hSz; obtain ⟨z0, z1, z2⟩ := hSz; go_simp; first | done | with_reducible rfl | rfl
          try simp only [Act.put, List.setIfInBounds_toArray, List.set_cons_zero, List.set_cons_succ]
          obtain ⟨⟨q0, c0⟩, ⟨q1, c1⟩, ⟨q2, c2⟩, f0, f1, f2⟩ := F2.out.2.2.1
          refine wpAnyL_one (i := 10) (by kernel_rfl) (by rw [List.getElem?_toArray]; rfl) (fun K9 hK => ?_)
          have HK : Hid _ := hK
          clear hK
          go_simp
          have hSE : CB bc D.q N (.slice ro K rc) (laid x2 bp D.q N1 (.slice po K pc)) := (HK5.out _ F2.out.1).oth (laid_heap _ _ _ _ _ (by have := F2.out.2.2.2; have := HX.out.2.1.c0; have := cell_lt this; have := H5.out.size; simp only at *; omega))
          unfold laid at hSE
          refine HK.out _ _ (fun _ => hSE) ?_
          clear HK K9 c0 c1 c2 f0 f1 f2
          try simp only [Act.put, List.setIfInBounds_toArray, List.set_cons_zero, List.set_cons_succ]
          have HE : Hid (CB bp D.q N1 (.slice po K pc) (laid x2 bp D.q N1 (.slice po K pc)) ∧ Cod D N1 po K R1 (laid x2 bp D.q N1 (.slice po K pc)) ∧ RRE D N1 K R1 p ∧ Far D N1 K R1 (2 * r + 1) ∧ Below wA.heap.size wA (laid x2 bp D.q N1 (.slice po K pc))) := ⟨laid_cb F2.out.2.2.1 _ _ _, F2.out.2.1.1, F2.out.2.1.2.1, F2.out.2.1.2.2, laid_below (bel_up' H5.out F2.out.1) (by have := F2.out.2.2.2; have := H5.out.size; omega) _ _ _⟩
          unfold laid at HE
          refine wpAnyL_one (i := 11) (by kernel_rfl) (by rw [List.getElem?_toArray]; rfl) (fun K9 hK => ?_)
          have HK : Hid _ := hK
          clear hK
          go_simp
          refine HK.out _ _ (fun _ => hSE) ?_
          clear HK K9
          refine wpAnyL_done (by kernel_rfl) (NoPanic.normal ?_)
          go_wp2
          go_meet
          exact ⟨bp, po, pc, R1, p, rfl, rfl, HE⟩
      · have HK : Hid _ := hK
        clear hK
        go_simp
        obtain ⟨x1, hx⟩ : ∃ x, x = x0.alloc (.cells #[.int .i64 0, .int .i64 0, .slice none 0 0] 25) := ⟨_, rfl⟩
        have hb : Below x0.heap.size x0 x1 := by rw [hx]; exact (Below.refl _ _).alloc (Nat.le_refl _) _
        obtain ⟨bp, hG⟩ : ∃ bp, bp = x0.heap.size := ⟨_, rfl⟩
        have hcb : RB bp x1 ∧ w5.heap.size ≤ bp := by rw [hG, hx]; exact ⟨RB.new _ _ _ _, (F0.out).size⟩
        have F1 : Hid (Below w5.heap.size w5 x1 ∧ (RB bp x1 ∧ w5.heap.size ≤ bp)) := ⟨bel_up' (F0.out) hb, hcb⟩
        have hS1 := HK5.out x1 F1.out.1
        try rw [← hx]
        try rw [← hG]
        have HK2 := HK.out
        clear hcb hb hG hx
        refine HK2 _ _ (fun _ => hS1) ?_
        clear HK2 HK K9
        try simp only [Act.put, List.setIfInBounds_toArray, List.set_cons_zero, List.set_cons_succ]
        refine wpAnyL_one (i := 4) (by kernel_rfl) (by rw [List.getElem?_toArray]; rfl) (fun K9 hK => ?_)
        have HK : Hid _ := hK
        clear hK
        go_simp
        refine (HPk.out x1).mono ?_
        rintro e w' ⟨rfl, hw⟩
        have hw := hw.symm
        subst hw
        refine HK.out _ _ (fun _ => hS1) ?_
        clear HK K9
        try simp only [Act.put, List.setIfInBounds_toArray, List.set_cons_zero, List.set_cons_succ]
        refine wpAnyL_one (i := 5) (by kernel_rfl) (by rw [List.getElem?_toArray]; rfl) (fun K9 hK => ?_)
        have HK : Hid _ := hK
        clear hK
        go_simp
        refine (HPu.out x1 F1.out.1).mono ?_
        rintro e x2 ⟨po, pc, R1, p, rfl, ⟨hco, hmv⟩, hrr, hff, hb⟩
        have hltb : bp < x1.heap.size := by obtain ⟨⟨q0, c0⟩, _⟩ := F1.out.2.1; exact cell_lt c0
        have hcl : Cod D N1 po K R1 (laid x2 bp D.q N1 (.slice po K pc)) := (laid_mv hmv hltb _ _ _).cod (by omega) (by omega) (by omega) hrr.el hrr.bd
        have F2 : Hid (Below w5.heap.size w5 x2 ∧ (Cod D N1 po K R1 (laid x2 bp D.q N1 (.slice po K pc)) ∧ RRE D N1 K R1 p ∧ Far D N1 K R1 (2 * r + 1)) ∧ (RB bp x2 ∧ w5.heap.size ≤ bp)) := ⟨bel_up' (F1.out.1) hb, ⟨hcl, hrr, hff⟩, ⟨F1.out.2.1.keep hb, F1.out.2.2⟩⟩
        have hS2 := HK5.out x2 F2.out.1
        clear hco hmv hrr hff hb hltb hcl
        refine HK.out _ _ (fun _ => hS2) ?_
        clear HK K9
        try simp only [Act.put, List.setIfInBounds_toArray, List.set_cons_zero, List.set_cons_succ]
        refine wpAnyL_take (i := 6) (v := ?_) (by rw [List.getElem?_toArray]; rfl) (by decide +kernel) (by decide +kernel) (by decide +kernel) (by decide +kernel) (by decide +kernel) (fun _ _ _ h => h) hS2 (Or.inl ⟨by rfl, ?_⟩) ?_
        rotate_left
        · intro wz hSz; obtain ⟨z0, z1, z2⟩ := hSz; go_simp; first | done | with_reducible rfl | rfl
        try simp only [Act.put, List.setIfInBounds_toArray, List.set_cons_zero, List.set_cons_succ]
        refine wpAnyL_take (i := 7) (v := ?_) (by rw [List.getElem?_toArray]; rfl) (by decide +kernel) (by decide +kernel) (by decide +kernel) (by decide +kernel) (by decide +kernel) (fun _ _ _ h => h) hS2 (Or.inl ⟨by rfl, ?_⟩) ?_
        rotate_left
        · intro wz hSz; obtain ⟨z0, z1, z2⟩ := hSz; go_simp; first | done | with_reducible rfl | rfl
        try simp only [Act.put, List.setIfInBounds_toArray, List.set_cons_zero, List.set_cons_succ]
        refine wpAnyL_take (i := 8) (v := ?_) (by rw [List.getElem?_toArray]; rfl) (by decide +kernel) (by decide +kernel) (by decide +kernel) (by decide +kernel) (by decide +kernel) (fun _ _ _ h => h) hS2 (Or.inl ⟨by rfl, ?_⟩) ?_
        rotate_left
        · intro wz hSz; obtain ⟨z0, z1, z2⟩ := hSz; go_simp; first | done | with_reducible rfl | rfl
        try simp only [Act.put, List.setIfInBounds_toArray, List.set_cons_zero, List.set_cons_succ]
        obtain ⟨⟨q0, c0⟩, ⟨q1, c1⟩, ⟨q2, c2⟩, f0, f1, f2⟩ := F2.out.2.2.1
        refine wpAnyL_one (i := 10) (by kernel_rfl) (by rw [List.getElem?_toArray]; rfl) (fun K9 hK => ?_)
        have HK : Hid _ := hK
        clear hK
        go_simp
        have hSE : CB bc D.q N (.slice ro K rc) (laid x2 bp D.q N1 (.slice po K pc)) := (HK5.out _ F2.out.1).oth (laid_heap _ _ _ _ _ (by have := F2.out.2.2.2; have := HX.out.2.1.c0; have := cell_lt this; have := H5.out.size; simp only at *; omega))
        unfold laid at hSE
        refine HK.out _ _ (fun _ => hSE) ?_
        clear HK K9 c0 c1 c2 f0 f1 f2
        try simp only [Act.put, List.setIfInBounds_toArray, List.set_cons_zero, List.set_cons_succ]
        have HE : Hid (CB bp D.q N1 (.slice po K pc) (laid x2 bp D.q N1 (.slice po K pc)) ∧ Cod D N1 po K R1 (laid x2 bp D.q N1 (.slice po K pc)) ∧ RRE D N1 K R1 p ∧ Far D N1 K R1 (2 * r + 1) ∧ Below wA.heap.size wA (laid x2 bp D.q N1 (.slice po K pc))) := ⟨laid_cb F2.out.2.2.1 _ _ _, F2.out.2.1.1, F2.out.2.1.2.1, F2.out.2.1.2.2, laid_below (bel_up' H5.out F2.out.1) (by have := F2.out.2.2.2; have := H5.out.size; omega) _ _ _⟩
        unfold laid at HE
        refine wpAnyL_one (i := 11) (by kernel_rfl) (by rw [List.getElem?_toArray]; rfl) (fun K9 hK => ?_)
        have HK : Hid _ := hK
        clear hK
        go_simp
        refine HK.out _ _ (fun _ => hSE) ?_
        clear HK K9
        refine wpAnyL_done (by kernel_rfl) (NoPanic.normal ?_)
        go_wp2
        go_meet
        exact ⟨bp, po, pc, R1, p, rfl, rfl, HE⟩
    case rest =>
      obtain ⟨bp, po, pc, R1, p, hv13, hv12, HP⟩ := hcut
      subst hv13
      subst hv12
      obtain ⟨k0, k1, k2⟩ := HP.out.1
      go_wp2_with fail
      clear k0 k1 k2
      have HPf : Hid (Calls Try.prog 10 #[.agg #[.int .i64 D.q, .int .i64 (N1 : Nat), .slice po K pc], .int .i64 (r : Nat)] wc fun e w' => e = .returned (.tuple #[.bool true, .int .i64 0]) ∧ Below wc.heap.size wc w') := perfect_any HX.out.1.mem pc HP.out.2.1 (by rw [HN1.out]; exact HX.out.1.pw) (by rw [HN1.out]; exact HX.out.1.r2) ⟨p, HP.out.2.2.1, fun _ => Iff.rfl⟩ HP.out.2.2.2.1 HX.out.1.kq (by rw [HN1.out]; exact HX.out.1.bl)
      refine HPf.out.mono ?_
      rintro e w6 ⟨rfl, hb6⟩
      have H6 : Hid (Below wc.heap.size wc w6 ∧ Below wA.heap.size wA w6 ∧ Below w.heap.size w w6) := ⟨hb6, bel_up' HP.out.2.2.2.2 hb6, bel_up' HX.out.2.2.2.2 (bel_up' HP.out.2.2.2.2 hb6)⟩
      clear hb6 HPf
      have HK6 : Hid (∀ wx, Below w6.heap.size w6 wx → CB bc D.q N (.slice ro K rc) wx ∧ CB bp D.q N1 (.slice po K pc) wx) := fun wx hx => ⟨HX.out.2.1.keep (bel_up' H6.out.2.1 hx), HP.out.1.keep (bel_up' H6.out.1 hx)⟩
      have HNm : Hid (∀ wx, Below w6.heap.size w6 wx → Calls Try.prog 12 #[.slice ao n ca, .int .i64 0, .int .i64 (D.q : Nat), .int .i64 (K : Nat)] wx fun e w' => ∃ yo cy y, e = .returned (.slice yo K cy) ∧ Arg yo K cy y w' ∧ D.nchk K y (K : Nat) = 0 ∧ Below wx.heap.size wx w') := fun wx hx => by
        refine (numbers_any (HA.out.1.below (bel_up' H6.out.2.2 hx)) (by omega) 0 D.q K (by omega) (by omega) (by omega) (by omega)).mono ?_
        rintro e w' ⟨v, y, rfl, ho, hbl, hb⟩
        obtain ⟨yo, cy, rfl, hA⟩ := ho.argL
        exact ⟨yo, cy, y, rfl, hA.arg (by omega), blw_nchk hbl, hb⟩
      have HRw : Hid (∀ (i : Nat) wx, i ≤ 1000 → Below w6.heap.size w6 wx → Calls Try.prog 14 #[.slice bo m cb, .int .i64 (i : Nat)] wx fun e w' => (∃ r, e = .returned (.int .i64 r) ∧ I64 r) ∧ ∃ k, w' = wx.drewN k) := fun i wx hi hx => raw_any (HA.out.2.1.below (bel_up' H6.out.2.2 hx)) (by omega) i (by omega)
      have HP4 : Hid (∀ (M : Nat) x, 1 ≤ M → M ≤ 100 → I64 x → ∃ k : Nat, k < M ∧ ∀ w : World, Calls Try.prog 9 #[.int .i64 x, .int .i64 (M : Nat)] w fun e w' => e = .returned (.int .i64 k) ∧ w' = w) := fun M x hM hM2 hx => by
        obtain ⟨k, hk0, hk1⟩ := pick_nat6 (m := x) (k := M) (by omega)
        exact ⟨k, hk1, fun w => by rw [← hk0]; exact pick_any x M w hx.1 hx.2 (by omega) (by omega)⟩
      have hS0 := HK6.out _ (Below.refl w6.heap.size w6).drew
      have F0 : Hid (Below w6.heap.size w6 w6.drew) := (Below.refl _ _).drew
      go_upto_region 13 with fail
      refine wp_region_noPanic ?_
      refine wp_region_L (S := fun wx => CB bc D.q N (.slice ro K rc) wx ∧ CB bp D.q N1 (.slice po K pc) wx) [] (by kernel_rfl) ?_
      obtain ⟨x0, hx0⟩ : ∃ x0, x0 = w6.drew := ⟨_, rfl⟩
      rw [← hx0] at F0 hS0
      rw [← hx0]
      clear hx0
      refine wpAnyL_take (i := 0) (v := ?_) (by rw [List.getElem?_toArray]; rfl) (by decide +kernel) (by decide +kernel) (by decide +kernel) (by decide +kernel) (by decide +kernel) (fun _ _ _ h => h) hS0 (Or.inl ⟨by rfl, ?_⟩) ?_
      rotate_left
      · intro wz hSz; obtain ⟨⟨z0, z1, z2⟩, ⟨y0, y1, y2⟩⟩ := hSz; go_simp; first | done | with_reducible rfl | rfl
      try simp only [Act.put, List.setIfInBounds_toArray, List.set_cons_zero, List.set_cons_succ]
      refine wpAnyL_take (i := 1) (v := ?_) (by rw [List.getElem?_toArray]; rfl) (by decide +kernel) (by decide +kernel) (by decide +kernel) (by decide +kernel) (by decide +kernel) (fun _ _ _ h => h) hS0 (Or.inl ⟨by rfl, ?_⟩) ?_
      rotate_left
      · intro wz hSz; obtain ⟨⟨z0, z1, z2⟩, ⟨y0, y1, y2⟩⟩ := hSz; go_simp; first | done | with_reducible rfl | rfl
      try simp only [Act.put, List.setIfInBounds_toArray, List.set_cons_zero, List.set_cons_succ]
      refine wpAnyL_take (i := 2) (v := ?_) (by rw [List.getElem?_toArray]; rfl) (by decide +kernel) (by decide +kernel) (by decide +kernel) (by decide +kernel) (by decide +kernel) (fun _ _ _ h => h) hS0 (Or.inl ⟨by rfl, ?_⟩) ?_
      rotate_left
      · intro wz hSz; obtain ⟨⟨z0, z1, z2⟩, ⟨y0, y1, y2⟩⟩ := hSz; go_simp; first | done | with_reducible rfl | rfl
      try simp only [Act.put, List.setIfInBounds_toArray, List.set_cons_zero, List.set_cons_succ]
      refine wpAnyL_take (i := 3) (v := ?_) (by rw [List.getElem?_toArray]; rfl) (by decide +kernel) (by decide +kernel) (by decide +kernel) (by decide +kernel) (by decide +kernel) (fun _ _ _ h => h) hS0 (Or.inl ⟨by rfl, ?_⟩) ?_
      rotate_left
      · intro wz hSz; obtain ⟨⟨z0, z1, z2⟩, ⟨y0, y1, y2⟩⟩ := hSz; go_simp; first | done | with_reducible rfl | rfl
      try simp only [Act.put, List.setIfInBounds_toArray, List.set_cons_zero, List.set_cons_succ]
      refine wpAnyL_take (i := 4) (v := ?_) (by rw [List.getElem?_toArray]; rfl) (by decide +kernel) (by decide +kernel) (by decide +kernel) (by decide +kernel) (by decide +kernel) (fun _ _ _ h => h) hS0 (Or.inl ⟨by rfl, ?_⟩) ?_
      rotate_left
      · intro wz hSz; obtain ⟨⟨z0, z1, z2⟩, ⟨y0, y1, y2⟩⟩ := hSz; go_simp; first | done | with_reducible rfl | rfl
      try simp only [Act.put, List.setIfInBounds_toArray, List.set_cons_zero, List.set_cons_succ]
      refine wpAnyL_take (i := 5) (v := ?_) (by rw [List.getElem?_toArray]; rfl) (by decide +kernel) (by decide +kernel) (by decide +kernel) (by decide +kernel) (by decide +kernel) (fun _ _ _ h => h) hS0 (Or.inl ⟨by rfl, ?_⟩) ?_
      rotate_left
      · intro wz hSz; obtain ⟨⟨z0, z1, z2⟩, ⟨y0, y1, y2⟩⟩ := hSz; go_simp; first | done | with_reducible rfl | rfl
      try simp only [Act.put, List.setIfInBounds_toArray, List.set_cons_zero, List.set_cons_succ]
      refine wpAnyL_take (i := 6) (v := ?_) (by rw [List.getElem?_toArray]; rfl) (by decide +kernel) (by decide +kernel) (by decide +kernel) (by decide +kernel) (by decide +kernel) (fun _ _ _ h => h) hS0 (Or.inl ⟨by rfl, ?_⟩) ?_
      rotate_left
      · intro wz hSz; obtain ⟨⟨z0, z1, z2⟩, ⟨y0, y1, y2⟩⟩ := hSz; go_simp; first | done | with_reducible rfl | rfl
      try simp only [Act.put, List.setIfInBounds_toArray, List.set_cons_zero, List.set_cons_succ]
      refine wpAnyL_one (i := 7) (by kernel_rfl) (by rw [List.getElem?_toArray]; rfl) (fun K9 hK => ?_)
      have HK : Hid _ := hK
      clear hK
      go_simp
      refine (HNm.out x0 F0.out).mono ?_
      rintro e w7 ⟨yo, cy, yy, rfl, hA7, hn7, hb7⟩
      have F7 : Hid (Below w6.heap.size w6 w7 ∧ Arg yo K cy yy w7 ∧ D.nchk K yy (K : Nat) = 0) := ⟨bel_up' F0.out hb7, hA7, hn7⟩
      have hS7 := HK6.out _ F7.out.1
      clear hA7 hn7 hb7
      refine HK.out _ _ (fun _ => hS7) ?_
      clear HK K9
      try simp only [Act.put, List.setIfInBounds_toArray, List.set_cons_zero, List.set_cons_succ]
      refine wpAnyL_one (i := 8) (by kernel_rfl) (by rw [List.getElem?_toArray]; rfl) (fun K9 hK => ?_)
      have HK : Hid _ := hK
      clear hK
      go_simp
      refine ((HP.out.2.1.below (bel_up' H6.out.1 F7.out.1)).encode HX.out.1.mem pc F7.out.2.1 ⟨p, HP.out.2.2.1, fun _ => Iff.rfl⟩ F7.out.2.2).mono ?_
      rintro e w8 ⟨v, gr, cw, rfl, hwr, ⟨hv1, hv2⟩, hb8⟩
      have F8 : Hid (Below w6.heap.size w6 w8 ∧ Wrd N1 v gr cw w8 ∧ El D v ∧ Spn D (RowsOf K R1) v) := ⟨bel_up' F7.out.1 hb8, hwr, hv1, hv2⟩
      have hS8 := HK6.out _ F8.out.1
      clear hwr hv1 hv2 hb8
      refine HK.out _ _ (fun _ => hS8) ?_
      clear HK K9
      try simp only [Act.put, List.setIfInBounds_toArray, List.set_cons_zero, List.set_cons_succ]
      refine wpAnyL_take (i := 9) (v := ?_) (by rw [List.getElem?_toArray]; rfl) (by decide +kernel) (by decide +kernel) (by decide +kernel) (by decide +kernel) (by decide +kernel) (fun _ _ _ h => h) hS8 (Or.inl ⟨by rfl, ?_⟩) ?_
      rotate_left
      · intro wz hSz; obtain ⟨⟨z0, z1, z2⟩, ⟨y0, y1, y2⟩⟩ := hSz; go_simp; first | done | with_reducible rfl | rfl
      try simp only [Act.put, List.setIfInBounds_toArray, List.set_cons_zero, List.set_cons_succ]
      refine wpAnyL_take (i := 10) (v := ?_) (by rw [List.getElem?_toArray]; rfl) (by decide +kernel) (by decide +kernel) (by decide +kernel) (by decide +kernel) (by decide +kernel) (fun _ _ _ h => h) hS8 (Or.inl ⟨by rfl, ?_⟩) ?_
      rotate_left
      · intro wz hSz; obtain ⟨⟨z0, z1, z2⟩, ⟨y0, y1, y2⟩⟩ := hSz; go_simp; first | done | with_reducible rfl | rfl
      try simp only [Act.put, List.setIfInBounds_toArray, List.set_cons_zero, List.set_cons_succ]
      refine wpAnyL_take (i := 11) (v := ?_) (by rw [List.getElem?_toArray]; rfl) (by decide +kernel) (by decide +kernel) (by decide +kernel) (by decide +kernel) (by decide +kernel) (fun _ _ _ h => h) hS8 (Or.inl ⟨by rfl, ?_⟩) ?_
      rotate_left
      · intro wz hSz; obtain ⟨⟨z0, z1, z2⟩, ⟨y0, y1, y2⟩⟩ := hSz; go_simp; first | done | with_reducible rfl | rfl
      try simp only [Act.put, List.setIfInBounds_toArray, List.set_cons_zero, List.set_cons_succ]
      refine wpAnyL_take (i := 12) (v := ?_) (by rw [List.getElem?_toArray]; rfl) (by decide +kernel) (by decide +kernel) (by decide +kernel) (by decide +kernel) (by decide +kernel) (fun _ _ _ h => h) hS8 (Or.inl ⟨by rfl, ?_⟩) ?_
      rotate_left
      · intro wz hSz; obtain ⟨⟨z0, z1, z2⟩, ⟨y0, y1, y2⟩⟩ := hSz; go_simp; first | done | with_reducible rfl | rfl
      try simp only [Act.put, List.setIfInBounds_toArray, List.set_cons_zero, List.set_cons_succ]
      refine wpAnyL_take (i := 13) (v := ?_) (by rw [List.getElem?_toArray]; rfl) (by decide +kernel) (by decide +kernel) (by decide +kernel) (by decide +kernel) (by decide +kernel) (fun _ _ _ h => h) hS8 (Or.inl ⟨by rfl, ?_⟩) ?_
      rotate_left
      · intro wz hSz; obtain ⟨⟨z0, z1, z2⟩, ⟨y0, y1, y2⟩⟩ := hSz; go_simp; first | done | with_reducible rfl | rfl
      try simp only [Act.put, List.setIfInBounds_toArray, List.set_cons_zero, List.set_cons_succ]
      refine wpAnyL_done (by kernel_rfl) (NoPanic.normal ?_)
      clear hS0 hS7
      obtain ⟨⟨k0, k1, k2⟩, ⟨y0, y1, y2⟩⟩ := hS8
      go_wp2_with fail
      clear k0 k1 k2 y0 y1 y2
      have HCp : Hid (Calls Try.prog 13 #[.slice (some ⟨gr, 0, none⟩) N1 cw] w8 fun e w' => ∃ G2 c2, e = .returned (.slice (some ⟨G2, 0, none⟩) N1 c2) ∧ w8.heap.size ≤ G2 ∧ Row G2 N1 v w' ∧ (N1 ≤ c2 ∧ c2 ≤ 9223372036854775807) ∧ Below w8.heap.size w8 w') := by
        refine (copyI_any (F8.out.2.1.1.sl (Nat.le_refl _)).z (by omega) (fun e => by cases e) (fun x hx => by cases hx; exact F8.out.2.1.1.lt)).mono ?_
        rintro e w' ⟨u, rfl, hov, hb⟩
        obtain ⟨P1, hP1⟩ : ∃ P1, N1 = P1 + 1 := ⟨N1 - 1, by omega⟩
        have hlt := hov.lt
        rw [hP1] at hov ⊢
        obtain ⟨g, cp, e1, e2, e3, e4⟩ := own_elm hov
        subst e1
        exact ⟨g, cp, rfl, (hlt g rfl).1, e4, ⟨e2, e3⟩, hb⟩
      refine HCp.out.mono ?_
      rintro e w9 ⟨GB, cB, rfl, hGB, hrow9, hcB, hb9⟩
      have H9 : Hid (w8.heap.size ≤ GB ∧ Row GB N1 v w9 ∧ (N1 ≤ cB ∧ cB ≤ 9223372036854775807) ∧ Below w8.heap.size w8 w9) := ⟨hGB, hrow9, hcB, hb9⟩
      clear hGB hrow9 hcB hb9 HCp
      go_wp2
      go_loopw [19] (fun vi wr => ∃ (i : Nat) (c : Nat → Nat), i ≤ r ∧ vi = .int .i64 (i : Nat) ∧ Hid (Row GB N1 c wr ∧ (∀ j, j < N1 → c j < D.q) ∧ dsg c v N1 ≤ i ∧ Below w8.heap.size w8 wr)) (fun vi _ => r - (intOf vi).toNat)
      case atStart => exact ⟨0, v, by omega, rfl, H9.out.2.1, fun j _ => F8.out.2.2.1 j, by rw [dsg_self]; exact Nat.le_refl _, H9.out.2.2.2⟩
      case round =>
        obtain ⟨i, c, hi, rfl, HG⟩ := hrel
        rename World => wr
        by_cases hlt : i < r
        · have hib : (i : Int) < (r : Int) := by omega
          obtain ⟨I2, hI2⟩ : ∃ I2, I2 = 2 * i := ⟨_, rfl⟩
          have hI2i : (2 : Int) * (i : Int) = (I2 : Int) := by omega
          have hI2w : IntKind.i64.wrap (I2 : Int) = (I2 : Int) := wrap_to rfl (by omega)
          have hI2b : I2 ≤ 6 := by omega
          obtain ⟨I3, hI3⟩ : ∃ I3, I3 = I2 + 1 := ⟨_, rfl⟩
          have hI3w : IntKind.i64.wrap ((I2 : Int) + 1) = (I3 : Int) := wrap_to (by omega) (by omega)
          have hI3b : I3 ≤ 7 := by omega
          clear hI2 hI3
          have HKr : Hid (∀ wx, Below w8.heap.size w8 wx → CB bc D.q N (.slice ro K rc) wx ∧ CB bp D.q N1 (.slice po K pc) wx) := fun wx hx => HK6.out wx (bel_up' F8.out.1 hx)
          have F0 : Hid (Row GB N1 c wr.drew ∧ Below w8.heap.size w8 wr.drew) := ⟨HG.out.1.drewN 1, HG.out.2.2.2.drew⟩
          have hS0 := HKr.out _ F0.out.2
          go_upto_region 20 with fail
          refine wp_region_noPanic ?_
          refine wp_region_X (S := fun wx => CB bc D.q N (.slice ro K rc) wx ∧ CB bp D.q N1 (.slice po K pc) wx) 17 (by kernel_rfl) ?_
          obtain ⟨x0, hx0⟩ : ∃ x0, x0 = wr.drew := ⟨_, rfl⟩
          rw [← hx0] at F0 hS0
          rw [← hx0]
          clear hx0
          refine wpAnyX_take (i := 0) (v := ?_) (by rw [List.getElem?_toArray]; rfl) (by decide +kernel) (by decide +kernel) (by decide +kernel) (by decide +kernel) (fun _ _ _ h => h) hS0 (Or.inl ⟨by rfl, ?_⟩) ?_
          rotate_left
          · intro wz hSz; obtain ⟨⟨z0, z1, z2⟩, ⟨y0, y1, y2⟩⟩ := hSz; go_simp; (try simp only [hI2w, hI3w]); first | done | with_reducible rfl | rfl
          try simp only [Act.put, List.setIfInBounds_toArray, List.set_cons_zero, List.set_cons_succ]
          refine wpAnyX_take (i := 1) (v := ?_) (by rw [List.getElem?_toArray]; rfl) (by decide +kernel) (by decide +kernel) (by decide +kernel) (by decide +kernel) (fun _ _ _ h => h) hS0 (Or.inl ⟨by rfl, ?_⟩) ?_
          rotate_left
          · intro wz hSz; obtain ⟨⟨z0, z1, z2⟩, ⟨y0, y1, y2⟩⟩ := hSz; go_simp; (try simp only [hI2w, hI3w]); first | done | with_reducible rfl | rfl
          try simp only [Act.put, List.setIfInBounds_toArray, List.set_cons_zero, List.set_cons_succ]
          refine wpAnyX_take (i := 2) (v := ?_) (by rw [List.getElem?_toArray]; rfl) (by decide +kernel) (by decide +kernel) (by decide +kernel) (by decide +kernel) (fun _ _ _ h => h) hS0 (Or.inl ⟨by rfl, ?_⟩) ?_
          rotate_left
          · intro wz hSz; obtain ⟨⟨z0, z1, z2⟩, ⟨y0, y1, y2⟩⟩ := hSz; go_simp; (try simp only [hI2w, hI3w]); first | done | with_reducible rfl | rfl
          try simp only [Act.put, List.setIfInBounds_toArray, List.set_cons_zero, List.set_cons_succ]
          refine wpAnyX_take (i := 3) (v := ?_) (by rw [List.getElem?_toArray]; rfl) (by decide +kernel) (by decide +kernel) (by decide +kernel) (by decide +kernel) (fun _ _ _ h => h) hS0 (Or.inl ⟨by rfl, ?_⟩) ?_
          rotate_left
          · intro wz hSz; obtain ⟨⟨z0, z1, z2⟩, ⟨y0, y1, y2⟩⟩ := hSz; go_simp; (try simp only [hI2w, hI3w]); first | done | with_reducible rfl | rfl
          try simp only [Act.put, List.setIfInBounds_toArray, List.set_cons_zero, List.set_cons_succ]
          refine wpAnyX_take (i := 5) (v := ?_) (by rw [List.getElem?_toArray]; rfl) (by decide +kernel) (by decide +kernel) (by decide +kernel) (by decide +kernel) (fun _ _ _ h => h) hS0 (Or.inl ⟨by rfl, ?_⟩) ?_
          rotate_left
          · intro wz hSz; obtain ⟨⟨z0, z1, z2⟩, ⟨y0, y1, y2⟩⟩ := hSz; go_simp; (try simp only [hI2w, hI3w]); first | done | with_reducible rfl | rfl
          try simp only [Act.put, List.setIfInBounds_toArray, List.set_cons_zero, List.set_cons_succ]
          refine wpAnyX_take (i := 6) (v := ?_) (by rw [List.getElem?_toArray]; rfl) (by decide +kernel) (by decide +kernel) (by decide +kernel) (by decide +kernel) (fun _ _ _ h => h) hS0 (Or.inl ⟨by rfl, ?_⟩) ?_
          rotate_left
          · intro wz hSz; obtain ⟨⟨z0, z1, z2⟩, ⟨y0, y1, y2⟩⟩ := hSz; go_simp; (try simp only [hI2w, hI3w]); first | done | with_reducible rfl | rfl
          try simp only [Act.put, List.setIfInBounds_toArray, List.set_cons_zero, List.set_cons_succ]
          refine wpAnyX_take (i := 8) (v := ?_) (by rw [List.getElem?_toArray]; rfl) (by decide +kernel) (by decide +kernel) (by decide +kernel) (by decide +kernel) (fun _ _ _ h => h) hS0 (Or.inl ⟨by rfl, ?_⟩) ?_
          rotate_left
          · intro wz hSz; obtain ⟨⟨z0, z1, z2⟩, ⟨y0, y1, y2⟩⟩ := hSz; go_simp; (try simp only [hI2w, hI3w]); first | done | with_reducible rfl | rfl
          try simp only [Act.put, List.setIfInBounds_toArray, List.set_cons_zero, List.set_cons_succ]
          refine wpAnyX_take (i := 9) (v := ?_) (by rw [List.getElem?_toArray]; rfl) (by decide +kernel) (by decide +kernel) (by decide +kernel) (by decide +kernel) (fun _ _ _ h => h) hS0 (Or.inl ⟨by rfl, ?_⟩) ?_
          rotate_left
          · intro wz hSz; obtain ⟨⟨z0, z1, z2⟩, ⟨y0, y1, y2⟩⟩ := hSz; go_simp; (try simp only [hI2w, hI3w]); first | done | with_reducible rfl | rfl
          try simp only [Act.put, List.setIfInBounds_toArray, List.set_cons_zero, List.set_cons_succ]
          refine wpAnyX_take (i := 10) (v := ?_) (by rw [List.getElem?_toArray]; rfl) (by decide +kernel) (by decide +kernel) (by decide +kernel) (by decide +kernel) (fun _ _ _ h => h) hS0 (Or.inl ⟨by rfl, ?_⟩) ?_
          rotate_left
          · intro wz hSz; obtain ⟨⟨z0, z1, z2⟩, ⟨y0, y1, y2⟩⟩ := hSz; go_simp; (try simp only [hI2w, hI3w]); first | done | with_reducible rfl | rfl
          try simp only [Act.put, List.setIfInBounds_toArray, List.set_cons_zero, List.set_cons_succ]
          refine wpAnyX_take (i := 11) (v := ?_) (by rw [List.getElem?_toArray]; rfl) (by decide +kernel) (by decide +kernel) (by decide +kernel) (by decide +kernel) (fun _ _ _ h => h) hS0 (Or.inl ⟨by rfl, ?_⟩) ?_
          rotate_left
          · intro wz hSz; obtain ⟨⟨z0, z1, z2⟩, ⟨y0, y1, y2⟩⟩ := hSz; go_simp; (try simp only [hI2w, hI3w]); first | done | with_reducible rfl | rfl
          try simp only [Act.put, List.setIfInBounds_toArray, List.set_cons_zero, List.set_cons_succ]
          refine wpAnyX_take (i := 13) (v := ?_) (by rw [List.getElem?_toArray]; rfl) (by decide +kernel) (by decide +kernel) (by decide +kernel) (by decide +kernel) (fun _ _ _ h => h) hS0 (Or.inl ⟨by rfl, ?_⟩) ?_
          rotate_left
          · intro wz hSz; obtain ⟨⟨z0, z1, z2⟩, ⟨y0, y1, y2⟩⟩ := hSz; go_simp; (try simp only [hI2w, hI3w]); first | done | with_reducible rfl | rfl
          try simp only [Act.put, List.setIfInBounds_toArray, List.set_cons_zero, List.set_cons_succ]
          refine wpAnyX_take (i := 14) (v := ?_) (by rw [List.getElem?_toArray]; rfl) (by decide +kernel) (by decide +kernel) (by decide +kernel) (by decide +kernel) (fun _ _ _ h => h) hS0 (Or.inl ⟨by rfl, ?_⟩) ?_
          rotate_left
          · intro wz hSz; obtain ⟨⟨z0, z1, z2⟩, ⟨y0, y1, y2⟩⟩ := hSz; go_simp; (try simp only [hI2w, hI3w]); first | done | with_reducible rfl | rfl
          try simp only [Act.put, List.setIfInBounds_toArray, List.set_cons_zero, List.set_cons_succ]
          refine wpAnyX_one (i := 4) (by kernel_rfl) (by rw [List.getElem?_toArray]; rfl) (fun K9 hK => ?_)
          have HK : Hid _ := hK
          clear hK
          go_simp
          refine (HRw.out I2 x0 (by omega) (bel_up' F8.out.1 F0.out.2)).mono ?_
          rintro e x1 ⟨⟨u1, rfl, hu1⟩, kk1, hx1⟩
          have F1 : Hid (Row GB N1 c x1 ∧ Below w8.heap.size w8 x1) := by rw [hx1]; exact ⟨F0.out.1.drewN kk1, below_drewN2 F0.out.2 kk1⟩
          have hS1 := HKr.out _ F1.out.2
          obtain ⟨a, ha, hpa⟩ := HP4.out N1 u1 (by omega) (by omega) hu1
          have HPa : Hid (∀ w : World, Calls Try.prog 9 #[.int .i64 u1, .int .i64 (N1 : Nat)] w fun e w' => e = .returned (.int .i64 a) ∧ w' = w) := hpa
          have hai : (a : Int) < (N1 : Int) := by omega
          have hai0 : (0 : Int) ≤ (a : Int) := by omega
          clear hx1 hu1 hpa
          refine HK.out _ _ (fun _ => hS1) ?_
          clear HK K9
          try simp only [Act.put, List.setIfInBounds_toArray, List.set_cons_zero, List.set_cons_succ]
          refine wpAnyX_one (i := 7) (by kernel_rfl) (by rw [List.getElem?_toArray]; rfl) (fun K9 hK => ?_)
          have HK : Hid _ := hK
          clear hK
          go_simp
          refine (HPa.out x1).mono ?_
          rintro e w' ⟨rfl, hw⟩
          have hw := hw.symm
          subst hw
          refine HK.out _ _ (fun _ => hS1) ?_
          clear HK K9
          try simp only [Act.put, List.setIfInBounds_toArray, List.set_cons_zero, List.set_cons_succ]
          refine wpAnyX_one (i := 12) (by kernel_rfl) (by rw [List.getElem?_toArray]; rfl) (fun K9 hK => ?_)
          have HK : Hid _ := hK
          clear hK
          go_simp
          refine (HRw.out I3 x1 (by omega) (bel_up' F8.out.1 F1.out.2)).mono ?_
          rintro e x2 ⟨⟨u2, rfl, hu2⟩, kk2, hx2⟩
          have F2 : Hid (Row GB N1 c x2 ∧ Below w8.heap.size w8 x2) := by rw [hx2]; exact ⟨F1.out.1.drewN kk2, below_drewN2 F1.out.2 kk2⟩
          have hS2 := HKr.out _ F2.out.2
          obtain ⟨b, hbq, hpb⟩ := HP4.out D.q u2 (by omega) (by omega) hu2
          have HPb : Hid (∀ w : World, Calls Try.prog 9 #[.int .i64 u2, .int .i64 (D.q : Nat)] w fun e w' => e = .returned (.int .i64 b) ∧ w' = w) := hpb
          clear hx2 hu2 hpb
          refine HK.out _ _ (fun _ => hS2) ?_
          clear HK K9
          try simp only [Act.put, List.setIfInBounds_toArray, List.set_cons_zero, List.set_cons_succ]
          refine wpAnyX_one (i := 15) (by kernel_rfl) (by rw [List.getElem?_toArray]; rfl) (fun K9 hK => ?_)
          have HK : Hid _ := hK
          clear hK
          go_simp
          refine (HPb.out x2).mono ?_
          rintro e w' ⟨rfl, hw⟩
          have hw := hw.symm
          subst hw
          refine HK.out _ _ (fun _ => hS2) ?_
          clear HK K9
          try simp only [Act.put, List.setIfInBounds_toArray, List.set_cons_zero, List.set_cons_succ]
          refine wpAnyX_take (i := 16) (v := ?_) (by rw [List.getElem?_toArray]; rfl) (by decide +kernel) (by decide +kernel) (by decide +kernel) (by decide +kernel) (fun _ _ _ h => h) hS2 (Or.inl ⟨by rfl, ?_⟩) ?_
          rotate_left
          · intro wz hSz; obtain ⟨⟨z0, z1, z2⟩, ⟨y0, y1, y2⟩⟩ := hSz; go_simp; (try simp only [hI2w, hI3w]); first | done | with_reducible rfl | rfl
          try simp only [Act.put, List.setIfInBounds_toArray, List.set_cons_zero, List.set_cons_succ]
          have hcell := F2.out.1.cell a ha
          have hfree := F2.out.1.free a
          refine wpAnyX_one (i := 17) (by kernel_rfl) (by rw [List.getElem?_toArray]; rfl) (fun K9 hK => ?_)
          have HK : Hid _ := hK
          clear hK
          go_simp
          refine HK.out _ _ (fun h => absurd rfl h) ?_
          clear HK K9
          refine wpAnyX_done (by kernel_rfl) (NoPanic.normal ?_)
          have HN : Hid (Row GB N1 (fun x => if x = a then b else c x) (x2.setCell ⟨GB, a, none⟩ (.int .i64 (b : Nat))) ∧ (∀ j, j < N1 → (if j = a then b else c j) < D.q) ∧ dsg (fun x => if x = a then b else c x) v N1 ≤ i + 1 ∧ Below w8.heap.size w8 (x2.setCell ⟨GB, a, none⟩ (.int .i64 (b : Nat)))) := by
            refine ⟨F2.out.1.store a b (fun j _ => rfl), fun j hj => ?_, ?_, F2.out.2.setCell H9.out.1 _⟩
            · split
              · exact hbq
              · exact HG.out.2.1 j hj
            · have h6 := dsg_put (c := c) v a b N1
              rw [if_pos ha] at h6
              have := HG.out.2.2.1
              omega
          clear hS0 hS1 hS2 hcell hfree
          go_wp2
          go_roundw
          case rel => exact ⟨i + 1, _, by omega, by go_num, HN⟩
          case measure => simp [intOf]; omega
        · have hib : ¬ (i : Int) < (r : Int) := by omega
          have HR2 : Hid (Row GB N1 c wr ∧ (∀ j, j < N1 → c j < D.q) ∧ dsg c v N1 ≤ r ∧ Below w8.heap.size w8 wr) := by
            rw [show r = i by omega]; exact HG.out
          obtain ⟨E9, hE9⟩ : ∃ E9, E9 = dsg c v N1 := ⟨_, rfl⟩
          have hE9b : E9 ≤ 23 := by rw [hE9]; have := HR2.out.2.2.1; omega
          have hE9e : ((E9 : Int) == (E9 : Int)) = true := by simp
          have hb6r := bel_up' F8.out.1 HR2.out.2.2.2
          have HNr : Hid (Calls Try.prog 15 #[.agg #[.int .i64 D.q, .int .i64 (N1 : Nat), .slice po K pc], .slice (some ⟨GB, 0, none⟩) N1 cB] wr fun x w' => ∃ g c, x = .returned (.tuple #[.slice (some ⟨g, 0, none⟩) N1 c, .int .i64 (E9 : Nat), .int .i64 0]) ∧ Row g N1 v w' ∧ Below wr.heap.size wr w') := by
            show Calls _ _ _ _ _
            rw [hE9]
            exact cod_near HX.out.1.mem pc (HP.out.2.1.below (bel_up' H6.out.1 hb6r)) HP.out.2.2.1 HP.out.2.2.2.1 HX.out.1.kq F8.out.2.2.1 F8.out.2.2.2 ⟨(HR2.out.1.sl (Nat.le_refl _)).z, fun x hx => (by cases hx; exact HR2.out.1.lt), by omega, fun e => (by cases e), H9.out.2.2.1.1, H9.out.2.2.1.2⟩ HR2.out.2.1 HR2.out.2.2.1
          have HAa : Hid (∀ wx, Row GB N1 c wx → Row gr N1 v wx → Calls Try.prog 17 #[.slice (some ⟨GB, 0, none⟩) N1 cB, .slice (some ⟨gr, 0, none⟩) N1 cw] wx fun e w' => e = .returned (.int .i64 (E9 : Nat)) ∧ Below wx.heap.size wx w') := fun wx q1 q2 => by
            have := capart_any (ca := cB) (cb := cw) (q1.sl (Nat.le_refl _)).z (q2.sl (Nat.le_refl _)).z (fun x hx => by cases hx; exact q1.lt) (fun x hx => by cases hx; exact q2.lt) (by omega)
            rw [show ct (fun i => !decide (((c i : Nat) : Int) = ((v i : Nat) : Int))) N1 = E9 by
              rw [hE9]
              exact ct_same N1 (fun j _ => by
                by_cases e : c j = v j
                · rw [decide_eq_true (show ((c j : Nat) : Int) = ((v j : Nat) : Int) by rw [e]), decide_eq_true e]
                · rw [decide_eq_false (show ¬ ((c j : Nat) : Int) = ((v j : Nat) : Int) by omega), decide_eq_false e])] at this
            exact this
          clear hE9
          obtain ⟨⟨k0, k1, k2⟩, ⟨y0, y1, y2⟩⟩ := HK6.out wr hb6r
          clear hb6r
          go_wp2_with fail
          clear k0 k1 k2 y0 y1 y2
          refine HNr.out.mono ?_
          rintro e wn ⟨gn, cn, rfl, hrown, hbn⟩
          have hb8n := bel_up' HR2.out.2.2.2 hbn
          have H5n : Hid (Row gn N1 v wn ∧ Row gr N1 v wn ∧ Row GB N1 c wn ∧ Below w.heap.size w wn) := ⟨hrown, F8.out.2.1.1.below hb8n F8.out.2.1.1.lt, HR2.out.1.below hbn HR2.out.1.lt, bel_up' H6.out.2.2 (bel_up' F8.out.1 hb8n)⟩
          clear hrown hbn hb8n
          go_wp2_with fail
          refine (same_any (sl_sliceI (H5n.out.1.sl (Nat.le_refl _)) (by omega)) (sl_sliceI (H5n.out.2.1.sl (Nat.le_refl _)) (by omega))).mono ?_
          rintro e w6' ⟨rfl, kk, hw6⟩
          have H6' : Hid (Row GB N1 c w6' ∧ Row gr N1 v w6' ∧ Below w.heap.size w w6') := by rw [hw6]; exact ⟨H5n.out.2.2.1.drewN kk, H5n.out.2.1.drewN kk, below_drewN2 H5n.out.2.2.2 kk⟩
          clear hw6
          go_wp2_with fail
          refine (HAa.out w6' H6'.out.1 H6'.out.2.1).mono ?_
          rintro e w7' ⟨rfl, hb7⟩
          have H7' : Hid (Below w.heap.size w w7') := bel_up' H6'.out.2.2 hb7
          clear hb7
          go_wp2
          go_ret
          exact ⟨by first | rfl | simp, H7'.out⟩
end Go.Proofs.Ytafebmhbfmdjlab
