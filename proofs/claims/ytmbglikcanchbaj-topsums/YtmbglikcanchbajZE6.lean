/- TopSums: the walk of the statement, whatever raw numbers it is given. -/
import Derived.Test.YtmbglikcanchbajZK8
import Derived.Test.YtmbglikcanchbajZK6
import Derived.Test.YtmbglikcanchbajZI14
import Derived.Test.YtmbglikcanchbajZS16
namespace Go.Proofs.Ytmbglikcanchbaj
open Go.RowKit Go.Sort

/-- The dual of the sum and what both duals have span the same. -/
theorem dual_sum {D : FD} (F : Fld D) {n m m' s t ku kv ka kb k : Nat} {A B S T U V Ra Rb K : Nat → Nat → Nat} (hA : ∀ i, i < m → El D (A i) ∧ Bd n (A i)) (hB : ∀ i, i < m' → El D (B i) ∧ Bd n (B i)) (hs : Red D n (m + m') (apr m A B) s S) (ht : Dul D n s S t T) (du : Dul D n m A ku U) (dv : Dul D n m' B kv V) (da : Dul D n ku U ka Ra) (db : Dul D n kv V kb Rb) (hk : Dul D n (ka + kb) (apr ka Ra Rb) k K) : t = k ∧ ∀ i, i < t → T i = K i := by
  refine ht.uniq F hk (fun v => ?_)
  obtain ⟨p, _, hs2⟩ := hs
  refine (hs2 v).trans ?_
  have e1 : ∀ i, i < ka → Spn D (RowsOf m A) (Ra i) := fun i hi => (du.dul F da hA (Ra i)).1 (spn_mem F (da.rows.1 i hi) ⟨i, hi, rfl⟩)
  have e2 : ∀ i, i < kb → Spn D (RowsOf m' B) (Rb i) := fun i hi => (dv.dul F db hB (Rb i)).1 (spn_mem F (db.rows.1 i hi) ⟨i, hi, rfl⟩)
  constructor
  · refine fun hv => spn_le F (fun u hu => ?_) hv
    obtain ⟨i, hi, rfl⟩ := hu
    unfold apr
    by_cases e : i < m
    · rw [if_pos e]
      refine spn_le F (fun u hu => ?_) ((du.dul F da hA (A i)).2 (spn_mem F (hA i e).1 ⟨i, e, rfl⟩))
      obtain ⟨j, hj, rfl⟩ := hu
      exact spn_mem F (da.rows.1 j hj) ⟨j, by omega, (if_pos hj).symm⟩
    · rw [if_neg e]
      refine spn_le F (fun u hu => ?_) ((dv.dul F db hB (B (i - m))).2 (spn_mem F (hB (i - m) (by omega)).1 ⟨i - m, by omega, rfl⟩))
      obtain ⟨j, hj, rfl⟩ := hu
      exact spn_mem F (db.rows.1 j hj) ⟨ka + j, by omega, by show Rb j = if ka + j < ka then Ra (ka + j) else Rb (ka + j - ka); rw [if_neg (by omega), show ka + j - ka = j by omega]⟩
  · refine fun hv => spn_le F (fun u hu => ?_) hv
    obtain ⟨i, hi, rfl⟩ := hu
    unfold apr
    by_cases e : i < ka
    · rw [if_pos e]
      refine spn_le F (fun u hu => ?_) (e1 i e)
      obtain ⟨j, hj, rfl⟩ := hu
      exact spn_mem F (hA j hj).1 ⟨j, by omega, (if_pos hj).symm⟩
    · rw [if_neg e]
      refine spn_le F (fun u hu => ?_) (e2 (i - ka) (by omega))
      obtain ⟨j, hj, rfl⟩ := hu
      exact spn_mem F (hB j hj).1 ⟨m + j, by omega, by show B j = if m + j < m then A (m + j) else B (m + j - m); rw [if_neg (by omega), show m + j - m = j by omega]⟩

set_option maxHeartbeats 1000000 in
theorem topSums_long {ao : Option Addr} {n ca : Nat} (q m a b : Int) (w : World) (hn : ¬ n ≤ 256) (hn2 : n ≤ 17592186044416) :
    Calls Try.prog 4 #[.slice ao n ca, .int .i64 q, .int .i64 m, .int .i64 a, .int .i64 b] w fun r w' => r = .returned (.bool true) ∧ Below w.heap.size w w' := by
  have h1 : (256 : Int) < (n : Int) := by omega
  go_enter Try.func4, Try.ntmps4
  go_wp2
  go_ret
  exact ⟨rfl, Below.refl _ _⟩

set_option maxHeartbeats 16000000 in
set_option maxRecDepth 100000 in
theorem topSums_walk {ao : Option Addr} {n ca : Nat} {z : Nat → Int} (q m a b : Int) {w : World} (ha : Arg ao n ca z w) (hn : n ≤ 256) (hq : I64 q) (hm : I64 m) (hav : I64 a) (hbv : I64 b) :
    Calls Try.prog 4 #[.slice ao n ca, .int .i64 q, .int .i64 m, .int .i64 a, .int .i64 b] w fun r w' => r = .returned (.bool true) ∧ Below w.heap.size w w' := by
  obtain ⟨B0, hB0, hB1⟩ := pick_nat6 (m := b) (k := 4) (by omega)
  have HP : Hid (∀ w : World, Calls Try.prog 17 #[.int .i64 b, .int .i64 4] w fun e w' => e = .returned (.int .i64 B0) ∧ w' = w) := fun w => by rw [← hB0]; exact pick_any b 4 w hbv.1 hbv.2 (by omega) (by omega)
  have HA : Hid (Arg ao n ca z w) := ha
  have HC : Hid (I64 q ∧ I64 m ∧ I64 a) := ⟨hq, hm, hav⟩
  have hnb : ¬ (256 : Int) < (n : Int) := by omega
  clear hB0 ha hq hm hav hbv
  go_enter Try.func4, Try.ntmps4
  go_wp2_with fail
  refine (codeOf_any q m a HA.out hn HC.out.1 HC.out.2.1 HC.out.2.2).mono ?_
  clear HC
  rintro e w1 ⟨D, N, r, mo, mc, A, C, Z, hD, hD8, hN, hr, _, rfl, hcd, hb1⟩
  obtain ⟨wk, hwk⟩ : ∃ wk, wk = w1.alloc (.cells #[.int .i64 D.q, .int .i64 (N : Nat), .slice mo r mc] 25) := ⟨_, rfl⟩
  obtain ⟨g1, g2, g3⟩ := box_at D.q (N : Nat) (.slice mo r mc) w1
  rw [← hwk] at g1 g2 g3
  obtain ⟨M, hM⟩ : ∃ M, M = mzc (fun _ => N) Z := ⟨_, rfl⟩
  have h2q := (fld hD).q2
  have hn1 := hcd.n1
  have H1 : Hid (D ∈ fieldsL ∧ Cod D N mo r M wk ∧ CB w1.heap.size D.q (N : Nat) (.slice mo r mc) wk ∧ Below w.heap.size w wk) := ⟨hD, ⟨_, _, _, _, hcd.below g1, fun i _ => by rw [hM]⟩, g2, bel_up' hb1 g1⟩
  have HM : Hid (∀ wx, Below w.heap.size w wx → Calls Try.prog 16 #[.slice ao n ca, .int .i64 31, .int .i64 (D.q : Nat), .int .i64 (B0 : Nat), .int .i64 (N : Nat)] wx fun e w' => ∃ mo mc vs Z, e = .returned (.slice mo B0 mc) ∧ MkS wx.heap.size D.q N B0 (.slice mo B0 mc) vs Z w' ∧ Below wx.heap.size wx w') := fun wx hx => by
    refine (matrixOf_any (HA.out.below hx) (by omega) 31 D.q B0 N (by omega) (by omega) (by omega) (by omega) (by omega)).mono ?_
    rintro e w' ⟨v, vs, Z, rfl, hmk, hb⟩
    obtain ⟨mo, mc, rfl, hz⟩ := hmk.cdz (D := D) (by omega) hn1 (by omega)
    exact ⟨mo, mc, _, _, rfl, hmk, hb⟩
  clear hD hcd hb1 g1 g2 g3 hM h2q
  go_upto_region 4 with fail
  rw [← hwk]
  clear hwk
  go_cut [12] (fun vd wx => ∃ b no nc M', vd = .pointer (some ⟨b, 0, none⟩) ∧ Hid (Cod D N no B0 M' wx ∧ CB b D.q (N : Nat) (.slice no B0 nc) wx ∧ Below wk.heap.size wk wx))
  case first =>
    have HK5 : Hid (∀ wx, Below wk.heap.size wk wx → CB w1.heap.size D.q (N : Nat) (.slice mo r mc) wx) := fun wx hx => H1.out.2.2.1.keep hx
    have hS5 := HK5.out _ (Below.refl wk.heap.size wk).drew
    refine wp_region_noPanic ?_
    refine wp_region_X (S := CB w1.heap.size D.q (N : Nat) (.slice mo r mc)) 14 (by kernel_rfl) ?_
    refine wpAnyX_take (i := 0) (v := ?_) (by rw [List.getElem?_toArray]; rfl) (by kernel_rfl) (by kernel_rfl) (by kernel_rfl) (by kernel_rfl) (fun _ _ _ h => h) hS5 (Or.inl ⟨by rfl, ?_⟩) ?_
    rotate_left
    · intro wz hSz; obtain ⟨z0, z1, z2⟩ := hSz; go_simp; first | done | with_reducible rfl
    try simp only [Act.put, List.setIfInBounds_toArray, List.set_cons_zero, List.set_cons_succ]
    refine wpAnyX_take (i := 1) (v := ?_) (by rw [List.getElem?_toArray]; rfl) (by kernel_rfl) (by kernel_rfl) (by kernel_rfl) (by kernel_rfl) (fun _ _ _ h => h) hS5 (Or.inl ⟨by rfl, ?_⟩) ?_
    rotate_left
    · intro wz hSz; obtain ⟨z0, z1, z2⟩ := hSz; go_simp; first | done | with_reducible rfl
    try simp only [Act.put, List.setIfInBounds_toArray, List.set_cons_zero, List.set_cons_succ]
    refine wpAnyX_take (i := 2) (v := ?_) (by rw [List.getElem?_toArray]; rfl) (by kernel_rfl) (by kernel_rfl) (by kernel_rfl) (by kernel_rfl) (fun _ _ _ h => h) hS5 (Or.inl ⟨by rfl, ?_⟩) ?_
    rotate_left
    · intro wz hSz; obtain ⟨z0, z1, z2⟩ := hSz; go_simp; first | done | with_reducible rfl
    try simp only [Act.put, List.setIfInBounds_toArray, List.set_cons_zero, List.set_cons_succ]
    refine wpAnyX_take (i := 3) (v := ?_) (by rw [List.getElem?_toArray]; rfl) (by kernel_rfl) (by kernel_rfl) (by kernel_rfl) (by kernel_rfl) (fun _ _ _ h => h) hS5 (Or.inl ⟨by rfl, ?_⟩) ?_
    rotate_left
    · intro wz hSz; obtain ⟨z0, z1, z2⟩ := hSz; go_simp; first | done | with_reducible rfl
    try simp only [Act.put, List.setIfInBounds_toArray, List.set_cons_zero, List.set_cons_succ]
    refine wpAnyX_take (i := 4) (v := ?_) (by rw [List.getElem?_toArray]; rfl) (by kernel_rfl) (by kernel_rfl) (by kernel_rfl) (by kernel_rfl) (fun _ _ _ h => h) hS5 (Or.inl ⟨by rfl, ?_⟩) ?_
    rotate_left
    · intro wz hSz; obtain ⟨z0, z1, z2⟩ := hSz; go_simp; first | done | with_reducible rfl
    try simp only [Act.put, List.setIfInBounds_toArray, List.set_cons_zero, List.set_cons_succ]
    refine wpAnyX_take (i := 5) (v := ?_) (by rw [List.getElem?_toArray]; rfl) (by kernel_rfl) (by kernel_rfl) (by kernel_rfl) (by kernel_rfl) (fun _ _ _ h => h) hS5 (Or.inl ⟨by rfl, ?_⟩) ?_
    rotate_left
    · intro wz hSz; obtain ⟨z0, z1, z2⟩ := hSz; go_simp; first | done | with_reducible rfl
    try simp only [Act.put, List.setIfInBounds_toArray, List.set_cons_zero, List.set_cons_succ]
    refine wpAnyX_take (i := 6) (v := ?_) (by rw [List.getElem?_toArray]; rfl) (by kernel_rfl) (by kernel_rfl) (by kernel_rfl) (by kernel_rfl) (fun _ _ _ h => h) hS5 (Or.inl ⟨by rfl, ?_⟩) ?_
    rotate_left
    · intro wz hSz; obtain ⟨z0, z1, z2⟩ := hSz; go_simp; first | done | with_reducible rfl
    try simp only [Act.put, List.setIfInBounds_toArray, List.set_cons_zero, List.set_cons_succ]
    refine wpAnyX_take (i := 7) (v := ?_) (by rw [List.getElem?_toArray]; rfl) (by kernel_rfl) (by kernel_rfl) (by kernel_rfl) (by kernel_rfl) (fun _ _ _ h => h) hS5 (Or.inl ⟨by rfl, ?_⟩) ?_
    rotate_left
    · intro wz hSz; obtain ⟨z0, z1, z2⟩ := hSz; go_simp; first | done | with_reducible rfl
    try simp only [Act.put, List.setIfInBounds_toArray, List.set_cons_zero, List.set_cons_succ]
    refine wpAnyX_take (i := 9) (v := ?_) (by rw [List.getElem?_toArray]; rfl) (by kernel_rfl) (by kernel_rfl) (by kernel_rfl) (by kernel_rfl) (fun _ _ _ h => h) hS5 (Or.inl ⟨by rfl, ?_⟩) ?_
    rotate_left
    · intro wz hSz; obtain ⟨z0, z1, z2⟩ := hSz; go_simp; first | done | with_reducible rfl
    try simp only [Act.put, List.setIfInBounds_toArray, List.set_cons_zero, List.set_cons_succ]
    refine wpAnyX_take (i := 10) (v := ?_) (by rw [List.getElem?_toArray]; rfl) (by kernel_rfl) (by kernel_rfl) (by kernel_rfl) (by kernel_rfl) (fun _ _ _ h => h) hS5 (Or.inl ⟨by rfl, ?_⟩) ?_
    rotate_left
    · intro wz hSz; obtain ⟨z0, z1, z2⟩ := hSz; go_simp; first | done | with_reducible rfl
    try simp only [Act.put, List.setIfInBounds_toArray, List.set_cons_zero, List.set_cons_succ]
    refine wpAnyX_two (i := 8) (k := 13) (by kernel_rfl) (by rw [List.getElem?_toArray]; rfl) (by rw [List.getElem?_toArray]; rfl) (fun K hK => ?_) (fun K hK => ?_)
    · have HK : Hid _ := hK
      clear hK
      go_simp
      refine (HP.out _).mono ?_
      rintro e w' ⟨rfl, hw⟩
      subst hw
      refine HK.out _ _ (fun _ => hS5) ?_
      clear HK K
      try simp only [Act.put, List.setIfInBounds_toArray, List.set_cons_zero, List.set_cons_succ]
      refine wpAnyX_two (i := 11) (k := 13) (by kernel_rfl) (by rw [List.getElem?_toArray]; rfl) (by rw [List.getElem?_toArray]; rfl) (fun K hK => ?_) (fun K hK => ?_)
      · have HK : Hid _ := hK
        clear hK
        go_simp
        refine (HM.out _ (bel_up' H1.out.2.2.2 ((Below.refl wk.heap.size wk).drew))).mono ?_
        rintro e w4 ⟨no, nc, vs, Z', rfl, hmk, hb4⟩
        have H4 : Hid (MkS wk.drew.heap.size D.q N B0 (.slice no B0 nc) vs Z' w4 ∧ Below wk.heap.size wk w4) := ⟨hmk, bel_up' ((Below.refl wk.heap.size wk).drew) hb4⟩
        clear hmk hb4
        refine HK.out _ _ (fun _ => HK5.out _ H4.out.2) ?_
        clear HK K
        try simp only [Act.put, List.setIfInBounds_toArray, List.set_cons_zero, List.set_cons_succ]
        have hS4 := HK5.out _ H4.out.2
        refine wpAnyX_take (i := 12) (v := ?_) (by rw [List.getElem?_toArray]; rfl) (by kernel_rfl) (by kernel_rfl) (by kernel_rfl) (by kernel_rfl) (fun _ _ _ h => h) hS4 (Or.inl ⟨by rfl, ?_⟩) ?_
        rotate_left
        · intro wz hSz; obtain ⟨z0, z1, z2⟩ := hSz; go_simp; first | done | with_reducible rfl
        try simp only [Act.put, List.setIfInBounds_toArray, List.set_cons_zero, List.set_cons_succ]
        refine wpAnyX_one (i := 13) (by kernel_rfl) (by rw [List.getElem?_toArray]; rfl) (fun K hK => ?_)
        have HK : Hid _ := hK
        clear hK
        go_simp
        obtain ⟨w5, hw5⟩ : ∃ w5, w5 = w4.alloc (.cells #[.int .i64 0, .int .i64 0, .slice none 0 0] 25) := ⟨_, rfl⟩
        have H5 : Hid (Below w4.heap.size w4 w5) := by rw [hw5]; exact (Below.refl _ _).alloc (Nat.le_refl _) _
        have HRB : Hid (RB w4.heap.size w5) := by rw [hw5]; exact RB.new _ _ _ _
        have HBX : Hid (wk.heap.size ≤ w4.heap.size) := H4.out.2.size
        first | rw [← hw5] | skip
        refine HK.out _ _ (fun _ => HK5.out _ (bel_up' H4.out.2 H5.out)) ?_
        clear HK K
        try simp only [Act.put, List.setIfInBounds_toArray, List.set_cons_zero, List.set_cons_succ]
        clear hw5
        obtain ⟨⟨x0, c0⟩, ⟨x1, c1⟩, ⟨x2, c2⟩, f0, f1, f2⟩ := HRB.out
        refine wpAnyX_one (i := 14) (by kernel_rfl) (by rw [List.getElem?_toArray]; rfl) (fun K hK => ?_)
        have HK : Hid _ := hK
        clear hK
        go_simp
        refine HK.out _ _ (fun h => absurd rfl h) ?_
        clear HK K
        try simp only [Act.put, List.setIfInBounds_toArray, List.set_cons_zero, List.set_cons_succ]
        refine wpAnyX_done (by kernel_rfl) (NoPanic.normal ?_)
        obtain ⟨w6, hw6⟩ : ∃ w6, w6 = laid w5 w4.heap.size D.q (N : Nat) (.slice no B0 nc) := ⟨_, rfl⟩
        have H6 : Hid (∃ M', Cod D N no B0 M' w6 ∧ CB w4.heap.size D.q (N : Nat) (.slice no B0 nc) w6 ∧ Below wk.heap.size wk w6) := by
          rw [hw6]
          have hmk6 := H4.out.1.below (laid_below H5.out (Nat.le_refl _) D.q (N : Nat) (.slice no B0 nc))
          obtain ⟨no', nc', he, hz⟩ := hmk6.cdz (D := D) (by omega) hn1 (by omega)
          cases he
          exact ⟨_, ⟨_, _, _, _, hz, fun _ _ => rfl⟩, laid_cb HRB.out _ _ _, laid_below (bel_up' H4.out.2 H5.out) (by have := HBX.out; omega) _ _ _⟩
        unfold laid at hw6
        rw [← hw6]
        clear hw6 c0 c1 c2 f0 f1 f2
        obtain ⟨M', hM6⟩ := H6.out
        go_wp2
        go_meet
        case rel => exact ⟨_, no, nc, M', rfl, hM6⟩
      · have HK : Hid _ := hK
        clear hK
        go_simp
        obtain ⟨w5, hw5⟩ : ∃ w5, w5 = wk.drew.alloc (.cells #[.int .i64 0, .int .i64 0, .slice none 0 0] 25) := ⟨_, rfl⟩
        have H5 : Hid (Below wk.heap.size wk w5) := by rw [hw5]; exact (Below.refl _ _).drew.alloc (Nat.le_refl _) _
        have HRB5 : Hid (RB wk.heap.size w5) := by rw [hw5]; exact RB.new _ _ _ wk.drew
        have hlt5 : wk.heap.size < w5.heap.size := by rw [hw5]; simp
        have hw5' : (wk.alloc (.cells #[.int .i64 0, .int .i64 0, .slice none 0 0] 25)).drew = w5 := by rw [hw5]; rfl
        first | rw [hw5'] | rw [← hw5]
        refine HK.out _ _ (fun _ => HK5.out _ H5.out) ?_
        clear HK K
        try simp only [Act.put, List.setIfInBounds_toArray, List.set_cons_zero, List.set_cons_succ]
        clear hw5 hw5'
        refine wpAnyX_one (i := 11) (by kernel_rfl) (by rw [List.getElem?_toArray]; rfl) (fun K hK => ?_)
        have HK : Hid _ := hK
        clear hK
        go_simp
        refine (HM.out _ (bel_up' H1.out.2.2.2 (H5.out))).mono ?_
        rintro e w4 ⟨no, nc, vs, Z', rfl, hmk, hb4⟩
        have H4 : Hid (MkS w5.heap.size D.q N B0 (.slice no B0 nc) vs Z' w4 ∧ Below wk.heap.size wk w4) := ⟨hmk, bel_up' (H5.out) hb4⟩
        have HRB : Hid (RB wk.heap.size w4) := HRB5.out.keep hb4
        have HBX : Hid (wk.heap.size ≤ wk.heap.size) := Nat.le_refl _
        clear hmk hb4
        refine HK.out _ _ (fun _ => HK5.out _ H4.out.2) ?_
        clear HK K
        try simp only [Act.put, List.setIfInBounds_toArray, List.set_cons_zero, List.set_cons_succ]
        refine wpAnyX_one (i := 12) (by kernel_rfl) (by rw [List.getElem?_toArray]; rfl) (fun K hK => ?_)
        have HK : Hid _ := hK
        clear hK
        go_simp
        refine HK.out _ _ (fun _ => HK5.out _ H4.out.2) ?_
        clear HK K
        try simp only [Act.put, List.setIfInBounds_toArray, List.set_cons_zero, List.set_cons_succ]
        obtain ⟨⟨x0, c0⟩, ⟨x1, c1⟩, ⟨x2, c2⟩, f0, f1, f2⟩ := HRB.out
        refine wpAnyX_one (i := 14) (by kernel_rfl) (by rw [List.getElem?_toArray]; rfl) (fun K hK => ?_)
        have HK : Hid _ := hK
        clear hK
        go_simp
        refine HK.out _ _ (fun h => absurd rfl h) ?_
        clear HK K
        try simp only [Act.put, List.setIfInBounds_toArray, List.set_cons_zero, List.set_cons_succ]
        refine wpAnyX_done (by kernel_rfl) (NoPanic.normal ?_)
        obtain ⟨w6, hw6⟩ : ∃ w6, w6 = laid w4 wk.heap.size D.q (N : Nat) (.slice no B0 nc) := ⟨_, rfl⟩
        have H6 : Hid (∃ M', Cod D N no B0 M' w6 ∧ CB wk.heap.size D.q (N : Nat) (.slice no B0 nc) w6 ∧ Below wk.heap.size wk w6) := by
          rw [hw6]
          have hmk6 := H4.out.1.laid hlt5 D.q (N : Nat) (.slice no B0 nc)
          obtain ⟨no', nc', he, hz⟩ := hmk6.cdz (D := D) (by omega) hn1 (by omega)
          cases he
          exact ⟨_, ⟨_, _, _, _, hz, fun _ _ => rfl⟩, laid_cb HRB.out _ _ _, laid_below (H4.out.2) (by have := HBX.out; omega) _ _ _⟩
        unfold laid at hw6
        rw [← hw6]
        clear hw6 c0 c1 c2 f0 f1 f2
        obtain ⟨M', hM6⟩ := H6.out
        go_wp2
        go_meet
        case rel => exact ⟨_, no, nc, M', rfl, hM6⟩
    · have HK : Hid _ := hK
      clear hK
      go_simp
      obtain ⟨w5, hw5⟩ : ∃ w5, w5 = wk.drew.alloc (.cells #[.int .i64 0, .int .i64 0, .slice none 0 0] 25) := ⟨_, rfl⟩
      have H5 : Hid (Below wk.heap.size wk w5) := by rw [hw5]; exact (Below.refl _ _).drew.alloc (Nat.le_refl _) _
      have HRB5 : Hid (RB wk.heap.size w5) := by rw [hw5]; exact RB.new _ _ _ wk.drew
      have hlt5 : wk.heap.size < w5.heap.size := by rw [hw5]; simp
      have hw5' : (wk.alloc (.cells #[.int .i64 0, .int .i64 0, .slice none 0 0] 25)).drew = w5 := by rw [hw5]; rfl
      first | rw [hw5'] | rw [← hw5]
      refine HK.out _ _ (fun _ => HK5.out _ H5.out) ?_
      clear HK K
      try simp only [Act.put, List.setIfInBounds_toArray, List.set_cons_zero, List.set_cons_succ]
      clear hw5 hw5'
      refine wpAnyX_one (i := 8) (by kernel_rfl) (by rw [List.getElem?_toArray]; rfl) (fun K hK => ?_)
      have HK : Hid _ := hK
      clear hK
      go_simp
      refine (HP.out _).mono ?_
      rintro e w' ⟨rfl, hw⟩
      have hw := hw.symm
      subst hw
      refine HK.out _ _ (fun _ => HK5.out _ H5.out) ?_
      clear HK K
      try simp only [Act.put, List.setIfInBounds_toArray, List.set_cons_zero, List.set_cons_succ]
      refine wpAnyX_one (i := 11) (by kernel_rfl) (by rw [List.getElem?_toArray]; rfl) (fun K hK => ?_)
      have HK : Hid _ := hK
      clear hK
      go_simp
      refine (HM.out _ (bel_up' H1.out.2.2.2 (H5.out))).mono ?_
      rintro e w4 ⟨no, nc, vs, Z', rfl, hmk, hb4⟩
      have H4 : Hid (MkS w5.heap.size D.q N B0 (.slice no B0 nc) vs Z' w4 ∧ Below wk.heap.size wk w4) := ⟨hmk, bel_up' (H5.out) hb4⟩
      have HRB : Hid (RB wk.heap.size w4) := HRB5.out.keep hb4
      have HBX : Hid (wk.heap.size ≤ wk.heap.size) := Nat.le_refl _
      clear hmk hb4
      refine HK.out _ _ (fun _ => HK5.out _ H4.out.2) ?_
      clear HK K
      try simp only [Act.put, List.setIfInBounds_toArray, List.set_cons_zero, List.set_cons_succ]
      refine wpAnyX_one (i := 12) (by kernel_rfl) (by rw [List.getElem?_toArray]; rfl) (fun K hK => ?_)
      have HK : Hid _ := hK
      clear hK
      go_simp
      refine HK.out _ _ (fun _ => HK5.out _ H4.out.2) ?_
      clear HK K
      try simp only [Act.put, List.setIfInBounds_toArray, List.set_cons_zero, List.set_cons_succ]
      obtain ⟨⟨x0, c0⟩, ⟨x1, c1⟩, ⟨x2, c2⟩, f0, f1, f2⟩ := HRB.out
      refine wpAnyX_one (i := 14) (by kernel_rfl) (by rw [List.getElem?_toArray]; rfl) (fun K hK => ?_)
      have HK : Hid _ := hK
      clear hK
      go_simp
      refine HK.out _ _ (fun h => absurd rfl h) ?_
      clear HK K
      try simp only [Act.put, List.setIfInBounds_toArray, List.set_cons_zero, List.set_cons_succ]
      refine wpAnyX_done (by kernel_rfl) (NoPanic.normal ?_)
      obtain ⟨w6, hw6⟩ : ∃ w6, w6 = laid w4 wk.heap.size D.q (N : Nat) (.slice no B0 nc) := ⟨_, rfl⟩
      have H6 : Hid (∃ M', Cod D N no B0 M' w6 ∧ CB wk.heap.size D.q (N : Nat) (.slice no B0 nc) w6 ∧ Below wk.heap.size wk w6) := by
        rw [hw6]
        have hmk6 := H4.out.1.laid hlt5 D.q (N : Nat) (.slice no B0 nc)
        obtain ⟨no', nc', he, hz⟩ := hmk6.cdz (D := D) (by omega) hn1 (by omega)
        cases he
        exact ⟨_, ⟨_, _, _, _, hz, fun _ _ => rfl⟩, laid_cb HRB.out _ _ _, laid_below (H4.out.2) (by have := HBX.out; omega) _ _ _⟩
      unfold laid at hw6
      rw [← hw6]
      clear hw6 c0 c1 c2 f0 f1 f2
      obtain ⟨M', hM6⟩ := H6.out
      go_wp2
      go_meet
      case rel => exact ⟨_, no, nc, M', rfl, hM6⟩
  case rest =>
    rename World => w6
    obtain ⟨b4, no, nc, M', rfl, HR⟩ := hcut
    have G6 : Hid ((D ∈ fieldsL) ∧ (Cod D N mo r M w6) ∧ (Cod D N no B0 M' w6) ∧ (CB w1.heap.size D.q (N : Nat) (.slice mo r mc) w6) ∧ (CB b4 D.q (N : Nat) (.slice no B0 nc) w6) ∧ (Below w.heap.size w w6)) := ⟨H1.out.1, H1.out.2.1.below HR.out.2.2, HR.out.1, H1.out.2.2.1.keep HR.out.2.2, HR.out.2.1, bel_up' H1.out.2.2.2 HR.out.2.2⟩
    clear H1 HM HR
    have hqc := G6.out.2.2.2.1
    obtain ⟨qc0, qc1, qc2⟩ := hqc
    have hlc := cell_lt qc0
    have hqd := G6.out.2.2.2.2.1
    obtain ⟨qd0, qd1, qd2⟩ := hqd
    have hld := cell_lt qd0
    go_wp2_with fail
    clear qc0 qc1 qc2 hlc qd0 qd1 qd2 hld
    refine (G6.out.2.1.sum G6.out.1 mc nc G6.out.2.2.1).mono ?_
    rintro e w7 ⟨ks, Rs, os, cs, rfl, ⟨hcod, hrl⟩, hr0, hb⟩
    obtain ⟨w8, hw8⟩ : ∃ w8, w8 = w7.alloc (.cells #[.int .i64 D.q, .int .i64 (N : Nat), .slice os ks cs] 25) := ⟨_, rfl⟩
    obtain ⟨g1, g2, g3⟩ := box_at D.q (N : Nat) (.slice os ks cs) w7
    rw [← hw8] at g1 g2 g3
    have hbb := bel_up' hb g1
    have G8 : Hid ((Cod D N os ks Rs w8) ∧ (RL (.slice os ks cs) ks N Rs w8) ∧ (CB w7.heap.size D.q (N : Nat) (.slice os ks cs) w8) ∧ (Red D N (r + B0) (apr r M M') ks Rs) ∧ (D ∈ fieldsL) ∧ (Cod D N mo r M w8) ∧ (Cod D N no B0 M' w8) ∧ (CB w1.heap.size D.q (N : Nat) (.slice mo r mc) w8) ∧ (CB b4 D.q (N : Nat) (.slice no B0 nc) w8) ∧ (Below w.heap.size w w8)) := ⟨hcod.below g1, hrl.below g1, g2, hr0, G6.out.1, G6.out.2.1.below hbb, G6.out.2.2.1.below hbb, G6.out.2.2.2.1.keep hbb, G6.out.2.2.2.2.1.keep hbb, bel_up' G6.out.2.2.2.2.2 hbb⟩
    have hqc := G6.out.2.2.2.1.keep hb
    obtain ⟨qc0, qc1, qc2⟩ := hqc
    have hlc := cell_lt qc0
    have hqd := G6.out.2.2.2.2.1.keep hb
    obtain ⟨qd0, qd1, qd2⟩ := hqd
    have hld := cell_lt qd0
    clear hcod hrl hb g1 g2 g3 hbb hr0
    clear G6
    go_wp2_with fail
    rw [← hw8]
    clear hw8
    clear qc0 qc1 qc2 hlc qd0 qd1 qd2 hld
    refine (G8.out.2.2.2.2.2.1.meet G8.out.2.2.2.2.1 mc nc G8.out.2.2.2.2.2.2.1).mono ?_
    rintro e w9 ⟨km, Rm, om, cm, rfl, ⟨hcod, hrl⟩, hr0, hb⟩
    obtain ⟨w10, hw10⟩ : ∃ w10, w10 = w9.alloc (.cells #[.int .i64 D.q, .int .i64 (N : Nat), .slice om km cm] 25) := ⟨_, rfl⟩
    obtain ⟨g1, g2, g3⟩ := box_at D.q (N : Nat) (.slice om km cm) w9
    rw [← hw10] at g1 g2 g3
    have hbb := bel_up' hb g1
    have G10 : Hid ((Cod D N om km Rm w10) ∧ (RL (.slice om km cm) km N Rm w10) ∧ (CB w9.heap.size D.q (N : Nat) (.slice om km cm) w10) ∧ (∃ ka Ra kb Rb, Dul D N r M ka Ra ∧ Dul D N B0 M' kb Rb ∧ Dul D N (ka + kb) (apr ka Ra Rb) km Rm) ∧ (Cod D N os ks Rs w10) ∧ (RL (.slice os ks cs) ks N Rs w10) ∧ (CB w7.heap.size D.q (N : Nat) (.slice os ks cs) w10) ∧ (Red D N (r + B0) (apr r M M') ks Rs) ∧ (D ∈ fieldsL) ∧ (Cod D N mo r M w10) ∧ (Cod D N no B0 M' w10) ∧ (CB w1.heap.size D.q (N : Nat) (.slice mo r mc) w10) ∧ (CB b4 D.q (N : Nat) (.slice no B0 nc) w10) ∧ (Below w.heap.size w w10)) := ⟨hcod.below g1, hrl.below g1, g2, hr0, G8.out.1.below hbb, G8.out.2.1.below hbb, G8.out.2.2.1.keep hbb, G8.out.2.2.2.1, G8.out.2.2.2.2.1, G8.out.2.2.2.2.2.1.below hbb, G8.out.2.2.2.2.2.2.1.below hbb, G8.out.2.2.2.2.2.2.2.1.keep hbb, G8.out.2.2.2.2.2.2.2.2.1.keep hbb, bel_up' G8.out.2.2.2.2.2.2.2.2.2 hbb⟩
    have hqc := G8.out.2.2.2.2.2.2.2.1.keep hb
    obtain ⟨qc0, qc1, qc2⟩ := hqc
    have hlc := cell_lt qc0
    clear hcod hrl hb g1 g2 g3 hbb hr0
    clear G8
    go_wp2_with fail
    rw [← hw10]
    clear hw10
    clear qc0 qc1 qc2 hlc
    refine (G10.out.2.2.2.2.2.2.2.2.2.1.make G10.out.2.2.2.2.2.2.2.2.1 mc).mono ?_
    rintro e w11 ⟨kx, Rx, ox, cx, rfl, ⟨hcod, hrl⟩, hr0, hb⟩
    obtain ⟨w12, hw12⟩ : ∃ w12, w12 = w11.alloc (.cells #[.int .i64 D.q, .int .i64 (N : Nat), .slice ox kx cx] 25) := ⟨_, rfl⟩
    obtain ⟨g1, g2, g3⟩ := box_at D.q (N : Nat) (.slice ox kx cx) w11
    rw [← hw12] at g1 g2 g3
    have hbb := bel_up' hb g1
    have G12 : Hid ((Cod D N ox kx Rx w12) ∧ (RL (.slice ox kx cx) kx N Rx w12) ∧ (CB w11.heap.size D.q (N : Nat) (.slice ox kx cx) w12) ∧ (Red D N r M kx Rx) ∧ (Cod D N om km Rm w12) ∧ (RL (.slice om km cm) km N Rm w12) ∧ (CB w9.heap.size D.q (N : Nat) (.slice om km cm) w12) ∧ (∃ ka Ra kb Rb, Dul D N r M ka Ra ∧ Dul D N B0 M' kb Rb ∧ Dul D N (ka + kb) (apr ka Ra Rb) km Rm) ∧ (Cod D N os ks Rs w12) ∧ (RL (.slice os ks cs) ks N Rs w12) ∧ (CB w7.heap.size D.q (N : Nat) (.slice os ks cs) w12) ∧ (Red D N (r + B0) (apr r M M') ks Rs) ∧ (D ∈ fieldsL) ∧ (Cod D N mo r M w12) ∧ (Cod D N no B0 M' w12) ∧ (CB w1.heap.size D.q (N : Nat) (.slice mo r mc) w12) ∧ (CB b4 D.q (N : Nat) (.slice no B0 nc) w12) ∧ (Below w.heap.size w w12)) := ⟨hcod.below g1, hrl.below g1, g2, hr0, G10.out.1.below hbb, G10.out.2.1.below hbb, G10.out.2.2.1.keep hbb, G10.out.2.2.2.1, G10.out.2.2.2.2.1.below hbb, G10.out.2.2.2.2.2.1.below hbb, G10.out.2.2.2.2.2.2.1.keep hbb, G10.out.2.2.2.2.2.2.2.1, G10.out.2.2.2.2.2.2.2.2.1, G10.out.2.2.2.2.2.2.2.2.2.1.below hbb, G10.out.2.2.2.2.2.2.2.2.2.2.1.below hbb, G10.out.2.2.2.2.2.2.2.2.2.2.2.1.keep hbb, G10.out.2.2.2.2.2.2.2.2.2.2.2.2.1.keep hbb, bel_up' G10.out.2.2.2.2.2.2.2.2.2.2.2.2.2 hbb⟩
    have hqd := G10.out.2.2.2.2.2.2.2.2.2.2.2.2.1.keep hb
    obtain ⟨qd0, qd1, qd2⟩ := hqd
    have hld := cell_lt qd0
    clear hcod hrl hb g1 g2 g3 hbb hr0
    clear G10
    go_wp2_with fail
    rw [← hw12]
    clear hw12
    clear qd0 qd1 qd2 hld
    refine (G12.out.2.2.2.2.2.2.2.2.2.2.2.2.2.2.1.make G12.out.2.2.2.2.2.2.2.2.2.2.2.2.1 nc).mono ?_
    rintro e w13 ⟨ky, Ry, oy, cy, rfl, ⟨hcod, hrl⟩, hr0, hb⟩
    obtain ⟨w14, hw14⟩ : ∃ w14, w14 = w13.alloc (.cells #[.int .i64 D.q, .int .i64 (N : Nat), .slice oy ky cy] 25) := ⟨_, rfl⟩
    obtain ⟨g1, g2, g3⟩ := box_at D.q (N : Nat) (.slice oy ky cy) w13
    rw [← hw14] at g1 g2 g3
    have hbb := bel_up' hb g1
    have G14 : Hid ((Cod D N oy ky Ry w14) ∧ (RL (.slice oy ky cy) ky N Ry w14) ∧ (CB w13.heap.size D.q (N : Nat) (.slice oy ky cy) w14) ∧ (Red D N B0 M' ky Ry) ∧ (Cod D N ox kx Rx w14) ∧ (RL (.slice ox kx cx) kx N Rx w14) ∧ (CB w11.heap.size D.q (N : Nat) (.slice ox kx cx) w14) ∧ (Red D N r M kx Rx) ∧ (Cod D N om km Rm w14) ∧ (RL (.slice om km cm) km N Rm w14) ∧ (CB w9.heap.size D.q (N : Nat) (.slice om km cm) w14) ∧ (∃ ka Ra kb Rb, Dul D N r M ka Ra ∧ Dul D N B0 M' kb Rb ∧ Dul D N (ka + kb) (apr ka Ra Rb) km Rm) ∧ (Cod D N os ks Rs w14) ∧ (RL (.slice os ks cs) ks N Rs w14) ∧ (CB w7.heap.size D.q (N : Nat) (.slice os ks cs) w14) ∧ (Red D N (r + B0) (apr r M M') ks Rs) ∧ (D ∈ fieldsL) ∧ (Cod D N mo r M w14) ∧ (Cod D N no B0 M' w14) ∧ (CB w1.heap.size D.q (N : Nat) (.slice mo r mc) w14) ∧ (CB b4 D.q (N : Nat) (.slice no B0 nc) w14) ∧ (Below w.heap.size w w14)) := ⟨hcod.below g1, hrl.below g1, g2, hr0, G12.out.1.below hbb, G12.out.2.1.below hbb, G12.out.2.2.1.keep hbb, G12.out.2.2.2.1, G12.out.2.2.2.2.1.below hbb, G12.out.2.2.2.2.2.1.below hbb, G12.out.2.2.2.2.2.2.1.keep hbb, G12.out.2.2.2.2.2.2.2.1, G12.out.2.2.2.2.2.2.2.2.1.below hbb, G12.out.2.2.2.2.2.2.2.2.2.1.below hbb, G12.out.2.2.2.2.2.2.2.2.2.2.1.keep hbb, G12.out.2.2.2.2.2.2.2.2.2.2.2.1, G12.out.2.2.2.2.2.2.2.2.2.2.2.2.1, G12.out.2.2.2.2.2.2.2.2.2.2.2.2.2.1.below hbb, G12.out.2.2.2.2.2.2.2.2.2.2.2.2.2.2.1.below hbb, G12.out.2.2.2.2.2.2.2.2.2.2.2.2.2.2.2.1.keep hbb, G12.out.2.2.2.2.2.2.2.2.2.2.2.2.2.2.2.2.1.keep hbb, bel_up' G12.out.2.2.2.2.2.2.2.2.2.2.2.2.2.2.2.2.2 hbb⟩
    have hqs := G12.out.2.2.2.2.2.2.2.2.2.2.1.keep hb
    obtain ⟨qs0, qs1, qs2⟩ := hqs
    have hls := cell_lt qs0
    have hqc := G12.out.2.2.2.2.2.2.2.2.2.2.2.2.2.2.2.1.keep hb
    obtain ⟨qc0, qc1, qc2⟩ := hqc
    have hlc := cell_lt qc0
    have hqm := G12.out.2.2.2.2.2.2.1.keep hb
    obtain ⟨qm0, qm1, qm2⟩ := hqm
    have hlm := cell_lt qm0
    have hqx := G12.out.2.2.1.keep hb
    obtain ⟨qx0, qx1, qx2⟩ := hqx
    have hlx := cell_lt qx0
    clear hcod hrl hb g1 g2 g3 hbb hr0
    clear G12
    have hsum : ks + km = kx + ky := by
      obtain ⟨ka, Ra, kb, Rb, d1, d2, d3⟩ := G14.out.2.2.2.2.2.2.2.2.2.2.2.1
      exact sum_meet G14.out.2.2.2.2.2.2.2.2.2.2.2.2.2.2.2.2.1 (G14.out.2.2.2.2.2.2.2.2.2.2.2.2.2.2.2.2.2.1.rows (fld G14.out.2.2.2.2.2.2.2.2.2.2.2.2.2.2.2.2.1)).2.2 (G14.out.2.2.2.2.2.2.2.2.2.2.2.2.2.2.2.2.2.2.1.rows (fld G14.out.2.2.2.2.2.2.2.2.2.2.2.2.2.2.2.2.1)).2.2 G14.out.2.2.2.2.2.2.2.1 G14.out.2.2.2.1 G14.out.2.2.2.2.2.2.2.2.2.2.2.2.2.2.2.1 d1 d2 d3
    have hks : ks ≤ 12 := by have := G14.out.2.2.2.2.2.2.2.2.2.2.2.2.2.2.2.1.le; omega
    have hkm : km ≤ 12 := by obtain ⟨ka, Ra, kb, Rb, d1, d2, d3⟩ := G14.out.2.2.2.2.2.2.2.2.2.2.2.1; have := d3.le; omega
    have hzs : (((ks : Int) + (km : Int)) != ((kx : Int) + (ky : Int))) = false := by rw [bne_eq_false_iff_eq]; omega
    have hkx : kx ≤ 12 := by have := G14.out.2.2.2.2.2.2.2.1.le; omega
    have hky : ky ≤ 12 := by have := G14.out.2.2.2.1.le; omega
    clear hsum
    go_wp2_with fail
    rw [← hw14]
    clear hw14 hzs hks hkm hkx hky
    clear qs0 qs1 qs2 hls qc0 qc1 qc2 hlc qm0 qm1 qm2 hlm qx0 qx1 qx2 hlx
    refine (G14.out.2.2.2.2.2.2.2.2.2.2.2.2.1.dual G14.out.2.2.2.2.2.2.2.2.2.2.2.2.2.2.2.2.1 cs).mono ?_
    rintro e w15 ⟨kt, Rt, ot, ct, rfl, ⟨hcod, hrl⟩, hr0, hb⟩
    obtain ⟨w16, hw16⟩ : ∃ w16, w16 = w15.alloc (.cells #[.int .i64 D.q, .int .i64 (N : Nat), .slice ot kt ct] 25) := ⟨_, rfl⟩
    obtain ⟨g1, g2, g3⟩ := box_at D.q (N : Nat) (.slice ot kt ct) w15
    rw [← hw16] at g1 g2 g3
    have hbb := bel_up' hb g1
    have G16 : Hid ((Cod D N ot kt Rt w16) ∧ (RL (.slice ot kt ct) kt N Rt w16) ∧ (CB w15.heap.size D.q (N : Nat) (.slice ot kt ct) w16) ∧ (Dul D N ks Rs kt Rt) ∧ (Cod D N oy ky Ry w16) ∧ (RL (.slice oy ky cy) ky N Ry w16) ∧ (CB w13.heap.size D.q (N : Nat) (.slice oy ky cy) w16) ∧ (Red D N B0 M' ky Ry) ∧ (Cod D N ox kx Rx w16) ∧ (RL (.slice ox kx cx) kx N Rx w16) ∧ (CB w11.heap.size D.q (N : Nat) (.slice ox kx cx) w16) ∧ (Red D N r M kx Rx) ∧ (Cod D N om km Rm w16) ∧ (RL (.slice om km cm) km N Rm w16) ∧ (CB w9.heap.size D.q (N : Nat) (.slice om km cm) w16) ∧ (∃ ka Ra kb Rb, Dul D N r M ka Ra ∧ Dul D N B0 M' kb Rb ∧ Dul D N (ka + kb) (apr ka Ra Rb) km Rm) ∧ (Cod D N os ks Rs w16) ∧ (RL (.slice os ks cs) ks N Rs w16) ∧ (CB w7.heap.size D.q (N : Nat) (.slice os ks cs) w16) ∧ (Red D N (r + B0) (apr r M M') ks Rs) ∧ (D ∈ fieldsL) ∧ (Cod D N mo r M w16) ∧ (Cod D N no B0 M' w16) ∧ (CB w1.heap.size D.q (N : Nat) (.slice mo r mc) w16) ∧ (CB b4 D.q (N : Nat) (.slice no B0 nc) w16) ∧ (Below w.heap.size w w16)) := ⟨hcod.below g1, hrl.below g1, g2, hr0, G14.out.1.below hbb, G14.out.2.1.below hbb, G14.out.2.2.1.keep hbb, G14.out.2.2.2.1, G14.out.2.2.2.2.1.below hbb, G14.out.2.2.2.2.2.1.below hbb, G14.out.2.2.2.2.2.2.1.keep hbb, G14.out.2.2.2.2.2.2.2.1, G14.out.2.2.2.2.2.2.2.2.1.below hbb, G14.out.2.2.2.2.2.2.2.2.2.1.below hbb, G14.out.2.2.2.2.2.2.2.2.2.2.1.keep hbb, G14.out.2.2.2.2.2.2.2.2.2.2.2.1, G14.out.2.2.2.2.2.2.2.2.2.2.2.2.1.below hbb, G14.out.2.2.2.2.2.2.2.2.2.2.2.2.2.1.below hbb, G14.out.2.2.2.2.2.2.2.2.2.2.2.2.2.2.1.keep hbb, G14.out.2.2.2.2.2.2.2.2.2.2.2.2.2.2.2.1, G14.out.2.2.2.2.2.2.2.2.2.2.2.2.2.2.2.2.1, G14.out.2.2.2.2.2.2.2.2.2.2.2.2.2.2.2.2.2.1.below hbb, G14.out.2.2.2.2.2.2.2.2.2.2.2.2.2.2.2.2.2.2.1.below hbb, G14.out.2.2.2.2.2.2.2.2.2.2.2.2.2.2.2.2.2.2.2.1.keep hbb, G14.out.2.2.2.2.2.2.2.2.2.2.2.2.2.2.2.2.2.2.2.2.1.keep hbb, bel_up' G14.out.2.2.2.2.2.2.2.2.2.2.2.2.2.2.2.2.2.2.2.2.2 hbb⟩
    have hqc := G14.out.2.2.2.2.2.2.2.2.2.2.2.2.2.2.2.2.2.2.2.1.keep hb
    obtain ⟨qc0, qc1, qc2⟩ := hqc
    have hlc := cell_lt qc0
    clear hcod hrl hb g1 g2 g3 hbb hr0
    clear G14
    go_wp2_with fail
    rw [← hw16]
    clear hw16
    clear qc0 qc1 qc2 hlc
    refine (G16.out.2.2.2.2.2.2.2.2.2.2.2.2.2.2.2.2.2.2.2.2.2.1.dual G16.out.2.2.2.2.2.2.2.2.2.2.2.2.2.2.2.2.2.2.2.2.1 mc).mono ?_
    rintro e w17 ⟨ku, Ru, ou, cu, rfl, ⟨hcod, hrl⟩, hr0, hb⟩
    obtain ⟨w18, hw18⟩ : ∃ w18, w18 = w17.alloc (.cells #[.int .i64 D.q, .int .i64 (N : Nat), .slice ou ku cu] 25) := ⟨_, rfl⟩
    obtain ⟨g1, g2, g3⟩ := box_at D.q (N : Nat) (.slice ou ku cu) w17
    rw [← hw18] at g1 g2 g3
    have hbb := bel_up' hb g1
    have G18 : Hid ((Cod D N ou ku Ru w18) ∧ (RL (.slice ou ku cu) ku N Ru w18) ∧ (CB w17.heap.size D.q (N : Nat) (.slice ou ku cu) w18) ∧ (Dul D N r M ku Ru) ∧ (Cod D N ot kt Rt w18) ∧ (RL (.slice ot kt ct) kt N Rt w18) ∧ (CB w15.heap.size D.q (N : Nat) (.slice ot kt ct) w18) ∧ (Dul D N ks Rs kt Rt) ∧ (Cod D N oy ky Ry w18) ∧ (RL (.slice oy ky cy) ky N Ry w18) ∧ (CB w13.heap.size D.q (N : Nat) (.slice oy ky cy) w18) ∧ (Red D N B0 M' ky Ry) ∧ (Cod D N ox kx Rx w18) ∧ (RL (.slice ox kx cx) kx N Rx w18) ∧ (CB w11.heap.size D.q (N : Nat) (.slice ox kx cx) w18) ∧ (Red D N r M kx Rx) ∧ (Cod D N om km Rm w18) ∧ (RL (.slice om km cm) km N Rm w18) ∧ (CB w9.heap.size D.q (N : Nat) (.slice om km cm) w18) ∧ (∃ ka Ra kb Rb, Dul D N r M ka Ra ∧ Dul D N B0 M' kb Rb ∧ Dul D N (ka + kb) (apr ka Ra Rb) km Rm) ∧ (Cod D N os ks Rs w18) ∧ (RL (.slice os ks cs) ks N Rs w18) ∧ (CB w7.heap.size D.q (N : Nat) (.slice os ks cs) w18) ∧ (Red D N (r + B0) (apr r M M') ks Rs) ∧ (D ∈ fieldsL) ∧ (Cod D N mo r M w18) ∧ (Cod D N no B0 M' w18) ∧ (CB w1.heap.size D.q (N : Nat) (.slice mo r mc) w18) ∧ (CB b4 D.q (N : Nat) (.slice no B0 nc) w18) ∧ (Below w.heap.size w w18)) := ⟨hcod.below g1, hrl.below g1, g2, hr0, G16.out.1.below hbb, G16.out.2.1.below hbb, G16.out.2.2.1.keep hbb, G16.out.2.2.2.1, G16.out.2.2.2.2.1.below hbb, G16.out.2.2.2.2.2.1.below hbb, G16.out.2.2.2.2.2.2.1.keep hbb, G16.out.2.2.2.2.2.2.2.1, G16.out.2.2.2.2.2.2.2.2.1.below hbb, G16.out.2.2.2.2.2.2.2.2.2.1.below hbb, G16.out.2.2.2.2.2.2.2.2.2.2.1.keep hbb, G16.out.2.2.2.2.2.2.2.2.2.2.2.1, G16.out.2.2.2.2.2.2.2.2.2.2.2.2.1.below hbb, G16.out.2.2.2.2.2.2.2.2.2.2.2.2.2.1.below hbb, G16.out.2.2.2.2.2.2.2.2.2.2.2.2.2.2.1.keep hbb, G16.out.2.2.2.2.2.2.2.2.2.2.2.2.2.2.2.1, G16.out.2.2.2.2.2.2.2.2.2.2.2.2.2.2.2.2.1.below hbb, G16.out.2.2.2.2.2.2.2.2.2.2.2.2.2.2.2.2.2.1.below hbb, G16.out.2.2.2.2.2.2.2.2.2.2.2.2.2.2.2.2.2.2.1.keep hbb, G16.out.2.2.2.2.2.2.2.2.2.2.2.2.2.2.2.2.2.2.2.1, G16.out.2.2.2.2.2.2.2.2.2.2.2.2.2.2.2.2.2.2.2.2.1, G16.out.2.2.2.2.2.2.2.2.2.2.2.2.2.2.2.2.2.2.2.2.2.1.below hbb, G16.out.2.2.2.2.2.2.2.2.2.2.2.2.2.2.2.2.2.2.2.2.2.2.1.below hbb, G16.out.2.2.2.2.2.2.2.2.2.2.2.2.2.2.2.2.2.2.2.2.2.2.2.1.keep hbb, G16.out.2.2.2.2.2.2.2.2.2.2.2.2.2.2.2.2.2.2.2.2.2.2.2.2.1.keep hbb, bel_up' G16.out.2.2.2.2.2.2.2.2.2.2.2.2.2.2.2.2.2.2.2.2.2.2.2.2.2 hbb⟩
    have hqd := G16.out.2.2.2.2.2.2.2.2.2.2.2.2.2.2.2.2.2.2.2.2.2.2.2.2.1.keep hb
    obtain ⟨qd0, qd1, qd2⟩ := hqd
    have hld := cell_lt qd0
    clear hcod hrl hb g1 g2 g3 hbb hr0
    clear G16
    go_wp2_with fail
    rw [← hw18]
    clear hw18
    clear qd0 qd1 qd2 hld
    refine (G18.out.2.2.2.2.2.2.2.2.2.2.2.2.2.2.2.2.2.2.2.2.2.2.2.2.2.2.1.dual G18.out.2.2.2.2.2.2.2.2.2.2.2.2.2.2.2.2.2.2.2.2.2.2.2.2.1 nc).mono ?_
    rintro e w19 ⟨kv, Rv, ov, cv, rfl, ⟨hcod, hrl⟩, hr0, hb⟩
    obtain ⟨w20, hw20⟩ : ∃ w20, w20 = w19.alloc (.cells #[.int .i64 D.q, .int .i64 (N : Nat), .slice ov kv cv] 25) := ⟨_, rfl⟩
    obtain ⟨g1, g2, g3⟩ := box_at D.q (N : Nat) (.slice ov kv cv) w19
    rw [← hw20] at g1 g2 g3
    have hbb := bel_up' hb g1
    have G20 : Hid ((Cod D N ov kv Rv w20) ∧ (RL (.slice ov kv cv) kv N Rv w20) ∧ (CB w19.heap.size D.q (N : Nat) (.slice ov kv cv) w20) ∧ (Dul D N B0 M' kv Rv) ∧ (Cod D N ou ku Ru w20) ∧ (RL (.slice ou ku cu) ku N Ru w20) ∧ (CB w17.heap.size D.q (N : Nat) (.slice ou ku cu) w20) ∧ (Dul D N r M ku Ru) ∧ (Cod D N ot kt Rt w20) ∧ (RL (.slice ot kt ct) kt N Rt w20) ∧ (CB w15.heap.size D.q (N : Nat) (.slice ot kt ct) w20) ∧ (Dul D N ks Rs kt Rt) ∧ (Cod D N oy ky Ry w20) ∧ (RL (.slice oy ky cy) ky N Ry w20) ∧ (CB w13.heap.size D.q (N : Nat) (.slice oy ky cy) w20) ∧ (Red D N B0 M' ky Ry) ∧ (Cod D N ox kx Rx w20) ∧ (RL (.slice ox kx cx) kx N Rx w20) ∧ (CB w11.heap.size D.q (N : Nat) (.slice ox kx cx) w20) ∧ (Red D N r M kx Rx) ∧ (Cod D N om km Rm w20) ∧ (RL (.slice om km cm) km N Rm w20) ∧ (CB w9.heap.size D.q (N : Nat) (.slice om km cm) w20) ∧ (∃ ka Ra kb Rb, Dul D N r M ka Ra ∧ Dul D N B0 M' kb Rb ∧ Dul D N (ka + kb) (apr ka Ra Rb) km Rm) ∧ (Cod D N os ks Rs w20) ∧ (RL (.slice os ks cs) ks N Rs w20) ∧ (CB w7.heap.size D.q (N : Nat) (.slice os ks cs) w20) ∧ (Red D N (r + B0) (apr r M M') ks Rs) ∧ (D ∈ fieldsL) ∧ (Cod D N mo r M w20) ∧ (Cod D N no B0 M' w20) ∧ (CB w1.heap.size D.q (N : Nat) (.slice mo r mc) w20) ∧ (CB b4 D.q (N : Nat) (.slice no B0 nc) w20) ∧ (Below w.heap.size w w20)) := ⟨hcod.below g1, hrl.below g1, g2, hr0, G18.out.1.below hbb, G18.out.2.1.below hbb, G18.out.2.2.1.keep hbb, G18.out.2.2.2.1, G18.out.2.2.2.2.1.below hbb, G18.out.2.2.2.2.2.1.below hbb, G18.out.2.2.2.2.2.2.1.keep hbb, G18.out.2.2.2.2.2.2.2.1, G18.out.2.2.2.2.2.2.2.2.1.below hbb, G18.out.2.2.2.2.2.2.2.2.2.1.below hbb, G18.out.2.2.2.2.2.2.2.2.2.2.1.keep hbb, G18.out.2.2.2.2.2.2.2.2.2.2.2.1, G18.out.2.2.2.2.2.2.2.2.2.2.2.2.1.below hbb, G18.out.2.2.2.2.2.2.2.2.2.2.2.2.2.1.below hbb, G18.out.2.2.2.2.2.2.2.2.2.2.2.2.2.2.1.keep hbb, G18.out.2.2.2.2.2.2.2.2.2.2.2.2.2.2.2.1, G18.out.2.2.2.2.2.2.2.2.2.2.2.2.2.2.2.2.1.below hbb, G18.out.2.2.2.2.2.2.2.2.2.2.2.2.2.2.2.2.2.1.below hbb, G18.out.2.2.2.2.2.2.2.2.2.2.2.2.2.2.2.2.2.2.1.keep hbb, G18.out.2.2.2.2.2.2.2.2.2.2.2.2.2.2.2.2.2.2.2.1, G18.out.2.2.2.2.2.2.2.2.2.2.2.2.2.2.2.2.2.2.2.2.1.below hbb, G18.out.2.2.2.2.2.2.2.2.2.2.2.2.2.2.2.2.2.2.2.2.2.1.below hbb, G18.out.2.2.2.2.2.2.2.2.2.2.2.2.2.2.2.2.2.2.2.2.2.2.1.keep hbb, G18.out.2.2.2.2.2.2.2.2.2.2.2.2.2.2.2.2.2.2.2.2.2.2.2.1, G18.out.2.2.2.2.2.2.2.2.2.2.2.2.2.2.2.2.2.2.2.2.2.2.2.2.1, G18.out.2.2.2.2.2.2.2.2.2.2.2.2.2.2.2.2.2.2.2.2.2.2.2.2.2.1.below hbb, G18.out.2.2.2.2.2.2.2.2.2.2.2.2.2.2.2.2.2.2.2.2.2.2.2.2.2.2.1.below hbb, G18.out.2.2.2.2.2.2.2.2.2.2.2.2.2.2.2.2.2.2.2.2.2.2.2.2.2.2.2.1.keep hbb, G18.out.2.2.2.2.2.2.2.2.2.2.2.2.2.2.2.2.2.2.2.2.2.2.2.2.2.2.2.2.1.keep hbb, bel_up' G18.out.2.2.2.2.2.2.2.2.2.2.2.2.2.2.2.2.2.2.2.2.2.2.2.2.2.2.2.2.2 hbb⟩
    have hqu := G18.out.2.2.1.keep hb
    obtain ⟨qu0, qu1, qu2⟩ := hqu
    have hlu := cell_lt qu0
    clear hcod hrl hb g1 g2 g3 hbb hr0
    clear G18
    go_wp2_with fail
    rw [← hw20]
    clear hw20
    clear qu0 qu1 qu2 hlu
    refine (G20.out.2.2.2.2.1.meet G20.out.2.2.2.2.2.2.2.2.2.2.2.2.2.2.2.2.2.2.2.2.2.2.2.2.2.2.2.2.1 cu cv G20.out.1).mono ?_
    rintro e w21 ⟨kk, Rk, ok, ck, rfl, ⟨hcod, hrl⟩, hr0, hb⟩
    obtain ⟨w22, hw22⟩ : ∃ w22, w22 = w21.alloc (.cells #[.int .i64 D.q, .int .i64 (N : Nat), .slice ok kk ck] 25) := ⟨_, rfl⟩
    obtain ⟨g1, g2, g3⟩ := box_at D.q (N : Nat) (.slice ok kk ck) w21
    rw [← hw22] at g1 g2 g3
    have hbb := bel_up' hb g1
    have G22 : Hid ((Cod D N ok kk Rk w22) ∧ (RL (.slice ok kk ck) kk N Rk w22) ∧ (CB w21.heap.size D.q (N : Nat) (.slice ok kk ck) w22) ∧ (∃ ka Ra kb Rb, Dul D N ku Ru ka Ra ∧ Dul D N kv Rv kb Rb ∧ Dul D N (ka + kb) (apr ka Ra Rb) kk Rk) ∧ (Cod D N ov kv Rv w22) ∧ (RL (.slice ov kv cv) kv N Rv w22) ∧ (CB w19.heap.size D.q (N : Nat) (.slice ov kv cv) w22) ∧ (Dul D N B0 M' kv Rv) ∧ (Cod D N ou ku Ru w22) ∧ (RL (.slice ou ku cu) ku N Ru w22) ∧ (CB w17.heap.size D.q (N : Nat) (.slice ou ku cu) w22) ∧ (Dul D N r M ku Ru) ∧ (Cod D N ot kt Rt w22) ∧ (RL (.slice ot kt ct) kt N Rt w22) ∧ (CB w15.heap.size D.q (N : Nat) (.slice ot kt ct) w22) ∧ (Dul D N ks Rs kt Rt) ∧ (Cod D N oy ky Ry w22) ∧ (RL (.slice oy ky cy) ky N Ry w22) ∧ (CB w13.heap.size D.q (N : Nat) (.slice oy ky cy) w22) ∧ (Red D N B0 M' ky Ry) ∧ (Cod D N ox kx Rx w22) ∧ (RL (.slice ox kx cx) kx N Rx w22) ∧ (CB w11.heap.size D.q (N : Nat) (.slice ox kx cx) w22) ∧ (Red D N r M kx Rx) ∧ (Cod D N om km Rm w22) ∧ (RL (.slice om km cm) km N Rm w22) ∧ (CB w9.heap.size D.q (N : Nat) (.slice om km cm) w22) ∧ (∃ ka Ra kb Rb, Dul D N r M ka Ra ∧ Dul D N B0 M' kb Rb ∧ Dul D N (ka + kb) (apr ka Ra Rb) km Rm) ∧ (Cod D N os ks Rs w22) ∧ (RL (.slice os ks cs) ks N Rs w22) ∧ (CB w7.heap.size D.q (N : Nat) (.slice os ks cs) w22) ∧ (Red D N (r + B0) (apr r M M') ks Rs) ∧ (D ∈ fieldsL) ∧ (Cod D N mo r M w22) ∧ (Cod D N no B0 M' w22) ∧ (CB w1.heap.size D.q (N : Nat) (.slice mo r mc) w22) ∧ (CB b4 D.q (N : Nat) (.slice no B0 nc) w22) ∧ (Below w.heap.size w w22)) := ⟨hcod.below g1, hrl.below g1, g2, hr0, G20.out.1.below hbb, G20.out.2.1.below hbb, G20.out.2.2.1.keep hbb, G20.out.2.2.2.1, G20.out.2.2.2.2.1.below hbb, G20.out.2.2.2.2.2.1.below hbb, G20.out.2.2.2.2.2.2.1.keep hbb, G20.out.2.2.2.2.2.2.2.1, G20.out.2.2.2.2.2.2.2.2.1.below hbb, G20.out.2.2.2.2.2.2.2.2.2.1.below hbb, G20.out.2.2.2.2.2.2.2.2.2.2.1.keep hbb, G20.out.2.2.2.2.2.2.2.2.2.2.2.1, G20.out.2.2.2.2.2.2.2.2.2.2.2.2.1.below hbb, G20.out.2.2.2.2.2.2.2.2.2.2.2.2.2.1.below hbb, G20.out.2.2.2.2.2.2.2.2.2.2.2.2.2.2.1.keep hbb, G20.out.2.2.2.2.2.2.2.2.2.2.2.2.2.2.2.1, G20.out.2.2.2.2.2.2.2.2.2.2.2.2.2.2.2.2.1.below hbb, G20.out.2.2.2.2.2.2.2.2.2.2.2.2.2.2.2.2.2.1.below hbb, G20.out.2.2.2.2.2.2.2.2.2.2.2.2.2.2.2.2.2.2.1.keep hbb, G20.out.2.2.2.2.2.2.2.2.2.2.2.2.2.2.2.2.2.2.2.1, G20.out.2.2.2.2.2.2.2.2.2.2.2.2.2.2.2.2.2.2.2.2.1.below hbb, G20.out.2.2.2.2.2.2.2.2.2.2.2.2.2.2.2.2.2.2.2.2.2.1.below hbb, G20.out.2.2.2.2.2.2.2.2.2.2.2.2.2.2.2.2.2.2.2.2.2.2.1.keep hbb, G20.out.2.2.2.2.2.2.2.2.2.2.2.2.2.2.2.2.2.2.2.2.2.2.2.1, G20.out.2.2.2.2.2.2.2.2.2.2.2.2.2.2.2.2.2.2.2.2.2.2.2.2.1.below hbb, G20.out.2.2.2.2.2.2.2.2.2.2.2.2.2.2.2.2.2.2.2.2.2.2.2.2.2.1.below hbb, G20.out.2.2.2.2.2.2.2.2.2.2.2.2.2.2.2.2.2.2.2.2.2.2.2.2.2.2.1.keep hbb, G20.out.2.2.2.2.2.2.2.2.2.2.2.2.2.2.2.2.2.2.2.2.2.2.2.2.2.2.2.1, G20.out.2.2.2.2.2.2.2.2.2.2.2.2.2.2.2.2.2.2.2.2.2.2.2.2.2.2.2.2.1, G20.out.2.2.2.2.2.2.2.2.2.2.2.2.2.2.2.2.2.2.2.2.2.2.2.2.2.2.2.2.2.1.below hbb, G20.out.2.2.2.2.2.2.2.2.2.2.2.2.2.2.2.2.2.2.2.2.2.2.2.2.2.2.2.2.2.2.1.below hbb, G20.out.2.2.2.2.2.2.2.2.2.2.2.2.2.2.2.2.2.2.2.2.2.2.2.2.2.2.2.2.2.2.2.1.keep hbb, G20.out.2.2.2.2.2.2.2.2.2.2.2.2.2.2.2.2.2.2.2.2.2.2.2.2.2.2.2.2.2.2.2.2.1.keep hbb, bel_up' G20.out.2.2.2.2.2.2.2.2.2.2.2.2.2.2.2.2.2.2.2.2.2.2.2.2.2.2.2.2.2.2.2.2.2 hbb⟩
    have hqt := G20.out.2.2.2.2.2.2.2.2.2.2.1.keep hb
    obtain ⟨qt0, qt1, qt2⟩ := hqt
    have hlt := cell_lt qt0
    clear hcod hrl hb g1 g2 g3 hbb hr0
    clear G20
    have heq : kt = kk ∧ ∀ i, i < kt → Rt i = Rk i := by
      obtain ⟨ka, Ra, kb, Rb, d1, d2, d3⟩ := G22.out.2.2.2.1
      exact dual_sum (fld G22.out.2.2.2.2.2.2.2.2.2.2.2.2.2.2.2.2.2.2.2.2.2.2.2.2.2.2.2.2.2.2.2.2.1) (G22.out.2.2.2.2.2.2.2.2.2.2.2.2.2.2.2.2.2.2.2.2.2.2.2.2.2.2.2.2.2.2.2.2.2.1.rows (fld G22.out.2.2.2.2.2.2.2.2.2.2.2.2.2.2.2.2.2.2.2.2.2.2.2.2.2.2.2.2.2.2.2.2.1)).2.2 (G22.out.2.2.2.2.2.2.2.2.2.2.2.2.2.2.2.2.2.2.2.2.2.2.2.2.2.2.2.2.2.2.2.2.2.2.1.rows (fld G22.out.2.2.2.2.2.2.2.2.2.2.2.2.2.2.2.2.2.2.2.2.2.2.2.2.2.2.2.2.2.2.2.2.1)).2.2 G22.out.2.2.2.2.2.2.2.2.2.2.2.2.2.2.2.2.2.2.2.2.2.2.2.2.2.2.2.2.2.2.2.1 G22.out.2.2.2.2.2.2.2.2.2.2.2.2.2.2.2.1 G22.out.2.2.2.2.2.2.2.2.2.2.2.1 G22.out.2.2.2.2.2.2.2.1 d1 d2 d3
    obtain ⟨hk1, hk2⟩ := heq
    subst hk1
    have HE : Hid (∀ i, i < kt → Rt i = Rk i) := hk2
    clear hk2
    go_wp2_with fail
    rw [← hw22]
    clear hw22
    clear qt0 qt1 qt2 hlt
    refine (rsameCode_any D.q (N : Nat) G22.out.2.2.2.2.2.2.2.2.2.2.2.2.2.1 (G22.out.2.1.congr (fun i hi => (HE.out i hi).symm)) (by have := G22.out.2.2.2.2.2.2.2.2.2.2.2.2.2.2.2.1.le; omega) (by omega)).mono ?_
    rintro e wl ⟨rfl, hbl⟩
    have HL : Hid (Below w.heap.size w wl) := bel_up' G22.out.2.2.2.2.2.2.2.2.2.2.2.2.2.2.2.2.2.2.2.2.2.2.2.2.2.2.2.2.2.2.2.2.2.2.2.2.2 hbl
    clear hbl
    go_wp2
    go_ret
    exact ⟨by first | rfl | simp, HL.out⟩
end Go.Proofs.Ytmbglikcanchbaj
