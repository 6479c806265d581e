/- TopDual: the walk of the statement, whatever raw numbers it is given. -/
import Derived.Test.YtbpeahhhkcljeaaZK8
import Derived.Test.YtbpeahhhkcljeaaZI10
namespace Go.Proofs.Ytbpeahhhkcljeaa
open Go.RowKit Go.Sort

theorem Dul.red {D : FD} {n m k : Nat} {M R : Nat → Nat → Nat} (h : Dul D n m M k R) {m' : Nat} {M' : Nat → Nat → Nat} (hs : ∀ v, Spn D (RowsOf k R) v ↔ Spn D (RowsOf m' M') v) : Red D n m' M' k R := by
  obtain ⟨_, _, _, p, _, _, q1, _⟩ := h
  exact ⟨p, q1, hs⟩
/-- The dual's own one form. -/
theorem Dul.own {D : FD} {n m k : Nat} {M R : Nat → Nat → Nat} (h : Dul D n m M k R) : Red D n k R k R := h.red (fun _ => Iff.rfl)

set_option maxHeartbeats 1000000 in
theorem topDual_long {ao bo : Option Addr} {n ca l cb : Nat} (q m r : Int) (w : World) (hn : ¬ n + l ≤ 256) (hn2 : n ≤ 17592186044416) (hl2 : l ≤ 17592186044416) :
    Calls Try.prog 8 #[.slice ao n ca, .int .i64 q, .int .i64 m, .int .i64 r, .slice bo l cb] w fun r w' => r = .returned (.bool true) ∧ Below w.heap.size w w' := by
  have h1 : (256 : Int) < (n : Int) + (l : Int) := by omega
  go_enter Try.func8, Try.ntmps8
  go_wp2
  go_ret
  exact ⟨rfl, Below.refl _ _⟩

set_option maxHeartbeats 16000000 in
set_option maxRecDepth 100000 in
theorem topDual_walk {ao bo : Option Addr} {n ca l cb : Nat} {z y : Nat → Int} (q m a : Int) {w : World} (ha : Arg ao n ca z w) (hy : Arg bo l cb y w) (hn : n + l ≤ 256) (hq : I64 q) (hm : I64 m) (hav : I64 a) :
    Calls Try.prog 8 #[.slice ao n ca, .int .i64 q, .int .i64 m, .int .i64 a, .slice bo l cb] w fun r w' => r = .returned (.bool true) ∧ Below w.heap.size w w' := by
  have HA : Hid (Arg ao n ca z w ∧ Arg bo l cb y w) := ⟨ha, hy⟩
  have HC : Hid (I64 q ∧ I64 m ∧ I64 a) := ⟨hq, hm, hav⟩
  have hnb : ¬ (256 : Int) < (n : Int) + (l : Int) := by omega
  clear ha hy hq hm hav
  go_enter Try.func8, Try.ntmps8
  go_wp2_with fail
  refine (codeOf_any q m a HA.out.1 (by omega) HC.out.1 HC.out.2.1 HC.out.2.2).mono ?_
  clear HC
  rintro e w1 ⟨D, N, r, mo, mc, A, C, Z, hD, hD8, hN, hr, _, rfl, hcd, hb1⟩
  obtain ⟨w2, hw2⟩ : ∃ w2, w2 = w1.alloc (.cells #[.int .i64 D.q, .int .i64 (N : Nat), .slice mo r mc] 43) := ⟨_, rfl⟩
  obtain ⟨g1, g2, g3⟩ := box_at D.q (N : Nat) (.slice mo r mc) w1
  rw [← hw2] at g1 g2 g3
  obtain ⟨M, hM⟩ : ∃ M, M = mzc (fun _ => N) Z := ⟨_, rfl⟩
  have h2q := (fld hD).q2
  have hn1 := hcd.n1
  have G2 : Hid ((D ∈ fieldsL) ∧ (Cod D N mo r M w2) ∧ (CB w1.heap.size D.q (N : Nat) (.slice mo r mc) w2) ∧ (Below w.heap.size w w2)) := ⟨hD, ⟨_, _, _, _, hcd.below g1, fun i _ => by rw [hM]⟩, g2, bel_up' hb1 g1⟩
  have HNum : Hid (∀ (f k : Nat) wx, f ≤ 100 → k ≤ 64 → Below w.heap.size w wx → Calls Try.prog 20 #[.slice bo l cb, .int .i64 (f : Nat), .int .i64 (D.q : Nat), .int .i64 (k : Nat)] wx fun e w' => ∃ yo cy y, e = .returned (.slice yo k cy) ∧ Arg yo k cy y w' ∧ D.nchk k y (k : Nat) = 0 ∧ Below wx.heap.size wx w') := fun f k wx hf hk hx => by
    refine (numbers_any (HA.out.2.below hx) (by omega) f D.q k (by omega) (by omega) (by omega) (by omega)).mono ?_
    rintro e w' ⟨v, y, rfl, ho, hbl, hb⟩
    obtain ⟨yo, cy, rfl, hA⟩ := ho.argL
    exact ⟨yo, cy, y, rfl, hA.arg (by omega), blw_nchk hbl, hb⟩
  clear hD hcd hb1 g1 g2 g3 hM h2q
  go_wp2_with fail
  rw [← hw2]
  clear hw2
  refine (G2.out.2.1.make G2.out.1 mc).mono ?_
  rintro e w3 ⟨ko, Ro, oo, co, rfl, ⟨hcod, hrl⟩, hr0, hb⟩
  obtain ⟨w4, hw4⟩ : ∃ w4, w4 = w3.alloc (.cells #[.int .i64 D.q, .int .i64 (N : Nat), .slice oo ko co] 43) := ⟨_, rfl⟩
  obtain ⟨g1, g2, g3⟩ := box_at D.q (N : Nat) (.slice oo ko co) w3
  rw [← hw4] at g1 g2 g3
  have hbb := bel_up' hb g1
  have G4 : Hid ((Cod D N oo ko Ro w4) ∧ (RL (.slice oo ko co) ko N Ro w4) ∧ (CB w3.heap.size D.q (N : Nat) (.slice oo ko co) w4) ∧ (Red D N r M ko Ro) ∧ (D ∈ fieldsL) ∧ (Cod D N mo r M w4) ∧ (CB w1.heap.size D.q (N : Nat) (.slice mo r mc) w4) ∧ (Below w.heap.size w w4)) := ⟨hcod.below g1, hrl.below g1, g2, hr0, G2.out.1, G2.out.2.1.below hbb, G2.out.2.2.1.keep hbb, bel_up' G2.out.2.2.2 hbb⟩
  have hqc := G2.out.2.2.1.keep hb
  obtain ⟨qc0, qc1, qc2⟩ := hqc
  have hlc := cell_lt qc0
  clear hcod hrl hb g1 g2 g3 hbb hr0
  clear G2
  go_wp2_with fail
  rw [← hw4]
  clear hw4
  clear qc0 qc1 qc2 hlc
  refine (G4.out.2.2.2.2.2.1.dual G4.out.2.2.2.2.1 mc).mono ?_
  rintro e w5 ⟨kd, Rd, od, cd, rfl, ⟨hcod, hrl⟩, hr0, hb⟩
  obtain ⟨w6, hw6⟩ : ∃ w6, w6 = w5.alloc (.cells #[.int .i64 D.q, .int .i64 (N : Nat), .slice od kd cd] 43) := ⟨_, rfl⟩
  obtain ⟨g1, g2, g3⟩ := box_at D.q (N : Nat) (.slice od kd cd) w5
  rw [← hw6] at g1 g2 g3
  have hbb := bel_up' hb g1
  have G6 : Hid ((Cod D N od kd Rd w6) ∧ (RL (.slice od kd cd) kd N Rd w6) ∧ (CB w5.heap.size D.q (N : Nat) (.slice od kd cd) w6) ∧ (Dul D N r M kd Rd) ∧ (Cod D N oo ko Ro w6) ∧ (RL (.slice oo ko co) ko N Ro w6) ∧ (CB w3.heap.size D.q (N : Nat) (.slice oo ko co) w6) ∧ (Red D N r M ko Ro) ∧ (D ∈ fieldsL) ∧ (Cod D N mo r M w6) ∧ (CB w1.heap.size D.q (N : Nat) (.slice mo r mc) w6) ∧ (Below w.heap.size w w6)) := ⟨hcod.below g1, hrl.below g1, g2, hr0, G4.out.1.below hbb, G4.out.2.1.below hbb, G4.out.2.2.1.keep hbb, G4.out.2.2.2.1, G4.out.2.2.2.2.1, G4.out.2.2.2.2.2.1.below hbb, G4.out.2.2.2.2.2.2.1.keep hbb, bel_up' G4.out.2.2.2.2.2.2.2 hbb⟩
  clear hcod hrl hb g1 g2 g3 hbb hr0
  clear G4
  go_wp2_with fail
  rw [← hw6]
  clear hw6
  refine (G6.out.1.dual G6.out.2.2.2.2.2.2.2.2.1 cd).mono ?_
  rintro e w7 ⟨kb, Rb, ob, cb, rfl, ⟨hcod, hrl⟩, hr0, hb⟩
  obtain ⟨w8, hw8⟩ : ∃ w8, w8 = w7.alloc (.cells #[.int .i64 D.q, .int .i64 (N : Nat), .slice ob kb cb] 43) := ⟨_, rfl⟩
  obtain ⟨g1, g2, g3⟩ := box_at D.q (N : Nat) (.slice ob kb cb) w7
  rw [← hw8] at g1 g2 g3
  have hbb := bel_up' hb g1
  have G8 : Hid ((Cod D N ob kb Rb w8) ∧ (RL (.slice ob kb cb) kb N Rb w8) ∧ (CB w7.heap.size D.q (N : Nat) (.slice ob kb cb) w8) ∧ (Dul D N kd Rd kb Rb) ∧ (Cod D N od kd Rd w8) ∧ (RL (.slice od kd cd) kd N Rd w8) ∧ (CB w5.heap.size D.q (N : Nat) (.slice od kd cd) w8) ∧ (Dul D N r M kd Rd) ∧ (Cod D N oo ko Ro w8) ∧ (RL (.slice oo ko co) ko N Ro w8) ∧ (CB w3.heap.size D.q (N : Nat) (.slice oo ko co) w8) ∧ (Red D N r M ko Ro) ∧ (D ∈ fieldsL) ∧ (Cod D N mo r M w8) ∧ (CB w1.heap.size D.q (N : Nat) (.slice mo r mc) w8) ∧ (Below w.heap.size w w8)) := ⟨hcod.below g1, hrl.below g1, g2, hr0, G6.out.1.below hbb, G6.out.2.1.below hbb, G6.out.2.2.1.keep hbb, G6.out.2.2.2.1, G6.out.2.2.2.2.1.below hbb, G6.out.2.2.2.2.2.1.below hbb, G6.out.2.2.2.2.2.2.1.keep hbb, G6.out.2.2.2.2.2.2.2.1, G6.out.2.2.2.2.2.2.2.2.1, G6.out.2.2.2.2.2.2.2.2.2.1.below hbb, G6.out.2.2.2.2.2.2.2.2.2.2.1.keep hbb, bel_up' G6.out.2.2.2.2.2.2.2.2.2.2.2 hbb⟩
  have hqo := G6.out.2.2.2.2.2.2.1.keep hb
  obtain ⟨qo0, qo1, qo2⟩ := hqo
  have hlo := cell_lt qo0
  have hqd := G6.out.2.2.1.keep hb
  obtain ⟨qd0, qd1, qd2⟩ := hqd
  have hld := cell_lt qd0
  have hqc := G6.out.2.2.2.2.2.2.2.2.2.2.1.keep hb
  obtain ⟨qc0, qc1, qc2⟩ := hqc
  have hlc := cell_lt qc0
  clear hcod hrl hb g1 g2 g3 hbb hr0
  clear G6
  have heq : kb = ko ∧ ∀ i, i < kb → Rb i = Ro i := by
    have h1 := G8.out.2.2.2.1.red (G8.out.2.2.2.2.2.2.2.1.dul (fld G8.out.2.2.2.2.2.2.2.2.2.2.2.2.1) G8.out.2.2.2.1 (G8.out.2.2.2.2.2.2.2.2.2.2.2.2.2.1.rows (fld G8.out.2.2.2.2.2.2.2.2.2.2.2.2.1)).2.2)
    exact h1.uniq (fld G8.out.2.2.2.2.2.2.2.2.2.2.2.2.1) G8.out.2.2.2.2.2.2.2.2.2.2.2.1 (fun _ => Iff.rfl)
  obtain ⟨hk1, hk2⟩ := heq
  subst hk1
  have HE : Hid (∀ i, i < kb → Rb i = Ro i) := hk2
  have hcnt := G8.out.2.2.2.2.2.2.2.1.count (fld G8.out.2.2.2.2.2.2.2.2.2.2.2.2.1) G8.out.2.2.2.2.2.2.2.2.2.2.2.1
  have hkd : kd ≤ 12 := by omega
  have hkb : kb ≤ 12 := by omega
  have hzs : (((kb : Int) + (kd : Int)) != (N : Int)) = false := by rw [bne_eq_false_iff_eq]; omega
  clear hk2 hcnt
  go_wp2_with fail
  rw [← hw8]
  clear hw8
  clear qo0 qo1 qo2 hlo qd0 qd1 qd2 hld qc0 qc1 qc2 hlc
  refine (rsameCode_any D.q (N : Nat) G8.out.2.1 (G8.out.2.2.2.2.2.2.2.2.2.1.congr (fun i hi => (HE.out i hi).symm)) (by omega) (by omega)).mono ?_
  rintro e w9 ⟨rfl, hb9⟩
  have G9 : Hid ((Cod D N ob kb Rb w9) ∧ (RL (.slice ob kb cb) kb N Rb w9) ∧ (CB w7.heap.size D.q (N : Nat) (.slice ob kb cb) w9) ∧ (Dul D N kd Rd kb Rb) ∧ (Cod D N od kd Rd w9) ∧ (RL (.slice od kd cd) kd N Rd w9) ∧ (CB w5.heap.size D.q (N : Nat) (.slice od kd cd) w9) ∧ (Dul D N r M kd Rd) ∧ (Cod D N oo kb Ro w9) ∧ (RL (.slice oo kb co) kb N Ro w9) ∧ (CB w3.heap.size D.q (N : Nat) (.slice oo kb co) w9) ∧ (Red D N r M kb Ro) ∧ (D ∈ fieldsL) ∧ (Cod D N mo r M w9) ∧ (CB w1.heap.size D.q (N : Nat) (.slice mo r mc) w9) ∧ (Below w.heap.size w w9)) := ⟨G8.out.1.below hb9, G8.out.2.1.below hb9, G8.out.2.2.1.keep hb9, G8.out.2.2.2.1, G8.out.2.2.2.2.1.below hb9, G8.out.2.2.2.2.2.1.below hb9, G8.out.2.2.2.2.2.2.1.keep hb9, G8.out.2.2.2.2.2.2.2.1, G8.out.2.2.2.2.2.2.2.2.1.below hb9, G8.out.2.2.2.2.2.2.2.2.2.1.below hb9, G8.out.2.2.2.2.2.2.2.2.2.2.1.keep hb9, G8.out.2.2.2.2.2.2.2.2.2.2.2.1, G8.out.2.2.2.2.2.2.2.2.2.2.2.2.1, G8.out.2.2.2.2.2.2.2.2.2.2.2.2.2.1.below hb9, G8.out.2.2.2.2.2.2.2.2.2.2.2.2.2.2.1.keep hb9, bel_up' G8.out.2.2.2.2.2.2.2.2.2.2.2.2.2.2.2 hb9⟩
  clear hb9 G8
  have hqo := G9.out.2.2.2.2.2.2.2.2.2.2.1
  obtain ⟨qo0, qo1, qo2⟩ := hqo
  have hlo := cell_lt qo0
  have hqd := G9.out.2.2.2.2.2.2.1
  obtain ⟨qd0, qd1, qd2⟩ := hqd
  have hld := cell_lt qd0
  have hqc := G9.out.2.2.2.2.2.2.2.2.2.2.2.2.2.2.1
  obtain ⟨qc0, qc1, qc2⟩ := hqc
  have hlc := cell_lt qc0
  go_upto_region 9 with fail
  clear qo0 qo1 qo2 hlo qd0 qd1 qd2 hld qc0 qc1 qc2 hlc
  clear hzs
  go_cut [18, 13] (fun vd ve wx => ∃ v gr c, vd = .slice (some ⟨gr, 0, none⟩) N c ∧ ve = .int .i64 0 ∧ Hid (Wrd N v gr c wx ∧ (El D v ∧ Spn D (RowsOf r M) v) ∧ Below w9.heap.size w9 wx))
  case first =>
    have HK5 : Hid (∀ wx, Below w9.heap.size w9 wx → (fun wx => CB w1.heap.size D.q (N : Nat) (.slice mo r mc) wx ∧ CB w3.heap.size D.q (N : Nat) (.slice oo kb co) wx) wx) := fun wx hx => ⟨G9.out.2.2.2.2.2.2.2.2.2.2.2.2.2.2.1.keep hx, G9.out.2.2.2.2.2.2.2.2.2.2.1.keep hx⟩
    have hS5 := HK5.out _ (Below.refl w9.heap.size w9).drew
    refine wp_region_noPanic ?_
    refine wp_region_X (S := (fun wx => CB w1.heap.size D.q (N : Nat) (.slice mo r mc) wx ∧ CB w3.heap.size D.q (N : Nat) (.slice oo kb co) wx)) 13 (by kernel_rfl) ?_
    refine wpAnyX_take (i := 0) (v := ?_) (by rw [List.getElem?_toArray]; rfl) (by kernel_rfl) (by kernel_rfl) (by kernel_rfl) (by kernel_rfl) (fun _ _ _ h => h) hS5 (Or.inl ⟨by rfl, ?_⟩) ?_
    rotate_left
    · intro wz hSz; obtain ⟨⟨z0, z1, z2⟩, ⟨z3, z4, z5⟩⟩ := hSz; go_simp; first | done | with_reducible rfl
    try simp only [Act.put, List.setIfInBounds_toArray, List.set_cons_zero, List.set_cons_succ]
    refine wpAnyX_take (i := 1) (v := ?_) (by rw [List.getElem?_toArray]; rfl) (by kernel_rfl) (by kernel_rfl) (by kernel_rfl) (by kernel_rfl) (fun _ _ _ h => h) hS5 (Or.inl ⟨by rfl, ?_⟩) ?_
    rotate_left
    · intro wz hSz; obtain ⟨⟨z0, z1, z2⟩, ⟨z3, z4, z5⟩⟩ := hSz; go_simp; first | done | with_reducible rfl
    try simp only [Act.put, List.setIfInBounds_toArray, List.set_cons_zero, List.set_cons_succ]
    refine wpAnyX_take (i := 2) (v := ?_) (by rw [List.getElem?_toArray]; rfl) (by kernel_rfl) (by kernel_rfl) (by kernel_rfl) (by kernel_rfl) (fun _ _ _ h => h) hS5 (Or.inl ⟨by rfl, ?_⟩) ?_
    rotate_left
    · intro wz hSz; obtain ⟨⟨z0, z1, z2⟩, ⟨z3, z4, z5⟩⟩ := hSz; go_simp; first | done | with_reducible rfl
    try simp only [Act.put, List.setIfInBounds_toArray, List.set_cons_zero, List.set_cons_succ]
    refine wpAnyX_take (i := 3) (v := ?_) (by rw [List.getElem?_toArray]; rfl) (by kernel_rfl) (by kernel_rfl) (by kernel_rfl) (by kernel_rfl) (fun _ _ _ h => h) hS5 (Or.inl ⟨by rfl, ?_⟩) ?_
    rotate_left
    · intro wz hSz; obtain ⟨⟨z0, z1, z2⟩, ⟨z3, z4, z5⟩⟩ := hSz; go_simp; first | done | with_reducible rfl
    try simp only [Act.put, List.setIfInBounds_toArray, List.set_cons_zero, List.set_cons_succ]
    refine wpAnyX_take (i := 4) (v := ?_) (by rw [List.getElem?_toArray]; rfl) (by kernel_rfl) (by kernel_rfl) (by kernel_rfl) (by kernel_rfl) (fun _ _ _ h => h) hS5 (Or.inl ⟨by rfl, ?_⟩) ?_
    rotate_left
    · intro wz hSz; obtain ⟨⟨z0, z1, z2⟩, ⟨z3, z4, z5⟩⟩ := hSz; go_simp; first | done | with_reducible rfl
    try simp only [Act.put, List.setIfInBounds_toArray, List.set_cons_zero, List.set_cons_succ]
    refine wpAnyX_take (i := 5) (v := ?_) (by rw [List.getElem?_toArray]; rfl) (by kernel_rfl) (by kernel_rfl) (by kernel_rfl) (by kernel_rfl) (fun _ _ _ h => h) hS5 (Or.inl ⟨by rfl, ?_⟩) ?_
    rotate_left
    · intro wz hSz; obtain ⟨⟨z0, z1, z2⟩, ⟨z3, z4, z5⟩⟩ := hSz; go_simp; first | done | with_reducible rfl
    try simp only [Act.put, List.setIfInBounds_toArray, List.set_cons_zero, List.set_cons_succ]
    refine wpAnyX_take (i := 6) (v := ?_) (by rw [List.getElem?_toArray]; rfl) (by kernel_rfl) (by kernel_rfl) (by kernel_rfl) (by kernel_rfl) (fun _ _ _ h => h) hS5 (Or.inl ⟨by rfl, ?_⟩) ?_
    rotate_left
    · intro wz hSz; obtain ⟨⟨z0, z1, z2⟩, ⟨z3, z4, z5⟩⟩ := hSz; go_simp; first | done | with_reducible rfl
    try simp only [Act.put, List.setIfInBounds_toArray, List.set_cons_zero, List.set_cons_succ]
    refine wpAnyX_one (i := 7) (by kernel_rfl) (by rw [List.getElem?_toArray]; rfl) (fun K hK => ?_)
    have HK : Hid _ := hK
    clear hK
    go_simp
    refine (HNum.out 0 kb _ (by omega) (by omega) (bel_up' G9.out.2.2.2.2.2.2.2.2.2.2.2.2.2.2.2 (Below.refl w9.heap.size w9).drew)).mono ?_
    rintro e w10 ⟨yo, cy, y10, rfl, hA, hch, hb⟩
    have H10 : Hid (Arg yo kb cy y10 w10 ∧ D.nchk kb y10 (kb : Nat) = 0 ∧ Below w9.heap.size w9 w10) := ⟨hA, hch, bel_up' (Below.refl w9.heap.size w9).drew hb⟩
    clear hA hch hb
    refine HK.out _ _ (fun _ => HK5.out _ H10.out.2.2) ?_
    clear HK K
    try simp only [Act.put, List.setIfInBounds_toArray, List.set_cons_zero, List.set_cons_succ]
    refine wpAnyX_one (i := 8) (by kernel_rfl) (by rw [List.getElem?_toArray]; rfl) (fun K hK => ?_)
    have HK : Hid _ := hK
    clear hK
    go_simp
    refine ((G9.out.2.2.2.2.2.2.2.2.2.2.2.2.2.1.below H10.out.2.2).encode G9.out.2.2.2.2.2.2.2.2.2.2.2.2.1 mc H10.out.1 G9.out.2.2.2.2.2.2.2.2.2.2.2.1 H10.out.2.1).mono ?_
    rintro e w11 ⟨v, gr, c, rfl, hw, hv, hb⟩
    have H11 : Hid (Wrd N v gr c w11 ∧ (El D v ∧ Spn D (RowsOf r M) v) ∧ Below w9.heap.size w9 w11) := ⟨hw, hv, bel_up' H10.out.2.2 hb⟩
    clear hw hv hb
    refine HK.out _ _ (fun _ => HK5.out _ H11.out.2.2) ?_
    clear HK K
    try simp only [Act.put, List.setIfInBounds_toArray, List.set_cons_zero, List.set_cons_succ]
    refine wpAnyX_one (i := 9) (by kernel_rfl) (by rw [List.getElem?_toArray]; rfl) (fun K hK => ?_)
    have HK : Hid _ := hK
    clear hK
    go_simp
    refine HK.out _ _ (fun _ => HK5.out _ H11.out.2.2) ?_
    clear HK K
    try simp only [Act.put, List.setIfInBounds_toArray, List.set_cons_zero, List.set_cons_succ]
    have hS11 := HK5.out _ H11.out.2.2
    refine wpAnyX_take (i := 10) (v := ?_) (by rw [List.getElem?_toArray]; rfl) (by kernel_rfl) (by kernel_rfl) (by kernel_rfl) (by kernel_rfl) (fun _ _ _ h => h) hS11 (Or.inl ⟨by rfl, ?_⟩) ?_
    rotate_left
    · intro wz hSz; obtain ⟨⟨z0, z1, z2⟩, ⟨z3, z4, z5⟩⟩ := hSz; go_simp; first | done | with_reducible rfl
    try simp only [Act.put, List.setIfInBounds_toArray, List.set_cons_zero, List.set_cons_succ]
    refine wpAnyX_take (i := 11) (v := ?_) (by rw [List.getElem?_toArray]; rfl) (by kernel_rfl) (by kernel_rfl) (by kernel_rfl) (by kernel_rfl) (fun _ _ _ h => h) hS11 (Or.inl ⟨by rfl, ?_⟩) ?_
    rotate_left
    · intro wz hSz; obtain ⟨⟨z0, z1, z2⟩, ⟨z3, z4, z5⟩⟩ := hSz; go_simp; first | done | with_reducible rfl
    try simp only [Act.put, List.setIfInBounds_toArray, List.set_cons_zero, List.set_cons_succ]
    refine wpAnyX_one (i := 12) (by kernel_rfl) (by rw [List.getElem?_toArray]; rfl) (fun K hK => ?_)
    have HK : Hid _ := hK
    clear hK
    go_simp
    refine HK.out _ _ (fun _ => HK5.out _ H11.out.2.2) ?_
    clear HK K
    try simp only [Act.put, List.setIfInBounds_toArray, List.set_cons_zero, List.set_cons_succ]
    refine wpAnyX_one (i := 13) (by kernel_rfl) (by rw [List.getElem?_toArray]; rfl) (fun K hK => ?_)
    have HK : Hid _ := hK
    clear hK
    go_simp
    refine HK.out _ _ (fun h => absurd rfl h) ?_
    clear HK K
    try simp only [Act.put, List.setIfInBounds_toArray, List.set_cons_zero, List.set_cons_succ]
    refine wpAnyX_done (by kernel_rfl) (NoPanic.normal ?_)
    go_wp2
    go_meet
    case rel => exact ⟨v, gr, c, rfl, rfl, H11.out⟩
  case rest =>
    rename World => w12
    obtain ⟨v, gr, c, rfl, rfl, HV⟩ := hcut
    go_upto_region 10 with fail
    go_cut [19, 15] (fun vd ve wx => ∃ v gr c, vd = .slice (some ⟨gr, 0, none⟩) N c ∧ ve = .int .i64 0 ∧ Hid (Wrd N v gr c wx ∧ (El D v ∧ Spn D (RowsOf kd Rd) v) ∧ Below w12.heap.size w12 wx))
    case first =>
      have HK5 : Hid (∀ wx, Below w12.heap.size w12 wx → (fun wx => CB w1.heap.size D.q (N : Nat) (.slice mo r mc) wx ∧ CB w5.heap.size D.q (N : Nat) (.slice od kd cd) wx) wx) := fun wx hx => ⟨(G9.out.2.2.2.2.2.2.2.2.2.2.2.2.2.2.1.keep HV.out.2.2).keep hx, (G9.out.2.2.2.2.2.2.1.keep HV.out.2.2).keep hx⟩
      have hS5 := HK5.out _ (Below.refl w12.heap.size w12).drew
      refine wp_region_noPanic ?_
      refine wp_region_X (S := (fun wx => CB w1.heap.size D.q (N : Nat) (.slice mo r mc) wx ∧ CB w5.heap.size D.q (N : Nat) (.slice od kd cd) wx)) 13 (by kernel_rfl) ?_
      refine wpAnyX_take (i := 0) (v := ?_) (by rw [List.getElem?_toArray]; rfl) (by kernel_rfl) (by kernel_rfl) (by kernel_rfl) (by kernel_rfl) (fun _ _ _ h => h) hS5 (Or.inl ⟨by rfl, ?_⟩) ?_
      rotate_left
      · intro wz hSz; obtain ⟨⟨z0, z1, z2⟩, ⟨z3, z4, z5⟩⟩ := hSz; go_simp; first | done | with_reducible rfl
      try simp only [Act.put, List.setIfInBounds_toArray, List.set_cons_zero, List.set_cons_succ]
      refine wpAnyX_take (i := 1) (v := ?_) (by rw [List.getElem?_toArray]; rfl) (by kernel_rfl) (by kernel_rfl) (by kernel_rfl) (by kernel_rfl) (fun _ _ _ h => h) hS5 (Or.inl ⟨by rfl, ?_⟩) ?_
      rotate_left
      · intro wz hSz; obtain ⟨⟨z0, z1, z2⟩, ⟨z3, z4, z5⟩⟩ := hSz; go_simp; first | done | with_reducible rfl
      try simp only [Act.put, List.setIfInBounds_toArray, List.set_cons_zero, List.set_cons_succ]
      refine wpAnyX_take (i := 2) (v := ?_) (by rw [List.getElem?_toArray]; rfl) (by kernel_rfl) (by kernel_rfl) (by kernel_rfl) (by kernel_rfl) (fun _ _ _ h => h) hS5 (Or.inl ⟨by rfl, ?_⟩) ?_
      rotate_left
      · intro wz hSz; obtain ⟨⟨z0, z1, z2⟩, ⟨z3, z4, z5⟩⟩ := hSz; go_simp; first | done | with_reducible rfl
      try simp only [Act.put, List.setIfInBounds_toArray, List.set_cons_zero, List.set_cons_succ]
      refine wpAnyX_take (i := 3) (v := ?_) (by rw [List.getElem?_toArray]; rfl) (by kernel_rfl) (by kernel_rfl) (by kernel_rfl) (by kernel_rfl) (fun _ _ _ h => h) hS5 (Or.inl ⟨by rfl, ?_⟩) ?_
      rotate_left
      · intro wz hSz; obtain ⟨⟨z0, z1, z2⟩, ⟨z3, z4, z5⟩⟩ := hSz; go_simp; first | done | with_reducible rfl
      try simp only [Act.put, List.setIfInBounds_toArray, List.set_cons_zero, List.set_cons_succ]
      refine wpAnyX_take (i := 4) (v := ?_) (by rw [List.getElem?_toArray]; rfl) (by kernel_rfl) (by kernel_rfl) (by kernel_rfl) (by kernel_rfl) (fun _ _ _ h => h) hS5 (Or.inl ⟨by rfl, ?_⟩) ?_
      rotate_left
      · intro wz hSz; obtain ⟨⟨z0, z1, z2⟩, ⟨z3, z4, z5⟩⟩ := hSz; go_simp; first | done | with_reducible rfl
      try simp only [Act.put, List.setIfInBounds_toArray, List.set_cons_zero, List.set_cons_succ]
      refine wpAnyX_take (i := 5) (v := ?_) (by rw [List.getElem?_toArray]; rfl) (by kernel_rfl) (by kernel_rfl) (by kernel_rfl) (by kernel_rfl) (fun _ _ _ h => h) hS5 (Or.inl ⟨by rfl, ?_⟩) ?_
      rotate_left
      · intro wz hSz; obtain ⟨⟨z0, z1, z2⟩, ⟨z3, z4, z5⟩⟩ := hSz; go_simp; first | done | with_reducible rfl
      try simp only [Act.put, List.setIfInBounds_toArray, List.set_cons_zero, List.set_cons_succ]
      refine wpAnyX_take (i := 6) (v := ?_) (by rw [List.getElem?_toArray]; rfl) (by kernel_rfl) (by kernel_rfl) (by kernel_rfl) (by kernel_rfl) (fun _ _ _ h => h) hS5 (Or.inl ⟨by rfl, ?_⟩) ?_
      rotate_left
      · intro wz hSz; obtain ⟨⟨z0, z1, z2⟩, ⟨z3, z4, z5⟩⟩ := hSz; go_simp; first | done | with_reducible rfl
      try simp only [Act.put, List.setIfInBounds_toArray, List.set_cons_zero, List.set_cons_succ]
      refine wpAnyX_one (i := 7) (by kernel_rfl) (by rw [List.getElem?_toArray]; rfl) (fun K hK => ?_)
      have HK : Hid _ := hK
      clear hK
      go_simp
      refine (HNum.out 3 kd _ (by omega) (by omega) (bel_up' (bel_up' G9.out.2.2.2.2.2.2.2.2.2.2.2.2.2.2.2 HV.out.2.2) (Below.refl w12.heap.size w12).drew)).mono ?_
      rintro e w10 ⟨yo, cy, y10, rfl, hA, hch, hb⟩
      have H10 : Hid (Arg yo kd cy y10 w10 ∧ D.nchk kd y10 (kd : Nat) = 0 ∧ Below w12.heap.size w12 w10) := ⟨hA, hch, bel_up' (Below.refl w12.heap.size w12).drew hb⟩
      clear hA hch hb
      refine HK.out _ _ (fun _ => HK5.out _ H10.out.2.2) ?_
      clear HK K
      try simp only [Act.put, List.setIfInBounds_toArray, List.set_cons_zero, List.set_cons_succ]
      refine wpAnyX_one (i := 8) (by kernel_rfl) (by rw [List.getElem?_toArray]; rfl) (fun K hK => ?_)
      have HK : Hid _ := hK
      clear hK
      go_simp
      refine (((G9.out.2.2.2.2.1.below HV.out.2.2).below H10.out.2.2).encode G9.out.2.2.2.2.2.2.2.2.2.2.2.2.1 cd H10.out.1 G9.out.2.2.2.2.2.2.2.1.own H10.out.2.1).mono ?_
      rintro e w11 ⟨v, gr, c, rfl, hw, hv, hb⟩
      have H11 : Hid (Wrd N v gr c w11 ∧ (El D v ∧ Spn D (RowsOf kd Rd) v) ∧ Below w12.heap.size w12 w11) := ⟨hw, hv, bel_up' H10.out.2.2 hb⟩
      clear hw hv hb
      refine HK.out _ _ (fun _ => HK5.out _ H11.out.2.2) ?_
      clear HK K
      try simp only [Act.put, List.setIfInBounds_toArray, List.set_cons_zero, List.set_cons_succ]
      refine wpAnyX_one (i := 9) (by kernel_rfl) (by rw [List.getElem?_toArray]; rfl) (fun K hK => ?_)
      have HK : Hid _ := hK
      clear hK
      go_simp
      refine HK.out _ _ (fun _ => HK5.out _ H11.out.2.2) ?_
      clear HK K
      try simp only [Act.put, List.setIfInBounds_toArray, List.set_cons_zero, List.set_cons_succ]
      have hS11 := HK5.out _ H11.out.2.2
      refine wpAnyX_take (i := 10) (v := ?_) (by rw [List.getElem?_toArray]; rfl) (by kernel_rfl) (by kernel_rfl) (by kernel_rfl) (by kernel_rfl) (fun _ _ _ h => h) hS11 (Or.inl ⟨by rfl, ?_⟩) ?_
      rotate_left
      · intro wz hSz; obtain ⟨⟨z0, z1, z2⟩, ⟨z3, z4, z5⟩⟩ := hSz; go_simp; first | done | with_reducible rfl
      try simp only [Act.put, List.setIfInBounds_toArray, List.set_cons_zero, List.set_cons_succ]
      refine wpAnyX_take (i := 11) (v := ?_) (by rw [List.getElem?_toArray]; rfl) (by kernel_rfl) (by kernel_rfl) (by kernel_rfl) (by kernel_rfl) (fun _ _ _ h => h) hS11 (Or.inl ⟨by rfl, ?_⟩) ?_
      rotate_left
      · intro wz hSz; obtain ⟨⟨z0, z1, z2⟩, ⟨z3, z4, z5⟩⟩ := hSz; go_simp; first | done | with_reducible rfl
      try simp only [Act.put, List.setIfInBounds_toArray, List.set_cons_zero, List.set_cons_succ]
      refine wpAnyX_one (i := 12) (by kernel_rfl) (by rw [List.getElem?_toArray]; rfl) (fun K hK => ?_)
      have HK : Hid _ := hK
      clear hK
      go_simp
      refine HK.out _ _ (fun _ => HK5.out _ H11.out.2.2) ?_
      clear HK K
      try simp only [Act.put, List.setIfInBounds_toArray, List.set_cons_zero, List.set_cons_succ]
      refine wpAnyX_one (i := 13) (by kernel_rfl) (by rw [List.getElem?_toArray]; rfl) (fun K hK => ?_)
      have HK : Hid _ := hK
      clear hK
      go_simp
      refine HK.out _ _ (fun h => absurd rfl h) ?_
      clear HK K
      try simp only [Act.put, List.setIfInBounds_toArray, List.set_cons_zero, List.set_cons_succ]
      refine wpAnyX_done (by kernel_rfl) (NoPanic.normal ?_)
      go_wp2
      go_meet
      case rel => exact ⟨v, gr, c, rfl, rfl, H11.out⟩
    case rest =>
      rename World => w13
      obtain ⟨u, gr2, c2, rfl, rfl, HU⟩ := hcut
      have hbb := bel_up' HV.out.2.2 HU.out.2.2
      have HF : Hid (D ∈ fieldsL ∧ Below w.heap.size w w13 ∧ CB w1.heap.size D.q (N : Nat) (.slice mo r mc) w13 ∧ Cod D N mo r M w13 ∧ Wrd N v gr c w13 ∧ Wrd N u gr2 c2 w13 ∧ dot D v u N = 0) := by
        refine ⟨G9.out.2.2.2.2.2.2.2.2.2.2.2.2.1, bel_up' G9.out.2.2.2.2.2.2.2.2.2.2.2.2.2.2.2 hbb, G9.out.2.2.2.2.2.2.2.2.2.2.2.2.2.2.1.keep hbb, G9.out.2.2.2.2.2.2.2.2.2.2.2.2.2.1.below hbb, HV.out.1.below HU.out.2.2, HU.out.1, ?_⟩
        have hrw := (G9.out.2.2.2.2.2.2.2.2.2.2.2.2.2.1.rows (fld G9.out.2.2.2.2.2.2.2.2.2.2.2.2.1)).2.2
        have hd := (G9.out.2.2.2.2.2.2.2.1.iff (fld G9.out.2.2.2.2.2.2.2.2.2.2.2.2.1) (fun i hi => (hrw i hi).1) u).1 HU.out.2.1.2
        refine dot_spn (fld G9.out.2.2.2.2.2.2.2.2.2.2.2.2.1) HV.out.2.1.2 (fun x hx => ?_)
        obtain ⟨i, hi, rfl⟩ := hx
        exact hd.2.2 i hi
      have HV2 : Hid (El D v ∧ Spn D (RowsOf r M) v ∧ El D u ∧ Dul D N r M kd Rd) := ⟨HV.out.2.1.1, HV.out.2.1.2, HU.out.2.1.1, G9.out.2.2.2.2.2.2.2.1⟩
      clear hbb HV HU G9
      have hqc := HF.out.2.2.1
      obtain ⟨qc0, qc1, qc2⟩ := hqc
      go_wp2_with fail
      clear qc0 qc1 qc2
      refine (HF.out.2.2.2.1.has HF.out.1 mc HF.out.2.2.2.2.1 HV2.out.1 HV2.out.2.1 HV2.out.2.2.2).mono ?_
      rintro e w14 ⟨rfl, hb14⟩
      have H14 : Hid (Below w13.heap.size w13 w14) := hb14
      have hqc := HF.out.2.2.1.keep hb14
      clear hb14
      obtain ⟨qc0, qc1, qc2⟩ := hqc
      go_wp2_with fail
      clear qc0 qc1 qc2
      refine (rfield_sl HF.out.1 w14).mono ?_
      rintro e w15 ⟨gm, cm, rfl, hmod, hb15⟩
      unfold rf
      have hz0 : (((dot D v u N : Nat) : Int) == 0) = true := by rw [HF.out.2.2.2.2.2.2]; rfl
      obtain ⟨w16, hw16⟩ : ∃ w16, w16 = w15.alloc (.cells #[.int .i64 D.q, .int .i64 D.p, .int .i64 D.m, .int .i64 D.gen, .slice (some ⟨gm, 0, none⟩) (D.m + 1) cm] 28) := ⟨_, rfl⟩
      have H16 : Hid (Below w13.heap.size w13 w16 ∧ ModAt D (.slice (some ⟨gm, 0, none⟩) (D.m + 1) cm) D.md w16) := by
        have hal : Below w15.heap.size w15 w16 := by rw [hw16]; exact (Below.refl _ _).alloc (Nat.le_refl _) _
        exact ⟨bel_up' (bel_up' H14.out hb15) hal, hmod.below hal⟩
      clear hmod hb15
      go_wp2_with fail
      rw [← hw16]
      clear hw16
      have hV := HF.out.2.2.2.2.1.below H16.out.1
      have hU := HF.out.2.2.2.2.2.1.below H16.out.1
      refine (rdot_any HF.out.1 D.gen gm cm (by omega) (fun i _ => HV2.out.1 i) (fun i _ => HV2.out.2.2.1 i) (hV.1.sl (Nat.le_refl _)) (fun x hx => by cases hx; exact hV.1.lt) (hU.1.sl (Nat.le_refl _)) (fun x hx => by cases hx; exact hU.1.lt) H16.out.2).mono ?_
      clear hV hU
      rintro e w17 ⟨rfl, hb17⟩
      have H17 : Hid (Below w.heap.size w w17) := bel_up' HF.out.2.1 (bel_up' H16.out.1 hb17)
      clear hb17
      go_wp2
      go_ret
      exact ⟨by first | rfl | simp, H17.out⟩
end Go.Proofs.Ytbpeahhhkcljeaa
