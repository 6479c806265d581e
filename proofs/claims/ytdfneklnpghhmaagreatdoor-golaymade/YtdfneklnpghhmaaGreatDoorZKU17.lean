/- Texts of ours, one behind the other: KU17 KU18. -/
import Derived.Test.YtdfneklnpghhmaaGreatDoorZS49
import Derived.Test.YtdfneklnpghhmaaGreatDoorZKU5
import Derived.Test.YtdfneklnpghhmaaGreatDoorZKI21
/- Golay: Perfect, of any code. -/
namespace Go.Proofs.YtdfneklnpghhmaaGreatDoor
open Go.RowKit Go.Sort

/-- Do balls of a radius fill all? By the weights. -/
def pfB (D : FD) (R : Nat → Nat → Nat) (n k r : Nat) : Bool := decide (tsm (fun i => ((wcn D R n k (D.q ^ k) (1 + i) : Nat) : Int)) (min (2 * r) n) = 0) && decide (D.q ^ k * bls D.q n (r + 1) = bls D.q n (n + 1))
theorem tsm_nat (f : Nat → Nat) (n : Nat) : (((tsm (fun i => ((f i : Nat) : Int)) n).toNat : Nat) : Int) = tsm (fun i => ((f i : Nat) : Int)) n := Int.toNat_of_nonneg (tsm_nn (N := n) (fun _ _ => Int.natCast_nonneg _) n (Nat.le_refl _))

set_option maxHeartbeats 2000000 in
set_option maxRecDepth 100000 in
theorem perfect_gen {D : FD} (hD : D ∈ fieldsL) {n m r : Nat} (ca : Nat) {ao : Option Addr} {M : Nat → Nat → Nat} {w : World} (h : Cod D n ao m M w) (hp : D.q ^ n ≤ 1073741824) (hr : r ≤ n) {K : Nat} {R0 : Nat → Nat → Nat} (hred : Red D n m M K R0) (hK : D.q ^ K ≤ 4096) :
    Calls Tryz.prog 11 #[.agg #[.int .i64 D.q, .int .i64 (n : Nat), .slice ao m ca], .int .i64 (r : Nat)] w fun e w' => e = .returned (.tuple #[.bool (pfB D R0 n K r), .int .i64 0]) ∧ Below w.heap.size w w' := by
  have h2 := (fld hD).q2
  have h64 := (fld hD).q64
  have hn30 : n ≤ 30 := pow30 h2 hp
  have hn1 : 1 ≤ n := (h.rows (fld hD)).2.1.1
  obtain ⟨w0, hw0⟩ : ∃ w0, w0 = w.alloc (.cells #[.int .i64 D.q, .int .i64 (n : Nat), .slice ao m ca] 24) := ⟨_, rfl⟩
  have H0 : Hid (Below w.heap.size w w0 ∧ CB w.heap.size D.q n (.slice ao m ca) w0 ∧ w0.heap.size = w.heap.size + 1) := by
    have := box_at D.q (n : Nat) (.slice ao m ca) w
    rw [← hw0] at this; exact this
  have HW : Hid (Calls Tryz.prog 25 #[.agg #[.int .i64 D.q, .int .i64 (n : Nat), .slice ao m ca]] w0 (WsP D n m M w0)) := Cod.wts hD ca (h.below H0.out.1)
  have HCk : Hid (∀ wx, Calls Tryz.prog 35 #[.int .i64 D.q, .int .i64 (n : Nat)] wx fun e w' => e = .returned (.int .i64 0) ∧ Below wx.heap.size wx w') := fun wx => by
    have hc := wcheck_any hD (n : Int) (by omega) wx
    rw [show D.wck (n : Int) = 0 by unfold FD.wck; rw [if_neg (by omega), Int.toNat_natCast, if_pos hp]] at hc
    exact hc
  obtain ⟨bf, hbf⟩ : ∃ bf : Nat → Nat, bf = fun x => bls D.q n (x + 1) := ⟨_, rfl⟩
  obtain ⟨bv, hbv⟩ : ∃ bv, bv = bls D.q n (r + 1) := ⟨_, rfl⟩
  obtain ⟨bn, hbn⟩ : ∃ bn, bn = bls D.q n (n + 1) := ⟨_, rfl⟩
  have hb_r : bf r = bv := by rw [hbf, hbv]
  have hb_n : bf n = bn := by rw [hbf, hbn]
  have HBx : Hid (∀ (x : Nat) wx, x ≤ n → Calls Tryz.prog 37 #[.int .i64 (D.q : Nat), .int .i64 (n : Nat), .int .i64 (x : Nat)] wx fun e w' => e = .returned (.int .i64 (bf x : Nat)) ∧ Below wx.heap.size wx w') := fun x wx hx => by rw [hbf]; exact gball2_any hD n x hn1 hp hx wx
  have hbnb : bn ≤ 34359738368 := by
    rw [hbn]
    exact Nat.le_trans (bls_le (by omega) (n + 1)) (Nat.le_trans (Nat.mul_le_mul (show n + 1 ≤ 32 by omega) hp) (by omega))
  obtain ⟨q4, hq4⟩ : ∃ q4, q4 = D.q ^ K := ⟨_, rfl⟩
  have hq4b : q4 ≤ 4096 := by rw [hq4]; exact hK
  have hqp : 0 < q4 := by rw [hq4]; exact Nat.pow_pos (by omega)
  have hbvb : bv ≤ 34359738368 := by
    rw [hbv]
    exact Nat.le_trans (bls_le (by omega) (r + 1)) (Nat.le_trans (Nat.mul_le_mul (show r + 1 ≤ 32 by omega) hp) (by omega))
  obtain ⟨pr, hpr⟩ : ∃ pr, pr = q4 * bv := ⟨_, rfl⟩
  have hprb : pr ≤ 140737488355328 := by rw [hpr]; exact Nat.le_trans (Nat.mul_le_mul hq4b hbvb) (by omega)
  have hmul : (q4 : Int) * (bv : Int) = (pr : Int) := by rw [hpr]; simp
  obtain ⟨tb, htb⟩ : ∃ tb, tb = decide (pr = bn) := ⟨_, rfl⟩
  have hEq : ((pr : Int) == (bn : Int)) = tb := by
    rw [htb]
    by_cases c : pr = bn
    · rw [c]; simp
    · rw [decide_eq_false c]; exact beq_eq_false_iff_ne.2 (by omega)
  have HTB : Hid (tb = decide (D.q ^ K * bls D.q n (r + 1) = bls D.q n (n + 1))) := by rw [htb, hpr, hq4, hbv, hbn]; exact rfl
  have HF : Hid (D ∈ fieldsL ∧ Red D n m M K R0 ∧ q4 = D.q ^ K) := ⟨hD, hred, hq4⟩
  obtain ⟨r2, hr2⟩ : ∃ r2, r2 = 2 * r := ⟨_, rfl⟩
  have hr2i : (2 : Int) * (r : Int) = (r2 : Int) := by omega
  obtain ⟨mn, hmn⟩ : ∃ mn, mn = min (2 * r) n := ⟨_, rfl⟩
  have hcs : (r2 = mn ∧ (r2 : Int) ≤ (n : Int)) ∨ (n = mn ∧ ¬ (r2 : Int) ≤ (n : Int)) := by omega
  have hmnn : mn ≤ n := by omega
  have HMN : Hid (mn = min (2 * r) n) := hmn
  obtain ⟨n1, hn1e⟩ : ∃ n1, n1 = n + 1 := ⟨_, rfl⟩
  have HN1 : Hid (n1 = n + 1) := hn1e
  obtain ⟨r3, hr3⟩ : ∃ r3, r3 = mn + 1 := ⟨_, rfl⟩
  have hr3w : IntKind.i64.wrap ((mn : Int) + 1) = (r3 : Int) := by rw [hr3]; exact wrap_to (by omega) (by omega)
  have hr3n : r3 ≤ n1 := by omega
  have hr31 : 1 ≤ r3 := by omega
  have hr3i : (r3 : Int) ≤ (n1 : Int) := by omega
  have hr3j : (1 : Int) ≤ (r3 : Int) := by omega
  have hr3s : (r3 : Int) - 1 = (mn : Int) := by omega
  have hn1b : n1 ≤ 31 := by omega
  have hr0 : ¬ (r : Int) < 0 := by omega
  have hrn : ¬ (n : Int) < (r : Int) := by omega
  clear h hD hred hq4 hbv hbn hp hbf hr2 hn1e hr3 hK hmn hpr htb
  go_enter Tryz.func11, Tryz.ntmps11
  go_wp2_with fail
  rw [← hw0]
  clear hw0
  refine HW.out.mono ?_
  rintro e w1 ⟨k, R, hre, hb1, hx⟩
  have H1 : Hid (Below w.heap.size w w1 ∧ CB w.heap.size D.q n (.slice ao m ca) w1) := ⟨below_two' H0.out.1 hb1, H0.out.2.1.keep hb1⟩
  have hkK : k = K ∧ ∀ i, i < k → R i = R0 i := Red.uniq (fld HF.out.1) hre HF.out.2.1 (fun _ => Iff.rfl)
  obtain ⟨hk1, hk2⟩ := hkK
  subst hk1
  rcases hx with ⟨hfew, g, hg, hrow, rfl⟩ | ⟨hno, _⟩
  rotate_left
  · exact absurd (by rw [← HF.out.2.2]; exact hq4b) hno
  rw [← HN1.out] at hrow
  have hwb : ∀ x, wcn D R n k (D.q ^ k) x ≤ 4096 := fun x => Nat.le_trans (wcn_le D R n k _ x) (by rw [← HF.out.2.2]; exact hq4b)
  obtain ⟨T1, hT1⟩ : ∃ T1 : Nat, tsm (fun i => ((wcn D R n k (D.q ^ k) (1 + i) : Nat) : Int)) mn = (T1 : Int) := ⟨_, (tsm_nat _ mn).symm⟩
  have HT1 : Hid (∀ wx c, Below w1.heap.size w1 wx → Calls Tryz.prog 36 #[.slice (some ⟨g, 1, none⟩) mn c] wx fun e w' => e = .returned (.int .i64 (T1 : Nat)) ∧ w' = wx) := fun wx c hx => by
    have hrx := hrow.below hx hrow.lt
    have := gtog_any (ao := some ⟨g, 1, none⟩) (n := mn) (ca := c) (z := fun i => ((wcn D R n k (D.q ^ k) (1 + i) : Nat) : Int)) (w := wx) (fun i hi => ⟨g, 1, rfl, hrx.cell (1 + i) (by have := HN1.out; omega)⟩) (by omega) (fun i hi => by have := hwb (1 + i); omega)
    rw [hT1] at this
    exact this
  have HPF : Hid (pfB D R0 n k r = (decide (T1 = 0) && tb)) := by
    unfold pfB
    rw [← wcn_same hk2, ← HMN.out, hT1, ← HTB.out]
    by_cases c : T1 = 0
    · rw [c]; rfl
    · rw [decide_eq_false c, decide_eq_false (by omega)]; exact rfl
  have HT2 : Hid (∀ wx c, Below w1.heap.size w1 wx → Calls Tryz.prog 36 #[.slice (some ⟨g, 0, none⟩) n1 c] wx fun e w' => e = .returned (.int .i64 (q4 : Nat)) ∧ w' = wx) := fun wx c hx => by
    have hrx := hrow.below hx hrow.lt
    have := gtog_any (ao := some ⟨g, 0, none⟩) (n := n1) (ca := c) (z := fun i => ((wcn D R n k (D.q ^ k) i : Nat) : Int)) (w := wx) (fun i hi => ⟨g, 0, rfl, by rw [Nat.zero_add]; exact hrx.cell i hi⟩) (by omega) (fun i hi => by have := hwb i; omega)
    rw [HN1.out, wcn_all (fld HF.out.1), ← HF.out.2.2, ← HN1.out] at this
    exact this
  rw [← HN1.out]
  clear hre hb1 hfew hg hrow hwb hk2 hT1
  obtain ⟨c0, c1, c2⟩ := H1.out.2
  go_wp2_with fail
  refine (HCk.out w1).mono ?_
  rintro e w2 ⟨rfl, hb2⟩
  have H2 : Hid (Below w.heap.size w w2 ∧ CB w.heap.size D.q n (.slice ao m ca) w2 ∧ Below w1.heap.size w1 w2) := ⟨bel_up' H1.out.1 hb2, H1.out.2.keep hb2, hb2⟩
  clear hb2 c0 c1 c2
  obtain ⟨c0, c1, c2⟩ := H2.out.2.1
  have hn1x : ¬ n1 = 1 := by have := HN1.out; omega
  have hn1y : ¬ 1 = n1 := by omega
  have hn1z : ¬ n1 - 1 = 0 := by omega
  have hr3t : r3 - 1 = mn := by omega
  rcases hcs with ⟨hm, hr2n⟩ | ⟨hm, hr2n⟩
  · subst hm
    have hmin : min (r2 : Int) (n : Int) = (r2 : Int) := by omega
    go_upto_region 9 with fail
    go_wp2_with fail
    refine (HT1.out _ _ H2.out.2.2).mono ?_
    rintro e w' ⟨rfl, hw⟩
    have hw := hw.symm
    subst hw
    clear hmin
    by_cases h0 : T1 = 0
    · subst h0
      have HA1 : Hid (∀ d os c, Calls Tryz.prog 36 #[.slice (some ⟨g, 0, none⟩) n1 c] (grow (redrawn w2 d) os) fun e w'' => e = .returned (.int .i64 (q4 : Nat)) ∧ ∃ p : Regrown, w'' = grow (redrawn w2 p.d) p.os) := fun d os c => (HT2.out _ c (bel_up' H2.out.2.2 (below_regrown w2 d os))).mono (fun e w'' h => ⟨h.1, ⟨d, os⟩, h.2⟩)
      have k0 := cell_regrown c0
      have k1 := cell_regrown c1
      have k2 := cell_regrown c2
      go_upto_region 11 with fail
      refine below_tail 16 (by kernel_rfl) (by kernel_rfl) ?_
      simp only [List.take_succ_cons, List.take_zero, List.drop_succ_cons, List.drop_zero]
      repeat (go_big_quiet_step (first | (go_at_call 36; exact HA1.out _ _ _) | (go_at_call 37; exact Calls.regrown_of (HBx.out _ _ (by omega)))))
      refine wpQuiet_nil ?_
      intro _ hw'
      obtain ⟨⟨ds, oss⟩, hw''⟩ := hw'
      subst hw''
      have H7 : Hid (Below w.heap.size w (grow (redrawn w2 ds) oss)) := bel_up' H2.out.1 (below_regrown w2 ds oss)
      clear k0 k1 k2 c0 c1 c2
      go_wp2
      go_ret2
      exact ⟨by rw [HPF.out]; first | rfl | (rw [hEq]; rfl) | (simp [hEq]), H7.out⟩
    · have hz : (T1 : Int) > 0 := by omega
      have hz2 : (0 : Int) < (T1 : Int) := by omega
      have HE : Hid (pfB D R0 n k r = false) := by rw [HPF.out, decide_eq_false h0]; rfl
      go_wp2
      go_ret2
      exact ⟨by rw [HE.out]; exact rfl, H2.out.1⟩
  · subst hm
    have hmin : min (r2 : Int) (n : Int) = (n : Int) := by omega
    go_upto_region 9 with fail
    go_wp2_with fail
    refine (HT1.out _ _ H2.out.2.2).mono ?_
    rintro e w' ⟨rfl, hw⟩
    have hw := hw.symm
    subst hw
    clear hmin
    by_cases h0 : T1 = 0
    · subst h0
      have HA1 : Hid (∀ d os c, Calls Tryz.prog 36 #[.slice (some ⟨g, 0, none⟩) n1 c] (grow (redrawn w2 d) os) fun e w'' => e = .returned (.int .i64 (q4 : Nat)) ∧ ∃ p : Regrown, w'' = grow (redrawn w2 p.d) p.os) := fun d os c => (HT2.out _ c (bel_up' H2.out.2.2 (below_regrown w2 d os))).mono (fun e w'' h => ⟨h.1, ⟨d, os⟩, h.2⟩)
      have k0 := cell_regrown c0
      have k1 := cell_regrown c1
      have k2 := cell_regrown c2
      go_upto_region 11 with fail
      refine below_tail 16 (by kernel_rfl) (by kernel_rfl) ?_
      simp only [List.take_succ_cons, List.take_zero, List.drop_succ_cons, List.drop_zero]
      repeat (go_big_quiet_step (first | (go_at_call 36; exact HA1.out _ _ _) | (go_at_call 37; exact Calls.regrown_of (HBx.out _ _ (by omega)))))
      refine wpQuiet_nil ?_
      intro _ hw'
      obtain ⟨⟨ds, oss⟩, hw''⟩ := hw'
      subst hw''
      have H7 : Hid (Below w.heap.size w (grow (redrawn w2 ds) oss)) := bel_up' H2.out.1 (below_regrown w2 ds oss)
      clear k0 k1 k2 c0 c1 c2
      go_wp2
      go_ret2
      exact ⟨by rw [HPF.out]; first | rfl | (rw [hEq]; rfl) | (simp [hEq]), H7.out⟩
    · have hz : (T1 : Int) > 0 := by omega
      have hz2 : (0 : Int) < (T1 : Int) := by omega
      have HE : Hid (pfB D R0 n k r = false) := by rw [HPF.out, decide_eq_false h0]; rfl
      go_wp2
      go_ret2
      exact ⟨by rw [HE.out]; exact rfl, H2.out.1⟩
end Go.Proofs.YtdfneklnpghhmaaGreatDoor

/- Golay: Blocks and Perfect where they say an error. -/
namespace Go.Proofs.YtdfneklnpghhmaaGreatDoor
open Go.RowKit Go.Sort Go.Maps Go.Shelf

set_option maxHeartbeats 4000000 in
set_option maxRecDepth 100000 in
theorem gblocks_e1 (E : Int) (hE : E ≠ 0) (q n wt : Int) {ao : Option Addr} {m ca : Nat} {w : World}
    (hW : ∀ wx, Below w.heap.size w wx → Calls Tryz.prog 25 #[.agg #[.int .i64 q, .int .i64 n, .slice ao m ca]] wx fun x w' => x = .returned (.tuple #[.slice none 0 0, .int .i64 E]) ∧ Below wx.heap.size wx w') :
    Calls Tryz.prog 8 #[.agg #[.int .i64 q, .int .i64 n, .slice ao m ca], .int .i64 wt] w fun x w' => x = .returned (.tuple #[.slice none 0 0, .int .i64 E]) ∧ Below w.heap.size w w' := by
  obtain ⟨w0, hw0⟩ : ∃ w0, w0 = w.alloc (.cells #[.int .i64 q, .int .i64 n, .slice ao m ca] 24) := ⟨_, rfl⟩
  have H0 : Hid (Below w.heap.size w w0 ∧ CB w.heap.size q n (.slice ao m ca) w0 ∧ w0.heap.size = w.heap.size + 1) := by
    have := box_at q n (.slice ao m ca) w
    rw [← hw0] at this; exact this
  obtain ⟨wa, hwa⟩ : ∃ wa, wa = w0.alloc (.cells #[.int .i64 wt] 3) := ⟨_, rfl⟩
  have hba : Below w0.heap.size w0 wa := by rw [hwa]; exact (Below.refl _ _).alloc (Nat.le_refl _) _
  have HA : Hid (Below w.heap.size w wa) := below_two' H0.out.1 hba
  have HW : Hid (Calls Tryz.prog 25 #[.agg #[.int .i64 q, .int .i64 n, .slice ao m ca]] wa fun x w' => x = .returned (.tuple #[.slice none 0 0, .int .i64 E]) ∧ Below wa.heap.size wa w') := hW wa HA.out
  have hz : (E != 0) = true := bne_iff_ne.2 hE
  obtain ⟨q0, q1, q2⟩ := H0.out.2.1
  rw [hw0] at q0 q1 q2
  clear hW hba
  refine callsIn_wide.1 (callsIn_of_wp_marks (n := 0) Tryz.func8 rfl trivial ?_ rfl)
  refine wpIn_wide.2 ?_
  simp only [Tryz.ntmps8, List.size_toArray, List.length_cons, List.length_nil, Nat.reduceAdd, Nat.reduceSub, Array.replicate_succ, Array.replicate_zero, List.push_toArray, List.append_toArray, List.nil_append, List.cons_append]
  go_wp2_with fail
  rw [← hw0, ← hwa]
  clear q0 q1 q2 hw0 hwa
  refine HW.out.mono ?_
  rintro x w1 ⟨rfl, hb1⟩
  have H1 : Hid (Below w.heap.size w w1) := below_two' HA.out hb1
  clear hb1
  go_wp2
  refine ⟨.tuple #[.slice none 0 0, .int .i64 E], by simp [results, Tryz.results8, go_sem], ?_⟩
  exact ⟨rfl, H1.out⟩
set_option maxHeartbeats 4000000 in
set_option maxRecDepth 100000 in
theorem gblocks_e2 (q n wt : Int) (hp : wt < 1 ∨ n < wt) {ao : Option Addr} {m ca : Nat} {w : World}
    (hW : ∀ wx, Below w.heap.size w wx → Calls Tryz.prog 25 #[.agg #[.int .i64 q, .int .i64 n, .slice ao m ca]] wx fun x w' => ∃ go gk gc, x = .returned (.tuple #[.slice go gk gc, .int .i64 0]) ∧ Below wx.heap.size wx w') :
    Calls Tryz.prog 8 #[.agg #[.int .i64 q, .int .i64 n, .slice ao m ca], .int .i64 wt] w fun x w' => x = .returned (.tuple #[.slice none 0 0, .int .i64 10]) ∧ Below w.heap.size w w' := by
  obtain ⟨w0, hw0⟩ : ∃ w0, w0 = w.alloc (.cells #[.int .i64 q, .int .i64 n, .slice ao m ca] 24) := ⟨_, rfl⟩
  have H0 : Hid (Below w.heap.size w w0 ∧ CB w.heap.size q n (.slice ao m ca) w0 ∧ w0.heap.size = w.heap.size + 1) := by
    have := box_at q n (.slice ao m ca) w
    rw [← hw0] at this; exact this
  obtain ⟨wa, hwa⟩ : ∃ wa, wa = w0.alloc (.cells #[.int .i64 wt] 3) := ⟨_, rfl⟩
  have hba : Below w0.heap.size w0 wa := by rw [hwa]; exact (Below.refl _ _).alloc (Nat.le_refl _) _
  have HA : Hid (Below w.heap.size w wa ∧ CB w.heap.size q n (.slice ao m ca) wa ∧ wa.heap.size = w.heap.size + 2 ∧ wa.cell? ⟨w.heap.size + 1, 0, none⟩ = some (.int .i64 wt)) := by
    refine ⟨below_two' H0.out.1 hba, H0.out.2.1.keep hba, by rw [hwa]; simp [H0.out.2.2], ?_⟩
    rw [hwa, ← H0.out.2.2]; simp
  have HW : Hid (Calls Tryz.prog 25 #[.agg #[.int .i64 q, .int .i64 n, .slice ao m ca]] wa fun x w' => ∃ go gk gc, x = .returned (.tuple #[.slice go gk gc, .int .i64 0]) ∧ Below wa.heap.size wa w') := hW wa HA.out.1
  obtain ⟨q0, q1, q2⟩ := H0.out.2.1
  rw [hw0] at q0 q1 q2
  clear hW hba
  refine callsIn_wide.1 (callsIn_of_wp_marks (n := 0) Tryz.func8 rfl trivial ?_ rfl)
  refine wpIn_wide.2 ?_
  simp only [Tryz.ntmps8, List.size_toArray, List.length_cons, List.length_nil, Nat.reduceAdd, Nat.reduceSub, Array.replicate_succ, Array.replicate_zero, List.push_toArray, List.append_toArray, List.nil_append, List.cons_append]
  go_wp2_with fail
  rw [← hw0, ← hwa]
  clear q0 q1 q2
  have hs1 : w0.heap.size = w.heap.size + 1 := H0.out.2.2
  try rw [hs1]
  clear hw0 hwa
  refine HW.out.mono ?_
  rintro x w1 ⟨go, gk, gc, rfl, hb1⟩
  have H1 : Hid (Below w.heap.size w w1 ∧ CB w.heap.size q n (.slice ao m ca) w1) := ⟨below_two' HA.out.1 hb1, HA.out.2.1.keep hb1⟩
  have hcw : w1.cell? ⟨w.heap.size + 1, 0, none⟩ = some (.int .i64 wt) := (hb1.cell (p := ⟨w.heap.size + 1, 0, none⟩) (by rw [HA.out.2.2.1]; show w.heap.size + 1 < _; omega)).trans HA.out.2.2.2
  obtain ⟨p0, p1, p2⟩ := H1.out.2
  clear hb1
  by_cases h1 : wt < 1
  · go_wp2
    refine ⟨.tuple #[.slice none 0 0, .int .i64 10], by simp [results, Tryz.results8, go_sem], ?_⟩
    exact ⟨rfl, H1.out.1⟩
  · have h2 : n < wt := hp.elim (fun h => absurd h h1) id
    go_wp2
    refine ⟨.tuple #[.slice none 0 0, .int .i64 10], by simp [results, Tryz.results8, go_sem], ?_⟩
    exact ⟨rfl, H1.out.1⟩
set_option maxHeartbeats 4000000 in
set_option maxRecDepth 100000 in
theorem perfect_e1 (E : Int) (hE : E ≠ 0) (q n r : Int) {ao : Option Addr} {m ca : Nat} {w : World}
    (hW : ∀ wx, Below w.heap.size w wx → Calls Tryz.prog 25 #[.agg #[.int .i64 q, .int .i64 n, .slice ao m ca]] wx fun x w' => x = .returned (.tuple #[.slice none 0 0, .int .i64 E]) ∧ Below wx.heap.size wx w') :
    Calls Tryz.prog 11 #[.agg #[.int .i64 q, .int .i64 n, .slice ao m ca], .int .i64 r] w fun x w' => x = .returned (.tuple #[.bool false, .int .i64 E]) ∧ Below w.heap.size w w' := by
  obtain ⟨w0, hw0⟩ : ∃ w0, w0 = w.alloc (.cells #[.int .i64 q, .int .i64 n, .slice ao m ca] 24) := ⟨_, rfl⟩
  have H0 : Hid (Below w.heap.size w w0 ∧ CB w.heap.size q n (.slice ao m ca) w0 ∧ w0.heap.size = w.heap.size + 1) := by
    have := box_at q n (.slice ao m ca) w
    rw [← hw0] at this; exact this
  have HW : Hid (Calls Tryz.prog 25 #[.agg #[.int .i64 q, .int .i64 n, .slice ao m ca]] w0 fun x w' => x = .returned (.tuple #[.slice none 0 0, .int .i64 E]) ∧ Below w0.heap.size w0 w') := hW w0 H0.out.1
  have hz : (E != 0) = true := bne_iff_ne.2 hE
  obtain ⟨q0, q1, q2⟩ := H0.out.2.1
  rw [hw0] at q0 q1 q2
  clear hW
  go_enter Tryz.func11, Tryz.ntmps11
  go_wp2_with fail
  rw [← hw0]
  clear q0 q1 q2 hw0
  refine HW.out.mono ?_
  rintro x w1 ⟨rfl, hb1⟩
  have H1 : Hid (Below w.heap.size w w1) := below_two' H0.out.1 hb1
  clear hb1
  go_wp2
  go_ret2
  exact ⟨rfl, H1.out⟩
set_option maxHeartbeats 4000000 in
set_option maxRecDepth 100000 in
theorem perfect_e2 (E : Int) (q n r : Int) (hp : E ≠ 0 ∨ r < 0 ∨ n < r) {ao : Option Addr} {m ca : Nat} {w : World}
    (hW : ∀ wx, Below w.heap.size w wx → Calls Tryz.prog 25 #[.agg #[.int .i64 q, .int .i64 n, .slice ao m ca]] wx fun x w' => ∃ go gk gc, x = .returned (.tuple #[.slice go gk gc, .int .i64 0]) ∧ Below wx.heap.size wx w')
    (hC : ∀ wx, Calls Tryz.prog 35 #[.int .i64 q, .int .i64 n] wx fun e w' => e = .returned (.int .i64 E) ∧ Below wx.heap.size wx w') :
    Calls Tryz.prog 11 #[.agg #[.int .i64 q, .int .i64 n, .slice ao m ca], .int .i64 r] w fun x w' => x = .returned (.tuple #[.bool false, .int .i64 (if E = 0 then 10 else E)]) ∧ Below w.heap.size w w' := by
  obtain ⟨w0, hw0⟩ : ∃ w0, w0 = w.alloc (.cells #[.int .i64 q, .int .i64 n, .slice ao m ca] 24) := ⟨_, rfl⟩
  have H0 : Hid (Below w.heap.size w w0 ∧ CB w.heap.size q n (.slice ao m ca) w0 ∧ w0.heap.size = w.heap.size + 1) := by
    have := box_at q n (.slice ao m ca) w
    rw [← hw0] at this; exact this
  have HW : Hid (Calls Tryz.prog 25 #[.agg #[.int .i64 q, .int .i64 n, .slice ao m ca]] w0 fun x w' => ∃ go gk gc, x = .returned (.tuple #[.slice go gk gc, .int .i64 0]) ∧ Below w0.heap.size w0 w') := hW w0 H0.out.1
  have HC : Hid (∀ wx, Calls Tryz.prog 35 #[.int .i64 q, .int .i64 n] wx fun e w' => e = .returned (.int .i64 E) ∧ Below wx.heap.size wx w') := hC
  have HP : Hid (E ≠ 0 ∨ r < 0 ∨ n < r) := hp
  obtain ⟨q0, q1, q2⟩ := H0.out.2.1
  rw [hw0] at q0 q1 q2
  obtain ⟨E', hE'⟩ : ∃ E', E' = if E = 0 then 10 else E := ⟨_, rfl⟩
  rw [← hE']
  have HE' : Hid (E' = if E = 0 then 10 else E) := hE'
  clear hW hC hp hE'
  go_enter Tryz.func11, Tryz.ntmps11
  go_wp2_with fail
  rw [← hw0]
  clear q0 q1 q2 hw0
  refine HW.out.mono ?_
  rintro x w1 ⟨go, gk, gc, rfl, hb1⟩
  have H1 : Hid (Below w.heap.size w w1 ∧ CB w.heap.size q n (.slice ao m ca) w1) := ⟨below_two' H0.out.1 hb1, H0.out.2.1.keep hb1⟩
  clear hb1
  obtain ⟨p0, p1, p2⟩ := H1.out.2
  go_wp2_with fail
  refine (HC.out w1).mono ?_
  rintro e w2 ⟨rfl, hb2⟩
  have H2 : Hid (Below w.heap.size w w2 ∧ CB w.heap.size q n (.slice ao m ca) w2) := ⟨below_two' H1.out.1 hb2, H1.out.2.keep hb2⟩
  clear hb2 p0 p1 p2
  obtain ⟨p0, p1, p2⟩ := H2.out.2
  by_cases hE : E = 0
  · have e10 : E' = 10 := by rw [HE'.out, if_pos hE]
    subst hE
    subst e10
    by_cases h1 : r < 0
    · go_wp2
      go_ret2
      exact ⟨rfl, H2.out.1⟩
    · have h2 : n < r := HP.out.elim (fun h => absurd rfl h) (fun h => h.elim (fun h => absurd h h1) id)
      go_wp2
      go_ret2
      exact ⟨rfl, H2.out.1⟩
  · have eE : E = E' := by rw [HE'.out, if_neg hE]
    subst eE
    have hz : (E != 0) = true := bne_iff_ne.2 hE
    go_wp2
    go_ret2
    exact ⟨rfl, H2.out.1⟩
end Go.Proofs.YtdfneklnpghhmaaGreatDoor
