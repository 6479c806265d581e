/- Texts of ours, one behind the other: L16 L17. -/
import Derived.Test.YtbpeahhhkcljeaaZL15
/- MatrixSays: one matrix (matrixOne) without a row. -/
namespace Go.Proofs.Ytbpeahhhkcljeaa
open Go.RowKit Go.Sort

theorem mchk_none (D : FD) (N : Nat → Nat) (Z : Nat → Nat → Int) : D.mchk 0 N Z = 0 := by
  unfold FD.mchk
  rw [if_neg (by omega)]; rfl
theorem matZ_none (ao : Option Addr) (A : Nat → Option Addr) (N C : Nat → Nat) (Z : Nat → Nat → Int) (w : World) : MatZ ao 0 A N C Z w :=
  ⟨fun i hi => absurd hi (by omega), fun i hi => absurd hi (by omega), fun i hi => absurd hi (by omega), fun i hi => absurd hi (by omega), fun i hi => absurd hi (by omega), fun i hi => absurd hi (by omega)⟩

set_option maxHeartbeats 16000000 in
set_option maxRecDepth 100000 in
theorem matrixOne_zero {D : FD} (hD : D ∈ fieldsL) {ao bo : Option Addr} {mb ca cb : Nat} {y : Nat → Int} {w : World} (hy : SlZ bo mb y w) (hmb : mb ≤ 1000000) :
    Calls Try.prog 16 #[.int .i64 D.q, .slice ao 0 ca, .slice bo mb cb, .int .i64 0] w fun r w' => r = .returned (.bool true) ∧ Below w.heap.size w w' := by
  have HH : Hid (D ∈ fieldsL ∧ SlZ bo mb y w) := ⟨hD, hy⟩
  have HPr : Hid (∀ wx, Calls Try.prog 39 #[.int .i64 D.q, .slice ao 0 ca] wx fun e w' => ∃ ro rc po pc, e = .returned (.tuple #[.slice ro 0 rc, .slice po 0 pc, .int .i64 0]) ∧ Below wx.heap.size wx w') := fun wx => by
    refine (mreduce_any (N := fun _ => 0) (Z := fun _ _ => 0) HH.out.1 (matZ_none ao (fun _ => none) (fun _ => 0) (fun _ => 0) (fun _ _ => 0) wx) (by omega)).mono ?_
    rintro e w' ⟨hb, hr⟩
    rcases hr with ⟨h0, _⟩ | ⟨_, G, k', R', p', h', pv, W, rfl, _, hW, hk, hmx, hown, _⟩
    · exact absurd (mchk_none _ _ _) h0
    · have hk0 : k' = 0 := by omega
      subst hk0
      obtain ⟨po, pc, rfl, _⟩ := hown.argL
      exact ⟨_, _, po, pc, rfl, hb⟩
  have HPk : Hid (∀ wx, Calls Try.prog 37 #[.int .i64 D.q, .slice ao 0 ca] wx fun e w' => e = .returned (.tuple #[.int .i64 0, .int .i64 0]) ∧ Below wx.heap.size wx w') := fun wx => by
    refine (mrank_any (N := fun _ => 0) (Z := fun _ _ => 0) HH.out.1 (matZ_none ao (fun _ => none) (fun _ => 0) (fun _ => 0) (fun _ _ => 0) wx) (by omega)).mono ?_
    rintro e w' ⟨hb, hr⟩
    rcases hr with ⟨h0, _⟩ | ⟨_, k', R', p', W, rfl, _, hk, _⟩
    · exact absurd (mchk_none _ _ _) h0
    · have hk0 : k' = 0 := by omega
      subst hk0
      exact ⟨rfl, hb⟩
  have HPn : Hid (∀ wx, Calls Try.prog 38 #[.int .i64 D.q, .slice ao 0 ca] wx fun e w' => ∃ lo lc, e = .returned (.tuple #[.slice lo 0 lc, .int .i64 0]) ∧ Below wx.heap.size wx w') := fun wx => by
    refine (mnull_any (N := fun _ => 0) (Z := fun _ _ => 0) HH.out.1 (matZ_none ao (fun _ => none) (fun _ => 0) (fun _ => 0) (fun _ _ => 0) wx) (by omega)).mono ?_
    rintro e w' ⟨hb, hr⟩
    rcases hr with ⟨h0, _⟩ | ⟨_, v, k', R', p', k2', R2', p2', W, rfl, hW, _, _, _, hrl, _⟩
    · exact absurd (mchk_none _ _ _) h0
    · have hW0 := hW rfl
      subst hW0
      obtain ⟨lo, lc, rfl⟩ := hrl.rl.open
      exact ⟨lo, lc, rfl, hb⟩
  have HIn : Hid (∀ wx, Calls Try.prog 99 #[.int .i64 D.q, .slice ao 0 ca] wx fun e w' => (∃ lo lc, e = .returned (.tuple #[.slice lo 0 lc, .int .i64 0])) ∧ Below wx.heap.size wx w') := fun wx => by
    refine (minverse_any (N := fun _ => 0) (Z := fun _ _ => 0) HH.out.1 (matZ_none ao (fun _ => none) (fun _ => 0) (fun _ => 0) (fun _ _ => 0) wx) (by omega)).mono ?_
    rintro e w' ⟨hb, hr⟩
    rcases hr with ⟨h0, _⟩ | ⟨_, h0, _⟩ | ⟨_, _, k', R', p', _, _, hc⟩
    · exact absurd (mchk_none _ _ _) h0
    · omega
    · rcases hc with ⟨hc, _⟩ | ⟨_, G2, hh, rfl, _⟩
      · omega
      · exact ⟨⟨_, _, rfl⟩, hb⟩
  have HS0 : Hid (∀ wx, Calls Try.prog 63 #[.int .i64 D.q, .slice ao 0 ca, .slice bo 0 cb] wx fun e w' => (∃ xo xc, e = .returned (.tuple #[.slice xo 0 xc, .bool true, .int .i64 0])) ∧ Below wx.heap.size wx w') := fun wx => by
    refine (msolve_any (N := fun _ => 0) (Z := fun _ _ => 0) (y := fun _ => 0) HH.out.1 (matZ_none ao (fun _ => none) (fun _ => 0) (fun _ => 0) (fun _ _ => 0) wx) (by omega) (fun j hj => absurd hj (by omega))).mono ?_
    rintro e w' ⟨hb, hr⟩
    rcases hr with ⟨h0, _⟩ | ⟨_, h0, _⟩ | ⟨_, _, k', R', p', W, hW, _, _, _, hc⟩
    · exact absurd (mchk_none _ _ _) h0
    · cases h0
    · rcases hc with ⟨⟨i, _, h2, _⟩, _⟩ | ⟨_, v, rfl, hki⟩
      · omega
      · have hW0 := hW rfl
        subst hW0
        obtain ⟨xo, xc, rfl⟩ := hki.open
        exact ⟨⟨xo, xc, rfl⟩, hb⟩
  have HS1 : Hid (∀ wx, mb ≠ 0 → Calls Try.prog 63 #[.int .i64 D.q, .slice ao 0 ca, .slice bo mb cb] wx fun e w' => e = .returned (.tuple #[.slice none 0 0, .bool false, .int .i64 6]) ∧ Below wx.heap.size wx w') := fun wx hne => by
    refine (msolve_count (N := fun _ => 0) (Z := fun _ _ => 0) HH.out.1 (matZ_none ao (fun _ => none) (fun _ => 0) (fun _ => 0) (fun _ _ => 0) wx) (by omega) hne).mono ?_
    rintro e w' ⟨hb, hr⟩
    rcases hr with ⟨h0, _⟩ | ⟨_, rfl⟩
    · exact absurd (mchk_none _ _ _) h0
    · exact ⟨rfl, hb⟩
  clear hD hy
  go_enter Try.func16, Try.ntmps16
  go_wp2_with fail
  refine (rfield_sl HH.out.1 w).mono ?_
  rintro r w1 ⟨gm, cm, rfl, hmod, hb1⟩
  have HM : Hid (Below w.heap.size w w1) := hb1
  clear hmod hb1
  unfold rf
  obtain ⟨wa, hwa⟩ : ∃ wa, wa = w1.alloc (.cells #[.int .i64 D.q, .int .i64 D.p, .int .i64 D.m, .int .i64 D.gen, .slice (some ⟨gm, 0, none⟩) (D.m + 1) cm] 28) := ⟨_, rfl⟩
  have HX : Hid (Box w1.heap.size D D.gen (.slice (some ⟨gm, 0, none⟩) (D.m + 1) cm) wa ∧ wa.heap.size = w1.heap.size + 1 ∧ Below w.heap.size w wa) := by
    have hb : Below w1.heap.size w1 wa := by rw [hwa]; exact (Below.refl _ _).alloc (Nat.le_refl _) _
    exact ⟨by rw [hwa]; exact box_new D D.gen _ w1, by rw [hwa]; simp, bel_up' HM.out hb⟩
  go_wp2_with fail
  rw [← hwa]
  clear hwa
  refine (HPr.out wa).mono ?_
  rintro e w4 ⟨ro', rc', po', pc', rfl, hb4⟩
  have H4 : Hid (Below wa.heap.size wa w4) := hb4
  clear hb4
  go_wp2_with fail
  refine (HPk.out w4).mono ?_
  rintro e w5 ⟨rfl, hb5⟩
  have H5 : Hid (Below wa.heap.size wa w5) := bel_up' H4.out hb5
  clear hb5
  go_wp2_with fail
  refine (HPn.out w5).mono ?_
  rintro e w6 ⟨lo', lc', rfl, hb6⟩
  have H6 : Hid (Below wa.heap.size wa w6) := bel_up' H5.out hb6
  clear hb6
  have HL1 : Hid (∀ (wx : World) (lo : Option Addr) (lc : Nat), Calls Try.prog 15 #[.slice lo 0 lc, .int .i64 0, .slice none 0 0, .int .i64 0] wx fun r w' => r = .returned (.bool true) ∧ Below wx.heap.size wx w') := fun wx lo lc => by
    refine (lists_rl (k := 0) (n := 0) (R := fun _ => pnil) ⟨lo, lc, rfl, fun i hi => absurd hi (by omega)⟩ (RL.nil _ _ _) (by omega) (by omega)).mono ?_
    rintro r w' ⟨rfl, d, rfl⟩
    exact ⟨rfl, ⟨rfl, rfl, rfl, Nat.le_refl _, fun _ _ => rfl⟩⟩
  have HL3 : Hid (∀ (wx : World) (lo : Option Addr) (lc : Nat), Calls Try.prog 59 #[.slice lo 0 lc, .int .i64 0, .slice none 0 0, .int .i64 0] wx fun r w' => r = .returned (.bool true) ∧ Below wx.heap.size wx w') := fun wx lo lc => by
    refine (list_gen (Or.inr ⟨rfl, [], Or.inl ⟨rfl, _, _, rfl⟩, Or.inl ⟨rfl, _, _, rfl⟩⟩)).mono ?_
    rintro r w' ⟨rfl, d, rfl⟩
    exact ⟨rfl, ⟨rfl, rfl, rfl, Nat.le_refl _, fun _ _ => rfl⟩⟩
  go_wp2_with fail
  refine (HL1.out _ _ _).mono ?_
  rintro r w7 ⟨rfl, hb⟩
  have H7 : Hid (Below wa.heap.size wa w7) := bel_up' H6.out hb
  clear hb
  go_wp2_with fail
  refine (HL3.out _ _ _).mono ?_
  rintro r w8 ⟨rfl, hb⟩
  have H8 : Hid (Below wa.heap.size wa w8) := bel_up' H7.out hb
  clear hb
  go_wp2_with fail
  refine (num_same _ _).mono ?_
  rintro r w9 ⟨rfl, hw⟩
  have hw := hw.symm
  subst hw
  go_wp2_with fail
  refine (HL1.out _ _ _).mono ?_
  rintro r wL ⟨rfl, hb⟩
  have HL : Hid (Below wa.heap.size wa wL) := bel_up' H8.out hb
  clear hb
  have kinil : ∀ (lo : Option Addr) (lc : Nat) wx, SliceI (.slice lo 0 lc) [] wx := fun lo lc wx => Or.inl ⟨rfl, _, _, rfl⟩
  have hsa := HX.out.2.1
  have hslt : w1.heap.size < wa.heap.size := by omega
  go_upto_if 100 with fail
  by_cases hmm : 0 = mb
  · subst hmm
    have HEl : Hid (∀ wx, Below wa.heap.size wa wx → Calls Try.prog 61 #[.agg #[.int .i64 D.q, .int .i64 D.p, .int .i64 D.m, .int .i64 D.gen, .slice (some ⟨gm, 0, none⟩) (D.m + 1) cm], .slice bo 0 cb] wx fun e w' => e = .returned (.bool true) ∧ Below wx.heap.size wx w') := fun wx hx => relements_any (D := D) (z := fun _ => 0) D.gen _ (by omega) (fun j hj => absurd hj (by omega))
    obtain ⟨k0, k1, k2', k3, k4⟩ := HX.out.1.below HL.out hslt
    go_wp2_with fail
    refine (HEl.out _ HL.out).mono ?_
    rintro e wE ⟨rfl, hbE⟩
    have HE : Hid (Below wa.heap.size wa wE) := bel_up' HL.out hbE
    clear hbE k0 k1 k2' k3 k4
    go_wp2_with fail
    refine (HS0.out _).mono ?_
    rintro e wS ⟨⟨xo, xc, rfl⟩, hbS⟩
    have HS : Hid (Below wa.heap.size wa wS) := bel_up' HE.out hbS
    clear hbS
    go_wp2_with fail
    refine (same_any (kinil _ _ _) (kinil _ _ _)).mono ?_
    rintro e wT ⟨rfl, d, hwT⟩
    have hdec : decide (([] : List Int) = []) = true := rfl
    rw [hdec]
    have HT : Hid (Below wa.heap.size wa wT) := by rw [hwT]; exact bel_up' HS.out ⟨rfl, rfl, rfl, Nat.le_refl _, fun _ _ => rfl⟩
    clear hdec hwT
    obtain ⟨k0, k1, k2', k3, k4⟩ := HX.out.1.below HT.out hslt
    go_wp2_with fail
    refine (inverse_zero D.q D.q D.p D.m D.gen (some ⟨gm, 0, none⟩) (D.m + 1) cm (fun wx _ => HIn.out wx)).mono ?_
    rintro e w12 ⟨rfl, hb12⟩
    have H12 : Hid (Below w.heap.size w w12) := bel_up' HX.out.2.2 (bel_up' HT.out hb12)
    clear hb12 k0 k1 k2' k3 k4
    go_wp2
    go_ret
    exact ⟨rfl, H12.out⟩
  · have hz : ((mb : Int) != 0) = true := by rw [bne_iff_ne]; omega
    have hmm2 : mb ≠ 0 := fun e => hmm e.symm
    go_wp2_with fail
    refine (HS1.out _ hmm2).mono ?_
    rintro e wS ⟨rfl, hbS⟩
    have HS : Hid (Below wa.heap.size wa wS) := bel_up' HL.out hbS
    clear hbS
    go_wp2_with fail
    refine (same_any (kinil _ _ _) (kinil _ _ _)).mono ?_
    rintro e wT ⟨rfl, d, hwT⟩
    have hdec : decide (([] : List Int) = []) = true := rfl
    rw [hdec]
    have HT : Hid (Below wa.heap.size wa wT) := by rw [hwT]; exact bel_up' HS.out ⟨rfl, rfl, rfl, Nat.le_refl _, fun _ _ => rfl⟩
    clear hdec hwT
    obtain ⟨k0, k1, k2', k3, k4⟩ := HX.out.1.below HT.out hslt
    go_wp2_with fail
    refine (inverse_zero D.q D.q D.p D.m D.gen (some ⟨gm, 0, none⟩) (D.m + 1) cm (fun wx _ => HIn.out wx)).mono ?_
    rintro e w12 ⟨rfl, hb12⟩
    have H12 : Hid (Below w.heap.size w w12) := bel_up' HX.out.2.2 (bel_up' HT.out hb12)
    clear hb12 k0 k1 k2' k3 k4
    go_wp2
    go_ret
    exact ⟨rfl, H12.out⟩
end Go.Proofs.Ytbpeahhhkcljeaa

/- MatrixSays: the walk of the statement, whatever it is given. -/
namespace Go.Proofs.Ytbpeahhhkcljeaa
open Go.RowKit Go.Sort

/-- One matrix, whatever it is. -/
theorem matrixOne_any (q : Int) {ao bo : Option Addr} {m mb ca cb : Nat} {A : Nat → Option Addr} {N C : Nat → Nat} {Z : Nat → Nat → Int} {y : Nat → Int} {w : World} (ha : MatZ ao m A N C Z w) (hm : m ≤ 1000000) (hy : SlZ bo mb y w) (hmb : mb ≤ 1000000) (e : Int) (he : (∃ D ∈ fieldsL, (D.q : Int) = q ∧ e = D.mchk m N Z) ∨ ((∀ D ∈ fieldsL, (D.q : Int) ≠ q) ∧ e = 1)) :
    Calls Try.prog 16 #[.int .i64 q, .slice ao m ca, .slice bo mb cb, .int .i64 e] w fun r w' => r = .returned (.bool true) ∧ Below w.heap.size w w' := by
  rcases he with ⟨D, hD, rfl, rfl⟩ | ⟨h, rfl⟩
  · by_cases h0 : D.mchk m N Z = 0
    · rw [h0]
      by_cases hm0 : m = 0
      · subst hm0
        exact matrixOne_zero hD hy hmb
      · obtain ⟨n, k, R, p, k2, R2, p2, hok⟩ := mok_ex hD ha h0 (by omega)
        exact matrixOne_pos hok hy hmb
    · refine matrixOne_err D.q _ h0 (fun w1 _ => ?_) (fun w1 hb1 => ?_) (fun w1 hb1 => ?_) (fun w1 hb1 => ?_) (fun w1 hb1 => ?_) (fun w1 hb1 => ?_)
      · refine (rfield_sl hD w1).mono ?_
        rintro e w' ⟨gm, cm, rfl, _, hb⟩
        exact ⟨_, _, _, _, _, _, _, _, rfl, hb⟩
      · refine (mreduce_any hD (ha.below hb1) hm).mono ?_
        rintro e w' ⟨hb, hr⟩
        rcases hr with ⟨_, rfl⟩ | ⟨h, _⟩
        · exact ⟨rfl, hb⟩
        · exact absurd h h0
      · refine (mrank_any hD (ha.below hb1) hm).mono ?_
        rintro e w' ⟨hb, hr⟩
        rcases hr with ⟨_, rfl⟩ | ⟨h, _⟩
        · exact ⟨rfl, hb⟩
        · exact absurd h h0
      · refine (mnull_any hD (ha.below hb1) hm).mono ?_
        rintro e w' ⟨hb, hr⟩
        rcases hr with ⟨_, rfl⟩ | ⟨h, _⟩
        · exact ⟨rfl, hb⟩
        · exact absurd h h0
      · by_cases hne : mb = m
        · subst hne
          refine (msolve_any hD (ha.below hb1) hm (slz_below hy hb1)).mono ?_
          rintro e w' ⟨hb, hr⟩
          rcases hr with ⟨_, rfl⟩ | ⟨h, _⟩ | ⟨h, _⟩
          · exact ⟨rfl, hb⟩
          · exact absurd h h0
          · exact absurd h h0
        · refine (msolve_count hD (ha.below hb1) hm hne).mono ?_
          rintro e w' ⟨hb, hr⟩
          rcases hr with ⟨_, rfl⟩ | ⟨h, _⟩
          · exact ⟨rfl, hb⟩
          · exact absurd h h0
      · refine (minverse_any hD (ha.below hb1) hm).mono ?_
        rintro e w' ⟨hb, hr⟩
        rcases hr with ⟨_, rfl⟩ | ⟨h, _⟩ | ⟨h, _⟩
        · exact ⟨rfl, hb⟩
        · exact absurd h h0
        · exact absurd h h0
  · refine matrixOne_err q 1 (by omega) (fun w1 _ => ?_) (fun w1 _ => mreduce_none q h _ _ _ _) (fun w1 _ => mrank_none q h _ _ _ _) (fun w1 _ => mnull_none q h _ _ _ _) (fun w1 _ => msolve_none q h _ _ _ _ _) (fun w1 _ => minverse_none q h _ _ _ _)
    refine (rfield_none q w1 h).mono ?_
    rintro e w' ⟨rfl, hb⟩
    exact ⟨0, 0, 0, 0, none, 0, 0, 1, rfl, hb⟩
end Go.Proofs.Ytbpeahhhkcljeaa
