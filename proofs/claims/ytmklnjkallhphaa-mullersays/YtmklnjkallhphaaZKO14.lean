/- MullerSays: its walk. -/
import Derived.Test.YtmklnjkallhphaaZKO13
import Derived.Test.YtmklnjkallhphaaZKE3
import Derived.Test.YtmklnjkallhphaaZI10
import Derived.Test.YtmklnjkallhphaaZR15
import Derived.Test.YtmklnjkallhphaaZX18
namespace Go.Proofs.Ytmklnjkallhphaa
open Go.RowKit Go.Sort

set_option maxHeartbeats 1000000 in
set_option maxRecDepth 100000 in
theorem mullerSays_long (r m : Int) {ao : Option Addr} {n ca : Nat} (w : World) (hn : ¬ n ≤ 100) (hn2 : n ≤ 17592186044416) :
    Calls Try.prog 3 #[.int .i64 r, .int .i64 m, .slice ao n ca] w fun e w' => e = .returned (.bool true) ∧ Below w.heap.size w w' := by
  have h1 : (100 : Int) < (n : Int) := by omega
  go_enter Try.func3, Try.ntmps3
  go_wp2
  go_ret
  exact ⟨rfl, Below.refl _ _⟩

set_option maxHeartbeats 8000000 in
set_option maxRecDepth 100000 in
theorem mullerSays_err (r m : Int) (he : mck r m ≠ 0) (ao : Option Addr) (n ca : Nat) (w : World) (hn : n ≤ 100) :
    Calls Try.prog 3 #[.int .i64 r, .int .i64 m, .slice ao n ca] w fun e w' => e = .returned (.bool true) ∧ Below w.heap.size w w' := by
  obtain ⟨E, hE⟩ : ∃ E, E = mck r m := ⟨_, rfl⟩
  have hz : (E != 0) = true := by rw [bne_iff_ne, hE]; exact he
  have hz2 : (E == 0) = false := by rw [beq_eq_false_iff_ne, hE]; exact he
  have hzE : (E != E) = false := by simp
  have hzd : decide (E = 0) = false := decide_eq_false (by rw [hE]; exact he)
  have hnb : ¬ (100 : Int) < (n : Int) := by omega
  have HMy : Hid (∀ w : World, Calls Try.prog 7 #[.int .i64 r, .int .i64 m] w fun e w' => e = .returned (.int .i64 E) ∧ w' = w) := fun w => by rw [hE]; exact mullerMay_any r m w
  have HCk : Hid (∀ w : World, Calls Try.prog 10 #[.int .i64 r, .int .i64 m] w fun e w' => e = .returned (.int .i64 E) ∧ w' = w) := fun w => by rw [hE]; exact mullCheck_any r m w
  have HCd : Hid (∀ w : World, Calls Try.prog 9 #[.int .i64 r, .int .i64 m] w fun e w' => e = .returned (.tuple #[.agg #[.int .i64 0, .int .i64 0, .slice none 0 0], .int .i64 E]) ∧ Below w.heap.size w w') := fun w => by rw [hE]; exact mCode_none r m he w
  have HEn : Hid (∀ w : World, Calls Try.prog 15 #[.int .i64 r, .int .i64 m, .slice ao n ca] w fun e w' => e = .returned (.tuple #[.slice none 0 0, .int .i64 E]) ∧ w' = w) := fun w => by rw [hE]; exact mEncode_none r m he ao n ca w
  have HSm : Hid (∀ w : World, Calls Try.prog 11 #[.agg #[.int .i64 0, .int .i64 0, .slice none 0 0], .int .i64 E, .agg #[.int .i64 0, .int .i64 0, .slice none 0 0], .int .i64 E] w fun x w' => x = .returned (.bool true) ∧ Below w.heap.size w w') := fun w => lsame_err E (by rw [hE]; exact he) 0 0 none 0 0 w
  have HLi : Hid (∀ w : World, Calls Try.prog 16 #[.slice none 0 0, .int .i64 E, .slice none 0 0, .int .i64 E] w fun r w' => r = .returned (.bool true) ∧ w' = w) := fun w => list_err E (by rw [hE]; exact he) w
  clear hE he
  obtain ⟨w1, hw1⟩ : ∃ w1, w1 = w.alloc (.cells #[.int .i64 0, .int .i64 0, .slice none 0 0] 27) := ⟨_, rfl⟩
  obtain ⟨hb1, hcb1, hs1⟩ := box_at 0 0 (.slice none 0 0) w
  rw [← hw1] at hb1 hcb1 hs1
  go_enter Try.func3, Try.ntmps3
  go_wp2_with fail
  refine (HMy.out w).mono ?_
  rintro e w' ⟨rfl, hw⟩
  have hw := hw.symm
  subst hw
  go_wp2_with fail
  rw [← hw1]
  clear hw1
  refine (HCd.out w1).mono ?_
  rintro e w2 ⟨rfl, hb2⟩
  have hcb2 := hcb1.keep hb2
  obtain ⟨w3, hw3⟩ : ∃ w3, w3 = w2.alloc (.cells #[.int .i64 0, .int .i64 0, .slice none 0 0] 27) := ⟨_, rfl⟩
  obtain ⟨hb3, hcb3, hs3⟩ := box_at 0 0 (.slice none 0 0) w2
  rw [← hw3] at hb3 hcb3 hs3
  have hcb2' := hcb2.keep hb3
  have H3 : Hid (Below w.heap.size w w3) := bel_up' (bel_up' hb1 hb2) hb3
  obtain ⟨c0, c1, c2⟩ := hcb2'
  obtain ⟨d0, d1, d2⟩ := hcb3
  clear hcb1 hcb2 hb1 hb2 hb3 hs1 hs3
  go_wp2_with fail
  rw [← hw3]
  clear hw3
  refine (HCk.out w3).mono ?_
  rintro e w' ⟨rfl, hw⟩
  have hw := hw.symm
  subst hw
  go_wp2_with fail
  refine (HSm.out w3).mono ?_
  rintro e w4 ⟨rfl, hb4⟩
  have H4 : Hid (Below w.heap.size w w4) := bel_up' H3.out hb4
  clear hb4 c0 c1 c2 d0 d1 d2
  go_wp2_with fail
  refine (HEn.out w4).mono ?_
  rintro e w' ⟨rfl, hw⟩
  have hw := hw.symm
  subst hw
  go_wp2_with fail
  refine (HLi.out w4).mono ?_
  rintro e w' ⟨rfl, hw⟩
  have hw := hw.symm
  subst hw
  go_wp2
  go_ret
  exact ⟨rfl, H4.out⟩

set_option maxHeartbeats 16000000 in
set_option maxRecDepth 100000 in
theorem mullerSays_ok (r m : Nat) (h1 : 1 ≤ m) (h : m ≤ 5) (hr : r ≤ m) {ao : Option Addr} {n ca : Nat} {z : Nat → Int} {w : World} (ha : Arg ao n ca z w) (hn : n ≤ 100) :
    Calls Try.prog 3 #[.int .i64 (r : Nat), .int .i64 (m : Nat), .slice ao n ca] w fun e w' => e = .returned (.bool true) ∧ Below w.heap.size w w' := by
  obtain ⟨P, hP⟩ : ∃ P, P = 2 ^ m := ⟨_, rfl⟩
  have hPb : P ≤ 32 := by rw [hP]; exact Nat.pow_le_pow_right (by omega) h
  have hPp : 0 < P := by rw [hP]; exact Nat.pow_pos (by omega)
  obtain ⟨P1, hP1⟩ : ∃ P1, P = P1 + 1 := ⟨P - 1, by omega⟩
  obtain ⟨l, hl⟩ : ∃ l, l = mnl m (r + 1) := ⟨_, rfl⟩
  obtain ⟨K0, hK0⟩ : ∃ K0, K0 = l.length := ⟨_, rfl⟩
  have hlen : K0 ≤ 1000 := by have := mnl_len h (r + 1); rw [hK0, hl]; omega
  have hpos : 0 < K0 := by rw [hK0, hl]; exact mnl_pos h1 h hr
  have hnb : ¬ (100 : Int) < (n : Int) := by omega
  have HMy : Hid (∀ w : World, Calls Try.prog 7 #[.int .i64 (r : Nat), .int .i64 (m : Nat)] w fun e w' => e = .returned (.int .i64 0) ∧ w' = w) := fun w => by have := mullerMay_any (r : Int) (m : Int) w; rw [mck_fine h1 h hr] at this; exact this
  have HCk : Hid (∀ w : World, Calls Try.prog 10 #[.int .i64 (r : Nat), .int .i64 (m : Nat)] w fun e w' => e = .returned (.int .i64 0) ∧ w' = w) := fun w => by have := mullCheck_any (r : Int) (m : Int) w; rw [mck_fine h1 h hr] at this; exact this
  have HMc : Hid (∀ w : World, Calls Try.prog 8 #[.int .i64 (r : Nat), .int .i64 (m : Nat)] w fun e w' => ∃ k R ro rc, e = .returned (.agg #[.int .i64 2, .int .i64 (P : Nat), .slice ro k rc]) ∧ LLs w.heap.size (.slice ro k rc) (rl k P1 R) w' ∧ Red FM P (mnl m (r + 1)).length (mrow (mnl m (r + 1)) P) k R ∧ Below w.heap.size w w') := fun w => rMCode_any r m P P1 h1 h hr hP hP1 w
  have HCd : Hid (∀ w : World, Calls Try.prog 9 #[.int .i64 (r : Nat), .int .i64 (m : Nat)] w (McP r m P w)) := fun w => mCode_any r m P h1 h hr hP w
  have HMo : Hid (∀ w : World, Calls Try.prog 12 #[.int .i64 (r : Nat), .int .i64 (m : Nat)] w fun e w' => ∃ g c, e = .returned (.slice (some ⟨g, 0, none⟩) K0 c) ∧ Below w.heap.size w w') := fun w => by
    refine (rmonos_any r m h1 h hr w).mono ?_
    rintro e w' ⟨v, rfl, hov, hb⟩
    rw [← hl] at hov
    obtain ⟨g, c, hv, _⟩ := hov.at (fun e => by have := nli_len l; rw [e] at this; simp at this; omega)
    rw [nli_len, ← hK0] at hv
    exact ⟨g, c, by rw [hv], hb⟩
  have HEn : Hid (∀ wx, Below w.heap.size w wx → Calls Try.prog 15 #[.int .i64 (r : Nat), .int .i64 (m : Nat), .slice ao n ca] wx (EnP r m P n z wx)) := fun wx hx => mEncode_any r m P h1 h hr hP (ha.below hx).sl (by omega)
  have HBt : Hid (∀ wx, Below w.heap.size w wx → Calls Try.prog 13 #[.slice ao n ca, .bool false] wx fun e w' => e = .returned (.bool (allP isbt z n)) ∧ w' = wx) := fun wx hx => rbits_any false (ha.below hx).sl (by omega)
  have HWd : Hid (n = K0 → allP isbt z n = true → ∀ wx, Below w.heap.size w wx → Calls Try.prog 14 #[.int .i64 (r : Nat), .int .i64 (m : Nat), .slice ao n ca] wx fun e w' => ∃ G, e = .returned (.slice (some ⟨G, 0, none⟩) P P) ∧ Row G P (fun x => mwv l (fun j => (z j).toNat) x l.length) w' ∧ Below wx.heap.size wx w') := fun e hb wx hx => by
    have hz : ∀ j, j < n → z j = (((z j).toNat : Nat) : Int) ∧ (z j).toNat < 2 := fun j hj => by
      have := of_decide_eq_true (allP_iff n hb j hj)
      omega
    have hA := ha.below hx
    refine (rmw_any r m P h1 h hr hP (g := fun j => (z j).toNat) (by rw [← hl]; omega) (fun i hi => (hz i hi).2) ⟨fun j hj => ?_, hA.lt, hA.few, hA.nil, hA.le, hA.cap⟩).mono ?_
    · obtain ⟨b, off, e1, e2⟩ := hA.sl j hj
      exact ⟨b, off, e1, by rw [e2, ← (hz j hj).1]⟩
    · rintro e w' ⟨G, rfl, _, hrow, hb2⟩
      rw [← hl] at hrow
      exact ⟨G, rfl, hrow, hb2⟩
  have HSm : Hid (∀ {a b : Option Addr} {k k' ca cb : Nat} {R R' : Nat → Nat → Nat} {B B' : Nat} {wx : World}, MV B (.slice a k ca) k P R wx → LLs B' (.slice b k' cb) (rl k' P1 R') wx → Red FM P (mnl m (r + 1)).length (mrow (mnl m (r + 1)) P) k R → Red FM P (mnl m (r + 1)).length (mrow (mnl m (r + 1)) P) k' R' → Calls Try.prog 11 #[.agg #[.int .i64 2, .int .i64 (P : Nat), .slice a k ca], .int .i64 0, .agg #[.int .i64 2, .int .i64 (P : Nat), .slice b k' cb], .int .i64 0] wx fun e w' => e = .returned (.bool true) ∧ Below wx.heap.size wx w') := fun {a b k k' ca cb R R' B B' wx} hm hL h1 h2 => by
    obtain ⟨e, hR⟩ := Red.uniq (fld FM_in) h1 h2 (fun _ => Iff.rfl)
    subst e
    have hk := h1.le
    have h2' := hL.rl
    rw [← hP1] at h2'
    exact lsame_ok 2 P hm.rl (h2'.congr (fun i hi => (hR i hi).symm)) (by omega) (by omega)
  have hE0 : bchk isbt n z (K0 : Nat) = if n = K0 then (if allP isbt z n = true then 0 else 2) else 6 := by
    unfold bchk
    by_cases e : n = K0
    · rw [if_neg (by omega), if_pos e]
    · rw [if_pos (by omega), if_neg e]
  have HL : Hid (l = mnl m (r + 1) ∧ K0 = l.length ∧ bchk isbt n z (K0 : Nat) = if n = K0 then (if allP isbt z n = true then 0 else 2) else 6) := ⟨hl, hK0, hE0⟩
  clear hl hK0 hP hP1 hE0 ha
  obtain ⟨w1, hw1⟩ : ∃ w1, w1 = w.alloc (.cells #[.int .i64 0, .int .i64 0, .slice none 0 0] 27) := ⟨_, rfl⟩
  obtain ⟨hb1, hcb1, hs1⟩ := box_at 0 0 (.slice none 0 0) w
  rw [← hw1] at hb1 hcb1 hs1
  have hrb1 : RB w.heap.size w1 ∧ RBt w.heap.size w1 := by rw [hw1]; exact ⟨RB.new _ _ _ _, RBt.new _ _⟩
  have H1 : Hid (Below w.heap.size w w1 ∧ (RB w.heap.size w1 ∧ RBt w.heap.size w1) ∧ w1.heap.size = w.heap.size + 1) := ⟨hb1, hrb1, hs1⟩
  clear hb1 hcb1 hs1 hrb1
  go_enter Try.func3, Try.ntmps3
  go_wp2_with fail
  refine (HMy.out w).mono ?_
  rintro e w' ⟨rfl, hw⟩
  have hw := hw.symm
  subst hw
  go_wp2_with fail
  rw [← hw1]
  clear hw1
  refine (HMc.out w1).mono ?_
  rintro e w2 ⟨k, R, ro, rc, rfl, hll, hred, hb2⟩
  have hrb2 := H1.out.2.1.1.keep hb2
  have hrt2 := H1.out.2.1.2.keep hb2
  obtain ⟨w3, hw3⟩ : ∃ w3, w3 = laid w2 w.heap.size 2 P (.slice ro k rc) := ⟨_, rfl⟩
  have H3 : Hid (CB w.heap.size 2 P (.slice ro k rc) w3 ∧ LLs w.heap.size (.slice ro k rc) (rl k P1 R) w3 ∧ Red FM P (mnl m (r + 1)).length (mrow (mnl m (r + 1)) P) k R ∧ Below w.heap.size w w3) := by
    rw [hw3]
    exact ⟨laid_cb hrb2 _ _ _, (hll.laid hrt2 _ _ _).mono (by have := H1.out.2.2; omega), hred, laid_below (bel_up' H1.out.1 hb2) (Nat.le_refl _) _ _ _⟩
  obtain ⟨⟨x0, c0⟩, ⟨x1, c1⟩, ⟨x2, c2⟩, f0, f1, f2⟩ := hrb2
  clear hll hred hb2 hrt2
  unfold laid at hw3
  go_wp2_with fail
  rw [← hw3]
  clear hw3 c0 c1 c2 f0 f1 f2
  refine (HCd.out w3).mono ?_
  rintro e w4 ⟨k', R', ro', rc', rfl, hmv, hred', hb4⟩
  obtain ⟨w5, hw5⟩ : ∃ w5, w5 = w4.alloc (.cells #[.int .i64 2, .int .i64 (P : Nat), .slice ro' k' rc'] 27) := ⟨_, rfl⟩
  obtain ⟨hb5, hcb5, hs5⟩ := box_at 2 P (.slice ro' k' rc') w4
  rw [← hw5] at hb5 hcb5 hs5
  have hb35 := bel_up' hb4 hb5
  have H5 : Hid (Below w.heap.size w w5 ∧ MV w3.heap.size (.slice ro' k' rc') k' P R' w5 ∧ LLs w.heap.size (.slice ro k rc) (rl k P1 R) w5 ∧ Red FM P (mnl m (r + 1)).length (mrow (mnl m (r + 1)) P) k' R') := ⟨bel_up' H3.out.2.2.2 hb35, hmv.below hb5, H3.out.2.1.below hb35 (Nat.le_refl _), hred'⟩
  obtain ⟨c0, c1, c2⟩ := H3.out.1.keep hb35
  obtain ⟨d0, d1, d2⟩ := hcb5
  clear hmv hred' hb4 hb5 hb35 hs5
  go_wp2_with fail
  rw [← hw5]
  clear hw5
  refine (HCk.out w5).mono ?_
  rintro e w' ⟨rfl, hw⟩
  have hw := hw.symm
  subst hw
  go_wp2_with fail
  refine (HSm.out H5.out.2.1 H5.out.2.2.1 H5.out.2.2.2 H3.out.2.2.1).mono ?_
  rintro e w6 ⟨rfl, hb6⟩
  have H6 : Hid (Below w.heap.size w w6) := bel_up' H5.out.1 hb6
  clear hb6 c0 c1 c2 d0 d1 d2
  go_wp2_with fail
  refine (HMo.out w6).mono ?_
  rintro e w7 ⟨gM, cM, rfl, hb7⟩
  have H7 : Hid (Below w.heap.size w w7) := bel_up' H6.out hb7
  clear hb7
  by_cases hnk : n = K0
  · have hnz : ((n : Int) != (K0 : Int)) = false := by rw [hnk]; simp
    have HNK : Hid (n = K0) := hnk
    clear hnk
    go_wp2_with fail
    refine (HBt.out w7 H7.out).mono ?_
    rintro e w' ⟨rfl, hw⟩
    have hw := hw.symm
    subst hw
    obtain ⟨bb, hbb⟩ : ∃ bb, bb = allP isbt z n := ⟨_, rfl⟩
    rw [← hbb]
    cases bb with
    | true =>
      have HBB : Hid (allP isbt z n = true) := hbb.symm
      clear hbb
      go_wp2_with fail
      refine (HWd.out HNK.out HBB.out w7 H7.out).mono ?_
      rintro e w8 ⟨G, rfl, hrow8, hb8⟩
      have H8 : Hid (Below w.heap.size w w8 ∧ Row G P (fun x => mwv l (fun j => (z j).toNat) x l.length) w8) := ⟨bel_up' H7.out hb8, hrow8⟩
      clear hrow8 hb8
      go_wp2_with fail
      refine (HEn.out w8 H8.out.1).mono ?_
      rintro e w9 ⟨hb9, hx⟩
      have hbc : bchk isbt n z ((mnl m (r + 1)).length : Nat) = 0 := by rw [← HL.out.1, ← HL.out.2.1, HL.out.2.2, if_pos HNK.out, if_pos HBB.out]
      rcases hx with ⟨_, G2, rfl, hG2, hrow9⟩ | ⟨hbad, _⟩
      · have HLi : Hid (Calls Try.prog 16 #[.slice (some ⟨G2, 0, none⟩) P P, .int .i64 0, .slice (some ⟨G, 0, none⟩) P P, .int .i64 0] w9 fun r w' => r = .returned (.bool true) ∧ ∃ n, w' = w9.drewN n) := by
          rw [← HL.out.1] at hrow9
          exact list_same (sl_sliceI (hrow9.sl (Nat.le_refl _)) (by omega)) (sl_sliceI ((H8.out.2.below hb9 H8.out.2.lt).sl (Nat.le_refl _)) (by omega))
        have H9 : Hid (Below w.heap.size w w9) := bel_up' H8.out.1 hb9
        clear hb9 hG2 hrow9 hbc
        go_wp2_with fail
        refine HLi.out.mono ?_
        rintro e w' ⟨rfl, nn, hw⟩
        subst hw
        go_wp2
        go_ret
        exact ⟨rfl, below_drewN2 H9.out nn⟩
      · exact absurd hbc hbad
    | false =>
      have HBB : Hid (allP isbt z n = false) := hbb.symm
      clear hbb
      go_wp2_with fail
      refine (HEn.out w7 H7.out).mono ?_
      rintro e w9 ⟨hb9, hx⟩
      have hbc : bchk isbt n z ((mnl m (r + 1)).length : Nat) = 2 := by rw [← HL.out.1, ← HL.out.2.1, HL.out.2.2, if_pos HNK.out, HBB.out, if_neg (by intro h; cases h)]
      rcases hx with ⟨hbad, _⟩ | ⟨_, rfl⟩
      · rw [hbc] at hbad; cases hbad
      · rw [hbc]
        have H9 : Hid (Below w.heap.size w w9) := bel_up' H7.out hb9
        clear hb9 hbc
        go_wp2_with fail
        refine (list_err 2 (by omega) w9).mono ?_
        rintro e w' ⟨rfl, hw⟩
        have hw := hw.symm
        subst hw
        go_wp2
        go_ret
        exact ⟨rfl, H9.out⟩
  · have hnz : ((n : Int) != (K0 : Int)) = true := by rw [bne_iff_ne]; omega
    have HNK : Hid (¬ n = K0) := hnk
    clear hnk
    go_wp2_with fail
    refine (HEn.out w7 H7.out).mono ?_
    rintro e w9 ⟨hb9, hx⟩
    have hbc : bchk isbt n z ((mnl m (r + 1)).length : Nat) = 6 := by rw [← HL.out.1, ← HL.out.2.1, HL.out.2.2, if_neg HNK.out]
    rcases hx with ⟨hbad, _⟩ | ⟨_, rfl⟩
    · rw [hbc] at hbad; cases hbad
    · rw [hbc]
      have H9 : Hid (Below w.heap.size w w9) := bel_up' H7.out hb9
      clear hb9 hbc
      go_wp2_with fail
      refine (list_err 6 (by omega) w9).mono ?_
      rintro e w' ⟨rfl, hw⟩
      have hw := hw.symm
      subst hw
      go_wp2
      go_ret
      exact ⟨rfl, H9.out⟩
theorem mullerSays_walk (r m : Int) {ao : Option Addr} {n ca : Nat} {z : Nat → Int} {w : World} (ha : ArgL ao n ca z w) (hn2 : n ≤ 17592186044416) :
    Calls Try.prog 3 #[.int .i64 r, .int .i64 m, .slice ao n ca] w fun e w' => e = .returned (.bool true) ∧ Below w.heap.size w w' := by
  by_cases hn : n ≤ 100
  · by_cases he : mck r m = 0
    · obtain ⟨R, M, rfl, rfl, h1, h2, h3⟩ := mck_ok he
      exact mullerSays_ok R M h1 h2 h3 (ha.arg (by omega)) hn
    · exact mullerSays_err r m he ao n ca w hn
  · exact mullerSays_long r m w hn hn2
end Go.Proofs.Ytmklnjkallhphaa
