/- MatrixSays: one matrix (matrixOne) that may be. -/
import Derived.Test.YtbpeahhhkcljeaaZL14
namespace Go.Proofs.Ytbpeahhhkcljeaa
open Go.RowKit Go.Sort

theorem KI.same {va vb : Value} {l : List Int} {w : World} (ha : KI va l w) (hb : KI vb l w) :
    Calls Try.prog 64 #[va, vb] w fun e w' => e = .returned (.bool true) ∧ Below w.heap.size w w' := by
  refine (same_any ha.1 hb.1).mono ?_
  rintro e w' ⟨rfl, d, rfl⟩
  exact ⟨by rw [decide_eq_true rfl], ⟨rfl, rfl, rfl, Nat.le_refl _, fun _ _ => rfl⟩⟩

set_option maxHeartbeats 16000000 in
set_option maxRecDepth 100000 in
theorem matrixOne_pos {D : FD} {ao bo : Option Addr} {m n mb ca cb : Nat} {A : Nat → Option Addr} {N C : Nat → Nat} {Z : Nat → Nat → Int} {y : Nat → Int} {w : World} {k : Nat} {R : Nat → Nat → Nat} {p : Nat → Nat} {k2 : Nat} {R2 : Nat → Nat → Nat} {p2 : Nat → Nat} (h : MOk D ao m n A N C Z w k R p k2 R2 p2) (hy : SlZ bo mb y w) (hmb : mb ≤ 1000000) :
    Calls Try.prog 16 #[.int .i64 D.q, .slice ao m ca, .slice bo mb cb, .int .i64 0] w fun r w' => r = .returned (.bool true) ∧ Below w.heap.size w w' := by
  have HH : Hid (MOk D ao m n A N C Z w k R p k2 R2 p2 ∧ SlZ bo mb y w) := ⟨h, hy⟩
  have hm64 := h.m64
  have hkm := h.km
  have hpos := h.pos
  have hmi : (0 : Int) < (m : Int) := by omega
  obtain ⟨cnt, hcnt⟩ : ∃ cnt, cnt = nct k p (n + 1) := ⟨_, rfl⟩
  have hcn : cnt ≤ 1000 := by have := nct_le k p (n + 1); have := h.n64; omega
  have HC : Hid (cnt = nct k p (n + 1)) := hcnt
  clear h hy hcnt
  go_enter Try.func16, Try.ntmps16
  go_wp2_with fail
  refine (rfield_sl HH.out.1.hD w).mono ?_
  rintro r w1 ⟨gm, cm, rfl, hmod, hb1⟩
  have HM : Hid (ModAt D (.slice (some ⟨gm, 0, none⟩) (D.m + 1) cm) D.md w1 ∧ Below w.heap.size w w1) := ⟨hmod, hb1⟩
  clear hmod hb1
  unfold rf
  obtain ⟨wa, hwa⟩ : ∃ wa, wa = w1.alloc (.cells #[.int .i64 D.q, .int .i64 D.p, .int .i64 D.m, .int .i64 D.gen, .slice (some ⟨gm, 0, none⟩) (D.m + 1) cm] 28) := ⟨_, rfl⟩
  have HX : Hid (Box w1.heap.size D D.gen (.slice (some ⟨gm, 0, none⟩) (D.m + 1) cm) wa ∧ Below w1.heap.size w1 wa ∧ wa.heap.size = w1.heap.size + 1 ∧ Below w.heap.size w wa ∧ ModAt D (.slice (some ⟨gm, 0, none⟩) (D.m + 1) cm) D.md wa) := by
    have hb : Below w1.heap.size w1 wa := by rw [hwa]; exact (Below.refl _ _).alloc (Nat.le_refl _) _
    exact ⟨by rw [hwa]; exact box_new D D.gen _ w1, hb, by rw [hwa]; simp, bel_up' HM.out.2 hb, HM.out.1.below hb⟩
  have hbx : Box w1.heap.size D D.gen (.slice (some ⟨gm, 0, none⟩) (D.m + 1) cm) wa := HX.out.1
  rw [hwa] at hbx
  obtain ⟨k0, k1, k2', k3, k4⟩ := hbx
  go_wp2_with fail
  rw [← hwa]
  clear k0 k1 k2' k3 k4 hwa
  have HRR : Hid (Calls Try.prog 57 #[.agg #[.int .i64 D.q, .int .i64 D.p, .int .i64 D.m, .int .i64 D.gen, .slice (some ⟨gm, 0, none⟩) (D.m + 1) cm], .slice ao m ca] wa fun e w' => ∃ ro rc po pc, e = .returned (.tuple #[.slice ro k rc, .slice po k pc]) ∧ RL (.slice ro k rc) k (n + 1) R w' ∧ KI (.slice po k pc) (zl k fun j => ((p j : Nat) : Int)) w' ∧ Below wa.heap.size wa w') := c_rred (HH.out.1.below HX.out.2.2.2.1) D.gen gm cm HX.out.2.2.2.2
  refine HRR.out.mono ?_
  rintro e w2 ⟨ro, rc, po, pc, rfl, hrl, hki, hb2⟩
  have H2 : Hid (RL (.slice ro k rc) k (n + 1) R w2 ∧ KI (.slice po k pc) (zl k fun j => ((p j : Nat) : Int)) w2 ∧ Below wa.heap.size wa w2) := ⟨hrl, hki, hb2⟩
  clear hrl hki hb2 HRR
  have HB2 : Hid (Below w.heap.size w w2) := bel_up' HX.out.2.2.2.1 H2.out.2.2
  have HNl : Hid (∀ wx, Below w2.heap.size w2 wx → Calls Try.prog 58 #[.agg #[.int .i64 D.q, .int .i64 D.p, .int .i64 D.m, .int .i64 D.gen, .slice (some ⟨gm, 0, none⟩) (D.m + 1) cm], .slice ao m ca, .int .i64 (N 0 : Nat)] wx fun e w' => ∃ lo lc, e = .returned (.slice lo cnt lc) ∧ RL (.slice lo cnt lc) cnt (n + 1) R2 w' ∧ k2 = cnt ∧ Below wx.heap.size wx w') := fun wx hx => by
    rw [HC.out]
    exact c_rnull (HH.out.1.below (bel_up' HB2.out hx)) D.gen gm cm (HX.out.2.2.2.2.below (bel_up' H2.out.2.2 hx))
  obtain ⟨bA, oA, eA, hcA⟩ := (HH.out.1.mat.below HB2.out).cell 0 hpos
  rw [show oA + 0 = oA from rfl] at hcA
  subst eA
  have HKp : Hid (∀ wx, Below w2.heap.size w2 wx → Box w1.heap.size D D.gen (.slice (some ⟨gm, 0, none⟩) (D.m + 1) cm) wx ∧ wx.cell? ⟨bA, oA, none⟩ = some (.slice (A 0) (N 0) (C 0))) := fun wx hx => ⟨(HX.out.1.below H2.out.2.2 (by have := HX.out.2.2.1; omega)).below hx (by have := H2.out.2.2.size; have := HX.out.2.2.1; omega), ((bcell hx).1 bA oA (cell_lt hcA)).trans hcA⟩
  obtain ⟨N0, hN0⟩ : ∃ N0, N0 = N 0 := ⟨_, rfl⟩
  rw [← hN0] at HNl HKp hcA
  clear hN0
  have hbx := (HKp.out w2 (Below.refl _ _)).1
  obtain ⟨k0, k1, k2', k3, k4⟩ := hbx
  have hbc : Below w2.heap.size w2 w2 := Below.refl _ _
  go_wp2_with fail
  go_region_held3 (fun w' => w'.cell? ⟨w1.heap.size, 0, none⟩ = some (.int .i64 (D.q : Nat)) ∧ w'.cell? ⟨w1.heap.size, 1, none⟩ = some (.int .i64 (D.p : Nat)) ∧ w'.cell? ⟨w1.heap.size, 2, none⟩ = some (.int .i64 (D.m : Nat)) ∧ w'.cell? ⟨w1.heap.size, 3, none⟩ = some (.int .i64 (D.gen : Nat)) ∧ w'.cell? ⟨w1.heap.size, 4, none⟩ = some (.slice (some ⟨gm, 0, none⟩) (D.m + 1) cm) ∧ w'.cell? ⟨bA, oA, none⟩ = some (.slice (A 0) N0 (C 0)))
    (first | go_keep | exact ⟨(HKp.out _ (by first | exact hbc | exact hbc.drew)).1.c0, (HKp.out _ (by first | exact hbc | exact hbc.drew)).1.c1, (HKp.out _ (by first | exact hbc | exact hbc.drew)).1.c2, (HKp.out _ (by first | exact hbc | exact hbc.drew)).1.c3, (HKp.out _ (by first | exact hbc | exact hbc.drew)).1.c4, (HKp.out _ (by first | exact hbc | exact hbc.drew)).2⟩)
    (first
      | (go_at_call 58; refine (HNl.out _ (by first | exact hbc | exact hbc.drew)).mono ?_; rintro e w3 ⟨lo, lc, rfl, hrl3, hk2, hb3⟩; replace hbc : Below w2.heap.size w2 w3 := bel_up' (by first | exact hbc | exact hbc.drew) hb3))
  have H3 : Hid (RL (.slice lo cnt lc) cnt (n + 1) R2 w3 ∧ k2 = cnt ∧ Below w2.heap.size w2 w3) := ⟨hrl3, hk2, hbc⟩
  have HB3 : Hid (Below w.heap.size w w3) := bel_up' HB2.out hbc
  clear hrl3 hk2 hbc hb3 k0 k1 k2' k3 k4 hcA HNl HKp
  have HPr : Hid (∀ wx, Below w.heap.size w wx → Calls Try.prog 39 #[.int .i64 D.q, .slice (some ⟨bA, oA, none⟩) m ca] wx fun e w' => ∃ ro rc po pc, e = .returned (.tuple #[.slice ro k rc, .slice po k pc, .int .i64 0]) ∧ RL (.slice ro k rc) k (n + 1) R w' ∧ KI (.slice po k pc) (zl k fun j => ((p j : Nat) : Int)) w' ∧ Below wx.heap.size wx w') := fun wx hx => c_red (HH.out.1.below hx)
  have HPk : Hid (∀ wx, Below w.heap.size w wx → Calls Try.prog 37 #[.int .i64 D.q, .slice (some ⟨bA, oA, none⟩) m ca] wx fun e w' => e = .returned (.tuple #[.int .i64 (k : Nat), .int .i64 0]) ∧ Below wx.heap.size wx w') := fun wx hx => c_rank (HH.out.1.below hx)
  have HPn : Hid (∀ wx, Below w.heap.size w wx → Calls Try.prog 38 #[.int .i64 D.q, .slice (some ⟨bA, oA, none⟩) m ca] wx fun e w' => ∃ lo lc, e = .returned (.tuple #[.slice lo cnt lc, .int .i64 0]) ∧ (k2 = cnt → RL (.slice lo cnt lc) cnt (n + 1) R2 w') ∧ Below wx.heap.size wx w') := fun wx hx => by
    rw [HC.out]
    exact c_null (HH.out.1.below hx)
  go_wp2_with fail
  refine (HPr.out _ HB3.out).mono ?_
  rintro e w4 ⟨ro', rc', po', pc', rfl, hrl4, hki4, hb4⟩
  have H4 : Hid (RL (.slice ro' k rc') k (n + 1) R w4 ∧ KI (.slice po' k pc') (zl k fun j => ((p j : Nat) : Int)) w4 ∧ Below w3.heap.size w3 w4) := ⟨hrl4, hki4, hb4⟩
  have HB4 : Hid (Below w.heap.size w w4) := bel_up' HB3.out hb4
  clear hrl4 hki4 hb4 HPr
  go_wp2_with fail
  refine (HPk.out _ HB4.out).mono ?_
  rintro e w5 ⟨rfl, hb5⟩
  have H5 : Hid (Below w4.heap.size w4 w5) := hb5
  have HB5 : Hid (Below w.heap.size w w5) := bel_up' HB4.out hb5
  clear hb5 HPk
  go_wp2_with fail
  refine (HPn.out _ HB5.out).mono ?_
  rintro e w6 ⟨lo', lc', rfl, hrl6, hb6⟩
  have H6 : Hid (RL (.slice ro k rc) k (n + 1) R w6 ∧ KI (.slice po k pc) (zl k fun j => ((p j : Nat) : Int)) w6 ∧ RL (.slice lo cnt lc) cnt (n + 1) R2 w6 ∧ RL (.slice ro' k rc') k (n + 1) R w6 ∧ KI (.slice po' k pc') (zl k fun j => ((p j : Nat) : Int)) w6 ∧ RL (.slice lo' cnt lc') cnt (n + 1) R2 w6 ∧ Below w.heap.size w w6 ∧ Box w1.heap.size D D.gen (.slice (some ⟨gm, 0, none⟩) (D.m + 1) cm) w6 ∧ ModAt D (.slice (some ⟨gm, 0, none⟩) (D.m + 1) cm) D.md w6 ∧ w1.heap.size < w6.heap.size) := by
    have b46 := bel_up' H5.out hb6
    have b36 := bel_up' H4.out.2.2 b46
    have b26 := bel_up' H3.out.2.2 b36
    have ba6 := bel_up' H2.out.2.2 b26
    have hs := ba6.size
    have hsa := HX.out.2.2.1
    exact ⟨H2.out.1.below b26, H2.out.2.1.below b26, H3.out.1.below b36, H4.out.1.below b46, H4.out.2.1.below b46, hrl6 H3.out.2.1, bel_up' HB5.out hb6, HX.out.1.below ba6 (by omega), HX.out.2.2.2.2.below ba6, by omega⟩
  clear hrl6 hb6 HPn
  have hn64 := HH.out.1.n64
  have HL1 : Hid (∀ wx, Below w6.heap.size w6 wx → Calls Try.prog 15 #[.slice ro' k rc', .int .i64 0, .slice ro k rc, .int .i64 0] wx fun r w' => r = .returned (.bool true) ∧ Below wx.heap.size wx w') := fun wx hx => by
    refine (lists_rl (H6.out.2.2.2.1.below hx) (H6.out.1.below hx) (by omega) (by omega)).mono ?_
    rintro r w' ⟨rfl, d, rfl⟩
    exact ⟨rfl, ⟨rfl, rfl, rfl, Nat.le_refl _, fun _ _ => rfl⟩⟩
  have HL2 : Hid (∀ wx, Below w6.heap.size w6 wx → Calls Try.prog 15 #[.slice lo' cnt lc', .int .i64 0, .slice lo cnt lc, .int .i64 0] wx fun r w' => r = .returned (.bool true) ∧ Below wx.heap.size wx w') := fun wx hx => by
    refine (lists_rl (H6.out.2.2.2.2.2.1.below hx) (H6.out.2.2.1.below hx) (by omega) (by omega)).mono ?_
    rintro r w' ⟨rfl, d, rfl⟩
    exact ⟨rfl, ⟨rfl, rfl, rfl, Nat.le_refl _, fun _ _ => rfl⟩⟩
  have HL3 : Hid (∀ wx, Below w6.heap.size w6 wx → Calls Try.prog 59 #[.slice po' k pc', .int .i64 0, .slice po k pc, .int .i64 0] wx fun r w' => r = .returned (.bool true) ∧ Below wx.heap.size wx w') := fun wx hx => by
    refine (list_gen (Or.inr ⟨rfl, _, (H6.out.2.2.2.2.1.below hx).1, (H6.out.2.1.below hx).1⟩)).mono ?_
    rintro r w' ⟨rfl, d, rfl⟩
    exact ⟨rfl, ⟨rfl, rfl, rfl, Nat.le_refl _, fun _ _ => rfl⟩⟩
  have HIv : Hid (∀ wx, Below w6.heap.size w6 wx → Calls Try.prog 65 #[.int .i64 D.q, .agg #[.int .i64 D.q, .int .i64 D.p, .int .i64 D.m, .int .i64 D.gen, .slice (some ⟨gm, 0, none⟩) (D.m + 1) cm], .slice (some ⟨bA, oA, none⟩) m ca, .int .i64 (k : Nat), .int .i64 0] wx fun r w' => r = .returned (.bool true) ∧ Below wx.heap.size wx w') := fun wx hx => c_inv (HH.out.1.below (bel_up' H6.out.2.2.2.2.2.2.1 hx)) gm cm (H6.out.2.2.2.2.2.2.2.2.1.below hx)
  clear H2 H3 H4 H5 HB2 HB3 HB4 HB5
  have hcur : Below w6.heap.size w6 w6 := Below.refl _ _
  go_wp2_with fail
  refine (HL1.out _ hcur).mono ?_
  rintro r w7 ⟨rfl, hb⟩
  replace hcur := bel_up' hcur hb
  clear hb
  go_wp2_with fail
  refine (HL3.out _ hcur).mono ?_
  rintro r w8 ⟨rfl, hb⟩
  replace hcur := bel_up' hcur hb
  clear hb
  go_wp2_with fail
  refine (num_same _ _).mono ?_
  rintro r w9 ⟨rfl, hw⟩
  have hw := hw.symm
  subst hw
  go_wp2_with fail
  refine (HL2.out _ hcur).mono ?_
  rintro r wL ⟨rfl, hb⟩
  replace hcur := bel_up' hcur hb
  clear hb
  have HL : Hid (Below w6.heap.size w6 wL) := hcur
  clear hcur HL1 HL2 HL3
  have kinil : ∀ wx, KI (.slice none 0 0) [] wx := fun wx => ⟨Or.inl ⟨rfl, _, _, rfl⟩, fun q hq => by cases hq⟩
  go_upto_if 100 with fail
  by_cases hmm : m = mb
  · subst hmm
    have hz : ((m : Int) != (m : Int)) = false := by simp
    have HEl : Hid (∀ wx, Below w6.heap.size w6 wx → Calls Try.prog 61 #[.agg #[.int .i64 D.q, .int .i64 D.p, .int .i64 D.m, .int .i64 D.gen, .slice (some ⟨gm, 0, none⟩) (D.m + 1) cm], .slice bo m cb] wx fun e w' => e = .returned (.bool (D.allHas y m)) ∧ Below wx.heap.size wx w') := fun wx hx => relements_any D.gen _ hmb (slz_below HH.out.2 (bel_up' H6.out.2.2.2.2.2.2.1 hx))
    obtain ⟨k0, k1, k2', k3, k4⟩ := H6.out.2.2.2.2.2.2.2.1.below HL.out H6.out.2.2.2.2.2.2.2.2.2
    by_cases hall : D.allHas y m = true
    · obtain ⟨okb, L, sol, hL, cref, cprog⟩ := c_solve (ca := ca) (cb := cb) HH.out.1 HH.out.2 hall
      have HSl : Hid ((∀ w1, Below w.heap.size w w1 → ∀ (gen gm cm : Nat), ModAt D (.slice (some ⟨gm, 0, none⟩) (D.m + 1) cm) D.md w1 → Calls Try.prog 62 #[.agg #[.int .i64 D.q, .int .i64 D.p, .int .i64 D.m, .int .i64 gen, .slice (some ⟨gm, 0, none⟩) (D.m + 1) cm], .slice (some ⟨bA, oA, none⟩) m ca, .slice bo m cb] w1 fun e w' => (∃ xo xc, e = .returned (.tuple #[.slice xo L xc, .bool okb]) ∧ KI (.slice xo L xc) (zl L sol) w') ∧ Below w1.heap.size w1 w') ∧
        (∀ w1, Below w.heap.size w w1 → Calls Try.prog 63 #[.int .i64 D.q, .slice (some ⟨bA, oA, none⟩) m ca, .slice bo m cb] w1 fun e w' => (∃ xo xc, e = .returned (.tuple #[.slice xo L xc, .bool okb, .int .i64 0]) ∧ KI (.slice xo L xc) (zl L sol) w') ∧ Below w1.heap.size w1 w')) := ⟨cref, cprog⟩
      have hzb : (okb != okb) = false := by cases okb <;> rfl
      rw [hall] at HEl
      clear cref cprog hall
      go_wp2_with fail
      refine (HEl.out _ HL.out).mono ?_
      rintro e w8 ⟨rfl, hb8⟩
      have H8 : Hid (Below w6.heap.size w6 w8) := bel_up' HL.out hb8
      clear hb8 k0 k1 k2' k3 k4
      obtain ⟨k0, k1, k2', k3, k4⟩ := H6.out.2.2.2.2.2.2.2.1.below H8.out H6.out.2.2.2.2.2.2.2.2.2
      go_wp2_with fail
      refine (HSl.out.1 _ (bel_up' H6.out.2.2.2.2.2.2.1 H8.out) D.gen gm cm (H6.out.2.2.2.2.2.2.2.2.1.below H8.out)).mono ?_
      rintro e w9 ⟨⟨xo, xc, rfl, hkx⟩, hb9⟩
      have H9 : Hid (Below w6.heap.size w6 w9 ∧ KI (.slice xo L xc) (zl L sol) w9) := ⟨bel_up' H8.out hb9, hkx⟩
      clear hb9 hkx k0 k1 k2' k3 k4
      go_wp2_with fail
      refine (HSl.out.2 _ (bel_up' H6.out.2.2.2.2.2.2.1 H9.out.1)).mono ?_
      rintro e w10 ⟨⟨xo', xc', rfl, hkx⟩, hb10⟩
      have H10 : Hid (Below w6.heap.size w6 w10 ∧ KI (.slice xo L xc) (zl L sol) w10 ∧ KI (.slice xo' L xc') (zl L sol) w10) := ⟨bel_up' H9.out.1 hb10, H9.out.2.below hb10, hkx⟩
      clear hb10 hkx
      go_wp2_with fail
      refine (KI.same H10.out.2.2 H10.out.2.1).mono ?_
      rintro e w11 ⟨rfl, hb11⟩
      have H11 : Hid (Below w6.heap.size w6 w11) := bel_up' H10.out.1 hb11
      clear hb11
      obtain ⟨k0, k1, k2', k3, k4⟩ := H6.out.2.2.2.2.2.2.2.1.below H11.out H6.out.2.2.2.2.2.2.2.2.2
      go_wp2_with fail
      refine (HIv.out _ H11.out).mono ?_
      rintro e w12 ⟨rfl, hb12⟩
      have H12 : Hid (Below w.heap.size w w12) := bel_up' H6.out.2.2.2.2.2.2.1 (bel_up' H11.out hb12)
      clear hb12 k0 k1 k2' k3 k4
      go_wp2
      go_ret
      exact ⟨rfl, H12.out⟩
    · have hall' : D.allHas y m = false := by simpa using hall
      rw [hall'] at HEl
      have HS2 : Hid (∀ w1, Below w.heap.size w w1 → Calls Try.prog 63 #[.int .i64 D.q, .slice (some ⟨bA, oA, none⟩) m ca, .slice bo m cb] w1 fun e w' => e = .returned (.tuple #[.slice none 0 0, .bool false, .int .i64 2]) ∧ Below w1.heap.size w1 w') := fun w1 hb1 => by
        refine (msolve_any HH.out.1.hD (HH.out.1.mat.below hb1) (by omega) (slz_below HH.out.2 hb1)).mono ?_
        rintro e w' ⟨hb, hr⟩
        rcases hr with ⟨h0, _⟩ | ⟨_, _, rfl⟩ | ⟨_, h0, _⟩
        · exact absurd HH.out.1.chk h0
        · exact ⟨rfl, hb⟩
        · exact absurd h0 hall
      clear hall hall'
      go_wp2_with fail
      refine (HEl.out _ HL.out).mono ?_
      rintro e w8 ⟨rfl, hb8⟩
      have H8 : Hid (Below w6.heap.size w6 w8) := bel_up' HL.out hb8
      clear hb8 k0 k1 k2' k3 k4
      go_wp2_with fail
      refine (HS2.out _ (bel_up' H6.out.2.2.2.2.2.2.1 H8.out)).mono ?_
      rintro e w10 ⟨rfl, hb10⟩
      have H10 : Hid (Below w6.heap.size w6 w10) := bel_up' H8.out hb10
      clear hb10
      go_wp2_with fail
      refine (KI.same (kinil _) (kinil _)).mono ?_
      rintro e w11 ⟨rfl, hb11⟩
      have H11 : Hid (Below w6.heap.size w6 w11) := bel_up' H10.out hb11
      clear hb11
      obtain ⟨k0, k1, k2', k3, k4⟩ := H6.out.2.2.2.2.2.2.2.1.below H11.out H6.out.2.2.2.2.2.2.2.2.2
      go_wp2_with fail
      refine (HIv.out _ H11.out).mono ?_
      rintro e w12 ⟨rfl, hb12⟩
      have H12 : Hid (Below w.heap.size w w12) := bel_up' H6.out.2.2.2.2.2.2.1 (bel_up' H11.out hb12)
      clear hb12 k0 k1 k2' k3 k4
      go_wp2
      go_ret
      exact ⟨rfl, H12.out⟩
  · have hz : ((mb : Int) != (m : Int)) = true := by rw [bne_iff_ne]; omega
    have HS1 : Hid (∀ w1, Below w.heap.size w w1 → Calls Try.prog 63 #[.int .i64 D.q, .slice (some ⟨bA, oA, none⟩) m ca, .slice bo mb cb] w1 fun e w' => e = .returned (.tuple #[.slice none 0 0, .bool false, .int .i64 6]) ∧ Below w1.heap.size w1 w') := fun w1 hb1 => by
      refine (msolve_count HH.out.1.hD (HH.out.1.mat.below hb1) (by omega) (fun e => hmm e.symm)).mono ?_
      rintro e w' ⟨hb, hr⟩
      rcases hr with ⟨h0, _⟩ | ⟨_, rfl⟩
      · exact absurd HH.out.1.chk h0
      · exact ⟨rfl, hb⟩
    clear hmm
    go_wp2_with fail
    refine (HS1.out _ (bel_up' H6.out.2.2.2.2.2.2.1 HL.out)).mono ?_
    rintro e w10 ⟨rfl, hb10⟩
    have H10 : Hid (Below w6.heap.size w6 w10) := bel_up' HL.out hb10
    clear hb10
    go_wp2_with fail
    refine (KI.same (kinil _) (kinil _)).mono ?_
    rintro e w11 ⟨rfl, hb11⟩
    have H11 : Hid (Below w6.heap.size w6 w11) := bel_up' H10.out hb11
    clear hb11
    obtain ⟨k0, k1, k2', k3, k4⟩ := H6.out.2.2.2.2.2.2.2.1.below H11.out H6.out.2.2.2.2.2.2.2.2.2
    go_wp2_with fail
    refine (HIv.out _ H11.out).mono ?_
    rintro e w12 ⟨rfl, hb12⟩
    have H12 : Hid (Below w.heap.size w w12) := bel_up' H6.out.2.2.2.2.2.2.1 (bel_up' H11.out hb12)
    clear hb12 k0 k1 k2' k3 k4
    go_wp2
    go_ret
    exact ⟨rfl, H12.out⟩
end Go.Proofs.Ytbpeahhhkcljeaa
