/- Texts of ours, one behind the other: I36 K7 I37 S19. -/
import Derived.Test.YtbpeahhhkcljeaaZI34
import Derived.Test.YtbpeahhhkcljeaaZI14
import Derived.Test.YtbpeahhhkcljeaaZT1
import Derived.Test.YtbpeahhhkcljeaaZU1
import Derived.Test.YtbpeahhhkcljeaaZI22
/- Shorten, with its check. -/
namespace Go.Proofs.Ytbpeahhhkcljeaa
open Go.RowKit Go.Sort

/-- The one form of the words that are 0 at place a, without it. -/
def ShR (D : FD) (N1 a m : Nat) (M : Nat → Nat → Nat) (k : Nat) (R : Nat → Nat → Nat) : Prop := ∃ p, RRE D N1 k R p ∧ ∀ u, Spn D (RowsOf k R) u ↔ El D u ∧ Bd N1 u ∧ Spn D (RowsOf m M) (wi a u)
theorem ShR.uniq {D : FD} (F : Fld D) {N1 a m k k' : Nat} {M R R' : Nat → Nat → Nat} (h : ShR D N1 a m M k R) (h' : ShR D N1 a m M k' R') : k = k' ∧ ∀ i, i < k → R i = R' i := by
  obtain ⟨p, h1, h2⟩ := h
  obtain ⟨p', h1', h2'⟩ := h'
  exact Red.uniq F (m := k) (M := R) (m' := k') (M' := R') ⟨p, h1, fun _ => Iff.rfl⟩ ⟨p', h1', fun _ => Iff.rfl⟩ (fun v => (h2 v).trans (h2' v).symm)
theorem ShR.le {D : FD} {N1 a m k : Nat} {M R : Nat → Nat → Nat} (h : ShR D N1 a m M k R) : k ≤ N1 := by
  obtain ⟨p, h1, h2⟩ := h
  exact Red.le (m := k) (M := R) ⟨p, h1, fun _ => Iff.rfl⟩

set_option maxHeartbeats 4000000 in
set_option maxRecDepth 100000 in
theorem cShorten_ok {D : FD} (hD : D ∈ fieldsL) {ao : Option Addr} {m n n2 ca a : Nat} {A : Nat → Option Addr} {N C : Nat → Nat} {Z : Nat → Nat → Int} {w : World} (ha : CdZ D ao m n A N C Z w) (hnn : n = n2 + 2) (hpl : a < n)
    (hC : ∀ wx, Below w.heap.size w wx → Calls Try.prog 103 #[.agg #[.int .i64 D.q, .int .i64 (n : Nat), .slice ao m ca], .int .i64 (a : Nat)] wx fun x w' => x = .returned (.int .i64 0) ∧ Below wx.heap.size wx w') :
    Calls Try.prog 77 #[.agg #[.int .i64 D.q, .int .i64 (n : Nat), .slice ao m ca], .int .i64 (a : Nat)] w fun x w' => ∃ k R ro rc, x = .returned (.tuple #[.agg #[.int .i64 D.q, .int .i64 (n2 + 1 : Nat), .slice ro k rc], .int .i64 0]) ∧ MV w.heap.size (.slice ro k rc) k (n2 + 1) R w' ∧ ShR D (n2 + 1) a m (mzc N Z) k R ∧ Below w.heap.size w w' := by
  obtain ⟨w0, hw0⟩ : ∃ w0, w0 = (w.alloc (.cells #[.int .i64 D.q, .int .i64 (n : Nat), .slice ao m ca] 43)).alloc (.cells #[.int .i64 0, .int .i64 0, .slice none 0 0] 43) := ⟨_, rfl⟩
  have HW : Hid (Below w.heap.size w w0 ∧ RB (w.heap.size + 1) w0 ∧ CB w.heap.size D.q n (.slice ao m ca) w0 ∧ w0.heap.size = w.heap.size + 2) := by
    obtain ⟨h1, h2, h3, h4⟩ := two_boxes D.q n 0 0 (.slice ao m ca) (.slice none 0 0) w
    have h6 := RBt.new #[.int .i64 0, .int .i64 0, .slice none 0 0] (w.alloc (.cells #[.int .i64 D.q, .int .i64 (n : Nat), .slice ao m ca] 43))
    rw [show (w.alloc (.cells #[.int .i64 D.q, .int .i64 (n : Nat), .slice ao m ca] 43)).heap.size = w.heap.size + 1 by simp] at h6
    rw [hw0]; exact ⟨h1, RB.of h3 h6, h2, by simp⟩
  obtain ⟨N1, hN1⟩ : ∃ N1, N1 = n2 + 1 := ⟨_, rfl⟩
  rw [← hN1]
  have hNn : n - 1 = N1 := by omega
  have hn := ha.n64
  have HP1 : Hid (∀ wx, Below w.heap.size w wx → Calls Try.prog 69 #[.agg #[.int .i64 D.q, .int .i64 (n : Nat), .slice ao m ca]] wx fun e w' => ∃ k R ro rc, e = .returned (.agg #[.int .i64 D.q, .int .i64 (n : Nat), .slice ro k rc]) ∧ RLz (.slice ro k rc) k n R w' ∧ Dul D n m (mzc N Z) k R ∧ Below wx.heap.size wx w') := fun wx hx => by
    refine (dual_any hD (ha.below hx)).mono ?_
    rintro e w' ⟨k, R, ro, rc, rfl, h1, h2, h3⟩
    exact ⟨k, R, ro, rc, rfl, h1.rlz (by omega), h2, h3⟩
  have HP2 : Hid (∀ wx ro k rc R, RLz (.slice ro k rc) k n R wx → Dul D n m (mzc N Z) k R → Calls Try.prog 104 #[.agg #[.int .i64 D.q, .int .i64 (n : Nat), .slice ro k rc], .int .i64 (a : Nat)] wx fun e w' => ∃ k' R' ro' rc', e = .returned (.agg #[.int .i64 D.q, .int .i64 (N1 : Nat), .slice ro' k' rc']) ∧ RLz (.slice ro' k' rc') k' N1 R' w' ∧ Red D N1 k (fun i => wo a (R i)) k' R' ∧ Below wx.heap.size wx w') := fun wx ro k rc R h1 h2 => by
    have hkn := h2.le
    obtain ⟨A2, C2, hcd⟩ := h1.cdz (D := D) (by omega) hn (by omega) h2.rows.1
    refine (cpunct_any hD hcd hnn hpl).mono ?_
    rintro e w' ⟨k', R', ro', rc', rfl, g1, g2, g3⟩
    rw [← hN1] at g1 g2 ⊢
    refine ⟨k', R', ro', rc', rfl, g1.rlz (by omega), ?_, g3⟩
    obtain ⟨p, r1, r2⟩ := g2
    exact ⟨p, r1, fun v => (r2 v).trans (rows_congr (fun i hi => by rw [mzc_rows h2.rows.2 i hi]) v)⟩
  have HP3 : Hid (∀ wx k R ro' k' rc' R', Dul D n m (mzc N Z) k R → RLz (.slice ro' k' rc') k' N1 R' wx → Red D N1 k (fun i => wo a (R i)) k' R' → Calls Try.prog 69 #[.agg #[.int .i64 D.q, .int .i64 (N1 : Nat), .slice ro' k' rc']] wx fun e w' => ∃ k R ro rc, e = .returned (.agg #[.int .i64 D.q, .int .i64 (N1 : Nat), .slice ro k rc]) ∧ MV wx.heap.size (.slice ro k rc) k N1 R w' ∧ ShR D N1 a m (mzc N Z) k R ∧ Below wx.heap.size wx w') := fun wx k R ro' k' rc' R' h1 h2 h3 => by
    have hkn := h3.le
    obtain ⟨A2, C2, hcd⟩ := h2.cdz (D := D) (by omega) (by omega) (by omega) h3.rows.1
    refine (dual_any hD hcd).mono ?_
    rintro e w' ⟨k4, R4, ro4, rc4, rfl, g1, g2, g3⟩
    refine ⟨k4, R4, ro4, rc4, rfl, g1, ?_, g3⟩
    have g2' := g2.of_spn (fun v => rows_congr (fun i hi => mzc_rows h3.rows.2 i hi) v)
    have hM := ha.rows (fld hD)
    have h3' := h3
    have g2c := g2'
    rw [← hNn] at h3' g2c
    have hs := dul_wo (fld hD) hpl (fun i hi => ⟨hM.2.1 i hi, hM.2.2.1 i hi⟩) h1 h3' g2c
    rw [hNn] at hs
    obtain ⟨_, _, _, p, _, _, q1, _⟩ := g2'
    exact ⟨p, q1, hs⟩
  have HC : Hid _ := hC
  clear hD ha hC hN1 hnn hpl hNn hn
  go_enter Try.func77, Try.ntmps77
  go_wp2_with fail
  rw [← hw0]
  clear hw0
  refine (HC.out _ HW.out.1).mono ?_
  rintro x w1 ⟨rfl, hb1⟩
  have H1 : Hid (Below w.heap.size w w1 ∧ RB (w.heap.size + 1) w1 ∧ CB w.heap.size D.q n (.slice ao m ca) w1 ∧ w.heap.size + 2 ≤ w1.heap.size) := ⟨bel_up' HW.out.1 hb1, HW.out.2.1.keep hb1, HW.out.2.2.1.keep hb1, by have := hb1.size; have := HW.out.2.2.2; omega⟩
  clear hb1
  have hcb1 := H1.out.2.2.1
  obtain ⟨a0, a1, a2⟩ := hcb1
  go_wp2_with fail
  clear a0 a1 a2
  refine (HP1.out _ H1.out.1).mono ?_
  rintro x w2 ⟨k2, R2, ro2, rc2, rfl, hz2, hd2, hb2⟩
  have H2 : Hid (RLz (.slice ro2 k2 rc2) k2 n R2 w2 ∧ Dul D n m (mzc N Z) k2 R2 ∧ Below w1.heap.size w1 w2) := ⟨hz2, hd2, hb2⟩
  clear hz2 hd2 hb2
  go_wp2_with fail
  refine (HP2.out _ _ _ _ _ H2.out.1 H2.out.2.1).mono ?_
  rintro x w3 ⟨k3, R3, ro3, rc3, rfl, hz3, hd3, hb3⟩
  have H3 : Hid (RLz (.slice ro3 k3 rc3) k3 N1 R3 w3 ∧ Red D N1 k2 (fun i => wo a (R2 i)) k3 R3 ∧ Below w1.heap.size w1 w3) := ⟨hz3, hd3, bel_up' H2.out.2.2 hb3⟩
  clear hz3 hd3 hb3
  go_wp2_with fail
  refine (HP3.out _ _ _ _ _ _ _ H2.out.2.1 H3.out.1 H3.out.2.1).mono ?_
  rintro x w4 ⟨k, R, ro, rc, rfl, hmv, hsh, hb4⟩
  have H4 : Hid (MV w3.heap.size (.slice ro k rc) k N1 R w4 ∧ ShR D N1 a m (mzc N Z) k R ∧ Below w.heap.size w w4 ∧ RB (w.heap.size + 1) w4 ∧ w.heap.size + 2 ≤ w3.heap.size) := by
    have hbb := bel_up' H3.out.2.2 hb4
    exact ⟨hmv, hsh, bel_up' H1.out.1 hbb, H1.out.2.1.keep hbb, by have := H3.out.2.2.size; have := H1.out.2.2.2; omega⟩
  clear hmv hsh hb4
  obtain ⟨⟨x0, c0⟩, ⟨x1, c1⟩, ⟨x2, c2⟩, f0, f1, f2⟩ := H4.out.2.2.2.1
  go_wp2
  obtain ⟨w5, hw5⟩ : ∃ w5, w5 = laid w4 (w.heap.size + 1) D.q (N1 : Nat) (.slice ro k rc) := ⟨_, rfl⟩
  have H5 : Hid (CB (w.heap.size + 1) D.q (N1 : Nat) (.slice ro k rc) w5 ∧ MV w.heap.size (.slice ro k rc) k N1 R w5 ∧ Below w.heap.size w w5) := by
    have := H4.out.2.2.2.2
    rw [hw5]; exact ⟨laid_cb H4.out.2.2.2.1 _ _ _, (laid_mv H4.out.1 (by omega) _ _ _).mono (by omega), laid_below H4.out.2.2.1 (by omega) _ _ _⟩
  unfold laid at hw5
  rw [← hw5]
  clear hw5 c0 c1 c2 f0 f1 f2
  obtain ⟨c0, c1, c2⟩ := H5.out.1
  refine bodyPost_ret (v := .tuple #[.agg #[.int .i64 D.q, .int .i64 (N1 : Nat), .slice ro k rc], .int .i64 0]) (by simp [results, Try.results77, go_sem, c0, c1, c2]) rfl ?_
  exact ⟨_, R, _, _, rfl, H5.out.2.1, H4.out.2.1, H5.out.2.2⟩
end Go.Proofs.Ytbpeahhhkcljeaa

/- Codes in hand: what was told is handed in again (Sum, Meet, Make, Dual). -/
namespace Go.Proofs.Ytbpeahhhkcljeaa
open Go.RowKit Go.Sort

/-- A code's variable, newly made. -/
theorem box_at (q n : Int) (v : Value) (w : World) : Below w.heap.size w (w.alloc (.cells #[.int .i64 q, .int .i64 n, v] 43)) ∧ CB w.heap.size q n v (w.alloc (.cells #[.int .i64 q, .int .i64 n, v] 43)) ∧ (w.alloc (.cells #[.int .i64 q, .int .i64 n, v] 43)).heap.size = w.heap.size + 1 :=
  ⟨(Below.refl _ _).alloc (Nat.le_refl _) _, CB.new _ _ _ _, by simp⟩
end Go.Proofs.Ytbpeahhhkcljeaa

/- A row less another, wherever they lie (the reference's less). -/
namespace Go.Proofs.Ytbpeahhhkcljeaa
open Go.RowKit Go.Sort

set_option maxHeartbeats 8000000 in
set_option maxRecDepth 100000 in
theorem rless2_any {D : FD} (hD : D ∈ fieldsL) (gen gm cm : Nat) {gr ofr cr go ofo co : Nat} {n c : Nat} {r o : Nat → Nat} {w : World} (hn : n ≤ 1000) (hr : El D r) (ho : El D o) (hc : c < D.q) (hvr : Sl (some ⟨gr, ofr, none⟩) (n + 1) r w) (hlr : gr < w.heap.size) (hvo : Sl (some ⟨go, ofo, none⟩) (n + 1) o w) (hlo : go < w.heap.size) (hM : ModAt D (.slice (some ⟨gm, 0, none⟩) (D.m + 1) cm) D.md w) :
    Calls Try.prog 95 #[.agg #[.int .i64 D.q, .int .i64 D.p, .int .i64 D.m, .int .i64 gen, .slice (some ⟨gm, 0, none⟩) (D.m + 1) cm], .slice (some ⟨gr, ofr, none⟩) (n + 1) cr, .slice (some ⟨go, ofo, none⟩) (n + 1) co, .int .i64 c] w fun e w' => ∃ v, e = .returned v ∧ Elm v (n, plss D r o c) w' ∧ (∀ k, v.ownBlock = some k → w.heap.size ≤ k) ∧ Below w.heap.size w w' := by
  have hrr : ∀ wx, Below w.heap.size w wx → ∀ j, j < n + 1 → wx.cell? ⟨gr, ofr + j, none⟩ = some (.int .i64 (r j : Nat)) := fun wx hx j hj => by
    obtain ⟨b, off, e, h⟩ := (hvr.below hx (fun x hx => by cases hx; exact hlr)) j hj
    cases e
    exact h
  have hro : ∀ wx, Below w.heap.size w wx → ∀ j, j < n + 1 → wx.cell? ⟨go, ofo + j, none⟩ = some (.int .i64 (o j : Nat)) := fun wx hx j hj => by
    obtain ⟨b, off, e, h⟩ := (hvo.below hx (fun x hx => by cases hx; exact hlo)) j hj
    cases e
    exact h
  have hbl : Below w.heap.size w (w.alloc (.cells #[.int .i64 D.q, .int .i64 D.p, .int .i64 D.m, .int .i64 gen, .slice (some ⟨gm, 0, none⟩) (D.m + 1) cm] 28)) := (Below.refl _ _).alloc (Nat.le_refl _) _
  have HF : Hid (D ∈ fieldsL ∧ El D r ∧ El D o ∧ (∀ wx, Below w.heap.size w wx → ∀ j, j < n + 1 → wx.cell? ⟨gr, ofr + j, none⟩ = some (.int .i64 (r j : Nat))) ∧ (∀ wx, Below w.heap.size w wx → ∀ j, j < n + 1 → wx.cell? ⟨go, ofo + j, none⟩ = some (.int .i64 (o j : Nat))) ∧ ModAt D (.slice (some ⟨gm, 0, none⟩) (D.m + 1) cm) D.md w) := ⟨hD, hr, ho, hrr, hro, hM⟩
  have HB0 : Hid (Box w.heap.size D gen (.slice (some ⟨gm, 0, none⟩) (D.m + 1) cm) (w.alloc (.cells #[.int .i64 D.q, .int .i64 D.p, .int .i64 D.m, .int .i64 gen, .slice (some ⟨gm, 0, none⟩) (D.m + 1) cm] 28)) ∧ Below w.heap.size w (w.alloc (.cells #[.int .i64 D.q, .int .i64 D.p, .int .i64 D.m, .int .i64 gen, .slice (some ⟨gm, 0, none⟩) (D.m + 1) cm] 28))) := ⟨box_new D gen _ w, hbl⟩
  clear hD hr ho hrr hro hvr hvo hlr hlo hM hbl
  go_enter Try.func95, Try.ntmps95
  go_wp2
  go_loopw [9, 10] (fun vl i wr => ∃ j : Nat, j ≤ n + 1 ∧ i = .int .i64 j ∧ Hid (OwnI (w.heap.size + 1) vl (zl j fun k => ((plss D r o c k : Nat) : Int)) wr ∧ Below w.heap.size w wr ∧ Box w.heap.size D gen (.slice (some ⟨gm, 0, none⟩) (D.m + 1) cm) wr) ∧ w.heap.size < wr.heap.size) (fun _ i _ => n + 1 - (intOf i).toNat)
  case atStart => exact ⟨0, by omega, rfl, ⟨OwnI.nil _ _, HB0.out.2, HB0.out.1⟩, by simp⟩
  case round =>
    clear HB0
    obtain ⟨j, hj, rfl, HG, hsz⟩ := hrel
    by_cases hlt : j < n + 1
    · have hib : (j : Int) < (n : Int) + 1 := by omega
      have hib0 : (0 : Int) ≤ (j : Int) := by omega
      obtain ⟨x, hx⟩ : ∃ x, x = r j := ⟨_, rfl⟩
      obtain ⟨y, hy⟩ : ∃ y, y = o j := ⟨_, rfl⟩
      obtain ⟨u, hu⟩ : ∃ u, u = plss D r o c j := ⟨_, rfl⟩
      have hc1 : wr.cell? ⟨gr, ofr + j, none⟩ = some (.int .i64 (x : Nat)) := by rw [hx]; exact HF.out.2.2.2.1 _ HG.out.2.1 j hlt
      have hc2 : wr.cell? ⟨go, ofo + j, none⟩ = some (.int .i64 (y : Nat)) := by rw [hy]; exact HF.out.2.2.2.2.1 _ HG.out.2.1 j hlt
      have HX : Hid (x = r j ∧ y = o j ∧ u = plss D r o c j) := ⟨hx, hy, hu⟩
      clear hx hy hu
      obtain ⟨bz, hbz⟩ : ∃ bz, bz = decide (¬ (c = 0 ∨ y = 0)) := ⟨_, rfl⟩
      have HBZ : Hid (bz = decide (¬ (c = 0 ∨ y = 0))) := hbz
      clear hbz
      go_upto_region 6 with fail
      go_cut [30] (fun vb wx => vb = .bool bz ∧ wx = wr)
      case first =>
        by_cases hz2 : c = 0
        · have hb1 : ((c : Int) != 0) = false := by rw [hz2]; rfl
          have hbz : bz = false := by rw [HBZ.out, decide_eq_false]; intro h; exact h (Or.inl hz2)
          clear hz2
          go_wp2
          go_meet
          case rel => exact ⟨by rw [hbz], rfl⟩
        · have hb1 : ((c : Int) != 0) = true := by rw [bne_iff_ne]; omega
          by_cases hz : y = 0
          · have hb2 : ((y : Int) != 0) = false := by rw [hz]; rfl
            have hbz : bz = false := by rw [HBZ.out, decide_eq_false]; intro h; exact h (Or.inr hz)
            clear hz2 hz
            go_wp2
            go_meet
            case rel => exact ⟨by rw [hbz], rfl⟩
          · have hb2 : ((y : Int) != 0) = true := by rw [bne_iff_ne]; omega
            have hbz : bz = true := by rw [HBZ.out, decide_eq_true]; omega
            clear hz2 hz
            go_wp2
            go_meet
            case rel => exact ⟨by rw [hbz], rfl⟩
      case rest =>
      obtain ⟨hv30, hwx⟩ := hcut
      have hwx := hwx.symm
      subst hv30 hwx
      go_upto_if 30 with fail
      go_cut [11] (fun vx wx => vx = .int .i64 (u : Nat) ∧ Hid (Below wr.heap.size wr wx))
      case first =>
        cases bz with
        | false =>
          have HU : Hid ((x : Int) = (u : Int)) := by
            show _ = _
            have hz : c = 0 ∨ y = 0 := by
              have h := HBZ.out
              exact Classical.byContradiction fun hn => by rw [decide_eq_true hn] at h; cases h
            have h := plss_zero (fld HF.out.1) o HF.out.2.1 (c := c) (k := j) (by rcases hz with h | h; exact Or.inl h; exact Or.inr (by rw [← HX.out.2.1]; exact h))
            rw [← HX.out.2.2, ← HX.out.1] at h
            omega
          go_wp2
          go_meet
          case rel => exact ⟨by rw [HU.out], Below.refl _ _⟩
        | true =>
          obtain ⟨m, hm⟩ : ∃ m, m = D.mul c y := ⟨_, rfl⟩
          have hxq : x < D.q := by rw [HX.out.1]; exact HF.out.2.1 j
          have hyq : y < D.q := by rw [HX.out.2.1]; exact HF.out.2.2.1 j
          have hmq : m < D.q := by rw [hm]; exact (fld HF.out.1).mul_lt _ _
          have k0 := cell_regrown HG.out.2.2.c0
          have k1 := cell_regrown HG.out.2.2.c1
          have k2 := cell_regrown HG.out.2.2.c2
          have k3 := cell_regrown HG.out.2.2.c3
          have k4 := cell_regrown HG.out.2.2.c4
          have k5 := cell_regrown hc2
          have HC1 : Hid (∀ d os, Calls Try.prog 50 #[.agg #[.int .i64 D.q, .int .i64 D.p, .int .i64 D.m, .int .i64 gen, .slice (some ⟨gm, 0, none⟩) (D.m + 1) cm], .int .i64 (c : Nat), .int .i64 (y : Nat)] (grow (redrawn wr d) os) fun e w'' => e = .returned (.int .i64 (m : Nat)) ∧ ∃ p : Regrown, w'' = grow (redrawn wr p.d) p.os) := fun d os => by
            rw [hm]
            exact Calls.regrown_of (rmul_nat HF.out.1 gen HF.out.2.2.2.2.2 c y hc hyq _ (bel_up' HG.out.2.1 (below_regrown wr d os)))
          have HC2 : Hid (∀ d os, Calls Try.prog 102 #[.agg #[.int .i64 D.q, .int .i64 D.p, .int .i64 D.m, .int .i64 gen, .slice (some ⟨gm, 0, none⟩) (D.m + 1) cm], .int .i64 (x : Nat), .int .i64 (m : Nat)] (grow (redrawn wr d) os) fun e w'' => e = .returned (.int .i64 (u : Nat)) ∧ ∃ p : Regrown, w'' = grow (redrawn wr p.d) p.os) := fun d os => by
            have h := rsub_any HF.out.1 gen (.slice (some ⟨gm, 0, none⟩) (D.m + 1) cm) (x : Nat) (m : Nat) (grow (redrawn wr d) os)
            rw [subZ_nat (fld HF.out.1) hxq hmq, show D.sb x m = u from by rw [HX.out.2.2, HX.out.1, hm, HX.out.2.1]; rfl] at h
            exact Calls.regrown_of h
          clear hm hc1 hc2
          go_wp2
          refine wp_region_quiet_below (by kernel_rfl) (by kernel_rfl) ?_
          repeat (go_big_quiet_step (first | (go_at_call 50; exact HC1.out _ _) | (go_at_call 102; exact HC2.out _ _)))
          refine wpQuiet_nil ?_
          intro _ hw'
          obtain ⟨⟨dq, osq⟩, hw''⟩ := hw'
          subst hw''
          have HBQ : Hid (Below wr.heap.size wr (grow (redrawn wr dq) osq)) := below_regrown wr dq osq
          clear k0 k1 k2 k3 k4 k5 HC1 HC2
          go_wp2
          go_meet
          case rel => exact ⟨rfl, HBQ.out⟩
      case rest =>
        obtain ⟨hv11, HBX⟩ := hcut
        subst hv11
        clear hc1 hc2
        have hsx := HBX.out.size
        have HGX : Hid (OwnI (w.heap.size + 1) u9 (zl j fun k => ((plss D r o c k : Nat) : Int)) wc ∧ Below w.heap.size w wc ∧ Box w.heap.size D gen (.slice (some ⟨gm, 0, none⟩) (D.m + 1) cm) wc) := ⟨HG.out.1.below HBX.out (fun k hk => (HG.out.1.lt k hk).2), bel_up' HG.out.2.1 HBX.out, HG.out.2.2.below HBX.out hsz⟩
        go_wp2_with (at_builtin; refine append_int rfl _ _ rfl (w.heap.size + 1) _ (zl j fun k => ((plss D r o c k : Nat) : Int)) rfl (HGX.out.1.alloc _) ⟨_, 0, none⟩ 1 u rfl (by simp) (by rw [zl_len]; omega) (by simp; omega) ?_; intro v2 w4 hown4 hg4)
        have hal : Below wc.heap.size wc (wc.alloc (.cells #[.int .i64 (u : Int)] 3)) := (Below.refl _ _).alloc (Nat.le_refl _) _
        have hs4 := hg4.size
        have HR : Hid (OwnI (w.heap.size + 1) v2 (zl (j + 1) fun k => ((plss D r o c k : Nat) : Int)) w4 ∧ Below w.heap.size w w4 ∧ Box w.heap.size D gen (.slice (some ⟨gm, 0, none⟩) (D.m + 1) cm) w4) := by
          refine ⟨by rw [zl_succ, ← HX.out.2.2]; exact hown4, (bel_up' HGX.out.2.1 hal).grown hg4 (by simp; omega) (fun k hk => by have := (HGX.out.1.lt k hk).1; omega), ?_⟩
          refine (HGX.out.2.2.below hal (by omega)).other (hg4.block w.heap.size (by simp; omega) fun e => ?_)
          have := (HGX.out.1.lt _ e.symm).1
          omega
        simp at hs4
        clear hown4 hg4 hal
        go_roundw
        case rel => exact ⟨j + 1, by omega, by go_num, HR.out, by omega⟩
        case measure => simp [intOf]; omega
    · have hib : ¬ (j : Int) < (n : Int) + 1 := by omega
      have hje : j = n + 1 := by omega
      subst hje
      go_wp2
      go_ret
      have h := elm_of_own HG.out.1
      exact ⟨_, rfl, h.1, fun k hk => by have := h.2 k hk; omega, HG.out.2.1⟩
end Go.Proofs.Ytbpeahhhkcljeaa

/- Plain mathematics: words with one number more, so that all together are 0. No Go text here. -/
namespace Go.Proofs.Ytbpeahhhkcljeaa

theorem ng_ad19 {D : FD} (F : Fld D) {a b : Nat} (ha : a < D.q) (hb : b < D.q) : D.ng (D.ad a b) = D.ad (D.ng a) (D.ng b) := by
  have h1 : D.ad (D.ad a b) (D.ad (D.ng a) (D.ng b)) = 0 := by
    rw [ad4 F ha hb (ng_lt F ha) (ng_lt F hb), ad_ng F ha, ad_ng F hb, ad_zero F (zero_lt' F)]
  exact (ad_cancel F (ad_lt F ha hb) (ad_lt F (ng_lt F ha) (ng_lt F hb)) (ng_lt F (ad_lt F ha hb)) (h1.trans (ad_ng F (ad_lt F ha hb)).symm)).symm
/-- The sum of the first numbers. -/
def xsm (D : FD) (v : Nat → Nat) : Nat → Nat
  | 0 => 0
  | n + 1 => D.ad (xsm D v n) (v n)
/-- 0 less the first numbers. -/
def xng (D : FD) (v : Nat → Nat) : Nat → Nat
  | 0 => 0
  | n + 1 => D.sb (xng D v n) (v n)
theorem xsm_lt {D : FD} (F : Fld D) {v : Nat → Nat} (hv : El D v) : ∀ n, xsm D v n < D.q
  | 0 => zero_lt' F
  | n + 1 => ad_lt F (xsm_lt F hv n) (hv n)
theorem xng_lt {D : FD} (F : Fld D) {v : Nat → Nat} (hv : El D v) : ∀ n, xng D v n < D.q
  | 0 => zero_lt' F
  | n + 1 => sb_lt F (xng_lt F hv n) (hv n)
theorem xng_is {D : FD} (F : Fld D) {v : Nat → Nat} (hv : El D v) : ∀ n, xng D v n = D.ng (xsm D v n)
  | 0 => (ng_zero F).symm
  | n + 1 => by
    show D.ad (xng D v n) (D.ng (v n)) = D.ng (D.ad (xsm D v n) (v n))
    rw [xng_is F hv n, ng_ad19 F (xsm_lt F hv n) (hv n)]
/-- The word with the opposite of its sum behind it. -/
def xtd (D : FD) (n : Nat) (v : Nat → Nat) : Nat → Nat := fun j => if j = n then D.ng (xsm D v n) else v j
theorem xtd_el {D : FD} (F : Fld D) {n : Nat} {v : Nat → Nat} (hv : El D v) : El D (xtd D n v) := fun j => by
  unfold xtd
  by_cases e : j = n
  · rw [if_pos e]; exact ng_lt F (xsm_lt F hv n)
  · rw [if_neg e]; exact hv j
theorem xtd_bd {D : FD} {n : Nat} {v : Nat → Nat} (hb : Bd n v) : Bd (n + 1) (xtd D n v) := fun j hj => by
  unfold xtd
  rw [if_neg (by omega)]; exact hb j (by omega)
end Go.Proofs.Ytbpeahhhkcljeaa
