/- Golay's codes: the program's golay.extended. -/
import Derived.Test.YtjkncdmbcckcdaaZG2
import Derived.Test.YtjkncdmbcckcdaaZI40
import Derived.Test.YtjkncdmbcckcdaaZI16
namespace Go.Proofs.Ytjkncdmbcckcdaa
open Go.RowKit Go.Sort

theorem xsm_add {D : FD} (F : Fld D) {u v : Nat → Nat} (hu : El D u) (hv : El D v) : ∀ n, xsm D (padd D u v) n = D.ad (xsm D u n) (xsm D v n)
  | 0 => (ad_zero F (zero_lt' F)).symm
  | n + 1 => by
    show D.ad (xsm D (padd D u v) n) (D.ad (u n) (v n)) = D.ad (D.ad (xsm D u n) (u n)) (D.ad (xsm D v n) (v n))
    rw [xsm_add F hu hv n, ad4 F (xsm_lt F hu n) (xsm_lt F hv n) (hu n) (hv n)]
theorem xsm_scale {D : FD} (F : Fld D) {v : Nat → Nat} (hv : El D v) (s : Nat) : ∀ n, xsm D (pscale D s v) n = D.mul s (xsm D v n)
  | 0 => (mul0 F s).symm
  | n + 1 => by
    show D.ad (xsm D (pscale D s v) n) (D.mul s (v n)) = D.mul s (D.ad (xsm D v n) (v n))
    rw [xsm_scale F hv s n, mul_ad F (xsm_lt F hv n) (hv n)]
theorem xtd_add {D : FD} (F : Fld D) {n : Nat} {u v : Nat → Nat} (hu : El D u) (hv : El D v) : xtd D n (padd D u v) = padd D (xtd D n u) (xtd D n v) := by
  funext j
  show xtd D n (padd D u v) j = D.ad (xtd D n u j) (xtd D n v j)
  unfold xtd
  by_cases e : j = n
  · rw [if_pos e, if_pos e, if_pos e, xsm_add F hu hv, ng_ad19 F (xsm_lt F hu n) (xsm_lt F hv n)]
  · rw [if_neg e, if_neg e, if_neg e]; rfl
theorem ng_mul19 {D : FD} (F : Fld D) {s x : Nat} (hx : x < D.q) : D.ng (D.mul s x) = D.mul s (D.ng x) := by
  have h1 : D.ad (D.mul s x) (D.mul s (D.ng x)) = 0 := by rw [← mul_ad F hx (ng_lt F hx), ad_ng F hx, mul0 F]
  exact ad_cancel F (F.mul_lt s x) (ng_lt F (F.mul_lt s x)) (F.mul_lt s _) ((ad_ng F (F.mul_lt s x)).trans h1.symm)
theorem xtd_scale {D : FD} (F : Fld D) {n : Nat} {v : Nat → Nat} (hv : El D v) (s : Nat) : xtd D n (pscale D s v) = pscale D s (xtd D n v) := by
  funext j
  show xtd D n (pscale D s v) j = D.mul s (xtd D n v j)
  unfold xtd
  by_cases e : j = n
  · rw [if_pos e, if_pos e, xsm_scale F hv, ng_mul19 F (xsm_lt F hv n)]
  · rw [if_neg e, if_neg e]; rfl
theorem xtd_nil {D : FD} (F : Fld D) (n : Nat) : xtd D n pnil = pnil := by
  have h0 : ∀ k, xsm D pnil k = 0 := fun k => by
    induction k with
    | zero => rfl
    | succ k ih =>
      show D.ad (xsm D pnil k) 0 = 0
      rw [ih, ad_zero F (zero_lt' F)]
  funext j
  unfold xtd
  by_cases e : j = n
  · rw [if_pos e, h0, ng_zero F]; rfl
  · rw [if_neg e]
theorem spn_xtd {D : FD} (F : Fld D) {n k : Nat} {R : Nat → Nat → Nat} (hR : ∀ i, i < k → El D (R i)) (u : Nat → Nat) : Spn D (RowsOf k fun i => xtd D n (R i)) u ↔ ∃ v, Spn D (RowsOf k R) v ∧ u = xtd D n v := by
  constructor
  · intro h
    refine spn_ind (Q := fun u => ∃ v, Spn D (RowsOf k R) v ∧ u = xtd D n v) ⟨pnil, spn_nil D _, (xtd_nil F n).symm⟩ ?_ ?_ ?_ h
    · rintro a b ⟨v, hv, rfl⟩ ⟨v', hv', rfl⟩
      exact ⟨_, spn_add F hv hv', (xtd_add F (hv.el F) (hv'.el F)).symm⟩
    · rintro s a ⟨v, hv, rfl⟩
      exact ⟨_, spn_scale F s hv, (xtd_scale F (hv.el F) s).symm⟩
    · rintro v ⟨i, hi, rfl⟩
      exact ⟨R i, spn_mem F (hR i hi) ⟨i, hi, rfl⟩, rfl⟩
  · rintro ⟨v, hv, rfl⟩
    have key : El D v ∧ Spn D (RowsOf k fun i => xtd D n (R i)) (xtd D n v) := by
      refine spn_ind (Q := fun v => El D v ∧ Spn D (RowsOf k fun i => xtd D n (R i)) (xtd D n v)) ⟨el_nil F, by rw [xtd_nil F]; exact spn_nil D _⟩ ?_ ?_ ?_ hv
      · rintro a b ⟨ea, ha⟩ ⟨eb, hb⟩
        exact ⟨el_add F ea eb, by rw [xtd_add F ea eb]; exact spn_add F ha hb⟩
      · rintro s a ⟨ea, ha⟩
        exact ⟨el_scale F _ _, by rw [xtd_scale F ea]; exact spn_scale F s ha⟩
      · rintro v ⟨i, hi, rfl⟩
        exact ⟨hR i hi, spn_mem F (xtd_el F (hR i hi)) ⟨i, hi, rfl⟩⟩
    exact key.2
/-- What is made of the one form is made of the rows. -/
theorem red_xtd {D : FD} (F : Fld D) {n K k k' : Nat} {M R R' : Nat → Nat → Nat} (hM : ∀ i, i < K → El D (M i)) (h : Red D n K M k R) (h' : Red D (n + 1) k (fun i => xtd D n (R i)) k' R') : Red D (n + 1) K (fun i => xtd D n (M i)) k' R' := by
  have hR := h.rows.1
  obtain ⟨p, _, h2⟩ := h
  obtain ⟨p', h1', h2'⟩ := h'
  refine ⟨p', h1', fun v => (h2' v).trans ?_⟩
  rw [spn_xtd F hR v, spn_xtd F hM v]
  exact ⟨fun ⟨x, hx, e⟩ => ⟨x, (h2 x).1 hx, e⟩, fun ⟨x, hx, e⟩ => ⟨x, (h2 x).2 hx, e⟩⟩

theorem Cod.extend {D : FD} (hD : D ∈ fieldsL) {n m : Nat} (ca : Nat) {ao : Option Addr} {M : Nat → Nat → Nat} {w : World} (h : Cod D n ao m M w) (hn : n ≤ 63) :
    Calls Try.prog 109 #[.agg #[.int .i64 D.q, .int .i64 (n : Nat), .slice ao m ca]] w fun x w' => ∃ k R ro rc, x = .returned (.tuple #[.agg #[.int .i64 D.q, .int .i64 (n + 1 : Nat), .slice ro k rc], .int .i64 0]) ∧ MV w.heap.size (.slice ro k rc) k (n + 1) R w' ∧ Red D (n + 1) m (fun i => xtd D n (M i)) k R ∧ Below w.heap.size w w' := by
  have hc := h.chk hD ca
  obtain ⟨A, N, C, Z, h1, h2⟩ := h
  refine (cExtend_ok hD h1 hn hc).mono ?_
  rintro x w' ⟨k, R, ro, rc, rfl, hmv, hred, hb⟩
  exact ⟨k, R, ro, rc, rfl, hmv, hred.of_eq (fun i hi => by rw [h2 i hi]), hb⟩

set_option maxHeartbeats 8000000 in
set_option maxRecDepth 100000 in
theorem gext_any {D : FD} (hD : D ∈ fieldsL) {go : Option Addr} {m n K cg : Nat} {g Q : Nat → Nat} {w : World} (hG : Arg go m cg (fun j => ((g j : Nat) : Int)) w) (hm : 1 ≤ m) (eg : El D g) (bg : Bd m g) (tg : g (m - 1) ≠ 0) (hn1 : 1 ≤ n) (hn : n ≤ 63) (hK : K + m = n + 1) (eQ : El D Q) (bQ : Bd (K + 1) Q) (tQ : Q K ≠ 0) (hQ : pmul D (K + 1) Q g = whl D n) :
    Calls Try.prog 70 #[.int .i64 D.q, .int .i64 (n : Nat), .slice go m cg] w fun x w' => ∃ k R ro rc, x = .returned (.agg #[.int .i64 D.q, .int .i64 (n + 1 : Nat), .slice ro k rc]) ∧ MV w.heap.size (.slice ro k rc) k (n + 1) R w' ∧ Red D (n + 1) K (fun i => xtd D n (psh i g)) k R ∧ Below w.heap.size w w' := by
  obtain ⟨w0, hw0⟩ : ∃ w0, w0 = w.alloc (.cells #[.int .i64 0, .int .i64 0, .slice none 0 0] 49) := ⟨_, rfl⟩
  have HW : Hid (Below w.heap.size w w0 ∧ CB w.heap.size 0 0 (.slice none 0 0) w0 ∧ RBt w.heap.size w0 ∧ w0.heap.size = w.heap.size + 1) := by
    rw [hw0]; exact ⟨(Below.refl _ _).alloc (Nat.le_refl _) _, CB.new _ _ _ _, RBt.new _ _, by simp⟩
  have HO : Hid (∀ wx, Below w.heap.size w wx → Calls Try.prog 108 #[.int .i64 D.q, .int .i64 (n : Nat), .slice go m cg] wx fun x w' => ∃ k R ro rc, x = .returned (.tuple #[.agg #[.int .i64 D.q, .int .i64 (n : Nat), .slice ro k rc], .int .i64 0]) ∧ Cod D n ro k R w' ∧ Red D n K (fun i => psh i g) k R ∧ Below wx.heap.size wx w') := fun wx hx => cOf_ok hD (hG.below hx) hm eg bg tg hn1 (by omega) hK eQ bQ tQ hQ
  obtain ⟨N1, hN1⟩ : ∃ N1, N1 = n + 1 := ⟨_, rfl⟩
  have HE : Hid (∀ wx ro k rc R, Cod D n ro k R wx → Red D n K (fun i => psh i g) k R → Calls Try.prog 109 #[.agg #[.int .i64 D.q, .int .i64 (n : Nat), .slice ro k rc]] wx fun x w' => ∃ k' R' ro' rc', x = .returned (.tuple #[.agg #[.int .i64 D.q, .int .i64 (N1 : Nat), .slice ro' k' rc'], .int .i64 0]) ∧ MV wx.heap.size (.slice ro' k' rc') k' N1 R' w' ∧ Red D N1 K (fun i => xtd D n (psh i g)) k' R' ∧ Below wx.heap.size wx w') := fun wx ro k rc R h1 h2 => by
    rw [hN1]
    refine (h1.extend hD rc hn).mono ?_
    rintro x w' ⟨k', R', ro', rc', rfl, g1, g2, g3⟩
    exact ⟨k', R', ro', rc', rfl, g1, red_xtd (fld hD) (fun i _ => el_sh (fld hD) i eg) h2 g2, g3⟩
  rw [← hN1]
  clear hD hG eg bg tg eQ bQ tQ hQ hN1
  go_enter Try.func70, Try.ntmps70
  go_wp2_with fail
  rw [← hw0]
  clear hw0
  refine (HO.out _ HW.out.1).mono ?_
  rintro x w1 ⟨k, R, ro, rc, rfl, hcod, hred, hb1⟩
  obtain ⟨w2, hw2⟩ : ∃ w2, w2 = w1.alloc (.cells #[.int .i64 D.q, .int .i64 (n : Nat), .slice ro k rc] 49) := ⟨_, rfl⟩
  obtain ⟨g1, g2, g3⟩ := box_at D.q (n : Nat) (.slice ro k rc) w1
  have g4 := RBt.new #[.int .i64 D.q, .int .i64 (n : Nat), .slice ro k rc] w1
  rw [← hw2] at g1 g2 g3 g4
  have H2 : Hid (Below w.heap.size w w2 ∧ Cod D n ro k R w2 ∧ Red D n K (fun i => psh i g) k R ∧ (CB w.heap.size 0 0 (.slice none 0 0) w2 ∧ RBt w.heap.size w2) ∧ CB w1.heap.size D.q (n : Nat) (.slice ro k rc) w2 ∧ RBt w1.heap.size w2 ∧ w.heap.size < w1.heap.size ∧ w2.heap.size = w1.heap.size + 1) := by
    have hbb := bel_up' hb1 g1
    exact ⟨bel_up' HW.out.1 hbb, hcod.below g1, hred, ⟨HW.out.2.1.keep hbb, HW.out.2.2.1.keep hbb⟩, g2, g4, by have := hb1.size; have := HW.out.2.2.2; omega, g3⟩
  clear hcod hred hb1 g1 g2 g3 g4 HO HW
  go_wp2_with fail
  rw [← hw2]
  clear hw2
  refine (HE.out _ _ _ _ _ H2.out.2.1 H2.out.2.2.1).mono ?_
  rintro x w3 ⟨k3, R3, ro3, rc3, rfl, hmv, hred, hb3⟩
  obtain ⟨w4, hw4⟩ : ∃ w4, w4 = laid w3 w1.heap.size D.q (N1 : Nat) (.slice ro3 k3 rc3) := ⟨_, rfl⟩
  have hrb3 : RB w1.heap.size w3 := RB.of (H2.out.2.2.2.2.1.keep hb3) (H2.out.2.2.2.2.2.1.keep hb3)
  have H4 : Hid (MV w2.heap.size (.slice ro3 k3 rc3) k3 N1 R3 w4 ∧ Red D N1 K (fun i => xtd D n (psh i g)) k3 R3 ∧ Below w.heap.size w w4 ∧ CB w1.heap.size D.q (N1 : Nat) (.slice ro3 k3 rc3) w4 ∧ w.heap.size < w1.heap.size ∧ w1.heap.size < w2.heap.size ∧ RB w.heap.size w4) := by
    have hlt := H2.out.2.2.2.2.2.2.1
    have hs := H2.out.2.2.2.2.2.2.2
    rw [hw4]
    exact ⟨laid_mv hmv (by omega) _ _ _, hred, laid_below (bel_up' H2.out.1 hb3) (by omega) _ _ _, laid_cb hrb3 _ _ _, hlt, by omega, RB.of (laid_cb' (H2.out.2.2.2.1.1.keep hb3) (by omega) _ _ _) (laid_rbt (H2.out.2.2.2.1.2.keep hb3) (by omega) _ _ _)⟩
  clear hmv hred hb3
  obtain ⟨⟨x0, c0⟩, ⟨x1, c1⟩, ⟨x2, c2⟩, f0, f1, f2⟩ := hrb3
  have hq := H4.out.2.2.2.1
  have hrb := H4.out.2.2.2.2.2.2
  rw [hw4] at hq hrb
  unfold laid at hw4 hq hrb
  obtain ⟨p0, p1, p2⟩ := hq
  obtain ⟨⟨y0, d0⟩, ⟨y1, d1⟩, ⟨y2, d2⟩, e0, e1, e2⟩ := hrb
  go_wp2
  rw [← hw4]
  clear hw4 c0 c1 c2 f0 f1 f2 p0 p1 p2 d0 d1 d2 e0 e1 e2
  obtain ⟨w5, hw5⟩ : ∃ w5, w5 = laid w4 w.heap.size D.q (N1 : Nat) (.slice ro3 k3 rc3) := ⟨_, rfl⟩
  have H5 : Hid (CB w.heap.size D.q (N1 : Nat) (.slice ro3 k3 rc3) w5 ∧ MV w.heap.size (.slice ro3 k3 rc3) k3 N1 R3 w5 ∧ Below w.heap.size w w5) := by
    have h1 := H4.out.2.2.2.2.1
    have h2 := H4.out.2.2.2.2.2.1
    rw [hw5]; exact ⟨laid_cb H4.out.2.2.2.2.2.2 _ _ _, (laid_mv H4.out.1 (by omega) _ _ _).mono (by omega), laid_below H4.out.2.2.1 (Nat.le_refl _) _ _ _⟩
  unfold laid at hw5
  rw [← hw5]
  clear hw5
  obtain ⟨c0, c1, c2⟩ := H5.out.1
  refine bodyPost_ret (v := .agg #[.int .i64 D.q, .int .i64 (N1 : Nat), .slice ro3 k3 rc3]) (by simp [results, Try.results70, go_sem, c0, c1, c2]) rfl ?_
  exact ⟨_, R3, _, _, rfl, H5.out.2.1, H4.out.2.1, H5.out.2.2⟩
end Go.Proofs.Ytjkncdmbcckcdaa
