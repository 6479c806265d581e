/- TopGolay: what the calls tell of Golay's two codes. -/
import Derived.Test.YtafebmhbfmdjlabZKQ1
import Derived.Test.YtafebmhbfmdjlabZS47
import Derived.Test.YtafebmhbfmdjlabZKL9
import Derived.Test.YtafebmhbfmdjlabZI35
namespace Go.Proofs.Ytafebmhbfmdjlab
open Go.RowKit Go.Sort

theorem Cod.congr {D : FD} {n m : Nat} {ao : Option Addr} {M M' : Nat → Nat → Nat} {w : World} (h : Cod D n ao m M w) (e : ∀ i, i < m → M i = M' i) : Cod D n ao m M' w := by
  obtain ⟨A, N, C, Z, h1, h2⟩ := h
  exact ⟨A, N, C, Z, h1, fun i hi => (h2 i hi).trans (e i hi)⟩
/-- A code whose reduced rows are known. -/
theorem cod_red {D : FD} (hD : D ∈ fieldsL) {B n K k : Nat} {M R R0 : Nat → Nat → Nat} {ro : Option Addr} {rc : Nat} {w : World} (h0 : Red D n K M K R0) (hred : Red D n K M k R) (hmv : MV B (.slice ro k rc) k n R w) (hn1 : 1 ≤ n) (hn : n ≤ 64) : k = K ∧ Cod D n ro k R0 w ∧ RL (.slice ro k rc) k n R0 w := by
  obtain ⟨e1, e2⟩ := Red.uniq (fld hD) hred h0 (fun _ => Iff.rfl)
  have hle := Red.le hred
  exact ⟨e1, (hmv.cod hn1 hn (by omega) hred.rows.1 hred.rows.2).congr e2, hmv.rl.congr (fun i hi => e2 i hi)⟩

set_option maxHeartbeats 4000000 in
set_option maxRecDepth 100000 in
theorem binM_any (w : World) :
    Calls Try.prog 4 #[] w fun x w' => ∃ k R ro rc, x = .returned (.agg #[.int .i64 2, .int .i64 24, .slice ro k rc]) ∧ (∃ B0, w.heap.size < B0 ∧ MV B0 (.slice ro k rc) k 24 R w') ∧ Red F2 24 12 (fun i => xtd F2 23 (psh i F2g)) k R ∧ Below w.heap.size w w' := by
  obtain ⟨w0, hw0⟩ : ∃ w0, w0 = (w.alloc (.cells #[.int .i64 0, .int .i64 0, .slice none 0 0] 25)).alloc (.cells #[.int .i64 1, .int .i64 0, .int .i64 1, .int .i64 0, .int .i64 1, .int .i64 1, .int .i64 1, .int .i64 0, .int .i64 0, .int .i64 0, .int .i64 1, .int .i64 1] 3) := ⟨_, rfl⟩
  have HW : Hid (Below w.heap.size w w0 ∧ RB w.heap.size w0 ∧ Arg (some ⟨w.heap.size + 1, 0, none⟩) 12 12 (fun j => ((F2g j : Nat) : Int)) w0) := by
    obtain ⟨g1, g2, g3⟩ := box_at 0 0 (.slice none 0 0) w
    have g4 := RB.new (.int .i64 0) (.int .i64 0) (.slice none 0 0) w
    obtain ⟨w1, hw1⟩ : ∃ w1, w1 = w.alloc (.cells #[.int .i64 0, .int .i64 0, .slice none 0 0] 25) := ⟨_, rfl⟩
    rw [← hw1] at g1 g2 g3 g4 hw0
    have h1 : Below w1.heap.size w1 w0 := by rw [hw0]; exact (Below.refl _ _).alloc (Nat.le_refl _) _
    refine ⟨bel_up' g1 h1, g4.keep h1, ?_⟩
    rw [← g3, hw0]
    exact arg_lsf [1, 0, 1, 0, 1, 1, 1, 0, 0, 0, 1, 1] w1
  have HE : Hid (∀ wx, Below w0.heap.size w0 wx → Calls Try.prog 18 #[.int .i64 2, .int .i64 23, .slice (some ⟨w.heap.size + 1, 0, none⟩) 12 12] wx fun x w' => ∃ k R ro rc, x = .returned (.agg #[.int .i64 2, .int .i64 24, .slice ro k rc]) ∧ MV wx.heap.size (.slice ro k rc) k 24 R w' ∧ Red F2 24 12 (fun i => xtd F2 23 (psh i F2g)) k R ∧ Below wx.heap.size wx w') := fun wx hx => by
    exact gext_any (n := 23) F2_in (HW.out.2.2.below hx) (by omega) F2g_el F2g_bd (by decide) (by omega) (by omega) (K := 12) (by omega) F2q_el F2q_bd (by decide) F2_mul
  go_enter Try.func4, Try.ntmps4
  go_wp2_with fail
  rw [← hw0]
  clear hw0
  refine (HE.out _ (Below.refl _ _)).mono ?_
  rintro x w2 ⟨k, R, ro, rc, rfl, hmv, hred, hb2⟩
  have H2 : Hid (MV w0.heap.size (.slice ro k rc) k 24 R w2 ∧ Red F2 24 12 (fun i => xtd F2 23 (psh i F2g)) k R ∧ Below w.heap.size w w2 ∧ RB w.heap.size w2 ∧ w.heap.size < w0.heap.size) := ⟨hmv, hred, bel_up' HW.out.1 hb2, HW.out.2.1.keep hb2, by obtain ⟨⟨x0, c0⟩, _⟩ := HW.out.2.1; exact cell_lt c0⟩
  clear hmv hred hb2
  obtain ⟨⟨x0, c0⟩, ⟨x1, c1⟩, ⟨x2, c2⟩, f0, f1, f2⟩ := H2.out.2.2.2.1
  go_wp2
  obtain ⟨w3, hw3⟩ : ∃ w3, w3 = laid w2 w.heap.size 2 24 (.slice ro k rc) := ⟨_, rfl⟩
  have H3 : Hid (CB w.heap.size 2 24 (.slice ro k rc) w3 ∧ MV w0.heap.size (.slice ro k rc) k 24 R w3 ∧ Below w.heap.size w w3) := by
    rw [hw3]; exact ⟨laid_cb H2.out.2.2.2.1 _ _ _, laid_mv H2.out.1 H2.out.2.2.2.2 _ _ _, laid_below H2.out.2.2.1 (Nat.le_refl _) _ _ _⟩
  unfold laid at hw3
  rw [← hw3]
  clear hw3 c0 c1 c2 f0 f1 f2
  obtain ⟨c0, c1, c2⟩ := H3.out.1
  refine bodyPost_ret (v := .agg #[.int .i64 2, .int .i64 24, .slice ro k rc]) (by simp [results, Try.results4, go_sem, c0, c1, c2]) rfl ?_
  exact ⟨_, R, _, _, rfl, ⟨_, H2.out.2.2.2.2, H3.out.2.1⟩, H2.out.2.1, H3.out.2.2⟩
theorem bin_cod (w : World) :
    Calls Try.prog 4 #[] w fun x w' => ∃ ro rc, x = .returned (.agg #[.int .i64 2, .int .i64 24, .slice ro 12 rc]) ∧ (Cod F2 24 ro 12 (lrs F2L) w' ∧ RL (.slice ro 12 rc) 12 24 (lrs F2L) w') ∧ Below w.heap.size w w' := by
  refine (binM_any w).mono ?_
  rintro x w' ⟨k, R, ro, rc, rfl, ⟨B0, _, hmv⟩, hred, hb⟩
  obtain ⟨e, h1, h2⟩ := cod_red F2_in F2_gol.2.1 hred hmv (by omega) (by omega)
  subst e
  exact ⟨ro, rc, rfl, ⟨h1, h2⟩, hb⟩

set_option maxHeartbeats 4000000 in
set_option maxRecDepth 100000 in
theorem ternM_any (w : World) :
    Calls Try.prog 5 #[] w fun x w' => ∃ k R ro rc, x = .returned (.agg #[.int .i64 3, .int .i64 12, .slice ro k rc]) ∧ (∃ B0, w.heap.size < B0 ∧ MV B0 (.slice ro k rc) k 12 R w') ∧ Red F3 12 6 (fun i => xtd F3 11 (psh i F3g)) k R ∧ Below w.heap.size w w' := by
  obtain ⟨w0, hw0⟩ : ∃ w0, w0 = (w.alloc (.cells #[.int .i64 0, .int .i64 0, .slice none 0 0] 25)).alloc (.cells #[.int .i64 2, .int .i64 0, .int .i64 1, .int .i64 2, .int .i64 1, .int .i64 1] 3) := ⟨_, rfl⟩
  have HW : Hid (Below w.heap.size w w0 ∧ RB w.heap.size w0 ∧ Arg (some ⟨w.heap.size + 1, 0, none⟩) 6 6 (fun j => ((F3g j : Nat) : Int)) w0) := by
    obtain ⟨g1, g2, g3⟩ := box_at 0 0 (.slice none 0 0) w
    have g4 := RB.new (.int .i64 0) (.int .i64 0) (.slice none 0 0) w
    obtain ⟨w1, hw1⟩ : ∃ w1, w1 = w.alloc (.cells #[.int .i64 0, .int .i64 0, .slice none 0 0] 25) := ⟨_, rfl⟩
    rw [← hw1] at g1 g2 g3 g4 hw0
    have h1 : Below w1.heap.size w1 w0 := by rw [hw0]; exact (Below.refl _ _).alloc (Nat.le_refl _) _
    refine ⟨bel_up' g1 h1, g4.keep h1, ?_⟩
    rw [← g3, hw0]
    exact arg_lsf [2, 0, 1, 2, 1, 1] w1
  have HE : Hid (∀ wx, Below w0.heap.size w0 wx → Calls Try.prog 18 #[.int .i64 3, .int .i64 11, .slice (some ⟨w.heap.size + 1, 0, none⟩) 6 6] wx fun x w' => ∃ k R ro rc, x = .returned (.agg #[.int .i64 3, .int .i64 12, .slice ro k rc]) ∧ MV wx.heap.size (.slice ro k rc) k 12 R w' ∧ Red F3 12 6 (fun i => xtd F3 11 (psh i F3g)) k R ∧ Below wx.heap.size wx w') := fun wx hx => by
    exact gext_any (n := 11) F3_in (HW.out.2.2.below hx) (by omega) F3g_el F3g_bd (by decide) (by omega) (by omega) (K := 6) (by omega) F3q_el F3q_bd (by decide) F3_mul
  go_enter Try.func5, Try.ntmps5
  go_wp2_with fail
  rw [← hw0]
  clear hw0
  refine (HE.out _ (Below.refl _ _)).mono ?_
  rintro x w2 ⟨k, R, ro, rc, rfl, hmv, hred, hb2⟩
  have H2 : Hid (MV w0.heap.size (.slice ro k rc) k 12 R w2 ∧ Red F3 12 6 (fun i => xtd F3 11 (psh i F3g)) k R ∧ Below w.heap.size w w2 ∧ RB w.heap.size w2 ∧ w.heap.size < w0.heap.size) := ⟨hmv, hred, bel_up' HW.out.1 hb2, HW.out.2.1.keep hb2, by obtain ⟨⟨x0, c0⟩, _⟩ := HW.out.2.1; exact cell_lt c0⟩
  clear hmv hred hb2
  obtain ⟨⟨x0, c0⟩, ⟨x1, c1⟩, ⟨x2, c2⟩, f0, f1, f2⟩ := H2.out.2.2.2.1
  go_wp2
  obtain ⟨w3, hw3⟩ : ∃ w3, w3 = laid w2 w.heap.size 3 12 (.slice ro k rc) := ⟨_, rfl⟩
  have H3 : Hid (CB w.heap.size 3 12 (.slice ro k rc) w3 ∧ MV w0.heap.size (.slice ro k rc) k 12 R w3 ∧ Below w.heap.size w w3) := by
    rw [hw3]; exact ⟨laid_cb H2.out.2.2.2.1 _ _ _, laid_mv H2.out.1 H2.out.2.2.2.2 _ _ _, laid_below H2.out.2.2.1 (Nat.le_refl _) _ _ _⟩
  unfold laid at hw3
  rw [← hw3]
  clear hw3 c0 c1 c2 f0 f1 f2
  obtain ⟨c0, c1, c2⟩ := H3.out.1
  refine bodyPost_ret (v := .agg #[.int .i64 3, .int .i64 12, .slice ro k rc]) (by simp [results, Try.results5, go_sem, c0, c1, c2]) rfl ?_
  exact ⟨_, R, _, _, rfl, ⟨_, H2.out.2.2.2.2, H3.out.2.1⟩, H2.out.2.1, H3.out.2.2⟩
theorem bls_prw (q n : Nat) : ∀ r, bls q n r = (List.range r).foldl (fun s i => s + (q - 1) ^ i * (prw n).getD i 0) 0
  | 0 => rfl
  | r + 1 => by
    show bls q n r + (q - 1) ^ r * chs n r = _
    rw [List.range_succ, List.foldl_append, ← bls_prw q n r, chs_prw]; rfl
/-- One of the two codes: n places, K rows; without a place its words lie apart by 2 r + 1. -/
structure GoT (D : FD) (n K r : Nat) (R : Nat → Nat → Nat) : Prop where
  mem : D ∈ fieldsL
  rre : RRE D n K R (fun i => i)
  orth : ∀ i j, i < K → j < K → dot D (R i) (R j) n = 0
  far : Far D n K R (2 * r + 2)
  two : n = K + K
  kq : D.q ^ K ≤ 4096
  pw : D.q ^ (n - 1) ≤ 1073741824
  bl : D.q ^ K * bls D.q (n - 1) (r + 1) = bls D.q (n - 1) (n - 1 + 1)
  n1 : 12 ≤ n
  n2 : n ≤ 24
  r1 : 1 ≤ r
  r2 : 2 * r ≤ n - 1
  r3 : r ≤ 3
theorem got2 : GoT F2 24 12 3 (lrs F2L) := ⟨F2_in, F2_gol.1, F2_gol.2.2, F2_far, rfl, by decide, by decide, by rw [bls_prw, bls_prw]; decide +kernel, by omega, by omega, by omega, by omega, by omega⟩
theorem got3 : GoT F3 12 6 2 (lrs F3L) := ⟨F3_in, F3_gol.1, F3_gol.2.2, F3_far, rfl, by decide, by decide, by rw [bls_prw, bls_prw]; decide +kernel, by omega, by omega, by omega, by omega, by omega⟩
theorem GoT.dual {D : FD} {n K r : Nat} {R : Nat → Nat → Nat} (h : GoT D n K r R) {ao : Option Addr} (ca : Nat) {w : World} (hc : Cod D n ao K R w) :
    Calls Try.prog 6 #[.agg #[.int .i64 D.q, .int .i64 (n : Nat), .slice ao K ca]] w fun x w' => ∃ ro rc, x = .returned (.tuple #[.agg #[.int .i64 D.q, .int .i64 (n : Nat), .slice ro K rc], .int .i64 0]) ∧ RL (.slice ro K rc) K n R w' ∧ Below w.heap.size w w' := by
  refine (Cod.dual h.mem ca hc).mono ?_
  rintro x w' ⟨k, R2, ro, rc, rfl, ⟨_, hrl⟩, hdu, hb⟩
  obtain ⟨e, e2⟩ := self_dual (fld h.mem) h.rre h.orth h.two hdu
  subst e
  exact ⟨ro, rc, rfl, hrl.congr (fun i hi => (e2 i hi).symm), hb⟩
/-- Without a place. -/
theorem GoT.punct {D : FD} {n K r a N : Nat} {R : Nat → Nat → Nat} (h : GoT D n K r R) {ao : Option Addr} (ca : Nat) {w : World} (hc : Cod D n ao K R w) (ha : a < n) (hN : N = n - 1) :
    Calls Try.prog 8 #[.agg #[.int .i64 D.q, .int .i64 (n : Nat), .slice ao K ca], .int .i64 (a : Nat)] w fun x w' => ∃ ro rc R' p, x = .returned (.tuple #[.agg #[.int .i64 D.q, .int .i64 (N : Nat), .slice ro K rc], .int .i64 0]) ∧ (Cod D N ro K R' w' ∧ MV w.heap.size (.slice ro K rc) K N R' w') ∧ RRE D N K R' p ∧ Far D N K R' (2 * r + 1) ∧ Below w.heap.size w w' := by
  have hc' := hc.chk h.mem ca
  have h12 := h.n1
  have h24 := h.n2
  obtain ⟨A, N0, C, Z, h1, h2⟩ := hc
  refine (cPuncture_ok h.mem h1 (n2 := n - 2) (by omega) ha (fun wx hx => ?_)).mono ?_
  · have := checkPlace_any 0 D.q (n : Nat) (a : Nat) (ao := ao) (m := K) (ca := ca) (w := wx) (fun wy hy => hc' wy (bel_up' hx hy))
    rw [show pchk 0 (a : Int) (n : Int) = 0 by unfold pchk; rw [if_neg (by simp), if_neg (by omega), if_neg (by omega)]] at this
    exact this
  rintro x w' ⟨k, R', ro, rc, rfl, hmv, hred, hb⟩
  rw [show n - 2 + 1 = n - 1 by omega] at hmv hred ⊢
  have hred2 : Red D (n - 1) K (fun i => wo a (R i)) k R' := hred.of_eq (fun i hi => by rw [h2 i hi])
  obtain ⟨e, hf⟩ := far_wo h.mem h.rre h.far (by omega) ha hred2
  subst e
  have hle := Red.le hred
  obtain ⟨p, hp, _⟩ := id hred2
  subst hN
  exact ⟨ro, rc, R', p, rfl, ⟨hmv.cod (by omega) (by omega) (by omega) hred.rows.1 hred.rows.2, hmv⟩, hp, hf, hb⟩
theorem dsg_sym (u v : Nat → Nat) (n : Nat) : dsg u v n = dsg v u n := ct_same n (fun j _ => by
  by_cases e : u j = v j
  · rw [decide_eq_true e, decide_eq_true e.symm]
  · rw [decide_eq_false e, decide_eq_false (fun h => e h.symm)])
/-- The nearest word. -/
theorem cod_near {D : FD} (hD : D ∈ fieldsL) {n K r : Nat} {R : Nat → Nat → Nat} {p : Nat → Nat} {ao yo : Option Addr} (ca : Nat) {cy : Nat} {v y : Nat → Nat} {w : World} (hc : Cod D n ao K R w) (hr : RRE D n K R p) (hf : Far D n K R (2 * r + 1)) (hK : D.q ^ K ≤ 4096) (hv1 : El D v) (hv2 : Spn D (RowsOf K R) v) (hY : Arg yo n cy (fun j => ((y j : Nat) : Int)) w) (hy : ∀ j, j < n → y j < D.q) (hd : dsg y v n ≤ r) :
    Calls Try.prog 15 #[.agg #[.int .i64 D.q, .int .i64 (n : Nat), .slice ao K ca], .slice yo n cy] w fun x w' => ∃ g c, x = .returned (.tuple #[.slice (some ⟨g, 0, none⟩) n c, .int .i64 (dsg y v n : Nat), .int .i64 0]) ∧ Row g n v w' ∧ Below w.heap.size w w' := by
  have F := fld hD
  have hrw := hc.rows F
  have hcc := hc.chk hD ca
  obtain ⟨A, N, C, Z, h1, h2⟩ := hc
  refine (nearest_ok hD hrw.2.1.1 hrw.2.1.2 (M := mzc N Z) hY (blw_nchk (fun j hj => ⟨by omega, by have := hy j hj; omega⟩)) (fun wx hx => small_ok hD (h1.below hx) (fun wy hy => hcc wy (bel_up' hx hy)))).mono ?_
  rintro x w' ⟨k, R', hred, hb, hx⟩
  have hred2 : Red D n K R k R' := hred.of_eq h2
  obtain ⟨e1, e2⟩ := Red.uniq F hred2 ⟨p, hr, fun _ => Iff.rfl⟩ (fun _ => Iff.rfl)
  subst e1
  rcases hx with ⟨_, b, g, c, hbst, _, _, _, hrow, rfl⟩ | ⟨hno, _⟩
  rotate_left
  · exact absurd hK hno
  have hap : ∀ s, apr' D R' n k (fun j => ((y j : Nat) : Int)) s = dsg y (wdr D R' k s) n := fun s => by
    rw [dsg_sym]
    exact ct_same n (fun j _ => by
      show (!decide (((wdr D R' k s j : Nat) : Int) = ((y j : Nat) : Int))) = (!decide (wdr D R' k s j = y j))
      by_cases e : wdr D R' k s j = y j
      · rw [decide_eq_true (show ((wdr D R' k s j : Nat) : Int) = ((y j : Nat) : Int) by rw [e]), decide_eq_true e]
      · rw [decide_eq_false (show ¬ ((wdr D R' k s j : Nat) : Int) = ((y j : Nat) : Int) by omega), decide_eq_false e])
  obtain ⟨m, hm⟩ : ∃ m : Nat → Nat, m = fun i => if i < k then v (p i) else 0 := ⟨_, rfl⟩
  have hmE : El D m := fun i => by rw [hm]; show (if i < k then v (p i) else 0) < D.q; split; exact hv1 _; exact zero_lt' F
  have hmB : Bd k m := fun i hi => by rw [hm]; exact if_neg (by omega)
  have hmv : enw D R m k = v := by rw [hm, enw_lc]; exact (rre_coord F hr hv2).symm
  have hwd : ∀ s, wdr D R' k s = enw D R (dgs D.q k s) k := fun s => by unfold wdr; exact enw_congr e2
  have hix : hnm D.q m k < D.q ^ k := hnm_lt k (fun j _ => hmE j)
  have hms : enw D R (dgs D.q k (hnm D.q m k)) k = v := by rw [← hmv]; exact enw_zc (fun i hi => (hnm_dgs F.q2 (fun j _ => hmE j) i hi).symm)
  have hbest := hbst.2.1 (hnm D.q m k) hix
  rw [hap, hap, hwd, hwd, hms] at hbest
  have hdE : El D (dgs D.q k b) := fun j => dgs_lt F.q2 j
  have hdB : Bd k (dgs D.q k b) := fun i hi => by unfold dgs; exact if_neg (by omega)
  have heq := far_near F hr hf (by omega) hmE hmB (y := y) (r := r) (by rw [hmv]; exact hd) hdE hdB (by rw [hmv]; exact hbest)
  have hwv : wdr D R' k b = v := by rw [hwd, heq, hmv]
  rw [hap, hwv]
  rw [hwv] at hrow
  exact ⟨g, c, rfl, hrow, hb⟩
theorem CB.oth {b : Nat} {q n : Int} {v : Value} {w w' : World} (h : CB b q n v w) (e : w'.heap[b]? = w.heap[b]?) : CB b q n v w' := by
  have ec : ∀ o, w'.cell? ⟨b, o, none⟩ = w.cell? ⟨b, o, none⟩ := fun o => by simp [World.cell?, e]
  exact ⟨by rw [ec]; exact h.c0, by rw [ec]; exact h.c1, by rw [ec]; exact h.c2⟩
theorem ite_one (b : Bool) : (if b = true then 1 else 0) ≤ 1 := by cases b <;> decide
theorem dsg_put {c : Nat → Nat} (v : Nat → Nat) (a x : Nat) : ∀ n, dsg (fun j => if j = a then x else c j) v n ≤ dsg c v n + if a < n then 1 else 0
  | 0 => Nat.zero_le _
  | n + 1 => by
    have ih := dsg_put (c := c) v a x n
    show dsg (fun j => if j = a then x else c j) v n + (if (!decide ((if n = a then x else c n) = v n)) = true then 1 else 0) ≤ dsg c v n + (if (!decide (c n = v n)) = true then 1 else 0) + if a < n + 1 then 1 else 0
    by_cases e : n = a
    · rw [if_neg (by omega)] at ih
      rw [if_pos (show a < n + 1 by omega)]
      have h1 : (if (!decide ((if n = a then x else c n) = v n)) = true then 1 else 0) ≤ 1 := ite_one _
      omega
    · rw [if_neg e]
      by_cases e2 : a < n
      · rw [if_pos e2] at ih
        rw [if_pos (show a < n + 1 by omega)]; omega
      · rw [if_neg e2] at ih
        rw [if_neg (show ¬ a < n + 1 by omega)]; omega
theorem dsg_self (v : Nat → Nat) : ∀ n, dsg v v n = 0
  | 0 => rfl
  | n + 1 => by
    show dsg v v n + (if (!decide (v n = v n)) = true then 1 else 0) = 0
    rw [dsg_self v n, decide_eq_true rfl]; rfl
end Go.Proofs.Ytafebmhbfmdjlab
