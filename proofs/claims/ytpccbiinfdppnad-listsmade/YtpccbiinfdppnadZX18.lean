/- Texts of ours, one behind the other: X18 S5 T10 X19 X20 S6. -/
import Derived.Test.YtpccbiinfdppnadZX15
import Derived.Test.YtpccbiinfdppnadZX11
/- The program's matrices: what makes all rows 0 (Null); matrices as they are told. -/
namespace Go.Proofs.Ytpccbiinfdppnad
open Go.RowKit

/-- The slice v reads as k rows R of n elements. -/
def RL (v : Value) (k n : Nat) (R : Nat → Nat → Nat) (w : World) : Prop := ∃ ao ca, v = .slice ao k ca ∧ ∀ i, i < k → ∃ b off x cx, ao = some ⟨b, off, none⟩ ∧ w.cell? ⟨b, off + i, none⟩ = some (.slice x n cx) ∧ Sl x n (R i) w
theorem RL.below {v : Value} {k n : Nat} {R : Nat → Nat → Nat} {w w' : World} (h : RL v k n R w) (hb : Below w.heap.size w w') : RL v k n R w' := by
  obtain ⟨ao, ca, e, h⟩ := h
  refine ⟨ao, ca, e, fun i hi => ?_⟩
  obtain ⟨b, off, x, cx, e1, hc, hs⟩ := h i hi
  exact ⟨b, off, x, cx, e1, ((bcell hb).1 b (off + i) (cell_lt hc)).trans hc, slz_below hs hb⟩
theorem RL.congr {v : Value} {k n : Nat} {R R' : Nat → Nat → Nat} {w : World} (h : RL v k n R w) (e : ∀ i, i < k → R i = R' i) : RL v k n R' w := by
  obtain ⟨ao, ca, e1, h⟩ := h
  exact ⟨ao, ca, e1, fun i hi => by rw [← e i hi]; exact h i hi⟩
theorem Mx.rl {B G m k j n : Nat} {R : Nat → Nat → Nat} {h : Nat → Nat} {w : World} (H : Mx B G m k n R h w) (hj : j ≤ k) (mc : Nat) : RL (.slice (some ⟨G, 0, none⟩) j mc) j n R w :=
  ⟨_, _, rfl, fun i hi => ⟨G, 0, _, n, rfl, by rw [Nat.zero_add]; exact H.cell i (by omega), (H.row i (by omega)).sl (Nat.le_refl _)⟩⟩
theorem LLs.rl {base : Nat} {v : Value} {k n : Nat} {R : Nat → Nat → Nat} {w : World} (h : LLs base v (rl k n R) w) : RL v k (n + 1) R w := by
  obtain ⟨ro, rc, vs, rfl, hw⟩ := h.rws
  refine ⟨ro, rc, rfl, fun i hi => ?_⟩
  obtain ⟨g, e, hc, _⟩ := hw.cell i hi
  obtain ⟨x, cx, e2, hs, _⟩ := (hw.row i hi).rwv
  exact ⟨g, 0, x, cx, e, by rw [Nat.zero_add, ← e2]; exact hc, hs⟩
theorem RL.nil (n : Nat) (R : Nat → Nat → Nat) (w : World) : RL (.slice none 0 0) 0 n R w := ⟨none, 0, rfl, fun i hi => by omega⟩

set_option maxHeartbeats 2000000 in
set_option maxRecDepth 100000 in
theorem indexNil_any {fv : Value} {w : World} :
    Calls Try.prog 105 #[.slice none 0 0, fv] w fun e w' => w' = w ∧ e = .returned (.int .i64 (-1)) := by
  go_enter Try.func105, Try.ntmps105
  go_wp2
  refine wp_loop_rounds 1 ?_
  rw [rounds_succ]
  go_wp2
  go_ret
  exact ⟨rfl, rfl⟩

set_option maxHeartbeats 2000000 in
set_option maxRecDepth 100000 in
theorem reduceNil_any {pf : Value} {cols : Nat} {w : World} (hc : cols ≤ 1000000) :
    Calls Try.prog 84 #[pf, .slice none 0 0, .int .i64 cols] w fun e w' => e = .returned (.slice none 0 0) ∧ Below w.heap.size w w' := by
  go_enter Try.func84, Try.ntmps84
  go_wp2
  go_loopw [7, 12] (fun pv i wr => ∃ c : Nat, c ≤ cols ∧ pv = .slice none 0 0 ∧ i = .int .i64 c ∧ Hid (Below w.heap.size w wr)) (fun _ i _ => cols - (intOf i).toNat)
  case atStart => exact ⟨0, by omega, rfl, rfl, Below.refl _ _⟩
  case round =>
    obtain ⟨c, hc, rfl, rfl, HG⟩ := hrel
    rename World => wA
    by_cases hlt : c < cols
    · have hib : (c : Int) < (cols : Int) := by omega
      have HS : Hid (∀ o, Below w.heap.size w (wA.alloc o)) := fun o => HG.out.alloc HG.out.size _
      go_wp2_with (go_at_call 105; refine indexNil_any.mono ?_; rintro e w2 ⟨hw, rfl⟩; have hw := hw.symm; subst hw)
      go_roundw
      case rel => exact ⟨c + 1, by omega, rfl, by go_num, HS.out _⟩
      case measure => simp [intOf]; omega
    · go_wp2
      go_ret
      exact ⟨rfl, HG.out⟩

theorem Mx.any {B G m n n' : Nat} {R : Nat → Nat → Nat} {h : Nat → Nat} {w : World} (H : Mx B G m 0 n R h w) : Mx B G m 0 n' R h w :=
  ⟨by obtain ⟨f, hf, _⟩ := H.outer; exact ⟨f, hf, fun i hi => by omega⟩, fun i hi => by omega, H.geG, fun i hi => by omega, fun i hi => by omega, fun i hi => by omega, H.le⟩

set_option maxHeartbeats 8000000 in
set_option maxRecDepth 100000 in
theorem mnull_any {D : FD} (hD : D ∈ fieldsL) {ao : Option Addr} {m ca : Nat} {A : Nat → Option Addr} {N C : Nat → Nat} {Z : Nat → Nat → Int} {w : World} (ha : MatZ ao m A N C Z w) (hm : m ≤ 1000000) :
    Calls Try.prog 57 #[.int .i64 D.q, .slice ao m ca] w fun e w' => Below w.heap.size w w' ∧
      ((D.mchk m N Z ≠ 0 ∧ e = .returned (.tuple #[.slice none 0 0, .int .i64 (D.mchk m N Z)])) ∨
       (D.mchk m N Z = 0 ∧ ∃ v k R p k2 R2 p2 W, e = .returned (.tuple #[v, .int .i64 0]) ∧ (m = 0 → W = 0) ∧ (0 < m → W = N 0) ∧ RRE D W k R p ∧ (∀ v, Spn D (RowsOf k R) v ↔ Spn D (RowsOf m (mzc N Z)) v) ∧
         RL v (nct k p W) W R2 w' ∧ k2 ≤ nct k p W ∧ RRE D W k2 R2 p2 ∧ (∀ v, Spn D (RowsOf k2 R2) v ↔ Spn D (RowsOf (nct k p W) (nul D R p k W)) v))) := by
  have HA : Hid (D ∈ fieldsL ∧ MatZ ao m A N C Z w) := ⟨hD, ha⟩
  clear hD ha
  go_enter Try.func57, Try.ntmps57
  go_wp2_with fail
  refine (mover1_any HA.out.1 HA.out.2 hm).mono ?_
  rintro e w1 ⟨hb1, hr⟩
  rcases hr with ⟨h0, F, T, f, rfl, hat, hF, hT⟩ | ⟨h0, rfl⟩
  · have HW : Hid (D.mchk m N Z = 0 ∧ FAt F T D f w1 ∧ Below w.heap.size w w1 ∧ MatZ ao m A N C Z w1) := ⟨h0, hat, hb1, HA.out.2.below hb1⟩
    clear h0 hat hF hT hb1
    obtain ⟨n, Wd, HN⟩ : ∃ n Wd, Hid (n ≤ 64 ∧ Wd ≤ n + 1 ∧ m ≤ 64 ∧ Wd = (if m = 0 then 0 else N 0) ∧ (0 < m → n + 1 = N 0) ∧ (∀ i, i < m → El D (mzc N Z i) ∧ Bd (n + 1) (mzc N Z i)) ∧ MatR ao m n (mzc N Z) w1) := by
      by_cases hm0 : m = 0
      · exact ⟨0, 0, ⟨by omega, by omega, by omega, by rw [if_pos hm0], fun h => by omega, fun i hi => by omega, fun i hi => by omega⟩⟩
      · obtain ⟨h1, n, h2, h3, h4, h5⟩ := mchk_rows (fld HA.out.1) HW.out.1 HW.out.2.2.2 (by omega)
        exact ⟨n, n + 1, ⟨by omega, by omega, h1, by rw [if_neg hm0, h2], fun _ => h2.symm, fun i hi => (h4 i hi).2, h5⟩⟩
    have hn64 := HN.out.1
    have hWd := HN.out.2.1
    have hm64 := HN.out.2.2.1
    go_wp2_with fail
    refine (wider_any (more := 0) HN.out.2.2.2.2.2.2 (fun i hi => (HN.out.2.2.2.2.2.1 i hi).2) (by omega) (by omega) (by omega)).mono ?_
    rintro e w2 ⟨rfl, ⟨h, hmx⟩, hb2⟩
    have H2 : Hid (Mx w1.heap.size w1.heap.size m m (n + 1) (mzc N Z) h w2 ∧ Below w1.heap.size w1 w2) := ⟨hmx, hb2⟩
    clear hmx hb2
    have HCw : Hid (∀ wX, Below w1.heap.size w1 wX → Calls Try.prog 85 #[.slice ao m ca] wX fun e w' => e = .returned (.int .i64 (Wd : Int)) ∧ w' = wX) := fun wX hX => by
      have h := width_any (ca := ca) (HW.out.2.2.2.below hX)
      rw [← HN.out.2.2.2.1] at h; exact h
    go_wp2_with (go_at_call 85; refine (HCw.out _ H2.out.2).mono ?_; rintro e w' ⟨rfl, hw⟩; have hw := hw.symm; subst hw)
    refine (reduce_any HA.out.1 (HW.out.2.1.below H2.out.2 HW.out.2.1.ltF HW.out.2.1.ltT) HW.out.2.1.ltF HW.out.2.1.ltT H2.out.1 (by omega) (by omega) (fun i hi => (HN.out.2.2.2.2.2.1 i hi).1) (fun i hi => (HN.out.2.2.2.2.2.1 i hi).2) hWd).mono ?_
    rintro e w3 ⟨k, R', p, h', pv, rfl, hst⟩
    obtain ⟨po, pc, rfl, _⟩ := hst.own.argL
    have hs1 := HW.out.2.2.1.size
    have hs2 := H2.out.2.size
    have hb13 : Below w1.heap.size w1 w3 := H2.out.2.trans hst.bel
    have H3 : Hid (Mx w1.heap.size w1.heap.size m m Wd R' h' w3 ∧ OwnI w2.heap.size (.slice po k pc) (zl k fun j => ((p j : Nat) : Int)) w3 ∧ RRE D Wd k R' p ∧ (∀ v, Spn D (RowsOf k R') v ↔ Spn D (RowsOf m (mzc N Z)) v) ∧ Below w1.heap.size w1 w3 ∧ (∀ i, i < m → El D (R' i))) := by
      refine ⟨?_, hst.own, ?_⟩
      · by_cases hm0 : m = 0
        · subst hm0
          exact hst.mx.any
        · have : Wd = n + 1 := by rw [HN.out.2.2.2.1, if_neg hm0, HN.out.2.2.2.2.1 (by omega)]
          rw [this]; exact hst.mx
      · by_cases hm0 : m = 0
        · have hk0 : k = 0 := by have := hst.rdg.le; omega
          refine ⟨⟨fun i hi => by omega, fun i hi => by omega, fun i hi => by omega, fun i j _ hj => by omega, fun i hi => by omega, fun i j hi => by omega, fun i c hi => by omega⟩, fun v => ?_, hb13, hst.rdg.el⟩
          constructor
          · exact fun h => spn_le (fld HA.out.1) (fun u ⟨i, hi, _⟩ => by omega) h
          · exact fun h => spn_le (fld HA.out.1) (fun u ⟨i, hi, _⟩ => by omega) h
        · have hR := hst.rdg
          have hWe : Wd = n + 1 := by rw [HN.out.2.2.2.1, if_neg hm0, HN.out.2.2.2.2.1 (by omega)]
          rw [hWe] at hR
          obtain ⟨h1, _, h2⟩ := rdg_end (fld HA.out.1) hR
          rw [hWe]
          exact ⟨h1, fun v => (h2 v).trans (hst.spn v), hb13, hst.rdg.el⟩
    have hkm : k ≤ m := hst.rdg.le
    clear hst hb13
    go_wp2_with (go_at_call 85; refine (HCw.out _ H3.out.2.2.2.2.1).mono ?_; rintro e w' ⟨rfl, hw⟩; have hw := hw.symm; subst hw)
    have hs3 := H3.out.2.2.2.2.1.size
    have hF1 := HW.out.2.1.ltF
    have hT1 := HW.out.2.1.ltT
    refine (madeNought_any HA.out.1 (HW.out.2.1.below H3.out.2.2.2.2.1 hF1 hT1) (by omega) (by omega) H3.out.1 (by omega) (by omega) hkm H3.out.2.2.2.2.2 H3.out.2.1 H3.out.2.2.1.lt).mono ?_
    rintro e w4 ⟨v, h2, rfl, hns, hnil, hb4⟩
    have H4 : Hid (NSt w3.heap.size Wd (nct k p Wd) (nul D R' p k Wd) v h2 w4 ∧ (nct k p Wd = 0 → v = .slice none 0 0) ∧ Below w3.heap.size w3 w4 ∧ Below w1.heap.size w1 w4) := ⟨hns, hnil, hb4, H3.out.2.2.2.2.1.trans (hb4.mono hs3)⟩
    clear hns hnil hb4
    have hcle := nct_le k p Wd
    by_cases hc0 : nct k p Wd = 0
    · have hv := H4.out.2.1 hc0
      subst hv
      go_wp2_with (go_at_call 85; refine (HCw.out _ H4.out.2.2.2).mono ?_; rintro e w' ⟨rfl, hw⟩; have hw := hw.symm; subst hw)
      refine (reduceNil_any (by omega)).mono ?_
      rintro e w5 ⟨rfl, hb5⟩
      have H5 : Hid (Below w.heap.size w w5) := (HW.out.2.2.1.trans (H4.out.2.2.2.mono hs1)).trans (hb5.mono (by have := H4.out.2.2.2.size; omega))
      clear hb5
      go_wp2
      go_ret2
      refine ⟨H5.out, Or.inr ⟨HW.out.1, _, k, R', p, 0, fun _ => pnil, fun _ => 0, Wd, rfl, fun h => by rw [HN.out.2.2.2.1, if_pos h], fun h => by rw [HN.out.2.2.2.1, if_neg (by omega)], H3.out.2.2.1, H3.out.2.2.2.1, by rw [hc0]; exact RL.nil _ _ _, by omega, ⟨fun i hi => by omega, fun i hi => by omega, fun i hi => by omega, fun i j _ hj => by omega, fun i hi => by omega, fun i j hi => by omega, fun i c hi => by omega⟩, fun v => ?_⟩⟩
      rw [hc0]
      exact ⟨fun h => spn_le (fld HA.out.1) (fun u ⟨i, hi, _⟩ => by omega) h, fun h => spn_le (fld HA.out.1) (fun u ⟨i, hi, _⟩ => by omega) h⟩
    · obtain ⟨G2, mc2, rfl, hmx2⟩ := H4.out.1.mx (by omega)
      have H4' : Hid (Mx w3.heap.size G2 mc2 (nct k p Wd) Wd (nul D R' p k Wd) h2 w4) := hmx2
      clear hmx2
      obtain ⟨cnt, hcnt⟩ : ∃ cnt, cnt = nct k p Wd := ⟨_, rfl⟩
      rw [← hcnt] at H4' hcle hc0 ⊢
      have HCt : Hid (cnt = nct k p Wd) := hcnt
      clear hcnt
      go_wp2_with (go_at_call 85; refine (HCw.out _ H4.out.2.2.2).mono ?_; rintro e w' ⟨rfl, hw⟩; have hw := hw.symm; subst hw)
      refine (reduce_any HA.out.1 (HW.out.2.1.below H4.out.2.2.2 hF1 hT1) (by omega) (by omega) H4'.out (by omega) (by omega) (fun i hi => nul_el (fld HA.out.1) H3.out.2.2.1.el _ _) (fun i hi => nul_bd H3.out.2.2.1.lt (by have := HCt.out; omega)) (Nat.le_refl _)).mono ?_
      rintro e w5 ⟨k2, R2, p2, h5, pv5, rfl, hst⟩
      have H5 : Hid (RSt D w3.heap.size G2 mc2 cnt Wd (nul D R' p k Wd) w4 Wd k2 R2 p2 h5 pv5 w5) := hst
      clear hst
      go_wp2
      go_ret2
      obtain ⟨hr1, _, hr2⟩ := rdg_end (fld HA.out.1) H5.out.rdg
      refine ⟨(HW.out.2.2.1.trans (H4.out.2.2.2.mono hs1)).trans (H5.out.bel.mono (by omega)), Or.inr ⟨HW.out.1, _, k, R', p, k2, R2, p2, Wd, rfl, fun h => by rw [HN.out.2.2.2.1, if_pos h], fun h => by rw [HN.out.2.2.2.1, if_neg (by omega)], H3.out.2.2.1, H3.out.2.2.2.1, ?_, ?_, hr1, fun v => ?_⟩⟩
      · rw [← HCt.out]; exact H5.out.mx.rl (Nat.le_refl _) _
      · rw [← HCt.out]; exact H5.out.rdg.le
      · rw [← HCt.out]; exact (hr2 v).trans (H5.out.spn v)
  · have HW : Hid (D.mchk m N Z ≠ 0 ∧ Below w.heap.size w w1) := ⟨h0, hb1⟩
    obtain ⟨e, he⟩ : ∃ e, e = D.mchk m N Z := ⟨_, rfl⟩
    rw [← he] at h0 ⊢
    have hz : (e != 0) = true := by rw [bne_iff_ne]; exact h0
    have HE : Hid (e = D.mchk m N Z) := he
    clear h0 hb1 he
    go_wp2
    go_ret2
    exact ⟨HW.out.2, Or.inl ⟨HW.out.1, by rw [← HE.out]; rfl⟩⟩
set_option maxHeartbeats 2000000 in
set_option maxRecDepth 100000 in
theorem mnull_none (q : Int) (h : ∀ D ∈ fieldsL, (D.q : Int) ≠ q) (ao : Option Addr) (n ca : Nat) (w : World) :
    Calls Try.prog 57 #[.int .i64 q, .slice ao n ca] w fun e w' => e = .returned (.tuple #[.slice none 0 0, .int .i64 1]) ∧ Below w.heap.size w w' := by
  have HB : Hid (∀ D ∈ fieldsL, (D.q : Int) ≠ q) := h
  clear h
  go_enter Try.func57, Try.ntmps57
  go_wp2_with fail
  refine (mover_none q HB.out _ 1 1 _ _ (by omega) (cell_of_row _ _ _ _ _ (0, 0) (two_new _))).mono ?_
  rintro e w' ⟨rfl, rfl⟩
  go_wp2
  go_ret2
  exact ⟨rfl, (Below.refl _ _).alloc (Nat.le_refl _) _⟩
end Go.Proofs.Ytpccbiinfdppnad

/- Plain mathematics: linear equations (Solve): the rows with what they are to be behind them. -/
namespace Go.Proofs.Ytpccbiinfdppnad

/-- The rows M of n numbers, each with one number more. -/
def aug (n : Nat) (M : Nat → Nat → Nat) (b : Nat → Nat) : Nat → Nat → Nat := fun i j => if j = n then b i else M i j
theorem aug_el {D : FD} {n : Nat} {M : Nat → Nat → Nat} {b : Nat → Nat} {i : Nat} (h : El D (M i)) (hb : b i < D.q) : El D (aug n M b i) := fun j => by
  unfold aug
  by_cases e : j = n
  · rw [if_pos e]; exact hb
  · rw [if_neg e]; exact h j
theorem aug_bd {n : Nat} {M : Nat → Nat → Nat} {b : Nat → Nat} {i : Nat} (h : Bd n (M i)) : Bd (n + 1) (aug n M b i) := fun j hj => by
  unfold aug
  rw [if_neg (by omega)]; exact h j (by omega)
/-- The solution that a reduced form tells, by its first r rows. -/
def slx (R : Nat → Nat → Nat) (p : Nat → Nat) (n : Nat) : Nat → Nat → Nat
  | 0, _ => 0
  | r + 1, j => if j = p r then R r n else slx R p n r j
theorem slx_congr {R R' : Nat → Nat → Nat} {p p' : Nat → Nat} (n : Nat) : ∀ r, (∀ i, i < r → p i = p' i ∧ R i = R' i) → slx R p n r = slx R' p' n r
  | 0, _ => rfl
  | r + 1, h => by
    funext j
    show (if j = p r then R r n else slx R p n r j) = if j = p' r then R' r n else slx R' p' n r j
    rw [(h r (by omega)).1, (h r (by omega)).2, slx_congr n r (fun i hi => h i (by omega))]
/-- Rows reduced but for the last column, and the one form of all: where there is a solution. -/
theorem solve_yes {D : FD} (F : Fld D) {m n k kr : Nat} {R Rr : Nat → Nat → Nat} {p pr : Nat → Nat} (h : Rdg D m (n + 1) n k R p) (h0 : ∀ i, k ≤ i → i < m → R i n = 0) (hr : RRE D (n + 1) kr Rr pr) (hs : ∀ v, Spn D (RowsOf m R) v ↔ Spn D (RowsOf kr Rr) v) : kr = k ∧ (∀ i, i < k → p i = pr i ∧ R i = Rr i) ∧ ∀ i, i < kr → pr i ≠ n := by
  have h1 : Rdg D m (n + 1) (n + 1) k R p := rdg_skip h h0
  obtain ⟨h2, _, h3⟩ := rdg_end F h1
  obtain ⟨hk, he⟩ := rre_uniq F h2 hr (fun v => (h3 v).trans (hs v))
  refine ⟨hk.symm, he, fun i hi => ?_⟩
  have a := (he i (by omega)).1
  have b := h.lt i (by omega)
  omega
theorem solve_no {D : FD} (F : Fld D) {m n k kr : Nat} {R Rr : Nat → Nat → Nat} {p pr : Nat → Nat} (h : Rdg D m (n + 1) n k R p) (h0 : ∃ i, k ≤ i ∧ i < m ∧ R i n ≠ 0) (hr : RRE D (n + 1) kr Rr pr) (hs : ∀ v, Spn D (RowsOf m R) v ↔ Spn D (RowsOf kr Rr) v) : ∃ i, i < kr ∧ pr i = n := by
  obtain ⟨i, h1, h2, h3⟩ := h0
  obtain ⟨j, hj, e⟩ := (rre_lead F hr n).1 ⟨R i, (hs _).1 (spn_mem F (h.el i h2) ⟨i, h2, rfl⟩), h3, fun c hc => h.rest i c h1 h2 hc⟩
  exact ⟨j, hj, e.symm⟩

/-- The first n numbers. -/
def cutN (n : Nat) (v : Nat → Nat) : Nat → Nat := fun j => if j < n then v j else 0
theorem cutN_add {D : FD} (F : Fld D) (n : Nat) (u v : Nat → Nat) : cutN n (padd D u v) = padd D (cutN n u) (cutN n v) := by
  funext j
  show (if j < n then D.ad (u j) (v j) else 0) = D.ad (if j < n then u j else 0) (if j < n then v j else 0)
  by_cases e : j < n
  · rw [if_pos e, if_pos e, if_pos e]
  · rw [if_neg e, if_neg e, if_neg e, ad_zero F (zero_lt' F)]
theorem cutN_scale {D : FD} (F : Fld D) (n s : Nat) (v : Nat → Nat) : cutN n (pscale D s v) = pscale D s (cutN n v) := by
  funext j
  show (if j < n then D.mul s (v j) else 0) = D.mul s (if j < n then v j else 0)
  by_cases e : j < n
  · rw [if_pos e, if_pos e]
  · rw [if_neg e, if_neg e, mul0 F]
theorem cutN_nil (n : Nat) : cutN n pnil = pnil := by
  funext j
  show (if j < n then 0 else 0) = 0
  by_cases e : j < n
  · rw [if_pos e]
  · rw [if_neg e]
theorem cutN_el {D : FD} (F : Fld D) (n : Nat) {v : Nat → Nat} (h : El D v) : El D (cutN n v) := fun j => by
  unfold cutN
  by_cases e : j < n
  · rw [if_pos e]; exact h j
  · rw [if_neg e]; exact zero_lt' F
theorem spn_cut {D : FD} (F : Fld D) {m n : Nat} {R : Nat → Nat → Nat} (he : ∀ i, i < m → El D (R i)) {v : Nat → Nat} (h : Spn D (RowsOf m R) v) : Spn D (RowsOf m fun i => cutN n (R i)) (cutN n v) := by
  refine spn_ind (Q := fun v => Spn D (RowsOf m fun i => cutN n (R i)) (cutN n v)) ?_ (fun u v hu hv => ?_) (fun s v hv => ?_) (fun v hv => ?_) h
  · rw [cutN_nil]; exact spn_nil D _
  · rw [cutN_add F]; exact spn_add F hu hv
  · rw [cutN_scale F]; exact spn_scale F _ hv
  · obtain ⟨i, hi, rfl⟩ := hv
    exact spn_mem F (cutN_el F n (he i hi)) ⟨i, hi, rfl⟩
/-- Rows that span the same, cut, span the same. -/
theorem spn_cut_le {D : FD} (F : Fld D) {m m' n : Nat} {R R' : Nat → Nat → Nat} (he : ∀ i, i < m → El D (R i)) (he' : ∀ i, i < m' → El D (R' i)) (h : ∀ v, Spn D (RowsOf m R) v → Spn D (RowsOf m' R') v) {v : Nat → Nat} (hv : Spn D (RowsOf m fun i => cutN n (R i)) v) : Spn D (RowsOf m' fun i => cutN n (R' i)) v := by
  refine spn_le F (fun u hu => ?_) hv
  obtain ⟨i, hi, rfl⟩ := hu
  exact spn_cut F he' (h _ (spn_mem F (he i hi) ⟨i, hi, rfl⟩))
/-- Rows reduced in their first n columns, cut behind these, are the one form. -/
theorem rdg_cut {D : FD} (F : Fld D) {m n n' k : Nat} {R : Nat → Nat → Nat} {p : Nat → Nat} (h : Rdg D m n' n k R p) : Rdg D m n n k (fun i => cutN n (R i)) p := by
  have at' : ∀ i c, c < n → cutN n (R i) c = R i c := fun i c hc => by unfold cutN; rw [if_pos hc]
  refine ⟨fun i hi => cutN_el F n (h.el i hi), fun i hi c hc => by unfold cutN; rw [if_neg (by omega)], h.le, h.lt, h.mono, fun i hi => ?_, fun i j hi hj hij => ?_, fun i c hi hc => ?_, fun i c hk hi hc => ?_⟩
  · show cutN n (R i) (p i) = 1
    rw [at' i _ (h.lt i hi)]; exact h.one i hi
  · show cutN n (R i) (p j) = 0
    rw [at' i _ (h.lt j hj)]; exact h.zero i j hi hj hij
  · show cutN n (R i) c = 0
    have := h.lt i hi
    rw [at' i _ (by omega)]; exact h.lead i c hi hc
  · show cutN n (R i) c = 0
    rw [at' i _ hc]; exact h.rest i c hk hi hc
/-- The rows with a row of the unit behind each. -/
def augI (n : Nat) (M : Nat → Nat → Nat) : Nat → Nat → Nat := fun i j => if j < n then M i j else if j = n + i then 1 else 0
theorem augI_el {D : FD} (F : Fld D) {n : Nat} {M : Nat → Nat → Nat} {i : Nat} (h : El D (M i)) : El D (augI n M i) := fun j => by
  unfold augI
  by_cases e : j < n
  · rw [if_pos e]; exact h j
  · rw [if_neg e]
    by_cases e2 : j = n + i
    · rw [if_pos e2]; exact one_lt' F
    · rw [if_neg e2]; exact zero_lt' F
theorem augI_bd {n m : Nat} {M : Nat → Nat → Nat} {i : Nat} (hi : i < m) : Bd (n + m) (augI n M i) := fun j hj => by
  unfold augI
  rw [if_neg (by omega), if_neg (by omega)]
theorem augI_cut {n : Nat} {M : Nat → Nat → Nat} {i : Nat} (h : Bd n (M i)) : cutN n (augI n M i) = M i := by
  funext j
  unfold cutN augI
  by_cases e : j < n
  · rw [if_pos e, if_pos e]
  · rw [if_neg e, h j (by omega)]
/-- How many begin in the first n columns: as many as of the rows themselves. -/
theorem inv_rank {D : FD} (F : Fld D) {m n n' k kr : Nat} {R M Rr : Nat → Nat → Nat} {p pr : Nat → Nat} (hM : ∀ i, i < m → El D (M i) ∧ Bd n (M i)) (h : Rdg D m n' n k R p) (hs : ∀ v, Spn D (RowsOf m R) v ↔ Spn D (RowsOf m (augI n M)) v) (hr : RRE D n kr Rr pr) (hsr : ∀ v, Spn D (RowsOf kr Rr) v ↔ Spn D (RowsOf m M) v) : k = kr := by
  obtain ⟨h1, _, h2⟩ := rdg_end F (rdg_cut F h)
  have hel := fun i (hi : i < m) => augI_el F (n := n) (hM i hi).1
  have e : ∀ v, Spn D (RowsOf m fun i => cutN n (augI n M i)) v ↔ Spn D (RowsOf m M) v := fun v => by
    constructor
    · refine fun hv => spn_le F (fun u hu => ?_) hv
      obtain ⟨i, hi, rfl⟩ := hu
      have e2 := augI_cut (hM i hi).2
      show Spn D (RowsOf m M) (cutN n (augI n M i))
      rw [e2]; exact spn_mem F (hM i hi).1 ⟨i, hi, rfl⟩
    · refine fun hv => spn_le F (fun u hu => ?_) hv
      obtain ⟨i, hi, rfl⟩ := hu
      exact spn_mem F (hM i hi).1 ⟨i, hi, (augI_cut (hM i hi).2).symm⟩
  refine (rre_uniq F h1 hr (fun v => (h2 v).trans (Iff.trans ?_ ((e v).trans (hsr v).symm)))).1
  exact ⟨fun hv => spn_cut_le F h.el hel (fun u hu => (hs u).1 hu) hv, fun hv => spn_cut_le F hel h.el (fun u hu => (hs u).2 hu) hv⟩
/-- As many columns as rows begin: then row i begins in column i. -/
theorem mono_id {n : Nat} {p : Nat → Nat} (hm : ∀ i j, i < j → j < n → p i < p j) (hl : ∀ i, i < n → p i < n) : ∀ i, i < n → p i = i := by
  have lo : ∀ i, i < n → i ≤ p i := fun i => by
    induction i with
    | zero => intro _; omega
    | succ i ih =>
      intro hi
      have := hm i (i + 1) (by omega) hi
      have := ih (by omega)
      omega
  have hi : ∀ d i, i + d + 1 = n → p i + d < n := fun d => by
    induction d with
    | zero => intro i hi; exact hl i (by omega)
    | succ d ih =>
      intro i hi
      have := ih (i + 1) (by omega)
      have := hm i (i + 1) (by omega) (by omega)
      omega
  intro i hin
  have a := lo i hin
  have b := hi (n - i - 1) i (by omega)
  omega
/-- The right half is the inverse. -/
theorem minv_is {D : FD} (F : Fld D) {n : Nat} {R M : Nat → Nat → Nat} {p : Nat → Nat} (h : Rdg D n (n + n) n n R p) (hs : ∀ v, Spn D (RowsOf n R) v ↔ Spn D (RowsOf n (augI n M)) v) (hM : ∀ i, i < n → El D (M i)) (i c : Nat) (hi : i < n) : prodR D (M i) (fun i c => R i (n + c)) n c = if c = i then 1 else 0 := by
  have hid := mono_id h.mono h.lt
  have hre : RRE D (n + n) n R p := ⟨h.el, h.bd, fun i hi => by have := h.lt i hi; omega, h.mono, h.one, h.zero, h.lead⟩
  have hv : Spn D (RowsOf n R) (augI n M i) := (hs _).2 (spn_mem F (augI_el F (hM i hi)) ⟨i, hi, rfl⟩)
  have h1 := congrFun (rre_coord F hre hv) (n + c)
  have key : ∀ k, k ≤ n → lcR D R p (augI n M i) k (n + c) = prodR D (M i) (fun i c => R i (n + c)) k c := fun k => by
    induction k with
    | zero => intro _; rfl
    | succ k ih =>
      intro hk
      show D.ad (lcR D R p (augI n M i) k (n + c)) (D.mul (augI n M i (p k)) (R k (n + c))) = D.ad (prodR D (M i) (fun i c => R i (n + c)) k c) (D.mul (M i k) (R k (n + c)))
      rw [ih (by omega), hid k (by omega)]
      have e : augI n M i k = M i k := by unfold augI; rw [if_pos (by omega)]
      rw [e]
  rw [key n (Nat.le_refl _)] at h1
  rw [← h1]
  unfold augI
  rw [if_neg (by omega)]
  by_cases e : c = i
  · rw [if_pos e, if_pos (by omega)]
  · rw [if_neg e, if_neg (by omega)]
end Go.Proofs.Ytpccbiinfdppnad

/- The reference's matrices: linear equations (Solve). -/
namespace Go.Proofs.Ytpccbiinfdppnad
open Go.RowKit Go.Sort

theorem zl_aug {n : Nat} {M : Nat → Nat → Nat} {b : Nat → Nat} (i : Nat) : zl n (fun j => ((M i j : Nat) : Int)) ++ zl 1 (fun _ => ((b i : Nat) : Int)) = zl (n + 1) (fun j => ((aug n M b i j : Nat) : Int)) := by
  rw [zl_succ n (fun j => ((aug n M b i j : Nat) : Int))]
  congr 1
  · exact zl_congr (fun j hj => by unfold aug; rw [if_neg (by omega)])
  · show [((b i : Nat) : Int)] = [((aug n M b i n : Nat) : Int)]
    unfold aug
    rw [if_pos rfl]
theorem OwnI.elm {base : Nat} {v : Value} {n : Nat} {c : Nat → Nat} {w : World} (h : OwnI base v (zl (n + 1) fun j => ((c j : Nat) : Int)) w) : Elm v (n, c) w := by
  have h1 := h.ownC c (fun k hk => by rw [zl_len] at hk; rw [zl_getD _ _ k hk])
  rw [zl_len] at h1
  exact h1.elm

set_option maxHeartbeats 8000000 in
set_option maxRecDepth 100000 in
theorem rsolve_any {D : FD} (hD : D ∈ fieldsL) (gen gm cm : Nat) {ao bo : Option Addr} {m n L ca cb : Nat} {M : Nat → Nat → Nat} {b : Nat → Nat} {w : World} (hL : L = n + 1) (hm0 : 0 < m) (hm : m ≤ 1000) (hn : n ≤ 900) (hel : ∀ i, i < m → El D (M i) ∧ Bd (n + 1) (M i)) (hA : MatR ao m n M w) (hb : Sl bo m b w) (hbq : ∀ i, i < m → b i < D.q) (hM : ModAt D (.slice (some ⟨gm, 0, none⟩) (D.m + 1) cm) D.md w) :
    Calls Try.prog 39 #[.agg #[.int .i64 D.q, .int .i64 D.p, .int .i64 D.m, .int .i64 gen, .slice (some ⟨gm, 0, none⟩) (D.m + 1) cm], .slice ao m ca, .slice bo m cb] w fun e w' => Below w.heap.size w w' ∧ ∃ k R p, k ≤ m ∧ RRE D (L + 1) k R p ∧ (∀ v, Spn D (RowsOf k R) v ↔ Spn D (RowsOf m (aug L M b)) v) ∧
      (((∃ i, i < k ∧ p i = L) ∧ e = .returned (.tuple #[.slice none 0 0, .bool false])) ∨ ((∀ i, i < k → p i ≠ L) ∧ ∃ v, e = .returned (.tuple #[v, .bool true]) ∧ KI v (zl L fun j => ((slx R p L k j : Nat) : Int)) w')) := by
  have hbl : Below w.heap.size w (w.alloc (.cells #[.int .i64 D.q, .int .i64 D.p, .int .i64 D.m, .int .i64 gen, .slice (some ⟨gm, 0, none⟩) (D.m + 1) cm] 28)) := (Below.refl _ _).alloc (Nat.le_refl _) _
  have HF : Hid (D ∈ fieldsL ∧ (∀ i, i < m → El D (M i) ∧ Bd (n + 1) (M i)) ∧ MatR ao m n M w ∧ Sl bo m b w ∧ (∀ i, i < m → b i < D.q) ∧ ModAt D (.slice (some ⟨gm, 0, none⟩) (D.m + 1) cm) D.md w) := ⟨hD, hel, hA, hb, hbq, hM⟩
  have HB0 : Hid (Box w.heap.size D gen (.slice (some ⟨gm, 0, none⟩) (D.m + 1) cm) (w.alloc (.cells #[.int .i64 D.q, .int .i64 D.p, .int .i64 D.m, .int .i64 gen, .slice (some ⟨gm, 0, none⟩) (D.m + 1) cm] 28)) ∧ Below w.heap.size w (w.alloc (.cells #[.int .i64 D.q, .int .i64 D.p, .int .i64 D.m, .int .i64 gen, .slice (some ⟨gm, 0, none⟩) (D.m + 1) cm] 28))) := ⟨box_new D gen _ w, hbl⟩
  obtain ⟨bA, oA, u0, eA, hc0, hr0⟩ := (hA.below hbl) 0 hm0
  subst eA
  obtain ⟨x0, cx0, rfl, _⟩ := hr0
  rw [show oA + 0 = oA from rfl, ← hL] at hc0
  have HN : Hid (L = n + 1) := hL
  have hL9 : L ≤ 901 := by omega
  have hm0' : (0 : Int) < (m : Int) := by omega
  clear hD hel hA hM hbl hL hb hbq
  go_enter Try.func39, Try.ntmps39
  go_wp2_with fail
  obtain ⟨w0, hw0⟩ : ∃ w0, w0 = (w.alloc (.cells #[.int .i64 D.q, .int .i64 D.p, .int .i64 D.m, .int .i64 gen, .slice (some ⟨gm, 0, none⟩) (D.m + 1) cm] 28)) := ⟨_, rfl⟩
  have hs0 : w0.heap.size = w.heap.size + 1 := by rw [hw0]; simp
  rw [← hw0] at HB0 hc0 ⊢
  clear hw0 hc0
  go_loopw [9, 10] (fun vl vi wr => ∃ i : Nat, i ≤ m ∧ vi = .int .i64 i ∧ Hid (LLs w0.heap.size vl (rl i L (aug L M b)) wr ∧ Below w0.heap.size w0 wr)) (fun _ vi _ => m - (intOf vi).toNat)
  case atStart => exact ⟨0, by omega, rfl, ⟨LLs.nil _ _, Below.refl _ _⟩⟩
  case round =>
    obtain ⟨i, hi, rfl, HG⟩ := hrel
    rename World => wA
    by_cases hlt : i < m
    · have hib : (i : Int) < (m : Int) := by omega
      have hib0 : (0 : Int) ≤ (i : Int) := by omega
      have hbA := bel_up' HB0.out.2 HG.out.2
      obtain ⟨bA', oA', uA, eA', hcA, hrA⟩ := (HF.out.2.2.1.below hbA) i hlt
      cases eA'
      obtain ⟨xA, cxA, rfl, hsA, hlA, hnA, hleA, hcapA⟩ := hrA
      rw [← HN.out] at hcA hsA
      have hbs := slz_below HF.out.2.2.2.1 hbA
      obtain ⟨bb, ob, rfl, hcb⟩ := hbs i hlt
      obtain ⟨y, hy⟩ : ∃ y, y = b i := ⟨_, rfl⟩
      replace hcb : wA.cell? ⟨bb, ob + i, none⟩ = some (.int .i64 ((b i : Nat) : Int)) := hcb
      rw [← hy] at hcb
      have HCp : Hid (∀ w1, Below wA.heap.size wA w1 → Calls Try.prog 45 #[.slice xA L cxA] w1 fun e w' => ∃ v, e = .returned v ∧ OwnI w1.heap.size v (zl L fun j => ((M i j : Nat) : Int)) w' ∧ Below w1.heap.size w1 w') := fun w1 h1 =>
        copyI_any (hsA.below h1 hlA) (by omega) hnA (hlA.mono h1.size)
      obtain ⟨lst, hov, hels⟩ := HG.out.1
      have HV : Hid (OwnV w0.heap.size u9 lst wA ∧ Elms lst (rl i L (aug L M b)) wA ∧ lst.length ≤ 1000) := ⟨hov, hels, by rw [hels.1, rl_len]; omega⟩
      have HY : Hid (y = b i) := hy
      clear hov hels hsA hlA hnA hleA hcapA hbs hy
      have hbc : Below wA.heap.size wA wA := Below.refl _ _
      have HK : Hid ((∀ wx, Below w0.heap.size w0 wx → wx.cell? ⟨bA, oA + i, none⟩ = some (.slice xA L cxA)) ∧ ∀ wx, Below w0.heap.size w0 wx → wx.cell? ⟨bb, ob + i, none⟩ = some (.int .i64 (y : Nat))) := by
        have hlA : bA < w.heap.size := by
          obtain ⟨b1, o1, u1, e1, hc1, _⟩ := HF.out.2.2.1 i hlt
          cases e1
          exact cell_lt hc1
        have hlB : bb < w.heap.size := by
          obtain ⟨b1, o1, e1, hc1⟩ := HF.out.2.2.2.1 i hlt
          cases e1
          exact cell_lt hc1
        refine ⟨fun wx hx => ?_, fun wx hx => ?_⟩
        · exact ((bcell hx).1 bA (oA + i) (by omega)).trans (((bcell HG.out.2).1 bA (oA + i) (by omega)).symm.trans hcA)
        · exact ((bcell hx).1 bb (ob + i) (by omega)).trans (((bcell HG.out.2).1 bb (ob + i) (by omega)).symm.trans hcb)
      have hz : Below w0.heap.size w0 wA := HG.out.2
      go_wp2
      refine wp_region_noPanic ?_
      go_region_held3 (fun w' => w'.cell? ⟨bA, oA + i, none⟩ = some (.slice xA L cxA) ∧ w'.cell? ⟨bb, ob + i, none⟩ = some (.int .i64 (y : Nat)))
        (first | go_keep | exact ⟨HK.out.1 _ (by first | exact hz | exact hz.drew | exact hz.alloc hz.size _ | exact hz.drew.alloc hz.size _), HK.out.2 _ (by first | exact hz | exact hz.drew | exact hz.alloc hz.size _ | exact hz.drew.alloc hz.size _)⟩)
        (first
          | (go_at_call 45; refine (HCp.out _ (by first | exact hbc | exact hbc.drew | exact hbc.alloc (Nat.le_refl _) _ | exact hbc.drew.alloc (Nat.le_refl _) _)).mono ?_; rintro e w2 ⟨v2, rfl, ho2, hb2⟩; replace hbc : Below wA.heap.size wA w2 := bel_up' (by first | exact hbc | exact hbc.drew | exact hbc.alloc (Nat.le_refl _) _ | exact hbc.drew.alloc (Nat.le_refl _) _) hb2; replace hz : Below w0.heap.size w0 w2 := HG.out.2.trans (hbc.mono HG.out.2.size))
          | (show (if Region.wanted (Oper.mk (some 36) _ _ _ _ _) _ = true then _ else _); refine step_append_ints (by rfl) _ _ (by rfl) _ v2 _ (by rfl) (by first | exact ho2 | exact ho2.alloc _) _ _ _ (fun _ => ((y : Nat) : Int)) (by rfl) (SlZ.one (by first | (simp; done) | exact ((bcell hb2).1 _ _ (by show _ < (wA.alloc _).heap.size; simp)).trans (by show (wA.alloc _).cell? _ = _; simp))) (fun e => by cases e) (by rw [zl_len]; omega) (by have := hbc.size; first | exact hb2.size | exact Nat.le_trans hb2.size (by simp) | omega | (simp; omega)) wA (by first | exact hbc | exact hbc.alloc hbc.size _) (by first | exact Nat.le_refl _ | (show wA.heap.size ≤ (wA.alloc _).heap.size; simp; done) | (simp; done)) ?_; intro v3 w3 ho3 hg3 hB3; rw [HY.out, zl_aug] at ho3; replace hbc : Below wA.heap.size wA w3 := hB3; replace hz : Below w0.heap.size w0 w3 := HG.out.2.trans (hB3.mono HG.out.2.size); obtain ⟨g3, c3, rfl, he31, he32, he33⟩ := ho3.elm)
          | (show (if Region.wanted (Oper.mk (some 38) _ _ _ _ _) _ = true then _ else _); refine step_append_sls (by rfl) _ _ (by rfl) w0.heap.size u9 lst (by rfl) (HV.out.1.below (hB3.alloc hB3.size _) (Nat.le_refl _)) _ _ _ (fun _ => .slice (some ⟨g3, 0, none⟩) (L + 1) c3) (by rfl) (SlV.one (by simp)) (fun _ _ => rfl) (fun e => by cases e) (by have := HV.out.2.2; omega) (by have h1 := hB3.size; have h2 := HG.out.2.size; simp; omega) w0 (HG.out.2.trans ((hB3.alloc hB3.size _).mono HG.out.2.size)) (Nat.le_refl _) ?_; intro v4 w4 ho4 hg4 hB4; replace hz := hB4)
          | fail)
      all_goals
        have hal : Below w3.heap.size w3 (w3.alloc (.cells #[.slice (some ⟨g3, 0, none⟩) (L + 1) c3] 22)) := (Below.refl _ _).alloc (Nat.le_refl _) _
        have hb3 := bel_up' hB3 hal
        have hoV := HV.out.1.below hb3 (Nat.le_refl _)
        have HR : Hid (LLs w0.heap.size v4 (rl (i + 1) L (aug L M b)) w4 ∧ Below w0.heap.size w0 w4) := by
          refine ⟨⟨_, ho4, ?_⟩, hB4⟩
          have h := ((HV.out.2.1.below hb3 (Nat.le_refl _)).snoc (ho3.elm.below hal (Nat.le_refl _))).grown hoV hg4
          rw [rl_succ]; exact h
        clear ho2 hb2 hbc ho3 hg3 hB3 ho4 hg4 hB4 hz hal hb3 hoV he31 he32 he33
        refine NoPanic.normal ?_
        go_wp2
        go_roundw
        case rel => exact ⟨i + 1, by omega, by go_num, HR.out⟩
        case measure => simp [intOf]; omega
    · have hib : ¬ (i : Int) < (m : Int) := by omega
      have hie : i = m := by omega
      subst hie
      have hbx := HB0.out.1.below HG.out.2 (by omega)
      have k0 := hbx.c0
      have k1 := hbx.c1
      have k2 := hbx.c2
      have k3 := hbx.c3
      have k4 := hbx.c4
      clear hbx
      obtain ⟨lo, lc, ls, rfl, hlw⟩ := HG.out.1.rws
      have HL : Hid (MatR lo i L (aug L M b) wA) := hlw.matR
      clear hlw
      have HAe : Hid (∀ j, j < i → El D (aug L M b j) ∧ Bd (L + 1) (aug L M b j)) := fun j hj => ⟨aug_el (HF.out.2.1 j hj).1 (HF.out.2.2.2.2.1 j hj), aug_bd (by rw [HN.out]; exact (HF.out.2.1 j hj).2)⟩
      go_wp2_with fail
      refine (rreduce_any HF.out.1 gen gm cm (by omega) (by omega) HAe.out HL.out (HF.out.2.2.2.2.2.below (bel_up' HB0.out.2 HG.out.2))).mono ?_
      rintro e w7 ⟨vr, vp, k, R, p, rfl, hk, hvr, hvp, hR, hS, _, hb7⟩
      obtain ⟨ro, rc, vs, rfl, hrw⟩ := hvr.rws
      obtain ⟨po, pc, rfl, hpl⟩ := hvp.argL
      have H7 : Hid (MatR ro k L R w7 ∧ ArgL po k pc (fun j => ((p j : Nat) : Int)) w7 ∧ RRE D (L + 1) k R p ∧ (∀ v, Spn D (RowsOf k R) v ↔ Spn D (RowsOf i (aug L M b)) v) ∧ Below w.heap.size w w7) := ⟨hrw.matR, hpl, hR, hS, bel_up' (bel_up' HB0.out.2 HG.out.2) hb7⟩
      clear hvr hvp hR hS hb7 hrw hpl k0 k1 k2 k3 k4
      go_wp2_with (at_make; refine make_int rfl _ _ rfl _ L rfl rfl rfl (by omega) ?_; intro w8 hown8 hgrow8)
      have H8 : Hid (Row w7.heap.size L pnil w8 ∧ Below w7.heap.size w7 w8) := ⟨row_zeros hown8, below_grown hgrow8 (Nat.le_refl _) (fun k hk => by simp at hk)⟩
      clear hown8 hgrow8
      obtain ⟨g, hg⟩ : ∃ g, g = w7.heap.size := ⟨_, rfl⟩
      have H8' : Hid (Row g L pnil w8 ∧ Below w7.heap.size w7 w8) := by rw [hg]; exact H8.out
      rw [← hg]
      have hgD : w7.heap.size ≤ g := by omega
      clear H8 hg
      go_loopw [14] (fun vj wi => ∃ j : Nat, j ≤ k ∧ vj = .int .i64 j ∧ Hid (Row g L (slx R p L j) wi ∧ Below w7.heap.size w7 wi ∧ ∀ q, q < j → p q ≠ L)) (fun vj _ => k - (intOf vj).toNat)
      case atStart => exact ⟨0, by omega, rfl, H8'.out.1.congr (fun _ _ => rfl), H8'.out.2, fun q hq => by omega⟩
      case round =>
        clear H8'
        obtain ⟨j, hj, rfl, HK⟩ := hrel
        rename World => wB
        by_cases hjk : j < k
        · have hjb : (j : Int) < (k : Int) := by omega
          have hjb0 : (0 : Int) ≤ (j : Int) := by omega
          obtain ⟨bp, op, rfl, hcp⟩ := (H7.out.2.1.sl.below HK.out.2.1 H7.out.2.1.lt) j hjk
          replace hcp : wB.cell? ⟨bp, op + j, none⟩ = some (.int .i64 ((p j : Nat) : Int)) := hcp
          obtain ⟨y, hy⟩ : ∃ y, y = p j := ⟨_, rfl⟩
          rw [← hy] at hcp
          by_cases hyL : y = L
          · have hz : ((y : Int) == (L : Int)) = true := by rw [hyL]; simp
            have HE : Hid (∃ i, i < k ∧ p i = L) := ⟨j, hjk, by rw [← hy, hyL]⟩
            clear hy hyL
            go_wp2
            go_ret2
            first
              | exact ⟨bel_up' H7.out.2.2.2.2 HK.out.2.1, k, R, p, hk, H7.out.2.2.1, H7.out.2.2.2.1, Or.inl ⟨HE.out, rfl⟩⟩
              | exact ⟨bel_up' H7.out.2.2.2.2 HK.out.2.1, k, hk, R, p, H7.out.2.2.1, H7.out.2.2.2.1, Or.inl ⟨HE.out, rfl⟩⟩
          · have hz : ((y : Int) == (L : Int)) = false := by rw [beq_eq_false_iff_ne]; omega
            have hyL2 : y < L := by have := H7.out.2.2.1.lt j hjk; omega
            have hyb : (y : Int) < (L : Int) := by omega
            obtain ⟨bA', oA', uA, rfl, hcA, hrA⟩ := (H7.out.1.below HK.out.2.1) j hjk
            obtain ⟨xA, cxA, rfl, hsA, hlA, _⟩ := hrA
            obtain ⟨bx, ox, rfl, hcx⟩ := hsA L (by omega)
            obtain ⟨x, hx⟩ : ∃ x, x = R j L := ⟨_, rfl⟩
            rw [← hx] at hcx
            have hLb : (L : Int) < (L : Int) + 1 := by omega
            have hcy := HK.out.1.cell y hyL2
            have hfy := HK.out.1.free y
            have HV : Hid (∀ c, c < L → slx R p L (j + 1) c = if c = y then x else slx R p L j c) := fun c _ => by rw [hx, hy]; rfl
            have HP : Hid (∀ q, q < j + 1 → p q ≠ L) := fun q hq => by
              by_cases e : q = j
              · rw [e, ← hy]; exact hyL
              · exact HK.out.2.2 q (by omega)
            clear hy hx hyL hsA hlA
            go_wp2
            refine quiet_tail 13 (by kernel_rfl) (by kernel_rfl) ?_
            simp only [List.take_succ_cons, List.take_zero, List.drop_succ_cons, List.drop_zero]
            repeat (go_big_quiet_step (fail))
            refine wpQuiet_nil ?_
            intro _ hw'
            obtain ⟨nq, hw''⟩ := hw'
            subst hw''
            go_wp2
            go_roundw
            case rel => exact ⟨j + 1, by omega, by go_num, (HK.out.1.drewN nq).store y x HV.out, (bel_up' HK.out.2.1 ⟨rfl, rfl, rfl, Nat.le_refl _, fun _ _ => rfl⟩ : Below w7.heap.size w7 (wB.drewN nq)).setCell hgD _, HP.out⟩
            case measure => simp [intOf]; omega
        · have hjb : ¬ (j : Int) < (k : Int) := by omega
          have hje : j = k := by omega
          subst hje
          have HE : Hid (KI (.slice (some ⟨g, 0, none⟩) L L) (zl L fun c => ((slx R p L j c : Nat) : Int)) wB) :=
            (OwnP.of_row (base := 0) HK.out.1 (Nat.le_refl _) (Nat.le_refl _) (by omega) (Nat.zero_le _)).ki (by omega)
          go_wp2
          go_ret2
          exact ⟨bel_up' H7.out.2.2.2.2 HK.out.2.1, j, hk, R, p, H7.out.2.2.1, H7.out.2.2.2.1, Or.inr ⟨HK.out.2.2, _, rfl, HE.out⟩⟩
end Go.Proofs.Ytpccbiinfdppnad

/- The program's matrices: linear equations (Solve). -/
namespace Go.Proofs.Ytpccbiinfdppnad
open Go.RowKit

theorem allHas_lt {D : FD} {y : Nat → Int} {m : Nat} (h : D.allHas y m = true) (i : Nat) (hi : i < m) : zc m y i < D.q ∧ y i = ((zc m y i : Nat) : Int) := by
  have h1 := allHas_iff.1 h i hi
  obtain ⟨x, hx, hq⟩ := has_nat h1
  unfold zc
  rw [if_pos hi, hx]
  exact ⟨by simpa using hq, by simp⟩
theorem zc_ge {m i : Nat} {y : Nat → Int} (hi : m ≤ i) : zc m y i = 0 := by unfold zc; rw [if_neg (by omega)]

end Go.Proofs.Ytpccbiinfdppnad

/- The program's matrices: inverses (rightOf, Inverse). -/
namespace Go.Proofs.Ytpccbiinfdppnad
open Go.RowKit

/-- m rows of m numbers: the right half of the rows R. -/
def InvR (G2 m : Nat) (h : Nat → Nat) (R : Nat → Nat → Nat) (w : World) : Prop := ∀ i, i < m → w.cell? ⟨G2, i, none⟩ = some (.slice (some ⟨h i, m, none⟩) m m) ∧ Sl (some ⟨h i, m, none⟩) m (fun c => R i (m + c)) w

end Go.Proofs.Ytpccbiinfdppnad

/- Plain mathematics: there is a reduced form. -/
namespace Go.Proofs.Ytpccbiinfdppnad

theorem rdg_ex {D : FD} (hD : D ∈ fieldsL) {m n : Nat} {R : Nat → Nat → Nat} (he : ∀ i, i < m → El D (R i)) (hb : ∀ i, i < m → Bd n (R i)) : ∀ c, ∃ k R' p, Rdg D m n c k R' p ∧ ∀ v, Spn D (RowsOf m R') v ↔ Spn D (RowsOf m R) v
  | 0 => ⟨0, R, fun _ => 0, rdg_start he hb _, fun _ => Iff.rfl⟩
  | c + 1 => by
    obtain ⟨k, R', p, h, hs⟩ := rdg_ex hD he hb c
    by_cases hx : ∃ i, k ≤ i ∧ i < m ∧ R' i c ≠ 0
    · obtain ⟨b, h1, h2, h3⟩ := hx
      have hk : k < m := by omega
      have hw := rdg_swap h h1 h2
      have h0 : swpR R' k b k c ≠ 0 := by unfold swpR; rw [if_pos rfl]; exact h3
      exact ⟨k + 1, _, _, rdg_clear hD hw hk h0, fun v => by rw [spn_clear hD hk hw.el h0 v, spn_swap (fld hD) hk h2 h.el v]; exact hs v⟩
    · exact ⟨k, R', p, rdg_skip h (fun i h1 h2 => Classical.byContradiction fun h3 => hx ⟨i, h1, h2, h3⟩), hs⟩
theorem rre_ex {D : FD} (hD : D ∈ fieldsL) {m n : Nat} {R : Nat → Nat → Nat} (he : ∀ i, i < m → El D (R i)) (hb : ∀ i, i < m → Bd n (R i)) : ∃ k R' p, k ≤ m ∧ RRE D n k R' p ∧ ∀ v, Spn D (RowsOf k R') v ↔ Spn D (RowsOf m R) v := by
  obtain ⟨k, R', p, h, hs⟩ := rdg_ex hD he hb n
  obtain ⟨h1, _, h2⟩ := rdg_end (fld hD) h
  exact ⟨k, R', p, h.le, h1, fun v => (h2 v).trans (hs v)⟩
end Go.Proofs.Ytpccbiinfdppnad
