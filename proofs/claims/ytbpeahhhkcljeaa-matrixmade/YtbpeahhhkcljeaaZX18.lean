/- Texts of ours, one behind the other: X18 S5. -/
import Derived.Test.YtbpeahhhkcljeaaZX17
import Derived.Test.YtbpeahhhkcljeaaZS3
import Derived.Test.YtbpeahhhkcljeaaZS4
/- The program's matrices: what makes all rows 0 (Null); matrices as they are told. -/
namespace Go.Proofs.Ytbpeahhhkcljeaa
open Go.RowKit

/-- The slice v reads as k rows R of n elements. -/
def RL (v : Value) (k n : Nat) (R : Nat → Nat → Nat) (w : World) : Prop := ∃ ao ca, v = .slice ao k ca ∧ ∀ i, i < k → ∃ b off x cx, ao = some ⟨b, off, none⟩ ∧ w.cell? ⟨b, off + i, none⟩ = some (.slice x n cx) ∧ Sl x n (R i) w
theorem RL.below {v : Value} {k n : Nat} {R : Nat → Nat → Nat} {w w' : World} (h : RL v k n R w) (hb : Below w.heap.size w w') : RL v k n R w' := by
  obtain ⟨ao, ca, e, h⟩ := h
  refine ⟨ao, ca, e, fun i hi => ?_⟩
  obtain ⟨b, off, x, cx, e1, hc, hs⟩ := h i hi
  exact ⟨b, off, x, cx, e1, ((bcell hb).1 b (off + i) (cell_lt hc)).trans hc, slz_below hs hb⟩
theorem RL.congr {v : Value} {k n : Nat} {R R' : Nat → Nat → Nat} {w : World} (h : RL v k n R w) (e : ∀ i, i < k → R i = R' i) : RL v k n R' w := by
  obtain ⟨ao, ca, e1, h⟩ := h
  exact ⟨ao, ca, e1, fun i hi => by rw [← e i hi]; exact h i hi⟩
theorem Mx.rl {B G m k j n : Nat} {R : Nat → Nat → Nat} {h : Nat → Nat} {w : World} (H : Mx B G m k n R h w) (hj : j ≤ k) (mc : Nat) : RL (.slice (some ⟨G, 0, none⟩) j mc) j n R w :=
  ⟨_, _, rfl, fun i hi => ⟨G, 0, _, n, rfl, by rw [Nat.zero_add]; exact H.cell i (by omega), (H.row i (by omega)).sl (Nat.le_refl _)⟩⟩
theorem LLs.rl {base : Nat} {v : Value} {k n : Nat} {R : Nat → Nat → Nat} {w : World} (h : LLs base v (rl k n R) w) : RL v k (n + 1) R w := by
  obtain ⟨ro, rc, vs, rfl, hw⟩ := h.rws
  refine ⟨ro, rc, rfl, fun i hi => ?_⟩
  obtain ⟨g, e, hc, _⟩ := hw.cell i hi
  obtain ⟨x, cx, e2, hs, _⟩ := (hw.row i hi).rwv
  exact ⟨g, 0, x, cx, e, by rw [Nat.zero_add, ← e2]; exact hc, hs⟩
/-- The slice v has k rows R of n elements, in blocks of their own behind block number B, of numbers; or there is none. -/
def MV (B : Nat) (v : Value) (k n : Nat) (R : Nat → Nat → Nat) (w : World) : Prop := (k = 0 ∧ ∃ ao ca, v = .slice ao 0 ca) ∨ ∃ G mc m h, v = .slice (some ⟨G, 0, none⟩) k mc ∧ Mx B G m k n R h w
theorem MV.rl {B : Nat} {v : Value} {k n : Nat} {R : Nat → Nat → Nat} {w : World} (h : MV B v k n R w) : RL v k n R w := by
  rcases h with ⟨e, ao, ca, ev⟩ | ⟨G, mc, m, hh, ev, hm⟩
  · rw [e, ev]
    exact ⟨ao, ca, rfl, fun i hi => by omega⟩
  · rw [ev]; exact hm.rl (Nat.le_refl _) mc
theorem MV.below {B : Nat} {v : Value} {k n : Nat} {R : Nat → Nat → Nat} {w w' : World} (h : MV B v k n R w) (hb : Below w.heap.size w w') : MV B v k n R w' := by
  rcases h with h | ⟨G, mc, m, hh, ev, hm⟩
  · exact Or.inl h
  · exact Or.inr ⟨G, mc, m, hh, ev, hm.below hb⟩
theorem RL.nil (n : Nat) (R : Nat → Nat → Nat) (w : World) : RL (.slice none 0 0) 0 n R w := ⟨none, 0, rfl, fun i hi => by omega⟩

set_option maxHeartbeats 2000000 in
set_option maxRecDepth 100000 in
theorem indexNil_any {fv : Value} {w : World} :
    Calls Try.prog 107 #[.slice none 0 0, fv] w fun e w' => w' = w ∧ e = .returned (.int .i64 (-1)) := by
  go_enter Try.func107, Try.ntmps107
  go_wp2
  refine wp_loop_rounds 1 ?_
  rw [rounds_succ]
  go_wp2
  go_ret
  exact ⟨rfl, rfl⟩

set_option maxHeartbeats 2000000 in
set_option maxRecDepth 100000 in
theorem reduceNil_any {pf : Value} {cols : Nat} {w : World} (hc : cols ≤ 1000000) :
    Calls Try.prog 82 #[pf, .slice none 0 0, .int .i64 cols] w fun e w' => e = .returned (.slice none 0 0) ∧ Below w.heap.size w w' := by
  go_enter Try.func82, Try.ntmps82
  go_wp2
  go_loopw [7, 12] (fun pv i wr => ∃ c : Nat, c ≤ cols ∧ pv = .slice none 0 0 ∧ i = .int .i64 c ∧ Hid (Below w.heap.size w wr)) (fun _ i _ => cols - (intOf i).toNat)
  case atStart => exact ⟨0, by omega, rfl, rfl, Below.refl _ _⟩
  case round =>
    obtain ⟨c, hc, rfl, rfl, HG⟩ := hrel
    rename World => wA
    by_cases hlt : c < cols
    · have hib : (c : Int) < (cols : Int) := by omega
      have HS : Hid (∀ o, Below w.heap.size w (wA.alloc o)) := fun o => HG.out.alloc HG.out.size _
      go_wp2_with (go_at_call 107; refine indexNil_any.mono ?_; rintro e w2 ⟨hw, rfl⟩; have hw := hw.symm; subst hw)
      go_roundw
      case rel => exact ⟨c + 1, by omega, rfl, by go_num, HS.out _⟩
      case measure => simp [intOf]; omega
    · go_wp2
      go_ret
      exact ⟨rfl, HG.out⟩

theorem Mx.any {B G m n n' : Nat} {R : Nat → Nat → Nat} {h : Nat → Nat} {w : World} (H : Mx B G m 0 n R h w) : Mx B G m 0 n' R h w :=
  ⟨by obtain ⟨f, hf, _⟩ := H.outer; exact ⟨f, hf, fun i hi => by omega⟩, fun i hi => by omega, H.geG, fun i hi => by omega, fun i hi => by omega, fun i hi => by omega, H.le⟩

set_option maxHeartbeats 8000000 in
set_option maxRecDepth 100000 in
theorem mnull_any {D : FD} (hD : D ∈ fieldsL) {ao : Option Addr} {m ca : Nat} {A : Nat → Option Addr} {N C : Nat → Nat} {Z : Nat → Nat → Int} {w : World} (ha : MatZ ao m A N C Z w) (hm : m ≤ 1000000) :
    Calls Try.prog 38 #[.int .i64 D.q, .slice ao m ca] w fun e w' => Below w.heap.size w w' ∧
      ((D.mchk m N Z ≠ 0 ∧ e = .returned (.tuple #[.slice none 0 0, .int .i64 (D.mchk m N Z)])) ∨
       (D.mchk m N Z = 0 ∧ ∃ v k R p k2 R2 p2 W, e = .returned (.tuple #[v, .int .i64 0]) ∧ (m = 0 → W = 0) ∧ (0 < m → W = N 0) ∧ RRE D W k R p ∧ (∀ v, Spn D (RowsOf k R) v ↔ Spn D (RowsOf m (mzc N Z)) v) ∧
         MV w.heap.size v (nct k p W) W R2 w' ∧ k2 ≤ nct k p W ∧ RRE D W k2 R2 p2 ∧ (∀ v, Spn D (RowsOf k2 R2) v ↔ Spn D (RowsOf (nct k p W) (nul D R p k W)) v))) := by
  have HA : Hid (D ∈ fieldsL ∧ MatZ ao m A N C Z w) := ⟨hD, ha⟩
  clear hD ha
  go_enter Try.func38, Try.ntmps38
  go_wp2_with fail
  refine (mover1_any HA.out.1 HA.out.2 hm).mono ?_
  rintro e w1 ⟨hb1, hr⟩
  rcases hr with ⟨h0, F, T, f, rfl, hat, hF, hT⟩ | ⟨h0, rfl⟩
  · have HW : Hid (D.mchk m N Z = 0 ∧ FAt F T D f w1 ∧ Below w.heap.size w w1 ∧ MatZ ao m A N C Z w1) := ⟨h0, hat, hb1, HA.out.2.below hb1⟩
    clear h0 hat hF hT hb1
    obtain ⟨n, Wd, HN⟩ : ∃ n Wd, Hid (n ≤ 64 ∧ Wd ≤ n + 1 ∧ m ≤ 64 ∧ Wd = (if m = 0 then 0 else N 0) ∧ (0 < m → n + 1 = N 0) ∧ (∀ i, i < m → El D (mzc N Z i) ∧ Bd (n + 1) (mzc N Z i)) ∧ MatR ao m n (mzc N Z) w1) := by
      by_cases hm0 : m = 0
      · exact ⟨0, 0, ⟨by omega, by omega, by omega, by rw [if_pos hm0], fun h => by omega, fun i hi => by omega, fun i hi => by omega⟩⟩
      · obtain ⟨h1, n, h2, h3, h4, h5⟩ := mchk_rows (fld HA.out.1) HW.out.1 HW.out.2.2.2 (by omega)
        exact ⟨n, n + 1, ⟨by omega, by omega, h1, by rw [if_neg hm0, h2], fun _ => h2.symm, fun i hi => (h4 i hi).2, h5⟩⟩
    have hn64 := HN.out.1
    have hWd := HN.out.2.1
    have hm64 := HN.out.2.2.1
    go_wp2_with fail
    refine (wider_any (more := 0) HN.out.2.2.2.2.2.2 (fun i hi => (HN.out.2.2.2.2.2.1 i hi).2) (by omega) (by omega) (by omega)).mono ?_
    rintro e w2 ⟨rfl, ⟨h, hmx⟩, hb2⟩
    have H2 : Hid (Mx w1.heap.size w1.heap.size m m (n + 1) (mzc N Z) h w2 ∧ Below w1.heap.size w1 w2) := ⟨hmx, hb2⟩
    clear hmx hb2
    have HCw : Hid (∀ wX, Below w1.heap.size w1 wX → Calls Try.prog 52 #[.slice ao m ca] wX fun e w' => e = .returned (.int .i64 (Wd : Int)) ∧ w' = wX) := fun wX hX => by
      have h := width_any (ca := ca) (HW.out.2.2.2.below hX)
      rw [← HN.out.2.2.2.1] at h; exact h
    go_wp2_with (go_at_call 52; refine (HCw.out _ H2.out.2).mono ?_; rintro e w' ⟨rfl, hw⟩; have hw := hw.symm; subst hw)
    refine (reduce_any HA.out.1 (HW.out.2.1.below H2.out.2 HW.out.2.1.ltF HW.out.2.1.ltT) HW.out.2.1.ltF HW.out.2.1.ltT H2.out.1 (by omega) (by omega) (fun i hi => (HN.out.2.2.2.2.2.1 i hi).1) (fun i hi => (HN.out.2.2.2.2.2.1 i hi).2) hWd).mono ?_
    rintro e w3 ⟨k, R', p, h', pv, rfl, hst⟩
    obtain ⟨po, pc, rfl, _⟩ := hst.own.argL
    have hs1 := HW.out.2.2.1.size
    have hs2 := H2.out.2.size
    have hb13 : Below w1.heap.size w1 w3 := H2.out.2.trans hst.bel
    have H3 : Hid (Mx w1.heap.size w1.heap.size m m Wd R' h' w3 ∧ OwnI w2.heap.size (.slice po k pc) (zl k fun j => ((p j : Nat) : Int)) w3 ∧ RRE D Wd k R' p ∧ (∀ v, Spn D (RowsOf k R') v ↔ Spn D (RowsOf m (mzc N Z)) v) ∧ Below w1.heap.size w1 w3 ∧ (∀ i, i < m → El D (R' i))) := by
      refine ⟨?_, hst.own, ?_⟩
      · by_cases hm0 : m = 0
        · subst hm0
          exact hst.mx.any
        · have : Wd = n + 1 := by rw [HN.out.2.2.2.1, if_neg hm0, HN.out.2.2.2.2.1 (by omega)]
          rw [this]; exact hst.mx
      · by_cases hm0 : m = 0
        · have hk0 : k = 0 := by have := hst.rdg.le; omega
          refine ⟨⟨fun i hi => by omega, fun i hi => by omega, fun i hi => by omega, fun i j _ hj => by omega, fun i hi => by omega, fun i j hi => by omega, fun i c hi => by omega⟩, fun v => ?_, hb13, hst.rdg.el⟩
          constructor
          · exact fun h => spn_le (fld HA.out.1) (fun u ⟨i, hi, _⟩ => by omega) h
          · exact fun h => spn_le (fld HA.out.1) (fun u ⟨i, hi, _⟩ => by omega) h
        · have hR := hst.rdg
          have hWe : Wd = n + 1 := by rw [HN.out.2.2.2.1, if_neg hm0, HN.out.2.2.2.2.1 (by omega)]
          rw [hWe] at hR
          obtain ⟨h1, _, h2⟩ := rdg_end (fld HA.out.1) hR
          rw [hWe]
          exact ⟨h1, fun v => (h2 v).trans (hst.spn v), hb13, hst.rdg.el⟩
    have hkm : k ≤ m := hst.rdg.le
    clear hst hb13
    go_wp2_with (go_at_call 52; refine (HCw.out _ H3.out.2.2.2.2.1).mono ?_; rintro e w' ⟨rfl, hw⟩; have hw := hw.symm; subst hw)
    have hs3 := H3.out.2.2.2.2.1.size
    have hF1 := HW.out.2.1.ltF
    have hT1 := HW.out.2.1.ltT
    refine (madeNought_any HA.out.1 (HW.out.2.1.below H3.out.2.2.2.2.1 hF1 hT1) (by omega) (by omega) H3.out.1 (by omega) (by omega) hkm H3.out.2.2.2.2.2 H3.out.2.1 H3.out.2.2.1.lt).mono ?_
    rintro e w4 ⟨v, h2, rfl, hns, hnil, hb4⟩
    have H4 : Hid (NSt w3.heap.size Wd (nct k p Wd) (nul D R' p k Wd) v h2 w4 ∧ (nct k p Wd = 0 → v = .slice none 0 0) ∧ Below w3.heap.size w3 w4 ∧ Below w1.heap.size w1 w4) := ⟨hns, hnil, hb4, H3.out.2.2.2.2.1.trans (hb4.mono hs3)⟩
    clear hns hnil hb4
    have hcle := nct_le k p Wd
    by_cases hc0 : nct k p Wd = 0
    · have hv := H4.out.2.1 hc0
      subst hv
      go_wp2_with (go_at_call 52; refine (HCw.out _ H4.out.2.2.2).mono ?_; rintro e w' ⟨rfl, hw⟩; have hw := hw.symm; subst hw)
      refine (reduceNil_any (by omega)).mono ?_
      rintro e w5 ⟨rfl, hb5⟩
      have H5 : Hid (Below w.heap.size w w5) := (HW.out.2.2.1.trans (H4.out.2.2.2.mono hs1)).trans (hb5.mono (by have := H4.out.2.2.2.size; omega))
      clear hb5
      go_wp2
      go_ret2
      refine ⟨H5.out, Or.inr ⟨HW.out.1, _, k, R', p, 0, fun _ => pnil, fun _ => 0, Wd, rfl, fun h => by rw [HN.out.2.2.2.1, if_pos h], fun h => by rw [HN.out.2.2.2.1, if_neg (by omega)], H3.out.2.2.1, H3.out.2.2.2.1, Or.inl ⟨hc0, _, _, rfl⟩, by omega, ⟨fun i hi => by omega, fun i hi => by omega, fun i hi => by omega, fun i j _ hj => by omega, fun i hi => by omega, fun i j hi => by omega, fun i c hi => by omega⟩, fun v => ?_⟩⟩
      rw [hc0]
      exact ⟨fun h => spn_le (fld HA.out.1) (fun u ⟨i, hi, _⟩ => by omega) h, fun h => spn_le (fld HA.out.1) (fun u ⟨i, hi, _⟩ => by omega) h⟩
    · obtain ⟨G2, mc2, rfl, hmx2⟩ := H4.out.1.mx (by omega)
      have H4' : Hid (Mx w3.heap.size G2 mc2 (nct k p Wd) Wd (nul D R' p k Wd) h2 w4) := hmx2
      clear hmx2
      obtain ⟨cnt, hcnt⟩ : ∃ cnt, cnt = nct k p Wd := ⟨_, rfl⟩
      rw [← hcnt] at H4' hcle hc0 ⊢
      have HCt : Hid (cnt = nct k p Wd) := hcnt
      clear hcnt
      go_wp2_with (go_at_call 52; refine (HCw.out _ H4.out.2.2.2).mono ?_; rintro e w' ⟨rfl, hw⟩; have hw := hw.symm; subst hw)
      refine (reduce_any HA.out.1 (HW.out.2.1.below H4.out.2.2.2 hF1 hT1) (by omega) (by omega) H4'.out (by omega) (by omega) (fun i hi => nul_el (fld HA.out.1) H3.out.2.2.1.el _ _) (fun i hi => nul_bd H3.out.2.2.1.lt (by have := HCt.out; omega)) (Nat.le_refl _)).mono ?_
      rintro e w5 ⟨k2, R2, p2, h5, pv5, rfl, hst⟩
      have H5 : Hid (RSt D w3.heap.size G2 mc2 cnt Wd (nul D R' p k Wd) w4 Wd k2 R2 p2 h5 pv5 w5) := hst
      clear hst
      go_wp2
      go_ret2
      obtain ⟨hr1, _, hr2⟩ := rdg_end (fld HA.out.1) H5.out.rdg
      refine ⟨(HW.out.2.2.1.trans (H4.out.2.2.2.mono hs1)).trans (H5.out.bel.mono (by omega)), Or.inr ⟨HW.out.1, _, k, R', p, k2, R2, p2, Wd, rfl, fun h => by rw [HN.out.2.2.2.1, if_pos h], fun h => by rw [HN.out.2.2.2.1, if_neg (by omega)], H3.out.2.2.1, H3.out.2.2.2.1, ?_, ?_, hr1, fun v => ?_⟩⟩
      · rw [← HCt.out]; exact Or.inr ⟨_, _, _, _, rfl, H5.out.mx.mono (by omega)⟩
      · rw [← HCt.out]; exact H5.out.rdg.le
      · rw [← HCt.out]; exact (hr2 v).trans (H5.out.spn v)
  · have HW : Hid (D.mchk m N Z ≠ 0 ∧ Below w.heap.size w w1) := ⟨h0, hb1⟩
    obtain ⟨e, he⟩ : ∃ e, e = D.mchk m N Z := ⟨_, rfl⟩
    rw [← he] at h0 ⊢
    have hz : (e != 0) = true := by rw [bne_iff_ne]; exact h0
    have HE : Hid (e = D.mchk m N Z) := he
    clear h0 hb1 he
    go_wp2
    go_ret2
    exact ⟨HW.out.2, Or.inl ⟨HW.out.1, by rw [← HE.out]; rfl⟩⟩
set_option maxHeartbeats 2000000 in
set_option maxRecDepth 100000 in
theorem mnull_none (q : Int) (h : ∀ D ∈ fieldsL, (D.q : Int) ≠ q) (ao : Option Addr) (n ca : Nat) (w : World) :
    Calls Try.prog 38 #[.int .i64 q, .slice ao n ca] w fun e w' => e = .returned (.tuple #[.slice none 0 0, .int .i64 1]) ∧ Below w.heap.size w w' := by
  have HB : Hid (∀ D ∈ fieldsL, (D.q : Int) ≠ q) := h
  clear h
  go_enter Try.func38, Try.ntmps38
  go_wp2_with fail
  refine (mover_none q HB.out _ 1 1 _ _ (by omega) (cell_of_row _ _ _ _ _ (0, 0) (two_new _))).mono ?_
  rintro e w' ⟨rfl, rfl⟩
  go_wp2
  go_ret2
  exact ⟨rfl, (Below.refl _ _).alloc (Nat.le_refl _) _⟩
end Go.Proofs.Ytbpeahhhkcljeaa

/- Plain mathematics: linear equations (Solve): the rows with what they are to be behind them. -/
namespace Go.Proofs.Ytbpeahhhkcljeaa

/-- The rows M of n numbers, each with one number more. -/
def aug (n : Nat) (M : Nat → Nat → Nat) (b : Nat → Nat) : Nat → Nat → Nat := fun i j => if j = n then b i else M i j
theorem aug_el {D : FD} {n : Nat} {M : Nat → Nat → Nat} {b : Nat → Nat} {i : Nat} (h : El D (M i)) (hb : b i < D.q) : El D (aug n M b i) := fun j => by
  unfold aug
  by_cases e : j = n
  · rw [if_pos e]; exact hb
  · rw [if_neg e]; exact h j
theorem aug_bd {n : Nat} {M : Nat → Nat → Nat} {b : Nat → Nat} {i : Nat} (h : Bd n (M i)) : Bd (n + 1) (aug n M b i) := fun j hj => by
  unfold aug
  rw [if_neg (by omega)]; exact h j (by omega)
/-- The solution that a reduced form tells, by its first r rows. -/
def slx (R : Nat → Nat → Nat) (p : Nat → Nat) (n : Nat) : Nat → Nat → Nat
  | 0, _ => 0
  | r + 1, j => if j = p r then R r n else slx R p n r j
theorem slx_congr {R R' : Nat → Nat → Nat} {p p' : Nat → Nat} (n : Nat) : ∀ r, (∀ i, i < r → p i = p' i ∧ R i = R' i) → slx R p n r = slx R' p' n r
  | 0, _ => rfl
  | r + 1, h => by
    funext j
    show (if j = p r then R r n else slx R p n r j) = if j = p' r then R' r n else slx R' p' n r j
    rw [(h r (by omega)).1, (h r (by omega)).2, slx_congr n r (fun i hi => h i (by omega))]
/-- Rows reduced but for the last column, and the one form of all: where there is a solution. -/
theorem solve_yes {D : FD} (F : Fld D) {m n k kr : Nat} {R Rr : Nat → Nat → Nat} {p pr : Nat → Nat} (h : Rdg D m (n + 1) n k R p) (h0 : ∀ i, k ≤ i → i < m → R i n = 0) (hr : RRE D (n + 1) kr Rr pr) (hs : ∀ v, Spn D (RowsOf m R) v ↔ Spn D (RowsOf kr Rr) v) : kr = k ∧ (∀ i, i < k → p i = pr i ∧ R i = Rr i) ∧ ∀ i, i < kr → pr i ≠ n := by
  have h1 : Rdg D m (n + 1) (n + 1) k R p := rdg_skip h h0
  obtain ⟨h2, _, h3⟩ := rdg_end F h1
  obtain ⟨hk, he⟩ := rre_uniq F h2 hr (fun v => (h3 v).trans (hs v))
  refine ⟨hk.symm, he, fun i hi => ?_⟩
  have a := (he i (by omega)).1
  have b := h.lt i (by omega)
  omega
theorem solve_no {D : FD} (F : Fld D) {m n k kr : Nat} {R Rr : Nat → Nat → Nat} {p pr : Nat → Nat} (h : Rdg D m (n + 1) n k R p) (h0 : ∃ i, k ≤ i ∧ i < m ∧ R i n ≠ 0) (hr : RRE D (n + 1) kr Rr pr) (hs : ∀ v, Spn D (RowsOf m R) v ↔ Spn D (RowsOf kr Rr) v) : ∃ i, i < kr ∧ pr i = n := by
  obtain ⟨i, h1, h2, h3⟩ := h0
  obtain ⟨j, hj, e⟩ := (rre_lead F hr n).1 ⟨R i, (hs _).1 (spn_mem F (h.el i h2) ⟨i, h2, rfl⟩), h3, fun c hc => h.rest i c h1 h2 hc⟩
  exact ⟨j, hj, e.symm⟩

/-- The first n numbers. -/
def cutN (n : Nat) (v : Nat → Nat) : Nat → Nat := fun j => if j < n then v j else 0
theorem cutN_add {D : FD} (F : Fld D) (n : Nat) (u v : Nat → Nat) : cutN n (padd D u v) = padd D (cutN n u) (cutN n v) := by
  funext j
  show (if j < n then D.ad (u j) (v j) else 0) = D.ad (if j < n then u j else 0) (if j < n then v j else 0)
  by_cases e : j < n
  · rw [if_pos e, if_pos e, if_pos e]
  · rw [if_neg e, if_neg e, if_neg e, ad_zero F (zero_lt' F)]
theorem cutN_scale {D : FD} (F : Fld D) (n s : Nat) (v : Nat → Nat) : cutN n (pscale D s v) = pscale D s (cutN n v) := by
  funext j
  show (if j < n then D.mul s (v j) else 0) = D.mul s (if j < n then v j else 0)
  by_cases e : j < n
  · rw [if_pos e, if_pos e]
  · rw [if_neg e, if_neg e, mul0 F]
theorem cutN_nil (n : Nat) : cutN n pnil = pnil := by
  funext j
  show (if j < n then 0 else 0) = 0
  by_cases e : j < n
  · rw [if_pos e]
  · rw [if_neg e]
theorem cutN_el {D : FD} (F : Fld D) (n : Nat) {v : Nat → Nat} (h : El D v) : El D (cutN n v) := fun j => by
  unfold cutN
  by_cases e : j < n
  · rw [if_pos e]; exact h j
  · rw [if_neg e]; exact zero_lt' F
theorem spn_cut {D : FD} (F : Fld D) {m n : Nat} {R : Nat → Nat → Nat} (he : ∀ i, i < m → El D (R i)) {v : Nat → Nat} (h : Spn D (RowsOf m R) v) : Spn D (RowsOf m fun i => cutN n (R i)) (cutN n v) := by
  refine spn_ind (Q := fun v => Spn D (RowsOf m fun i => cutN n (R i)) (cutN n v)) ?_ (fun u v hu hv => ?_) (fun s v hv => ?_) (fun v hv => ?_) h
  · rw [cutN_nil]; exact spn_nil D _
  · rw [cutN_add F]; exact spn_add F hu hv
  · rw [cutN_scale F]; exact spn_scale F _ hv
  · obtain ⟨i, hi, rfl⟩ := hv
    exact spn_mem F (cutN_el F n (he i hi)) ⟨i, hi, rfl⟩
/-- Rows that span the same, cut, span the same. -/
theorem spn_cut_le {D : FD} (F : Fld D) {m m' n : Nat} {R R' : Nat → Nat → Nat} (he : ∀ i, i < m → El D (R i)) (he' : ∀ i, i < m' → El D (R' i)) (h : ∀ v, Spn D (RowsOf m R) v → Spn D (RowsOf m' R') v) {v : Nat → Nat} (hv : Spn D (RowsOf m fun i => cutN n (R i)) v) : Spn D (RowsOf m' fun i => cutN n (R' i)) v := by
  refine spn_le F (fun u hu => ?_) hv
  obtain ⟨i, hi, rfl⟩ := hu
  exact spn_cut F he' (h _ (spn_mem F (he i hi) ⟨i, hi, rfl⟩))
/-- Rows reduced in their first n columns, cut behind these, are the one form. -/
theorem rdg_cut {D : FD} (F : Fld D) {m n n' k : Nat} {R : Nat → Nat → Nat} {p : Nat → Nat} (h : Rdg D m n' n k R p) : Rdg D m n n k (fun i => cutN n (R i)) p := by
  have at' : ∀ i c, c < n → cutN n (R i) c = R i c := fun i c hc => by unfold cutN; rw [if_pos hc]
  refine ⟨fun i hi => cutN_el F n (h.el i hi), fun i hi c hc => by unfold cutN; rw [if_neg (by omega)], h.le, h.lt, h.mono, fun i hi => ?_, fun i j hi hj hij => ?_, fun i c hi hc => ?_, fun i c hk hi hc => ?_⟩
  · show cutN n (R i) (p i) = 1
    rw [at' i _ (h.lt i hi)]; exact h.one i hi
  · show cutN n (R i) (p j) = 0
    rw [at' i _ (h.lt j hj)]; exact h.zero i j hi hj hij
  · show cutN n (R i) c = 0
    have := h.lt i hi
    rw [at' i _ (by omega)]; exact h.lead i c hi hc
  · show cutN n (R i) c = 0
    rw [at' i _ hc]; exact h.rest i c hk hi hc
/-- The rows with a row of the unit behind each. -/
def augI (n : Nat) (M : Nat → Nat → Nat) : Nat → Nat → Nat := fun i j => if j < n then M i j else if j = n + i then 1 else 0
theorem augI_el {D : FD} (F : Fld D) {n : Nat} {M : Nat → Nat → Nat} {i : Nat} (h : El D (M i)) : El D (augI n M i) := fun j => by
  unfold augI
  by_cases e : j < n
  · rw [if_pos e]; exact h j
  · rw [if_neg e]
    by_cases e2 : j = n + i
    · rw [if_pos e2]; exact one_lt' F
    · rw [if_neg e2]; exact zero_lt' F
theorem augI_bd {n m : Nat} {M : Nat → Nat → Nat} {i : Nat} (hi : i < m) : Bd (n + m) (augI n M i) := fun j hj => by
  unfold augI
  rw [if_neg (by omega), if_neg (by omega)]
theorem augI_cut {n : Nat} {M : Nat → Nat → Nat} {i : Nat} (h : Bd n (M i)) : cutN n (augI n M i) = M i := by
  funext j
  unfold cutN augI
  by_cases e : j < n
  · rw [if_pos e, if_pos e]
  · rw [if_neg e, h j (by omega)]
/-- How many begin in the first n columns: as many as of the rows themselves. -/
theorem inv_rank {D : FD} (F : Fld D) {m n n' k kr : Nat} {R M Rr : Nat → Nat → Nat} {p pr : Nat → Nat} (hM : ∀ i, i < m → El D (M i) ∧ Bd n (M i)) (h : Rdg D m n' n k R p) (hs : ∀ v, Spn D (RowsOf m R) v ↔ Spn D (RowsOf m (augI n M)) v) (hr : RRE D n kr Rr pr) (hsr : ∀ v, Spn D (RowsOf kr Rr) v ↔ Spn D (RowsOf m M) v) : k = kr := by
  obtain ⟨h1, _, h2⟩ := rdg_end F (rdg_cut F h)
  have hel := fun i (hi : i < m) => augI_el F (n := n) (hM i hi).1
  have e : ∀ v, Spn D (RowsOf m fun i => cutN n (augI n M i)) v ↔ Spn D (RowsOf m M) v := fun v => by
    constructor
    · refine fun hv => spn_le F (fun u hu => ?_) hv
      obtain ⟨i, hi, rfl⟩ := hu
      have e2 := augI_cut (hM i hi).2
      show Spn D (RowsOf m M) (cutN n (augI n M i))
      rw [e2]; exact spn_mem F (hM i hi).1 ⟨i, hi, rfl⟩
    · refine fun hv => spn_le F (fun u hu => ?_) hv
      obtain ⟨i, hi, rfl⟩ := hu
      exact spn_mem F (hM i hi).1 ⟨i, hi, (augI_cut (hM i hi).2).symm⟩
  refine (rre_uniq F h1 hr (fun v => (h2 v).trans (Iff.trans ?_ ((e v).trans (hsr v).symm)))).1
  exact ⟨fun hv => spn_cut_le F h.el hel (fun u hu => (hs u).1 hu) hv, fun hv => spn_cut_le F hel h.el (fun u hu => (hs u).2 hu) hv⟩
/-- As many columns as rows begin: then row i begins in column i. -/
theorem mono_id {n : Nat} {p : Nat → Nat} (hm : ∀ i j, i < j → j < n → p i < p j) (hl : ∀ i, i < n → p i < n) : ∀ i, i < n → p i = i := by
  have lo : ∀ i, i < n → i ≤ p i := fun i => by
    induction i with
    | zero => intro _; omega
    | succ i ih =>
      intro hi
      have := hm i (i + 1) (by omega) hi
      have := ih (by omega)
      omega
  have hi : ∀ d i, i + d + 1 = n → p i + d < n := fun d => by
    induction d with
    | zero => intro i hi; exact hl i (by omega)
    | succ d ih =>
      intro i hi
      have := ih (i + 1) (by omega)
      have := hm i (i + 1) (by omega) (by omega)
      omega
  intro i hin
  have a := lo i hin
  have b := hi (n - i - 1) i (by omega)
  omega
/-- The right half is the inverse. -/
theorem minv_is {D : FD} (F : Fld D) {n : Nat} {R M : Nat → Nat → Nat} {p : Nat → Nat} (h : Rdg D n (n + n) n n R p) (hs : ∀ v, Spn D (RowsOf n R) v ↔ Spn D (RowsOf n (augI n M)) v) (hM : ∀ i, i < n → El D (M i)) (i c : Nat) (hi : i < n) : prodR D (M i) (fun i c => R i (n + c)) n c = if c = i then 1 else 0 := by
  have hid := mono_id h.mono h.lt
  have hre : RRE D (n + n) n R p := ⟨h.el, h.bd, fun i hi => by have := h.lt i hi; omega, h.mono, h.one, h.zero, h.lead⟩
  have hv : Spn D (RowsOf n R) (augI n M i) := (hs _).2 (spn_mem F (augI_el F (hM i hi)) ⟨i, hi, rfl⟩)
  have h1 := congrFun (rre_coord F hre hv) (n + c)
  have key : ∀ k, k ≤ n → lcR D R p (augI n M i) k (n + c) = prodR D (M i) (fun i c => R i (n + c)) k c := fun k => by
    induction k with
    | zero => intro _; rfl
    | succ k ih =>
      intro hk
      show D.ad (lcR D R p (augI n M i) k (n + c)) (D.mul (augI n M i (p k)) (R k (n + c))) = D.ad (prodR D (M i) (fun i c => R i (n + c)) k c) (D.mul (M i k) (R k (n + c)))
      rw [ih (by omega), hid k (by omega)]
      have e : augI n M i k = M i k := by unfold augI; rw [if_pos (by omega)]
      rw [e]
  rw [key n (Nat.le_refl _)] at h1
  rw [← h1]
  unfold augI
  rw [if_neg (by omega)]
  by_cases e : c = i
  · rw [if_pos e, if_pos (by omega)]
  · rw [if_neg e, if_neg (by omega)]
end Go.Proofs.Ytbpeahhhkcljeaa
