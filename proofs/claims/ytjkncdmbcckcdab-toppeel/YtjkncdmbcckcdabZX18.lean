/- Texts of ours, one behind the other: X18 S5 T10 X19 X20 S6 O2 O3 L11 L12 U23 H1 H2 H3 H4. -/
import Derived.Test.YtjkncdmbcckcdabZX17
import Derived.Test.YtjkncdmbcckcdabZS3
import Derived.Test.YtjkncdmbcckcdabZS4
import Derived.Test.YtjkncdmbcckcdabZL10
import Derived.Test.YtjkncdmbcckcdabZT5
/- The program's matrices: what makes all rows 0 (Null); matrices as they are told. -/
namespace Go.Proofs.Ytjkncdmbcckcdab
open Go.RowKit

/-- The slice v reads as k rows R of n elements. -/
def RL (v : Value) (k n : Nat) (R : Nat → Nat → Nat) (w : World) : Prop := ∃ ao ca, v = .slice ao k ca ∧ ∀ i, i < k → ∃ b off x cx, ao = some ⟨b, off, none⟩ ∧ w.cell? ⟨b, off + i, none⟩ = some (.slice x n cx) ∧ Sl x n (R i) w
theorem RL.below {v : Value} {k n : Nat} {R : Nat → Nat → Nat} {w w' : World} (h : RL v k n R w) (hb : Below w.heap.size w w') : RL v k n R w' := by
  obtain ⟨ao, ca, e, h⟩ := h
  refine ⟨ao, ca, e, fun i hi => ?_⟩
  obtain ⟨b, off, x, cx, e1, hc, hs⟩ := h i hi
  exact ⟨b, off, x, cx, e1, ((bcell hb).1 b (off + i) (cell_lt hc)).trans hc, slz_below hs hb⟩
theorem RL.congr {v : Value} {k n : Nat} {R R' : Nat → Nat → Nat} {w : World} (h : RL v k n R w) (e : ∀ i, i < k → R i = R' i) : RL v k n R' w := by
  obtain ⟨ao, ca, e1, h⟩ := h
  exact ⟨ao, ca, e1, fun i hi => by rw [← e i hi]; exact h i hi⟩
theorem Mx.rl {B G m k j n : Nat} {R : Nat → Nat → Nat} {h : Nat → Nat} {w : World} (H : Mx B G m k n R h w) (hj : j ≤ k) (mc : Nat) : RL (.slice (some ⟨G, 0, none⟩) j mc) j n R w :=
  ⟨_, _, rfl, fun i hi => ⟨G, 0, _, n, rfl, by rw [Nat.zero_add]; exact H.cell i (by omega), (H.row i (by omega)).sl (Nat.le_refl _)⟩⟩
/-- The same, with all that a matrix that is handed on has. -/
def RLz (v : Value) (k n : Nat) (R : Nat → Nat → Nat) (w : World) : Prop := ∃ ao ca A C, v = .slice ao k ca ∧ MatZ ao k A (fun _ => n) C (fun i j => ((R i j : Nat) : Int)) w
theorem RLz.rl {v : Value} {k n : Nat} {R : Nat → Nat → Nat} {w : World} (h : RLz v k n R w) : RL v k n R w := by
  obtain ⟨ao, ca, A, C, e, h⟩ := h
  refine ⟨ao, ca, e, fun i hi => ?_⟩
  obtain ⟨b, off, e1, hc⟩ := h.cell i hi
  exact ⟨b, off, A i, C i, e1, hc, h.sl i hi⟩
theorem RLz.nil (n : Nat) (R : Nat → Nat → Nat) (w : World) : RLz (.slice none 0 0) 0 n R w := ⟨none, 0, fun _ => none, fun _ => 0, rfl, ⟨fun i hi => by omega, fun i hi => by omega, fun i hi => by omega, fun i hi => by omega, fun i hi => by omega, fun i hi => by omega⟩⟩
theorem Mx.rlz {B G m k j n : Nat} {R : Nat → Nat → Nat} {h : Nat → Nat} {w : World} (H : Mx B G m k n R h w) (hj : j ≤ k) (hn : n ≤ 1000000) (mc : Nat) : RLz (.slice (some ⟨G, 0, none⟩) j mc) j n R w :=
  ⟨_, _, fun i => some ⟨h i, 0, none⟩, fun _ => n, rfl, ⟨fun i hi => ⟨G, 0, rfl, by rw [Nat.zero_add]; exact H.cell i (by omega)⟩, fun i hi => (H.row i (by omega)).sl (Nat.le_refl _), fun _ _ => Nat.le_refl _, fun _ _ => by omega, fun _ _ e => (by cases e), fun _ _ => hn⟩⟩
/-- The slice v has k rows R of n elements, in blocks of their own behind block number B, of numbers; or there is none. -/
def MV (B : Nat) (v : Value) (k n : Nat) (R : Nat → Nat → Nat) (w : World) : Prop := (k = 0 ∧ ∃ ao ca, v = .slice ao 0 ca) ∨ ∃ G mc m h, v = .slice (some ⟨G, 0, none⟩) k mc ∧ Mx B G m k n R h w
theorem MV.rlz {B : Nat} {v : Value} {k n : Nat} {R : Nat → Nat → Nat} {w : World} (h : MV B v k n R w) (hn : n ≤ 1000000) : RLz v k n R w := by
  rcases h with ⟨e, ao, ca, ev⟩ | ⟨G, mc, m, hh, ev, hm⟩
  · rw [e, ev]
    exact ⟨ao, ca, fun _ => none, fun _ => 0, rfl, ⟨fun i hi => by omega, fun i hi => by omega, fun i hi => by omega, fun i hi => by omega, fun i hi => by omega, fun i hi => by omega⟩⟩
  · rw [ev]; exact hm.rlz (Nat.le_refl _) hn mc
theorem MV.rl {B : Nat} {v : Value} {k n : Nat} {R : Nat → Nat → Nat} {w : World} (h : MV B v k n R w) : RL v k n R w := by
  rcases h with ⟨e, ao, ca, ev⟩ | ⟨G, mc, m, hh, ev, hm⟩
  · rw [e, ev]
    exact ⟨ao, ca, rfl, fun i hi => by omega⟩
  · rw [ev]; exact hm.rl (Nat.le_refl _) mc
theorem MV.below {B : Nat} {v : Value} {k n : Nat} {R : Nat → Nat → Nat} {w w' : World} (h : MV B v k n R w) (hb : Below w.heap.size w w') : MV B v k n R w' := by
  rcases h with h | ⟨G, mc, m, hh, ev, hm⟩
  · exact Or.inl h
  · exact Or.inr ⟨G, mc, m, hh, ev, hm.below hb⟩
theorem RL.nil (n : Nat) (R : Nat → Nat → Nat) (w : World) : RL (.slice none 0 0) 0 n R w := ⟨none, 0, rfl, fun i hi => by omega⟩

set_option maxHeartbeats 2000000 in
set_option maxRecDepth 100000 in
theorem indexNil_any {fv : Value} {w : World} :
    Calls Try.prog 64 #[.slice none 0 0, fv] w fun e w' => w' = w ∧ e = .returned (.int .i64 (-1)) := by
  go_enter Try.func64, Try.ntmps64
  go_wp2
  refine wp_loop_rounds 1 ?_
  rw [rounds_succ]
  go_wp2
  go_ret
  exact ⟨rfl, rfl⟩

set_option maxHeartbeats 2000000 in
set_option maxRecDepth 100000 in
theorem reduceNil_any {pf : Value} {cols : Nat} {w : World} (hc : cols ≤ 1000000) :
    Calls Try.prog 51 #[pf, .slice none 0 0, .int .i64 cols] w fun e w' => e = .returned (.slice none 0 0) ∧ Below w.heap.size w w' := by
  go_enter Try.func51, Try.ntmps51
  go_wp2
  go_loopw [7, 12] (fun pv i wr => ∃ c : Nat, c ≤ cols ∧ pv = .slice none 0 0 ∧ i = .int .i64 c ∧ Hid (Below w.heap.size w wr)) (fun _ i _ => cols - (intOf i).toNat)
  case atStart => exact ⟨0, by omega, rfl, rfl, Below.refl _ _⟩
  case round =>
    obtain ⟨c, hc, rfl, rfl, HG⟩ := hrel
    rename World => wA
    by_cases hlt : c < cols
    · have hib : (c : Int) < (cols : Int) := by omega
      have HS : Hid (∀ o, Below w.heap.size w (wA.alloc o)) := fun o => HG.out.alloc HG.out.size _
      go_wp2_with (go_at_call 64; refine indexNil_any.mono ?_; rintro e w2 ⟨hw, rfl⟩; have hw := hw.symm; subst hw)
      go_roundw
      case rel => exact ⟨c + 1, by omega, rfl, by go_num, HS.out _⟩
      case measure => simp [intOf]; omega
    · go_wp2
      go_ret
      exact ⟨rfl, HG.out⟩

theorem Mx.any {B G m n n' : Nat} {R : Nat → Nat → Nat} {h : Nat → Nat} {w : World} (H : Mx B G m 0 n R h w) : Mx B G m 0 n' R h w :=
  ⟨by obtain ⟨f, hf, _⟩ := H.outer; exact ⟨f, hf, fun i hi => by omega⟩, fun i hi => by omega, H.geG, fun i hi => by omega, fun i hi => by omega, fun i hi => by omega, H.le⟩

set_option maxHeartbeats 8000000 in
set_option maxRecDepth 100000 in
theorem mnull_any {D : FD} (hD : D ∈ fieldsL) {ao : Option Addr} {m ca : Nat} {A : Nat → Option Addr} {N C : Nat → Nat} {Z : Nat → Nat → Int} {w : World} (ha : MatZ ao m A N C Z w) (hm : m ≤ 1000000) :
    Calls Try.prog 34 #[.int .i64 D.q, .slice ao m ca] w fun e w' => Below w.heap.size w w' ∧
      ((D.mchk m N Z ≠ 0 ∧ e = .returned (.tuple #[.slice none 0 0, .int .i64 (D.mchk m N Z)])) ∨
       (D.mchk m N Z = 0 ∧ ∃ v k R p k2 R2 p2 W, e = .returned (.tuple #[v, .int .i64 0]) ∧ (m = 0 → W = 0) ∧ (0 < m → W = N 0) ∧ RRE D W k R p ∧ (∀ v, Spn D (RowsOf k R) v ↔ Spn D (RowsOf m (mzc N Z)) v) ∧
         MV w.heap.size v (nct k p W) W R2 w' ∧ k2 ≤ nct k p W ∧ RRE D W k2 R2 p2 ∧ (∀ v, Spn D (RowsOf k2 R2) v ↔ Spn D (RowsOf (nct k p W) (nul D R p k W)) v))) := by
  have HA : Hid (D ∈ fieldsL ∧ MatZ ao m A N C Z w) := ⟨hD, ha⟩
  clear hD ha
  go_enter Try.func34, Try.ntmps34
  go_wp2_with fail
  refine (mover1_any HA.out.1 HA.out.2 hm).mono ?_
  rintro e w1 ⟨hb1, hr⟩
  rcases hr with ⟨h0, F, T, f, rfl, hat, hF, hT⟩ | ⟨h0, rfl⟩
  · have HW : Hid (D.mchk m N Z = 0 ∧ FAt F T D f w1 ∧ Below w.heap.size w w1 ∧ MatZ ao m A N C Z w1) := ⟨h0, hat, hb1, HA.out.2.below hb1⟩
    clear h0 hat hF hT hb1
    obtain ⟨n, Wd, HN⟩ : ∃ n Wd, Hid (n ≤ 64 ∧ Wd ≤ n + 1 ∧ m ≤ 64 ∧ Wd = (if m = 0 then 0 else N 0) ∧ (0 < m → n + 1 = N 0) ∧ (∀ i, i < m → El D (mzc N Z i) ∧ Bd (n + 1) (mzc N Z i)) ∧ MatR ao m n (mzc N Z) w1) := by
      by_cases hm0 : m = 0
      · exact ⟨0, 0, ⟨by omega, by omega, by omega, by rw [if_pos hm0], fun h => by omega, fun i hi => by omega, fun i hi => by omega⟩⟩
      · obtain ⟨h1, n, h2, h3, h4, h5⟩ := mchk_rows (fld HA.out.1) HW.out.1 HW.out.2.2.2 (by omega)
        exact ⟨n, n + 1, ⟨by omega, by omega, h1, by rw [if_neg hm0, h2], fun _ => h2.symm, fun i hi => (h4 i hi).2, h5⟩⟩
    have hn64 := HN.out.1
    have hWd := HN.out.2.1
    have hm64 := HN.out.2.2.1
    go_wp2_with fail
    refine (wider_any (more := 0) HN.out.2.2.2.2.2.2 (fun i hi => (HN.out.2.2.2.2.2.1 i hi).2) (by omega) (by omega) (by omega)).mono ?_
    rintro e w2 ⟨rfl, ⟨h, hmx⟩, hb2⟩
    have H2 : Hid (Mx w1.heap.size w1.heap.size m m (n + 1) (mzc N Z) h w2 ∧ Below w1.heap.size w1 w2) := ⟨hmx, hb2⟩
    clear hmx hb2
    have HCw : Hid (∀ wX, Below w1.heap.size w1 wX → Calls Try.prog 52 #[.slice ao m ca] wX fun e w' => e = .returned (.int .i64 (Wd : Int)) ∧ w' = wX) := fun wX hX => by
      have h := width_any (ca := ca) (HW.out.2.2.2.below hX)
      rw [← HN.out.2.2.2.1] at h; exact h
    go_wp2_with (go_at_call 52; refine (HCw.out _ H2.out.2).mono ?_; rintro e w' ⟨rfl, hw⟩; have hw := hw.symm; subst hw)
    refine (reduce_any HA.out.1 (HW.out.2.1.below H2.out.2 HW.out.2.1.ltF HW.out.2.1.ltT) HW.out.2.1.ltF HW.out.2.1.ltT H2.out.1 (by omega) (by omega) (fun i hi => (HN.out.2.2.2.2.2.1 i hi).1) (fun i hi => (HN.out.2.2.2.2.2.1 i hi).2) hWd).mono ?_
    rintro e w3 ⟨k, R', p, h', pv, rfl, hst⟩
    obtain ⟨po, pc, rfl, _⟩ := hst.own.argL
    have hs1 := HW.out.2.2.1.size
    have hs2 := H2.out.2.size
    have hb13 : Below w1.heap.size w1 w3 := H2.out.2.trans hst.bel
    have H3 : Hid (Mx w1.heap.size w1.heap.size m m Wd R' h' w3 ∧ OwnI w2.heap.size (.slice po k pc) (zl k fun j => ((p j : Nat) : Int)) w3 ∧ RRE D Wd k R' p ∧ (∀ v, Spn D (RowsOf k R') v ↔ Spn D (RowsOf m (mzc N Z)) v) ∧ Below w1.heap.size w1 w3 ∧ (∀ i, i < m → El D (R' i))) := by
      refine ⟨?_, hst.own, ?_⟩
      · by_cases hm0 : m = 0
        · subst hm0
          exact hst.mx.any
        · have : Wd = n + 1 := by rw [HN.out.2.2.2.1, if_neg hm0, HN.out.2.2.2.2.1 (by omega)]
          rw [this]; exact hst.mx
      · by_cases hm0 : m = 0
        · have hk0 : k = 0 := by have := hst.rdg.le; omega
          refine ⟨⟨fun i hi => by omega, fun i hi => by omega, fun i hi => by omega, fun i j _ hj => by omega, fun i hi => by omega, fun i j hi => by omega, fun i c hi => by omega⟩, fun v => ?_, hb13, hst.rdg.el⟩
          constructor
          · exact fun h => spn_le (fld HA.out.1) (fun u ⟨i, hi, _⟩ => by omega) h
          · exact fun h => spn_le (fld HA.out.1) (fun u ⟨i, hi, _⟩ => by omega) h
        · have hR := hst.rdg
          have hWe : Wd = n + 1 := by rw [HN.out.2.2.2.1, if_neg hm0, HN.out.2.2.2.2.1 (by omega)]
          rw [hWe] at hR
          obtain ⟨h1, _, h2⟩ := rdg_end (fld HA.out.1) hR
          rw [hWe]
          exact ⟨h1, fun v => (h2 v).trans (hst.spn v), hb13, hst.rdg.el⟩
    have hkm : k ≤ m := hst.rdg.le
    clear hst hb13
    go_wp2_with (go_at_call 52; refine (HCw.out _ H3.out.2.2.2.2.1).mono ?_; rintro e w' ⟨rfl, hw⟩; have hw := hw.symm; subst hw)
    have hs3 := H3.out.2.2.2.2.1.size
    have hF1 := HW.out.2.1.ltF
    have hT1 := HW.out.2.1.ltT
    refine (madeNought_any HA.out.1 (HW.out.2.1.below H3.out.2.2.2.2.1 hF1 hT1) (by omega) (by omega) H3.out.1 (by omega) (by omega) hkm H3.out.2.2.2.2.2 H3.out.2.1 H3.out.2.2.1.lt).mono ?_
    rintro e w4 ⟨v, h2, rfl, hns, hnil, hb4⟩
    have H4 : Hid (NSt w3.heap.size Wd (nct k p Wd) (nul D R' p k Wd) v h2 w4 ∧ (nct k p Wd = 0 → v = .slice none 0 0) ∧ Below w3.heap.size w3 w4 ∧ Below w1.heap.size w1 w4) := ⟨hns, hnil, hb4, H3.out.2.2.2.2.1.trans (hb4.mono hs3)⟩
    clear hns hnil hb4
    have hcle := nct_le k p Wd
    by_cases hc0 : nct k p Wd = 0
    · have hv := H4.out.2.1 hc0
      subst hv
      go_wp2_with (go_at_call 52; refine (HCw.out _ H4.out.2.2.2).mono ?_; rintro e w' ⟨rfl, hw⟩; have hw := hw.symm; subst hw)
      refine (reduceNil_any (by omega)).mono ?_
      rintro e w5 ⟨rfl, hb5⟩
      have H5 : Hid (Below w.heap.size w w5) := (HW.out.2.2.1.trans (H4.out.2.2.2.mono hs1)).trans (hb5.mono (by have := H4.out.2.2.2.size; omega))
      clear hb5
      go_wp2
      go_ret2
      refine ⟨H5.out, Or.inr ⟨HW.out.1, _, k, R', p, 0, fun _ => pnil, fun _ => 0, Wd, rfl, fun h => by rw [HN.out.2.2.2.1, if_pos h], fun h => by rw [HN.out.2.2.2.1, if_neg (by omega)], H3.out.2.2.1, H3.out.2.2.2.1, Or.inl ⟨hc0, _, _, rfl⟩, by omega, ⟨fun i hi => by omega, fun i hi => by omega, fun i hi => by omega, fun i j _ hj => by omega, fun i hi => by omega, fun i j hi => by omega, fun i c hi => by omega⟩, fun v => ?_⟩⟩
      rw [hc0]
      exact ⟨fun h => spn_le (fld HA.out.1) (fun u ⟨i, hi, _⟩ => by omega) h, fun h => spn_le (fld HA.out.1) (fun u ⟨i, hi, _⟩ => by omega) h⟩
    · obtain ⟨G2, mc2, rfl, hmx2⟩ := H4.out.1.mx (by omega)
      have H4' : Hid (Mx w3.heap.size G2 mc2 (nct k p Wd) Wd (nul D R' p k Wd) h2 w4) := hmx2
      clear hmx2
      obtain ⟨cnt, hcnt⟩ : ∃ cnt, cnt = nct k p Wd := ⟨_, rfl⟩
      rw [← hcnt] at H4' hcle hc0 ⊢
      have HCt : Hid (cnt = nct k p Wd) := hcnt
      clear hcnt
      go_wp2_with (go_at_call 52; refine (HCw.out _ H4.out.2.2.2).mono ?_; rintro e w' ⟨rfl, hw⟩; have hw := hw.symm; subst hw)
      refine (reduce_any HA.out.1 (HW.out.2.1.below H4.out.2.2.2 hF1 hT1) (by omega) (by omega) H4'.out (by omega) (by omega) (fun i hi => nul_el (fld HA.out.1) H3.out.2.2.1.el _ _) (fun i hi => nul_bd H3.out.2.2.1.lt (by have := HCt.out; omega)) (Nat.le_refl _)).mono ?_
      rintro e w5 ⟨k2, R2, p2, h5, pv5, rfl, hst⟩
      have H5 : Hid (RSt D w3.heap.size G2 mc2 cnt Wd (nul D R' p k Wd) w4 Wd k2 R2 p2 h5 pv5 w5) := hst
      clear hst
      go_wp2
      go_ret2
      obtain ⟨hr1, _, hr2⟩ := rdg_end (fld HA.out.1) H5.out.rdg
      refine ⟨(HW.out.2.2.1.trans (H4.out.2.2.2.mono hs1)).trans (H5.out.bel.mono (by omega)), Or.inr ⟨HW.out.1, _, k, R', p, k2, R2, p2, Wd, rfl, fun h => by rw [HN.out.2.2.2.1, if_pos h], fun h => by rw [HN.out.2.2.2.1, if_neg (by omega)], H3.out.2.2.1, H3.out.2.2.2.1, ?_, ?_, hr1, fun v => ?_⟩⟩
      · rw [← HCt.out]; exact Or.inr ⟨_, _, _, _, rfl, H5.out.mx.mono (by omega)⟩
      · rw [← HCt.out]; exact H5.out.rdg.le
      · rw [← HCt.out]; exact (hr2 v).trans (H5.out.spn v)
  · have HW : Hid (D.mchk m N Z ≠ 0 ∧ Below w.heap.size w w1) := ⟨h0, hb1⟩
    obtain ⟨e, he⟩ : ∃ e, e = D.mchk m N Z := ⟨_, rfl⟩
    rw [← he] at h0 ⊢
    have hz : (e != 0) = true := by rw [bne_iff_ne]; exact h0
    have HE : Hid (e = D.mchk m N Z) := he
    clear h0 hb1 he
    go_wp2
    go_ret2
    exact ⟨HW.out.2, Or.inl ⟨HW.out.1, by rw [← HE.out]; rfl⟩⟩
end Go.Proofs.Ytjkncdmbcckcdab

/- Plain mathematics: linear equations (Solve): the rows with what they are to be behind them. -/
namespace Go.Proofs.Ytjkncdmbcckcdab

end Go.Proofs.Ytjkncdmbcckcdab

/- The reference's matrices: linear equations (Solve). -/
namespace Go.Proofs.Ytjkncdmbcckcdab
open Go.RowKit Go.Sort

end Go.Proofs.Ytjkncdmbcckcdab

/- The program's matrices: linear equations (Solve). -/
namespace Go.Proofs.Ytjkncdmbcckcdab
open Go.RowKit

end Go.Proofs.Ytjkncdmbcckcdab

/- The program's matrices: inverses (rightOf, Inverse). -/
namespace Go.Proofs.Ytjkncdmbcckcdab
open Go.RowKit

end Go.Proofs.Ytjkncdmbcckcdab

/- Plain mathematics: there is a reduced form. -/
namespace Go.Proofs.Ytjkncdmbcckcdab

end Go.Proofs.Ytjkncdmbcckcdab

/- A list of lists of numbers that a statement is given, opened. -/
namespace Go.Proofs.Ytjkncdmbcckcdab
open Go.ChangeShapes Go.WideShapes Go.ChangeAt Go.RowKit

end Go.Proofs.Ytjkncdmbcckcdab

/- How heavy a list of lists is that a statement is given. -/
namespace Go.Proofs.Ytjkncdmbcckcdab
open Go.RowKit Go.Sort

end Go.Proofs.Ytjkncdmbcckcdab

/- MatrixSays: lists of lists held against one another; how heavy a matrix is; are all numbers elements. -/
namespace Go.Proofs.Ytjkncdmbcckcdab
open Go.RowKit Go.Sort

end Go.Proofs.Ytjkncdmbcckcdab

/- MatrixSays: inverses. -/
namespace Go.Proofs.Ytjkncdmbcckcdab
open Go.RowKit Go.Sort

theorem mchk_of {D : FD} {m : Nat} {N : Nat → Nat} {Z : Nat → Nat → Int} (hm : m ≤ 64) (h : ∀ i, i < m → D.mrow (N 0) (N i) (Z i) = 0) : D.mchk m N Z = 0 := by
  have key : ∀ k, k ≤ m → D.mchks N Z k = 0 := fun k => by
    induction k with
    | zero => intro _; rfl
    | succ k ih =>
      intro hk
      rw [FD.mchks, ih (by omega)]
      simp [h k (by omega)]
  unfold FD.mchk
  rw [if_neg (by omega)]
  exact key m (Nat.le_refl _)
end Go.Proofs.Ytjkncdmbcckcdab

/- The program's polynomials: a sum with an empty list, wherever that lies. -/
namespace Go.Proofs.Ytjkncdmbcckcdab
open Go.RowKit Go.Sort

end Go.Proofs.Ytjkncdmbcckcdab

/- Curves (lists.Curve): what both sides reckon; the calls that they make. -/
namespace Go.Proofs.Ytjkncdmbcckcdab
open Go.RowKit Go.Sort

theorem OwnP.arg {base n : Nat} {v : Value} {c : Nat → Nat} {w : World} (h : OwnP base v n c w) (hn : n ≤ 1000000) : ∃ so sc, v = .slice so n sc ∧ Arg so n sc (fun j => ((c j : Nat) : Int)) w := by
  obtain ⟨so, sc, rfl, h1, h2, _, h4, h5, h6⟩ := h.open
  exact ⟨so, sc, rfl, h6, h4, hn, h5, h1, h2⟩
theorem MatZ.arg {ao : Option Addr} {m : Nat} {A : Nat → Option Addr} {N C : Nat → Nat} {Z : Nat → Nat → Int} {w : World} (h : MatZ ao m A N C Z w) {j : Nat} (hj : j < m) (hN : N j ≠ 0) : Arg (A j) (N j) (C j) (Z j) w := by
  refine ⟨h.sl j hj, fun x hx => ?_, h.few j hj, h.nil j hj, h.le j hj, h.cap j hj⟩
  obtain ⟨b, off, e, hc⟩ := h.sl j hj 0 (by omega)
  rw [hx] at e
  cases e
  exact cell_lt hc
end Go.Proofs.Ytjkncdmbcckcdab

/- Curves: the program's, and the reference's. -/
namespace Go.Proofs.Ytjkncdmbcckcdab
open Go.RowKit Go.Sort

end Go.Proofs.Ytjkncdmbcckcdab

/- Curves: the reference's. -/
namespace Go.Proofs.Ytjkncdmbcckcdab
open Go.RowKit Go.Sort

end Go.Proofs.Ytjkncdmbcckcdab

/- ListsCurve: the walk of the statement, whatever it is given. -/
namespace Go.Proofs.Ytjkncdmbcckcdab
open Go.RowKit Go.Sort

end Go.Proofs.Ytjkncdmbcckcdab
