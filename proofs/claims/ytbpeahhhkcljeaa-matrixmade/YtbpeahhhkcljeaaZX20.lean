/- Texts of ours, one behind the other: X20 S6 O2 O3. -/
import Derived.Test.YtbpeahhhkcljeaaZX19
import Derived.Test.YtbpeahhhkcljeaaZX18
import Derived.Test.YtbpeahhhkcljeaaZL10
import Derived.Test.YtbpeahhhkcljeaaZT5
/- The program's matrices: inverses (rightOf, Inverse). -/
namespace Go.Proofs.Ytbpeahhhkcljeaa
open Go.RowKit

/-- m rows of m numbers: the right half of the rows R. -/
def InvR (G2 m : Nat) (h : Nat → Nat) (R : Nat → Nat → Nat) (w : World) : Prop := ∀ i, i < m → w.cell? ⟨G2, i, none⟩ = some (.slice (some ⟨h i, m, none⟩) m m) ∧ Sl (some ⟨h i, m, none⟩) m (fun c => R i (m + c)) w

set_option maxHeartbeats 4000000 in
set_option maxRecDepth 100000 in
theorem rightOf_any {B G m n2 : Nat} {R : Nat → Nat → Nat} {h : Nat → Nat} {w : World} (hM : Mx B G m m n2 R h w) (hm : m ≤ 1000) (hn : n2 = m + m) :
    Calls Try.prog 118 #[.slice (some ⟨G, 0, none⟩) m m, .int .i64 m] w fun e w' => e = .returned (.slice (some ⟨w.heap.size, 0, none⟩) m m) ∧ InvR w.heap.size m h R w' ∧ Below w.heap.size w w' := by
  have HA : Hid (Mx B G m m n2 R h w ∧ n2 = m + m) := ⟨hM, hn⟩
  have hn2 : n2 ≤ 2000 := by omega
  clear hM hn
  go_enter Try.func118, Try.ntmps118
  go_wp2_with (at_make; refine make_sls rfl _ _ rfl _ m rfl rfl rfl (by omega) ?_; intro w1 hrow1 hgrow1)
  have HB1 : Hid (RowF w.heap.size m 23 (fun _ => .slice none 0 0) w1 ∧ Below w.heap.size w w1) := ⟨hrow1, below_grown hgrow1 (Nat.le_refl _) (fun k hk => by simp at hk)⟩
  clear hrow1 hgrow1
  obtain ⟨G2, hG2⟩ : ∃ g, g = w.heap.size := ⟨_, rfl⟩
  have hle : w.heap.size ≤ G2 := by omega
  have HB2 : Hid (RowF G2 m 23 (fun _ => .slice none 0 0) w1 ∧ Below w.heap.size w w1) := by rw [hG2]; exact HB1.out
  rw [← hG2]
  have HG2 : Hid (G2 = w.heap.size) := hG2
  clear HB1 hG2
  go_loopw [13] (fun i wr => ∃ (r : Nat) (f : Nat → Value), r ≤ m ∧ i = .int .i64 r ∧ Hid (RowF G2 m 23 f wr ∧ Below w.heap.size w wr ∧ ∀ j, j < r → f j = .slice (some ⟨h j, m, none⟩) (n2 - m) (n2 - m))) (fun i _ => m - (intOf i).toNat)
  case atStart => exact ⟨0, _, by omega, rfl, HB2.out.1, HB2.out.2, fun j hj => by omega⟩
  case round =>
    clear HB2
    obtain ⟨r, f, hr, rfl, HG⟩ := hrel
    rename World => wA
    by_cases hlt : r < m
    · have hib : (r : Int) < (m : Int) := by omega
      have hcr := (HA.out.1.below HG.out.2.1).cell r hlt
      have hc2 := HG.out.1.cell r hlt
      have hf2 := HG.out.1.free r
      have hmn : (m : Int) ≤ (n2 : Int) := by have := HA.out.2; omega
      have hmn2 : (m : Int) < (n2 : Int) := by have := HA.out.2; omega
      have hmn3 : ¬ n2 = m := by have := HA.out.2; omega
      obtain ⟨gb, hgb⟩ : ∃ gb, gb = h r := ⟨_, rfl⟩
      rw [← hgb] at hcr
      have HV : Hid (∀ j, j < r + 1 → upd f r (.slice (some ⟨gb, m, none⟩) (n2 - m) (n2 - m)) j = .slice (some ⟨h j, m, none⟩) (n2 - m) (n2 - m)) := fun j hj => by
        by_cases e : j = r
        · rw [e, upd_at, hgb]
        · rw [upd_ne _ _ _ e]; exact HG.out.2.2 j (by omega)
      clear hgb
      go_wp2
      go_roundw
      case rel => exact ⟨r + 1, _, by omega, by go_num, HG.out.1.store r _, HG.out.2.1.setCell hle _, HV.out⟩
      case measure => simp [intOf]; omega
    · have hib : ¬ (r : Int) < (m : Int) := by omega
      have hre : m = r := by omega
      subst hre
      go_wp2
      go_ret
      refine ⟨by rw [← HG2.out]; rfl, fun i hi => ⟨?_, ?_⟩, HG.out.2.1⟩
      · rw [← HG2.out, HG.out.1.cell i hi, HG.out.2.2 i hi, HA.out.2, Nat.add_sub_cancel]
      · have hrw := ((HA.out.1.below HG.out.2.1).row i hi).sl (Nat.le_refl _)
        have h2 := slz_shift0 hrw (q := m) (by have := HA.out.2; omega)
        rw [HA.out.2, Nat.add_sub_cancel] at h2
        exact h2

set_option maxHeartbeats 8000000 in
set_option maxRecDepth 100000 in
theorem minverse_any {D : FD} (hD : D ∈ fieldsL) {ao : Option Addr} {m ca : Nat} {A : Nat → Option Addr} {N C : Nat → Nat} {Z : Nat → Nat → Int} {w : World} (ha : MatZ ao m A N C Z w) (hm : m ≤ 1000000) :
    Calls Try.prog 99 #[.int .i64 D.q, .slice ao m ca] w fun e w' => Below w.heap.size w w' ∧
      ((D.mchk m N Z ≠ 0 ∧ e = .returned (.tuple #[.slice none 0 0, .int .i64 (D.mchk m N Z)])) ∨
       (D.mchk m N Z = 0 ∧ (0 < m ∧ N 0 ≠ m) ∧ e = .returned (.tuple #[.slice none 0 0, .int .i64 3])) ∨
       (D.mchk m N Z = 0 ∧ (0 < m → N 0 = m) ∧ ∃ k R p, Rdg D m (m + m) m k R p ∧ (∀ v, Spn D (RowsOf m R) v ↔ Spn D (RowsOf m (augI m (mzc N Z))) v) ∧
         ((k < m ∧ e = .returned (.tuple #[.slice none 0 0, .int .i64 8])) ∨ (k = m ∧ ∃ G2 h, e = .returned (.tuple #[.slice (some ⟨G2, 0, none⟩) m m, .int .i64 0]) ∧ InvR G2 m h R w')))) := by
  have HA : Hid (D ∈ fieldsL ∧ MatZ ao m A N C Z w) := ⟨hD, ha⟩
  clear hD ha
  go_enter Try.func99, Try.ntmps99
  go_wp2_with fail
  refine (mover1_any HA.out.1 HA.out.2 hm).mono ?_
  rintro e w1 ⟨hb1, hr⟩
  rcases hr with ⟨h0, F, T, f, rfl, hat, hF, hT⟩ | ⟨h0, rfl⟩
  · have HW : Hid (D.mchk m N Z = 0 ∧ FAt F T D f w1 ∧ Below w.heap.size w w1 ∧ MatZ ao m A N C Z w1) := ⟨h0, hat, hb1, HA.out.2.below hb1⟩
    clear h0 hat hF hT hb1
    obtain ⟨n, Wd, HN⟩ : ∃ n Wd, Hid (n ≤ 64 ∧ Wd ≤ n + 1 ∧ m ≤ 64 ∧ Wd = (if m = 0 then 0 else N 0) ∧ (0 < m → n + 1 = N 0) ∧ (∀ i, i < m → El D (mzc N Z i) ∧ Bd (n + 1) (mzc N Z i)) ∧ MatR ao m n (mzc N Z) w1) := by
      by_cases hm0 : m = 0
      · exact ⟨0, 0, ⟨by omega, by omega, by omega, by rw [if_pos hm0], fun h => by omega, fun i hi => by omega, fun i hi => by omega⟩⟩
      · obtain ⟨h1, n, h2, h3, h4, h5⟩ := mchk_rows (fld HA.out.1) HW.out.1 HW.out.2.2.2 (by omega)
        exact ⟨n, n + 1, ⟨by omega, by omega, h1, by rw [if_neg hm0, h2], fun _ => h2.symm, fun i hi => (h4 i hi).2, h5⟩⟩
    have hn64 := HN.out.1
    have hWd := HN.out.2.1
    have hm64 := HN.out.2.2.1
    have hs1 := HW.out.2.2.1.size
    have HCw : Hid (Calls Try.prog 52 #[.slice ao m ca] w1 fun e w' => e = .returned (.int .i64 (Wd : Int)) ∧ w' = w1) := by
      show Calls _ _ _ _ _
      have h := width_any (ca := ca) HW.out.2.2.2
      rw [← HN.out.2.2.2.1] at h; exact h
    by_cases hWm : Wd = m
    · have hz : ((Wd : Int) != (m : Int)) = false := by rw [hWm]; simp
      have HWm : Hid (0 < m → N 0 = m ∧ n + 1 = m) := fun h => by
        have h1 := HN.out.2.2.2.1
        rw [if_neg (by omega)] at h1
        have h2 := HN.out.2.2.2.2.1 h
        omega
      have HEl : Hid (∀ i, i < m → El D (mzc N Z i) ∧ Bd m (mzc N Z i)) := fun i hi => by
        have h := HN.out.2.2.2.2.2.1 i hi
        rw [(HWm.out (by omega)).2] at h; exact h
      clear hWm
      go_wp2_with (go_at_call 52; refine HCw.out.mono ?_; rintro e w' ⟨rfl, hw⟩; have hw := hw.symm; subst hw)
      refine (wider_any (more := m) HN.out.2.2.2.2.2.2 (fun i hi => (HN.out.2.2.2.2.2.1 i hi).2) (by omega) (by omega) (by omega)).mono ?_
      rintro e w2 ⟨rfl, ⟨h, hmx⟩, hb2⟩
      obtain ⟨n2, hn2⟩ : ∃ n2, n2 = m + m := ⟨_, rfl⟩
      have H2 : Hid (Mx w1.heap.size w1.heap.size m m n2 (mzc N Z) h w2 ∧ Below w1.heap.size w1 w2 ∧ n2 = m + m) := by
        refine ⟨?_, hb2, hn2⟩
        by_cases hm0 : m = 0
        · subst hm0
          exact hmx.any
        · have : n + 1 + m = n2 := by have := (HWm.out (by omega)).2; omega
          rw [← this]; exact hmx
      have hn22 : n2 ≤ 200 := by omega
      clear hmx hb2 hn2
      go_wp2_with fail
      go_loopw [33] (fun vi wr => ∃ i : Nat, i ≤ m ∧ vi = .int .i64 i ∧ Hid (Mx w1.heap.size w1.heap.size m m n2 (fun r => if r < i then augI m (mzc N Z) r else mzc N Z r) h wr ∧ TchR h m w2 wr)) (fun vi _ => m - (intOf vi).toNat)
      case atStart => exact ⟨0, by omega, rfl, H2.out.1.congr (fun r _ j _ => by rw [if_neg (by omega)]), TchR.refl _ _ _⟩
      case round =>
        obtain ⟨i, hi, rfl, HG⟩ := hrel
        rename World => wA
        by_cases hlt : i < m
        · have hib : (i : Int) < (m : Int) := by omega
          obtain ⟨mi, hmi⟩ : ∃ mi, mi = m + i := ⟨_, rfl⟩
          have hmin : mi < n2 := by have := H2.out.2.2; omega
          have hwb : IntKind.i64.wrap ((m : Int) + (i : Int)) = (mi : Int) := wrap_to (by omega) (by omega)
          have hmib : (mi : Int) < (n2 : Int) := by omega
          have hcr := HG.out.1.cell i hlt
          have hrw : Row (h i) n2 (mzc N Z i) wA := by
            have h1 := HG.out.1.row i hlt
            rw [if_neg (Nat.lt_irrefl i)] at h1
            exact h1
          have hcw := hrw.cell mi hmin
          have hfw := hrw.free mi
          have HV : Hid (Mx w1.heap.size w1.heap.size m m n2 (fun r => if r < i + 1 then augI m (mzc N Z) r else mzc N Z r) h (wA.setCell ⟨h i, mi, none⟩ (.int .i64 ((1 : Nat) : Int))) ∧ TchR h m w2 (wA.setCell ⟨h i, mi, none⟩ (.int .i64 ((1 : Nat) : Int)))) := by
            have ht : Tch (h i) wA (wA.setCell ⟨h i, mi, none⟩ (.int .i64 ((1 : Nat) : Int))) := (Tch.refl _ _).setCell _ _
            refine ⟨(HG.out.1.write hlt ht (hrw.store mi 1 (d := augI m (mzc N Z) i) (fun j hj => ?_))).congr (fun r hr j hj => ?_), HG.out.2.trans (ht.all hlt)⟩
            · unfold augI
              by_cases e : j = mi
              · rw [if_pos e, if_neg (by omega), if_pos (by omega)]
              · rw [if_neg e]
                by_cases e2 : j < m
                · rw [if_pos e2]
                · rw [if_neg e2, if_neg (by omega), (HEl.out i hlt).2 j (by omega)]
            · by_cases e : r = i
              · rw [if_pos e, if_pos (by omega), e]
              · rw [if_neg e]
                by_cases e2 : r < i
                · rw [if_pos e2, if_pos (by omega)]
                · rw [if_neg e2, if_neg (by omega)]
          obtain ⟨gb, hgb⟩ : ∃ gb, gb = h i := ⟨_, rfl⟩
          obtain ⟨u0, hu0⟩ : ∃ u0, wA.cell? ⟨gb, mi, none⟩ = some u0 := ⟨_, by rw [hgb]; exact hcw⟩
          rw [← hgb] at hcr hfw HV
          clear hrw hcw hgb hmi
          go_wp2
          go_roundw
          case rel => exact ⟨i + 1, by omega, by go_num, HV.out⟩
          case measure => simp [intOf]; omega
        · have hib : ¬ (i : Int) < (m : Int) := by omega
          have hie : m = i := by omega
          subst hie
          have hbA : Below w1.heap.size w1 wA := H2.out.2.1.trans (HG.out.2.below H2.out.1.ge)
          have H3 : Hid (Mx w1.heap.size w1.heap.size m m n2 (augI m (mzc N Z)) h wA ∧ Below w1.heap.size w1 wA) := ⟨HG.out.1.congr (fun r hr j _ => by rw [if_pos hr]), hbA⟩
          clear hbA
          go_wp2_with fail
          have hF1 := HW.out.2.1.ltF
          have hT1 := HW.out.2.1.ltT
          refine (reduce_any HA.out.1 (HW.out.2.1.below H3.out.2 hF1 hT1) hF1 hT1 H3.out.1 (by omega) (by omega) (fun i hi => augI_el (fld HA.out.1) (HEl.out i hi).1) (fun i hi => by rw [H2.out.2.2]; exact augI_bd hi) (by have := H2.out.2.2; omega)).mono ?_
          rintro e w4 ⟨k, R', p, h', pv, rfl, hst⟩
          obtain ⟨po, pc, rfl, hpl⟩ := hst.own.argL
          have HR : Hid (RSt D w1.heap.size w1.heap.size m m n2 (augI m (mzc N Z)) wA m k R' p h' (.slice po k pc) w4) := hst
          have HB : Hid (Below w.heap.size w w4) := (HW.out.2.2.1.trans (H3.out.2.mono hs1)).trans (hst.bel.mono hs1)
          have hkm : k ≤ m := hst.rdg.le
          have HRd : Hid (Rdg D m (m + m) m k R' p) := by have h := hst.rdg; rw [H2.out.2.2] at h; exact h
          clear hst hpl hF1 hT1 HG
          by_cases hkl : k < m
          · have hkb : (k : Int) < (m : Int) := by omega
            go_wp2
            go_ret2
            exact ⟨HB.out, Or.inr (Or.inr ⟨HW.out.1, fun h => (HWm.out h).1, k, R', p, HRd.out, HR.out.spn, Or.inl ⟨hkl, rfl⟩⟩)⟩
          · have hkb : ¬ (k : Int) < (m : Int) := by omega
            go_wp2_with fail
            refine (rightOf_any HR.out.mx (by omega) H2.out.2.2).mono ?_
            rintro e w5 ⟨rfl, hinv, hb5⟩
            have H5 : Hid (InvR w4.heap.size m h' R' w5 ∧ Below w.heap.size w w5) := ⟨hinv, bel_up' HB.out hb5⟩
            clear hinv hb5
            go_wp2
            go_ret2
            exact ⟨H5.out.2, Or.inr (Or.inr ⟨HW.out.1, fun h => (HWm.out h).1, k, R', p, HRd.out, HR.out.spn, Or.inr ⟨by omega, _, h', rfl, H5.out.1⟩⟩)⟩
    · have hz : ((Wd : Int) != (m : Int)) = true := by rw [bne_iff_ne]; omega
      have HWm : Hid (0 < m ∧ N 0 ≠ m) := by
        have h1 := HN.out.2.2.2.1
        by_cases hm0 : m = 0
        · rw [if_pos hm0] at h1
          omega
        · rw [if_neg hm0] at h1
          exact ⟨by omega, fun e => hWm (by omega)⟩
      clear hWm
      go_wp2_with (go_at_call 52; refine HCw.out.mono ?_; rintro e w' ⟨rfl, hw⟩; have hw := hw.symm; subst hw)
      go_ret2
      exact ⟨HW.out.2.2.1, Or.inr (Or.inl ⟨HW.out.1, HWm.out, rfl⟩)⟩
  · have HW : Hid (D.mchk m N Z ≠ 0 ∧ Below w.heap.size w w1) := ⟨h0, hb1⟩
    obtain ⟨e, he⟩ : ∃ e, e = D.mchk m N Z := ⟨_, rfl⟩
    rw [← he] at h0 ⊢
    have hz : (e != 0) = true := by rw [bne_iff_ne]; exact h0
    have HE : Hid (e = D.mchk m N Z) := he
    clear h0 hb1 he
    go_wp2
    go_ret2
    exact ⟨HW.out.2, Or.inl ⟨HW.out.1, by rw [← HE.out]; rfl⟩⟩

set_option maxHeartbeats 2000000 in
set_option maxRecDepth 100000 in
theorem minverse_none (q : Int) (h : ∀ D ∈ fieldsL, (D.q : Int) ≠ q) (ao : Option Addr) (n ca : Nat) (w : World) :
    Calls Try.prog 99 #[.int .i64 q, .slice ao n ca] w fun e w' => e = .returned (.tuple #[.slice none 0 0, .int .i64 1]) ∧ Below w.heap.size w w' := by
  have HB : Hid (∀ D ∈ fieldsL, (D.q : Int) ≠ q) := h
  clear h
  go_enter Try.func99, Try.ntmps99
  go_wp2_with fail
  refine (mover_none q HB.out _ 1 1 _ _ (by omega) (cell_of_row _ _ _ _ _ (0, 0) (two_new _))).mono ?_
  rintro e w' ⟨rfl, rfl⟩
  go_wp2
  go_ret2
  exact ⟨rfl, (Below.refl _ _).alloc (Nat.le_refl _) _⟩
set_option maxHeartbeats 2000000 in
set_option maxRecDepth 100000 in
theorem msolve_none (q : Int) (h : ∀ D ∈ fieldsL, (D.q : Int) ≠ q) (ao : Option Addr) (n ca : Nat) (v : Value) (w : World) :
    Calls Try.prog 63 #[.int .i64 q, .slice ao n ca, v] w fun e w' => e = .returned (.tuple #[.slice none 0 0, .bool false, .int .i64 1]) ∧ Below w.heap.size w w' := by
  have HB : Hid (∀ D ∈ fieldsL, (D.q : Int) ≠ q) := h
  clear h
  go_enter Try.func63, Try.ntmps63
  go_wp2_with fail
  refine (mover_none q HB.out _ 1 1 _ _ (by omega) (cell_of_row _ _ _ _ _ (0, 0) (two_new _))).mono ?_
  rintro e w' ⟨rfl, rfl⟩
  go_wp2
  go_ret3
  exact ⟨rfl, (Below.refl _ _).alloc (Nat.le_refl _) _⟩
set_option maxHeartbeats 2000000 in
set_option maxRecDepth 100000 in
theorem msolve_count {D : FD} (hD : D ∈ fieldsL) {ao bo : Option Addr} {m mb ca cb : Nat} {A : Nat → Option Addr} {N C : Nat → Nat} {Z : Nat → Nat → Int} {w : World} (ha : MatZ ao m A N C Z w) (hm : m ≤ 1000000) (hne : mb ≠ m) :
    Calls Try.prog 63 #[.int .i64 D.q, .slice ao m ca, .slice bo mb cb] w fun e w' => Below w.heap.size w w' ∧
      ((D.mchk m N Z ≠ 0 ∧ e = .returned (.tuple #[.slice none 0 0, .bool false, .int .i64 (D.mchk m N Z)])) ∨
       (D.mchk m N Z = 0 ∧ e = .returned (.tuple #[.slice none 0 0, .bool false, .int .i64 6]))) := by
  have HA : Hid (D ∈ fieldsL ∧ MatZ ao m A N C Z w) := ⟨hD, ha⟩
  have hz0 : ((mb : Int) != (m : Int)) = true := by rw [bne_iff_ne]; omega
  clear hD ha
  go_enter Try.func63, Try.ntmps63
  go_wp2_with fail
  refine (mover1_any HA.out.1 HA.out.2 hm).mono ?_
  rintro e w1 ⟨hb1, hr⟩
  rcases hr with ⟨h0, F, T, f, rfl, hat, hF, hT⟩ | ⟨h0, rfl⟩
  · have HW : Hid (D.mchk m N Z = 0 ∧ Below w.heap.size w w1) := ⟨h0, hb1⟩
    clear h0 hat hF hT hb1
    go_wp2
    go_ret3
    exact ⟨HW.out.2, Or.inr ⟨HW.out.1, rfl⟩⟩
  · have HW : Hid (D.mchk m N Z ≠ 0 ∧ Below w.heap.size w w1) := ⟨h0, hb1⟩
    obtain ⟨e, he⟩ : ∃ e, e = D.mchk m N Z := ⟨_, rfl⟩
    rw [← he] at h0 ⊢
    have hz : (e != 0) = true := by rw [bne_iff_ne]; exact h0
    have HE : Hid (e = D.mchk m N Z) := he
    clear h0 hb1 he
    go_wp2
    go_ret3
    exact ⟨HW.out.2, Or.inl ⟨HW.out.1, by rw [← HE.out]; rfl⟩⟩
end Go.Proofs.Ytbpeahhhkcljeaa

/- Plain mathematics: there is a reduced form. -/
namespace Go.Proofs.Ytbpeahhhkcljeaa

theorem rdg_ex {D : FD} (hD : D ∈ fieldsL) {m n : Nat} {R : Nat → Nat → Nat} (he : ∀ i, i < m → El D (R i)) (hb : ∀ i, i < m → Bd n (R i)) : ∀ c, ∃ k R' p, Rdg D m n c k R' p ∧ ∀ v, Spn D (RowsOf m R') v ↔ Spn D (RowsOf m R) v
  | 0 => ⟨0, R, fun _ => 0, rdg_start he hb _, fun _ => Iff.rfl⟩
  | c + 1 => by
    obtain ⟨k, R', p, h, hs⟩ := rdg_ex hD he hb c
    by_cases hx : ∃ i, k ≤ i ∧ i < m ∧ R' i c ≠ 0
    · obtain ⟨b, h1, h2, h3⟩ := hx
      have hk : k < m := by omega
      have hw := rdg_swap h h1 h2
      have h0 : swpR R' k b k c ≠ 0 := by unfold swpR; rw [if_pos rfl]; exact h3
      exact ⟨k + 1, _, _, rdg_clear hD hw hk h0, fun v => by rw [spn_clear hD hk hw.el h0 v, spn_swap (fld hD) hk h2 h.el v]; exact hs v⟩
    · exact ⟨k, R', p, rdg_skip h (fun i h1 h2 => Classical.byContradiction fun h3 => hx ⟨i, h1, h2, h3⟩), hs⟩
theorem rre_ex {D : FD} (hD : D ∈ fieldsL) {m n : Nat} {R : Nat → Nat → Nat} (he : ∀ i, i < m → El D (R i)) (hb : ∀ i, i < m → Bd n (R i)) : ∃ k R' p, k ≤ m ∧ RRE D n k R' p ∧ ∀ v, Spn D (RowsOf k R') v ↔ Spn D (RowsOf m R) v := by
  obtain ⟨k, R', p, h, hs⟩ := rdg_ex hD he hb n
  obtain ⟨h1, _, h2⟩ := rdg_end (fld hD) h
  exact ⟨k, R', p, h.le, h1, fun v => (h2 v).trans (hs v)⟩
end Go.Proofs.Ytbpeahhhkcljeaa

/- A list of lists of numbers that a statement is given, opened. -/
namespace Go.Proofs.Ytbpeahhhkcljeaa
open Go.ChangeShapes Go.WideShapes Go.ChangeAt Go.RowKit

/-- A matrix that is handed in: m lists of whatever length. -/
structure MatO (ao : Option Addr) (m : Nat) (A : Nat → Option Addr) (N C : Nat → Nat) (Z : Nat → Nat → Int) (w : World) : Prop where
  cell : ∀ i, i < m → ∃ b off, ao = some ⟨b, off, none⟩ ∧ w.cell? ⟨b, off + i, none⟩ = some (.slice (A i) (N i) (C i))
  sl : ∀ i, i < m → SlZ (A i) (N i) (Z i) w
  le : ∀ i, i < m → N i ≤ C i
  cap : ∀ i, i < m → C i ≤ 9223372036854775807
  nil : ∀ i, i < m → A i = none → C i = 0
theorem MatO.matZ {ao : Option Addr} {m : Nat} {A : Nat → Option Addr} {N C : Nat → Nat} {Z : Nat → Nat → Int} {w : World} (h : MatO ao m A N C Z w) (hf : ∀ i, i < m → N i ≤ 1000000) : MatZ ao m A N C Z w := ⟨h.cell, h.sl, h.le, h.cap, h.nil, hf⟩

end Go.Proofs.Ytbpeahhhkcljeaa

/- How heavy a list of lists is that a statement is given. -/
namespace Go.Proofs.Ytbpeahhhkcljeaa
open Go.RowKit Go.Sort

/-- The lists' number, and the lengths of the first i, added up to where it is above 6,000. -/
def hvs (N : Nat → Nat) (m : Nat) : Nat → Nat
  | 0 => m
  | i + 1 => if hvs N m i ≤ 6000 then hvs N m i + N i else hvs N m i
theorem hvs_stay {N : Nat → Nat} {m i : Nat} (h : ¬ hvs N m i ≤ 6000) : ∀ d, hvs N m (i + d) = hvs N m i
  | 0 => rfl
  | d + 1 => by
    show (if hvs N m (i + d) ≤ 6000 then hvs N m (i + d) + N (i + d) else hvs N m (i + d)) = _
    rw [hvs_stay h d, if_neg h]
theorem hvs_few {N : Nat → Nat} {m : Nat} : ∀ i, hvs N m i ≤ 6000 → m ≤ 6000 ∧ ∀ j, j < i → N j ≤ 6000
  | 0, h => ⟨h, fun j hj => by omega⟩
  | i + 1, h => by
    by_cases e : hvs N m i ≤ 6000
    · have h' : (if hvs N m i ≤ 6000 then hvs N m i + N i else hvs N m i) ≤ 6000 := h
      rw [if_pos e] at h'
      have ih := hvs_few i e
      refine ⟨ih.1, fun j hj => ?_⟩
      by_cases e2 : j = i
      · rw [e2]; omega
      · exact ih.2 j (by omega)
    · have h' : (if hvs N m i ≤ 6000 then hvs N m i + N i else hvs N m i) ≤ 6000 := h
      rw [if_neg e] at h'
      exact absurd h' e

set_option maxHeartbeats 2000000 in
set_option maxRecDepth 100000 in
theorem heavy_any {ao : Option Addr} {m ca : Nat} {A : Nat → Option Addr} {N C : Nat → Nat} {w : World} (hc : ∀ i, i < m → ∃ b off, ao = some ⟨b, off, none⟩ ∧ w.cell? ⟨b, off + i, none⟩ = some (.slice (A i) (N i) (C i))) (hm : m ≤ 17592186044416) (hN : ∀ i, i < m → N i ≤ 17592186044416) :
    Calls Try.prog 9 #[.slice ao m ca] w fun r w' => r = .returned (.bool (decide (6000 < hvs N m m))) ∧ w' = w := by
  have HC : Hid ((∀ i, i < m → ∃ b off, ao = some ⟨b, off, none⟩ ∧ w.cell? ⟨b, off + i, none⟩ = some (.slice (A i) (N i) (C i))) ∧ ∀ i, i < m → N i ≤ 17592186044416) := ⟨hc, hN⟩
  clear hc hN
  go_enter Try.func9, Try.ntmps9
  go_wp2
  go_loopw [3, 4] (fun vn vi wr => ∃ (s i : Nat), i ≤ m ∧ vn = .int .i64 s ∧ vi = .int .i64 i ∧ s ≤ 17592186044416 + 17592186044416 ∧ Hid (s = hvs N m i) ∧ wr = w) (fun _ vi _ => m - (intOf vi).toNat)
  case atStart => exact ⟨m, 0, by omega, rfl, rfl, by omega, (show Hid _ from rfl), rfl⟩
  case round =>
    obtain ⟨s, i, hi, rfl, rfl, hs, HG, hw⟩ := hrel
    have hw := hw.symm
    subst hw
    by_cases hlt : i < m
    · have hib : (i : Int) < (m : Int) := by omega
      by_cases h6 : s ≤ 6000
      · have h6b : (s : Int) ≤ 6000 := by omega
        obtain ⟨b, off, rfl, hcl⟩ := HC.out.1 i hlt
        have hNi := HC.out.2 i hlt
        obtain ⟨x, hx⟩ : ∃ x, x = N i := ⟨_, rfl⟩
        rw [← hx] at hcl hNi
        have HV : Hid (s + x = hvs N m (i + 1)) := by
          show s + x = if hvs N m i ≤ 6000 then hvs N m i + N i else hvs N m i
          rw [← HG.out, if_pos h6, hx]
        clear hx
        go_wp2
        go_roundw
        case rel => exact ⟨s + x, i + 1, by omega, by go_num, by go_num, by omega, HV.out, by first | rfl | trivial⟩
        case measure => simp [intOf]; omega
      · have h6b : ¬ (s : Int) ≤ 6000 := by omega
        have h6c : (6000 : Int) < (s : Int) := by omega
        have HV : Hid (decide (6000 < hvs N m m) = true) := by
          show _ = _
          have h1 := hvs_stay (N := N) (m := m) (i := i) (by rw [← HG.out]; exact h6) (m - i)
          rw [show i + (m - i) = m from by omega] at h1
          rw [decide_eq_true_eq, h1, ← HG.out]; omega
        clear h6
        go_wp2
        go_ret
        exact ⟨by rw [HV.out]; rfl, rfl⟩
    · have hib : ¬ (i : Int) < (m : Int) := by omega
      have hie : m = i := by omega
      subst hie
      by_cases h6 : s ≤ 6000
      · have h6c : ¬ (6000 : Int) < (s : Int) := by omega
        have HV : Hid (decide (6000 < hvs N m m) = false) := by
          show _ = _
          rw [decide_eq_false_iff_not, ← HG.out]; omega
        clear h6
        go_wp2
        go_ret
        exact ⟨by rw [HV.out]; rfl, rfl⟩
      · have h6c : (6000 : Int) < (s : Int) := by omega
        have HV : Hid (decide (6000 < hvs N m m) = true) := by
          show _ = _
          rw [decide_eq_true_eq, ← HG.out]; omega
        clear h6
        go_wp2
        go_ret
        exact ⟨by rw [HV.out]; rfl, rfl⟩
end Go.Proofs.Ytbpeahhhkcljeaa
