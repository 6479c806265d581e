/- The program's matrices: linear equations (Solve). -/
import Derived.Test.YtcgmllamiaflcaaZX14
namespace Go.Proofs.Ytcgmllamiaflcaa
open Go.RowKit

theorem allHas_lt {D : FD} {y : Nat → Int} {m : Nat} (h : D.allHas y m = true) (i : Nat) (hi : i < m) : zc m y i < D.q ∧ y i = ((zc m y i : Nat) : Int) := by
  have h1 := allHas_iff.1 h i hi
  obtain ⟨x, hx, hq⟩ := has_nat h1
  unfold zc
  rw [if_pos hi, hx]
  exact ⟨by simpa using hq, by simp⟩
/-- What Solve tells where it can: a list of its own, as long as its block. -/
def SvP (base W : Nat) (s : Nat → Nat) (e : Ending) (w' : World) : Prop := ∃ gx, e = .returned (.tuple #[.slice (some ⟨gx, 0, none⟩) W W, .bool true, .int .i64 0]) ∧ base ≤ gx ∧ Row gx W s w' ∧ W ≤ 1000

set_option maxHeartbeats 8000000 in
set_option maxRecDepth 100000 in
theorem msolve_row {D : FD} (hD : D ∈ fieldsL) {ao bo : Option Addr} {m ca cb : Nat} {A : Nat → Option Addr} {N C : Nat → Nat} {Z : Nat → Nat → Int} {y : Nat → Int} {w : World} (ha : MatZ ao m A N C Z w) (hm : m ≤ 1000000) (hy : SlZ bo m y w) :
    Calls Try.prog 58 #[.int .i64 D.q, .slice ao m ca, .slice bo m cb] w fun e w' => Below w.heap.size w w' ∧
      ((D.mchk m N Z ≠ 0 ∧ e = .returned (.tuple #[.slice none 0 0, .bool false, .int .i64 (D.mchk m N Z)])) ∨
       (D.mchk m N Z = 0 ∧ D.allHas y m = false ∧ e = .returned (.tuple #[.slice none 0 0, .bool false, .int .i64 2])) ∨
       (D.mchk m N Z = 0 ∧ D.allHas y m = true ∧ ∃ k R p W, (m = 0 → W = 0) ∧ (0 < m → W = N 0) ∧ Rdg D m (W + 1) W k R p ∧ (∀ v, Spn D (RowsOf m R) v ↔ Spn D (RowsOf m (aug W (mzc N Z) (zc m y))) v) ∧
         (((∃ i, k ≤ i ∧ i < m ∧ R i W ≠ 0) ∧ e = .returned (.tuple #[.slice none 0 0, .bool false, .int .i64 0])) ∨
          ((∀ i, k ≤ i → i < m → R i W = 0) ∧ SvP w.heap.size W (slx R p W k) e w')))) := by
  have HA : Hid (D ∈ fieldsL ∧ MatZ ao m A N C Z w ∧ SlZ bo m y w) := ⟨hD, ha, hy⟩
  have hmm : ((m : Int) != (m : Int)) = false := by simp
  clear hD ha hy
  go_enter Try.func58, Try.ntmps58
  go_wp2_with fail
  refine (mover1_any HA.out.1 HA.out.2.1 hm).mono ?_
  rintro e w1 ⟨hb1, hr⟩
  rcases hr with ⟨h0, F, T, f, rfl, hat, hF, hT⟩ | ⟨h0, rfl⟩
  · have HW : Hid (D.mchk m N Z = 0 ∧ FAt F T D f w1 ∧ Below w.heap.size w w1 ∧ MatZ ao m A N C Z w1 ∧ SlZ bo m y w1) := ⟨h0, hat, hb1, HA.out.2.1.below hb1, slz_below HA.out.2.2 hb1⟩
    clear h0 hat hF hT hb1
    obtain ⟨n, Wd, HN⟩ : ∃ n Wd, Hid (n ≤ 64 ∧ Wd ≤ n + 1 ∧ m ≤ 64 ∧ Wd = (if m = 0 then 0 else N 0) ∧ (0 < m → n + 1 = N 0) ∧ (∀ i, i < m → El D (mzc N Z i) ∧ Bd (n + 1) (mzc N Z i)) ∧ MatR ao m n (mzc N Z) w1) := by
      by_cases hm0 : m = 0
      · exact ⟨0, 0, ⟨by omega, by omega, by omega, by rw [if_pos hm0], fun h => by omega, fun i hi => by omega, fun i hi => by omega⟩⟩
      · obtain ⟨h1, n, h2, h3, h4, h5⟩ := mchk_rows (fld HA.out.1) HW.out.1 HW.out.2.2.2.1 (by omega)
        exact ⟨n, n + 1, ⟨by omega, by omega, h1, by rw [if_neg hm0, h2], fun _ => h2.symm, fun i hi => (h4 i hi).2, h5⟩⟩
    have hn64 := HN.out.1
    have hWd := HN.out.2.1
    have hm64 := HN.out.2.2.1
    have HN2 : Hid ((m = 0 → Wd = 0) ∧ (0 < m → Wd = N 0)) := ⟨fun h => by rw [HN.out.2.2.2.1, if_pos h], fun h => by rw [HN.out.2.2.2.1, if_neg (by omega)]⟩
    go_wp2_with fail
    refine (wider_any (more := 1) HN.out.2.2.2.2.2.2 (fun i hi => (HN.out.2.2.2.2.2.1 i hi).2) (by omega) (by omega) (by omega)).mono ?_
    rintro e w2 ⟨rfl, ⟨h, hmx⟩, hb2⟩
    have H2 : Hid (Mx w1.heap.size w1.heap.size m m (Wd + 1) (mzc N Z) h w2 ∧ Below w1.heap.size w1 w2) := by
      refine ⟨?_, hb2⟩
      by_cases hm0 : m = 0
      · subst hm0
        exact hmx.any
      · have : Wd = n + 1 := by rw [HN2.out.2 (by omega), HN.out.2.2.2.2.1 (by omega)]
        rw [this]; exact hmx
    have HEl : Hid (∀ i, i < m → El D (mzc N Z i) ∧ Bd Wd (mzc N Z i)) := fun i hi => by
      have : Wd = n + 1 := by rw [HN2.out.2 (by omega), HN.out.2.2.2.2.1 (by omega)]
      rw [this]; exact HN.out.2.2.2.2.2.1 i hi
    clear hmx hb2
    have HCw : Hid (Calls Try.prog 75 #[.slice ao m ca] w2 fun e w' => e = .returned (.int .i64 (Wd : Int)) ∧ w' = w2) := by
      show Calls _ _ _ _ _
      have h := width_any (ca := ca) (HW.out.2.2.2.1.below H2.out.2)
      rw [← HN.out.2.2.2.1] at h; exact h
    have hs1 := HW.out.2.2.1.size
    go_wp2_with (go_at_call 75; refine HCw.out.mono ?_; rintro e w' ⟨rfl, hw⟩; have hw := hw.symm; subst hw)
    go_loopw [42] (fun vi wr => ∃ i : Nat, i ≤ m ∧ vi = .int .i64 i ∧ Hid (Mx w1.heap.size w1.heap.size m m (Wd + 1) (fun r => if r < i then aug Wd (mzc N Z) (zc m y) r else mzc N Z r) h wr ∧ TchR h m w2 wr ∧ D.allHas y i = true)) (fun vi _ => m - (intOf vi).toNat)
    case atStart => exact ⟨0, by omega, rfl, H2.out.1.congr (fun r _ j _ => by rw [if_neg (by omega)]), TchR.refl _ _ _, rfl⟩
    case round =>
      obtain ⟨i, hi, rfl, HG⟩ := hrel
      rename World => wA
      have hbA : Below w1.heap.size w1 wA := H2.out.2.trans (HG.out.2.1.below H2.out.1.ge)
      by_cases hlt : i < m
      · have hib : (i : Int) < (m : Int) := by omega
        obtain ⟨bb, ob, rfl, hcb⟩ := (slz_below HW.out.2.2.2.2 hbA) i hlt
        obtain ⟨x, hx⟩ : ∃ x, x = y i := ⟨_, rfl⟩
        rw [← hx] at hcb
        have HC1 : Hid (Calls Try.prog 37 #[.pointer (some ⟨F, 0, none⟩), .int .i64 x] wA fun e w' => e = .returned (.bool (D.has x)) ∧ w' = wA) := has_any (HW.out.2.1.below hbA HW.out.2.1.ltF HW.out.2.1.ltT) x
        by_cases hh : D.has x = true
        · rw [hh] at HC1
          have hall : D.allHas y (i + 1) = true := by
            show (D.allHas y i && D.has (y i)) = true
            rw [HG.out.2.2, ← hx, hh]; rfl
          obtain ⟨z, hz, hzq⟩ := has_nat hh
          have hzc : zc m y i = z := by unfold zc; rw [if_pos hlt, ← hx, hz]; simp
          have hcr := HG.out.1.cell i hlt
          have hrw := HG.out.1.row i hlt
          have hcw := hrw.cell Wd (by omega)
          have hfw := hrw.free Wd
          have hwb : (Wd : Int) < (Wd : Int) + 1 := by omega
          have HV : Hid (Mx w1.heap.size w1.heap.size m m (Wd + 1) (fun r => if r < i + 1 then aug Wd (mzc N Z) (zc m y) r else mzc N Z r) h (wA.setCell ⟨h i, Wd, none⟩ (.int .i64 (z : Nat))) ∧ TchR h m w2 (wA.setCell ⟨h i, Wd, none⟩ (.int .i64 (z : Nat))) ∧ D.allHas y (i + 1) = true) := by
            have ht : Tch (h i) wA (wA.setCell ⟨h i, Wd, none⟩ (.int .i64 (z : Nat))) := (Tch.refl _ _).setCell _ _
            refine ⟨(HG.out.1.write hlt ht (hrw.store Wd z (d := aug Wd (mzc N Z) (zc m y) i) (fun j hj => ?_))).congr (fun r hr j hj => ?_), HG.out.2.1.trans (ht.all hlt), hall⟩
            · unfold aug
              by_cases e : j = Wd
              · rw [if_pos e, if_pos e, hzc]
              · rw [if_neg e, if_neg e, if_neg (by omega)]
            · by_cases e : r = i
              · rw [if_pos e, if_pos (by omega), e]
              · rw [if_neg e]
                by_cases e2 : r < i
                · rw [if_pos e2, if_pos (by omega)]
                · rw [if_neg e2, if_neg (by omega)]
          obtain ⟨gb, hgb⟩ : ∃ gb, gb = h i := ⟨_, rfl⟩
          obtain ⟨u0, hu0⟩ : ∃ u0, wA.cell? ⟨gb, Wd, none⟩ = some u0 := ⟨_, by rw [hgb]; exact hcw⟩
          rw [← hgb] at hcr hfw HV
          subst hz
          clear hh hx hzc hall hrw hcw hgb hbA
          go_wp2_with (go_at_call 37; refine HC1.out.mono ?_; rintro e w' ⟨rfl, hw⟩; have hw := hw.symm; subst hw)
          go_roundw
          case rel => exact ⟨i + 1, by omega, by go_num, HV.out⟩
          case measure => simp [intOf]; omega
        · have hh' : D.has x = false := by simpa using hh
          rw [hh'] at HC1
          have HH : Hid (D.allHas y m = false) := by
            show _ = _
            cases h : D.allHas y m with
            | false => rfl
            | true => exact absurd (by rw [hx]; exact allHas_iff.1 h i hlt) hh
          have HB : Hid (Below w.heap.size w wA) := HW.out.2.2.1.trans (hbA.mono hs1)
          clear hh hh' hx hbA
          go_wp2_with (go_at_call 37; refine HC1.out.mono ?_; rintro e w' ⟨rfl, hw⟩; have hw := hw.symm; subst hw)
          go_ret3
          exact ⟨HB.out, Or.inr (Or.inl ⟨HW.out.1, HH.out, rfl⟩)⟩
      · have hib : ¬ (i : Int) < (m : Int) := by omega
        have hie : m = i := by omega
        subst hie
        have H3 : Hid (Mx w1.heap.size w1.heap.size m m (Wd + 1) (aug Wd (mzc N Z) (zc m y)) h wA ∧ Below w1.heap.size w1 wA) := ⟨HG.out.1.congr (fun r hr j _ => by rw [if_pos hr]), hbA⟩
        have HH : Hid (D.allHas y m = true) := HG.out.2.2
        clear hbA
        go_wp2_with fail
        have hF1 := HW.out.2.1.ltF
        have hT1 := HW.out.2.1.ltT
        refine (reduce_any HA.out.1 (HW.out.2.1.below H3.out.2 hF1 hT1) hF1 hT1 H3.out.1 (by omega) (by omega) (fun i hi => aug_el (HEl.out i hi).1 (allHas_lt HH.out i hi).1) (fun i hi => aug_bd (HEl.out i hi).2) (by omega)).mono ?_
        rintro e w4 ⟨k, R', p, h', pv, rfl, hst⟩
        obtain ⟨po, pc, rfl, hpl⟩ := hst.own.argL
        have HR : Hid (RSt D w1.heap.size w1.heap.size m m (Wd + 1) (aug Wd (mzc N Z) (zc m y)) wA Wd k R' p h' (.slice po k pc) w4) := hst
        have HPl : Hid (ArgL po k pc (fun j => ((p j : Nat) : Int)) w4) := hpl
        have HB : Hid (Below w.heap.size w w4) := (HW.out.2.2.1.trans (H3.out.2.mono hs1)).trans (hst.bel.mono hs1)
        have hkm : k ≤ m := hst.rdg.le
        have hki : (k : Int) ≤ (m : Int) := by omega
        clear hst hpl hF1 hT1 HG
        by_cases hkm2 : k = m
        · have hkm3 : m = k := hkm2.symm
          subst hkm3
          clear hkm2
          go_wp2_with fail
          go_loopw [68] (fun vj wi => ∃ j : Nat, j ≤ m - m ∧ vj = .int .i64 j ∧ Hid (∀ r, m ≤ r → r < m + j → R' r Wd = 0) ∧ wi = w4) (fun vj _ => m - m - (intOf vj).toNat)
          case atStart => exact ⟨0, by omega, rfl, (show Hid _ from fun r h1 h2 => absurd h1 (by omega)), rfl⟩
          case round =>
            obtain ⟨j, hj, rfl, HJ, hw4⟩ := hrel
            have hw4 := hw4.symm
            subst hw4
            by_cases hlt2 : j < m - m
            · exact absurd hlt2 (by omega)
            · have hjb : ¬ (j : Int) < ((m - m : Nat) : Int) := by omega
              have HZ : Hid (∀ i, m ≤ i → i < m → R' i Wd = 0) := fun r h1 h2 => HJ.out r h1 (by omega)
              go_wp2_with (at_make; refine make_int rfl _ _ rfl _ Wd rfl rfl rfl (by omega) ?_; intro w5 hown5 hgrow5)
              have H5 : Hid (Row w4.heap.size Wd pnil w5 ∧ Below w4.heap.size w4 w5) := ⟨row_zeros hown5, below_grown hgrow5 (Nat.le_refl _) (fun k hk => by simp at hk)⟩
              clear hown5 hgrow5
              obtain ⟨gx, hg⟩ : ∃ g, g = w4.heap.size := ⟨_, rfl⟩
              have H5' : Hid (Row gx Wd pnil w5 ∧ Below w4.heap.size w4 w5) := by rw [hg]; exact H5.out
              rw [← hg]
              have hgD : w4.heap.size ≤ gx := by omega
              clear H5 hg
              go_loopw [82] (fun vj wi => ∃ j : Nat, j ≤ m ∧ vj = .int .i64 j ∧ Hid (Row gx Wd (slx R' p Wd j) wi ∧ Below w4.heap.size w4 wi)) (fun vj _ => m - (intOf vj).toNat)
              case atStart => exact ⟨0, by omega, rfl, H5'.out.1.congr (fun _ _ => rfl), H5'.out.2⟩
              case round =>
                clear H5' HJ
                obtain ⟨j, hj, rfl, HJ⟩ := hrel
                rename World => wB
                by_cases hjk : j < m
                · have hjb : (j : Int) < (m : Int) := by omega
                  have hjm : (j : Int) < (m : Int) := by omega
                  obtain ⟨bp, op, rfl, hcp⟩ := (HPl.out.sl.below HJ.out.2 HPl.out.lt) j hjk
                  replace hcp : wB.cell? ⟨bp, op + j, none⟩ = some (.int .i64 ((p j : Nat) : Int)) := hcp
                  obtain ⟨y', hy⟩ : ∃ y, y = p j := ⟨_, rfl⟩
                  rw [← hy] at hcp
                  have hyL2 : y' < Wd := by rw [hy]; exact HR.out.rdg.lt j hjk
                  have hyb : (y' : Int) < (Wd : Int) := by omega
                  have hMB := HR.out.mx.below HJ.out.2
                  have hcr := hMB.cell j (by omega)
                  have hcx := (hMB.row j (by omega)).cell Wd (by omega)
                  obtain ⟨x, hx⟩ : ∃ x, x = R' j Wd := ⟨_, rfl⟩
                  obtain ⟨gb, hgb⟩ : ∃ gb, gb = h' j := ⟨_, rfl⟩
                  rw [← hx] at hcx
                  rw [← hgb] at hcr hcx
                  have hwb : (Wd : Int) < (Wd : Int) + 1 := by omega
                  have hcy := HJ.out.1.cell y' hyL2
                  have hfy := HJ.out.1.free y'
                  have HV : Hid (∀ c, c < Wd → slx R' p Wd (j + 1) c = if c = y' then x else slx R' p Wd j c) := fun c _ => by rw [hx, hy]; rfl
                  clear hy hx hgb hMB
                  go_wp2
                  go_roundw
                  case rel => exact ⟨j + 1, by omega, by go_num, HJ.out.1.store y' x HV.out, HJ.out.2.setCell hgD _⟩
                  case measure => simp [intOf]; omega
                · have hjb : ¬ (j : Int) < (m : Int) := by omega
                  have hje : j = m := by omega
                  subst hje
                  have HE : Hid (w.heap.size ≤ gx ∧ Row gx Wd (slx R' p Wd j) wB ∧ Wd ≤ 1000) := ⟨by have := HB.out.size; omega, HJ.out.1, by omega⟩
                  go_wp2
                  go_ret3
                  exact ⟨bel_up' HB.out HJ.out.2, Or.inr (Or.inr ⟨HW.out.1, HH.out, j, R', p, Wd, HN2.out.1, HN2.out.2, HR.out.rdg, HR.out.spn, Or.inr ⟨HZ.out, gx, rfl, HE.out⟩⟩)⟩
        · have hkl : k < m := by omega
          have hkl2 : (k : Int) < (m : Int) := by omega
          have hkl3 : ¬ m = k := by omega
          clear hkm2
          go_wp2_with fail
          go_loopw [68] (fun vj wi => ∃ j : Nat, j ≤ m - k ∧ vj = .int .i64 j ∧ Hid (∀ r, k ≤ r → r < k + j → R' r Wd = 0) ∧ wi = w4) (fun vj _ => m - k - (intOf vj).toNat)
          case atStart => exact ⟨0, by omega, rfl, (show Hid _ from fun r h1 h2 => absurd h1 (by omega)), rfl⟩
          case round =>
            obtain ⟨j, hj, rfl, HJ, hw4⟩ := hrel
            have hw4 := hw4.symm
            subst hw4
            by_cases hlt2 : j < m - k
            · have hjb : (j : Int) < ((m - k : Nat) : Int) := by omega
              have hcr := HR.out.mx.cell (k + j) (by omega)
              have hcw := (HR.out.mx.row (k + j) (by omega)).cell Wd (by omega)
              have hwb : (Wd : Int) < (Wd : Int) + 1 := by omega
              obtain ⟨x, hx⟩ : ∃ x, x = R' (k + j) Wd := ⟨_, rfl⟩
              obtain ⟨gb, hgb⟩ : ∃ gb, gb = h' (k + j) := ⟨_, rfl⟩
              rw [← hx] at hcw
              rw [← hgb] at hcr hcw
              by_cases hx0 : x = 0
              · have hz : ((x : Int) != 0) = false := by rw [hx0]; simp
                have HJ2 : Hid (∀ r, k ≤ r → r < k + (j + 1) → R' r Wd = 0) := fun r h1 h2 => by
                  by_cases e : r = k + j
                  · rw [e, ← hx, hx0]
                  · exact HJ.out r h1 (by omega)
                clear hx hx0 hgb
                go_wp2
                go_roundw
                case rel => exact ⟨j + 1, by omega, by go_num, HJ2.out, by first | rfl | trivial⟩
                case measure => simp [intOf]; omega
              · have hz : ((x : Int) != 0) = true := by rw [bne_iff_ne]; omega
                have HE : Hid (∃ i, k ≤ i ∧ i < m ∧ R' i Wd ≠ 0) := ⟨k + j, by omega, by omega, by rw [← hx]; exact hx0⟩
                clear hx hx0 hgb
                go_wp2
                go_ret3
                exact ⟨HB.out, Or.inr (Or.inr ⟨HW.out.1, HH.out, k, R', p, Wd, HN2.out.1, HN2.out.2, HR.out.rdg, HR.out.spn, Or.inl ⟨HE.out, rfl⟩⟩)⟩
            · have hjb : ¬ (j : Int) < ((m - k : Nat) : Int) := by omega
              have HZ : Hid (∀ i, k ≤ i → i < m → R' i Wd = 0) := fun r h1 h2 => HJ.out r h1 (by omega)
              go_wp2_with (at_make; refine make_int rfl _ _ rfl _ Wd rfl rfl rfl (by omega) ?_; intro w5 hown5 hgrow5)
              have H5 : Hid (Row w4.heap.size Wd pnil w5 ∧ Below w4.heap.size w4 w5) := ⟨row_zeros hown5, below_grown hgrow5 (Nat.le_refl _) (fun k hk => by simp at hk)⟩
              clear hown5 hgrow5
              obtain ⟨gx, hg⟩ : ∃ g, g = w4.heap.size := ⟨_, rfl⟩
              have H5' : Hid (Row gx Wd pnil w5 ∧ Below w4.heap.size w4 w5) := by rw [hg]; exact H5.out
              rw [← hg]
              have hgD : w4.heap.size ≤ gx := by omega
              clear H5 hg
              go_loopw [82] (fun vj wi => ∃ j : Nat, j ≤ k ∧ vj = .int .i64 j ∧ Hid (Row gx Wd (slx R' p Wd j) wi ∧ Below w4.heap.size w4 wi)) (fun vj _ => k - (intOf vj).toNat)
              case atStart => exact ⟨0, by omega, rfl, H5'.out.1.congr (fun _ _ => rfl), H5'.out.2⟩
              case round =>
                clear H5' HJ
                obtain ⟨j, hj, rfl, HJ⟩ := hrel
                rename World => wB
                by_cases hjk : j < k
                · have hjb : (j : Int) < (k : Int) := by omega
                  have hjm : (j : Int) < (m : Int) := by omega
                  obtain ⟨bp, op, rfl, hcp⟩ := (HPl.out.sl.below HJ.out.2 HPl.out.lt) j hjk
                  replace hcp : wB.cell? ⟨bp, op + j, none⟩ = some (.int .i64 ((p j : Nat) : Int)) := hcp
                  obtain ⟨y', hy⟩ : ∃ y, y = p j := ⟨_, rfl⟩
                  rw [← hy] at hcp
                  have hyL2 : y' < Wd := by rw [hy]; exact HR.out.rdg.lt j hjk
                  have hyb : (y' : Int) < (Wd : Int) := by omega
                  have hMB := HR.out.mx.below HJ.out.2
                  have hcr := hMB.cell j (by omega)
                  have hcx := (hMB.row j (by omega)).cell Wd (by omega)
                  obtain ⟨x, hx⟩ : ∃ x, x = R' j Wd := ⟨_, rfl⟩
                  obtain ⟨gb, hgb⟩ : ∃ gb, gb = h' j := ⟨_, rfl⟩
                  rw [← hx] at hcx
                  rw [← hgb] at hcr hcx
                  have hwb : (Wd : Int) < (Wd : Int) + 1 := by omega
                  have hcy := HJ.out.1.cell y' hyL2
                  have hfy := HJ.out.1.free y'
                  have HV : Hid (∀ c, c < Wd → slx R' p Wd (j + 1) c = if c = y' then x else slx R' p Wd j c) := fun c _ => by rw [hx, hy]; rfl
                  clear hy hx hgb hMB
                  go_wp2
                  go_roundw
                  case rel => exact ⟨j + 1, by omega, by go_num, HJ.out.1.store y' x HV.out, HJ.out.2.setCell hgD _⟩
                  case measure => simp [intOf]; omega
                · have hjb : ¬ (j : Int) < (k : Int) := by omega
                  have hje : j = k := by omega
                  subst hje
                  have HE : Hid (w.heap.size ≤ gx ∧ Row gx Wd (slx R' p Wd j) wB ∧ Wd ≤ 1000) := ⟨by have := HB.out.size; omega, HJ.out.1, by omega⟩
                  go_wp2
                  go_ret3
                  exact ⟨bel_up' HB.out HJ.out.2, Or.inr (Or.inr ⟨HW.out.1, HH.out, j, R', p, Wd, HN2.out.1, HN2.out.2, HR.out.rdg, HR.out.spn, Or.inr ⟨HZ.out, gx, rfl, HE.out⟩⟩)⟩
  · have HW : Hid (D.mchk m N Z ≠ 0 ∧ Below w.heap.size w w1) := ⟨h0, hb1⟩
    obtain ⟨e, he⟩ : ∃ e, e = D.mchk m N Z := ⟨_, rfl⟩
    rw [← he] at h0 ⊢
    have hz : (e != 0) = true := by rw [bne_iff_ne]; exact h0
    have HE : Hid (e = D.mchk m N Z) := he
    clear h0 hb1 he
    go_wp2
    go_ret3
    exact ⟨HW.out.2, Or.inl ⟨HW.out.1, by rw [← HE.out]; rfl⟩⟩
end Go.Proofs.Ytcgmllamiaflcaa
