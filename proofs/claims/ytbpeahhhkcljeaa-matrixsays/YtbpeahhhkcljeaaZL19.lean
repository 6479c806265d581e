/- MatrixSays: the walk of the statement, whatever it is given: all cases. -/
import Derived.Test.YtbpeahhhkcljeaaZL18
namespace Go.Proofs.Ytbpeahhhkcljeaa
open Go.RowKit Go.Sort

set_option maxHeartbeats 2000000 in
set_option maxRecDepth 100000 in
theorem msays_heavy (q : Int) {ao bo yo : Option Addr} {m m' my ca cb cy : Nat} {b1 b2 : Bool} {w : World} (hHa : Calls Try.prog 9 #[.slice ao m ca] w fun r w' => r = .returned (.bool b1) ∧ w' = w) (hHb : Calls Try.prog 9 #[.slice bo m' cb] w fun r w' => r = .returned (.bool b2) ∧ w' = w) (hmy : my ≤ 17592186044416) (h : b1 = true ∨ b2 = true ∨ 100 < my) :
    Calls Try.prog 3 #[.int .i64 q, .slice ao m ca, .slice bo m' cb, .slice yo my cy] w fun r w' => r = .returned (.bool true) ∧ Below w.heap.size w w' := by
  have HHa : Hid (Calls Try.prog 9 #[.slice ao m ca] w fun r w' => r = .returned (.bool b1) ∧ w' = w) := hHa
  have HHb : Hid (Calls Try.prog 9 #[.slice bo m' cb] w fun r w' => r = .returned (.bool b2) ∧ w' = w) := hHb
  clear hHa hHb
  cases b1 with
  | true =>
    go_enter Try.func3, Try.ntmps3
    go_wp2_with fail
    refine HHa.out.mono ?_
    rintro r w' ⟨rfl, hw⟩
    have hw := hw.symm
    subst hw
    go_wp2
    go_ret
    exact ⟨rfl, Below.refl _ _⟩
  | false =>
    cases b2 with
    | true =>
      go_enter Try.func3, Try.ntmps3
      go_wp2_with fail
      refine HHa.out.mono ?_
      rintro r w' ⟨rfl, hw⟩
      have hw := hw.symm
      subst hw
      go_wp2_with fail
      refine HHb.out.mono ?_
      rintro r w' ⟨rfl, hw⟩
      have hw := hw.symm
      subst hw
      go_wp2
      go_ret
      exact ⟨rfl, Below.refl _ _⟩
    | false =>
      have hyb : (100 : Int) < (my : Int) := by
        rcases h with h | h | h
        · cases h
        · cases h
        · omega
      go_enter Try.func3, Try.ntmps3
      go_wp2_with fail
      refine HHa.out.mono ?_
      rintro r w' ⟨rfl, hw⟩
      have hw := hw.symm
      subst hw
      go_wp2_with fail
      refine HHb.out.mono ?_
      rintro r w' ⟨rfl, hw⟩
      have hw := hw.symm
      subst hw
      go_wp2
      go_ret
      exact ⟨rfl, Below.refl _ _⟩

theorem matrixSays_light (q : Int) {ao bo yo : Option Addr} {m m' my ca cb cy : Nat} {A A' : Nat → Option Addr} {N C N' C' : Nat → Nat} {Z Z' : Nat → Nat → Int} {y : Nat → Int} {w : World} (ha : MatZ ao m A N C Z w) (hb : MatZ bo m' A' N' C' Z' w) (hy : SlZ yo my y w) (hm : m ≤ 6000) (hm' : m' ≤ 6000) (hmy : my ≤ 100)
    (hHa : Calls Try.prog 9 #[.slice ao m ca] w fun r w' => r = .returned (.bool false) ∧ w' = w) (hHb : Calls Try.prog 9 #[.slice bo m' cb] w fun r w' => r = .returned (.bool false) ∧ w' = w) :
    Calls Try.prog 3 #[.int .i64 q, .slice ao m ca, .slice bo m' cb, .slice yo my cy] w fun r w' => r = .returned (.bool true) ∧ Below w.heap.size w w' := by
  by_cases h : ∃ D ∈ fieldsL, (D.q : Int) = q
  · obtain ⟨D, hD, rfl⟩ := h
    have hMa : ∀ w1, Below w.heap.size w w1 → Calls Try.prog 10 #[.int .i64 D.q, .slice ao m ca] w1 fun r w' => r = .returned (.int .i64 (D.mchk m N Z)) ∧ Below w1.heap.size w1 w' := fun w1 h1 => matrixMay_any hD (ha.below h1) (by omega)
    have hMb : ∀ w1, Below w.heap.size w w1 → Calls Try.prog 10 #[.int .i64 D.q, .slice bo m' cb] w1 fun r w' => r = .returned (.int .i64 (D.mchk m' N' Z')) ∧ Below w1.heap.size w1 w' := fun w1 h1 => matrixMay_any hD (hb.below h1) (by omega)
    have hCk : ∀ w1, Below w.heap.size w w1 → Calls Try.prog 14 #[.int .i64 D.q, .slice ao m ca] w1 fun r w' => r = .returned (.int .i64 (D.mchk m N Z)) ∧ Below w1.heap.size w1 w' := fun w1 h1 => mcheck_any hD (ha.below h1) (by omega)
    have hOn : ∀ w1, Below w.heap.size w w1 → Calls Try.prog 16 #[.int .i64 D.q, .slice ao m ca, .slice yo my cy, .int .i64 (D.mchk m N Z)] w1 fun r w' => r = .returned (.bool true) ∧ Below w1.heap.size w1 w' := fun w1 h1 => matrixOne_any D.q (ha.below h1) (by omega) (slz_below hy h1) (by omega) _ (Or.inl ⟨D, hD, rfl, rfl⟩)
    have hFi : ∀ w1, Below w.heap.size w w1 → Calls Try.prog 11 #[.int .i64 D.q] w1 fun r w' => ∃ x0 x1 x2 x3 x4 x5 x6 e0, r = .returned (.tuple #[.agg #[.int .i64 x0, .int .i64 x1, .int .i64 x2, .int .i64 x3, .slice x4 x5 x6], .int .i64 e0]) ∧ Below w1.heap.size w1 w' := fun w1 _ => by
      refine (rfield_sl hD w1).mono ?_
      rintro e w' ⟨gm, cm, rfl, _, hb⟩
      exact ⟨_, _, _, _, _, _, _, _, rfl, hb⟩
    have hTi := fun w1 (h1 : Below w.heap.size w w1) => times_any (ca := ca) (cb := cb) hD (ha.below h1) (hb.below h1) (by omega) (by omega)
    by_cases h0 : D.mchk m N Z = 0
    · rw [h0] at hMa hCk hOn
      by_cases h0' : D.mchk m' N' Z' = 0
      · rw [h0'] at hMb
        have h2 : D.mchk2 m N Z m' N' Z' = 0 := by unfold FD.mchk2; rw [if_pos h0, h0']
        by_cases hfit : 0 < m ∧ N 0 = m'
        · obtain ⟨_, l, e1, _⟩ := mchk_rows (fld hD) h0 ha hfit.1
          have hm'l : m' = l + 1 := by omega
          subst hm'l
          obtain ⟨_, n, e2, _⟩ := mchk_rows (fld hD) h0' hb (by omega)
          exact msays_yes hD ha hb h0 h0' hfit.1 e1 e2 hHa hHb hmy hOn
        · by_cases hm0 : m = 0
          · refine msays_no hD (e := 0) ha (Or.inl ⟨hm0, rfl⟩) hHa hHb hmy hMa hMb (fun w1 h1 => (hTi w1 h1).mono ?_) hCk hOn
            rintro e w' ⟨hbb, hr⟩
            rcases hr with ⟨h, _⟩ | ⟨_, _, rfl⟩ | ⟨_, h, _⟩ | ⟨_, h, _⟩
            · exact absurd h2 h
            · exact ⟨rfl, hbb⟩
            · omega
            · omega
          · refine msays_no hD (e := 3) ha (Or.inr ⟨by omega, fun e => hfit ⟨by omega, e⟩, rfl⟩) hHa hHb hmy hMa hMb (fun w1 h1 => (hTi w1 h1).mono ?_) hCk hOn
            rintro e w' ⟨hbb, hr⟩
            rcases hr with ⟨h, _⟩ | ⟨_, h, _⟩ | ⟨_, _, _, rfl⟩ | ⟨_, h, h', _⟩
            · exact absurd h2 h
            · omega
            · exact ⟨rfl, hbb⟩
            · exact absurd ⟨h, h'⟩ hfit
      · have h2 : D.mchk2 m N Z m' N' Z' = D.mchk m' N' Z' := by unfold FD.mchk2; rw [if_pos h0]
        refine msays_err D.q 0 _ h0' (Or.inl rfl) hHa hHb hmy hMa (fun _ => hMb) hFi (fun w1 h1 => (hTi w1 h1).mono ?_) hCk hOn
        rintro e w' ⟨hbb, hr⟩
        rw [h2] at hr
        rcases hr with ⟨_, rfl⟩ | ⟨h, _⟩ | ⟨h, _⟩ | ⟨h, _⟩
        · exact ⟨rfl, hbb⟩
        · exact absurd h h0'
        · exact absurd h h0'
        · exact absurd h h0'
    · have h2 : D.mchk2 m N Z m' N' Z' = D.mchk m N Z := by unfold FD.mchk2; rw [if_neg h0]
      refine msays_err D.q _ _ h0 (Or.inr rfl) hHa hHb hmy hMa (fun h => absurd h h0) hFi (fun w1 h1 => (hTi w1 h1).mono ?_) hCk hOn
      rintro e w' ⟨hbb, hr⟩
      rw [h2] at hr
      rcases hr with ⟨_, rfl⟩ | ⟨h, _⟩ | ⟨h, _⟩ | ⟨h, _⟩
      · exact ⟨rfl, hbb⟩
      · exact absurd h h0
      · exact absurd h h0
      · exact absurd h h0
  · have hn : ∀ D ∈ fieldsL, (D.q : Int) ≠ q := fun D hD e => h ⟨D, hD, e⟩
    refine msays_err q 1 1 (by omega) (Or.inr rfl) hHa hHb hmy (fun w1 _ => matrixMay_none q hn _ w1) (fun h => by omega) (fun w1 _ => ?_) (fun w1 _ => mtimes_none q hn _ _ _ _ _ _ w1) (fun w1 _ => (mcheck_none q hn _ w1).mono ?_) (fun w1 h1 => matrixOne_any q (ha.below h1) (by omega) (slz_below hy h1) (by omega) 1 (Or.inr ⟨hn, rfl⟩))
    · refine (rfield_none q w1 hn).mono ?_
      rintro e w' ⟨rfl, hb⟩
      exact ⟨0, 0, 0, 0, none, 0, 0, 1, rfl, hb⟩
    · rintro e w' ⟨rfl, rfl⟩
      exact ⟨rfl, Below.refl _ _⟩

theorem matrixSays_walk (q : Int) {ao bo yo : Option Addr} {m m' my ca cb cy : Nat} {A A' : Nat → Option Addr} {N C N' C' : Nat → Nat} {Z Z' : Nat → Nat → Int} {y : Nat → Int} {w : World} (ha : MatO ao m A N C Z w) (hb : MatO bo m' A' N' C' Z' w) (hy : SlZ yo my y w) (hm : m ≤ 17592186044416) (hm' : m' ≤ 17592186044416) (hmy : my ≤ 17592186044416) (hN : ∀ i, i < m → N i ≤ 17592186044416) (hN' : ∀ i, i < m' → N' i ≤ 17592186044416) :
    Calls Try.prog 3 #[.int .i64 q, .slice ao m ca, .slice bo m' cb, .slice yo my cy] w fun r w' => r = .returned (.bool true) ∧ Below w.heap.size w w' := by
  have hHa := heavy_any (ca := ca) ha.cell hm hN
  have hHb := heavy_any (ca := cb) hb.cell hm' hN'
  by_cases h1 : hvs N m m ≤ 6000
  · by_cases h2 : hvs N' m' m' ≤ 6000
    · by_cases h3 : my ≤ 100
      · rw [decide_eq_false (by omega)] at hHa hHb
        have f1 := hvs_few m h1
        have f2 := hvs_few m' h2
        exact matrixSays_light q (ha.matZ (fun i hi => by have := f1.2 i hi; omega)) (hb.matZ (fun i hi => by have := f2.2 i hi; omega)) hy f1.1 f2.1 h3 hHa hHb
      · exact msays_heavy q hHa hHb hmy (Or.inr (Or.inr (by omega)))
    · exact msays_heavy q hHa hHb hmy (Or.inr (Or.inl (decide_eq_true (by omega))))
  · exact msays_heavy q hHa hHb hmy (Or.inl (decide_eq_true (by omega)))
end Go.Proofs.Ytbpeahhhkcljeaa
