/- Texts of ours, one behind the other: X15 X16. -/
import Derived.Test.YtbpeahhhkcljeaaZX14
/- The program's matrices: the one form of what rows span (Reduce). -/
namespace Go.Proofs.Ytbpeahhhkcljeaa
open Go.RowKit

theorem Mx.mono {B B' G m k n : Nat} {R : Nat → Nat → Nat} {h : Nat → Nat} {w : World} (H : Mx B G m k n R h w) (hB : B' ≤ B) : Mx B' G m k n R h w :=
  ⟨H.outer, H.row, Nat.le_trans hB H.geG, fun i hi => Nat.le_trans hB (H.ge i hi), H.inj, H.ne, H.le⟩

set_option maxHeartbeats 8000000 in
set_option maxRecDepth 100000 in
theorem mreduce_any {D : FD} (hD : D ∈ fieldsL) {ao : Option Addr} {m ca : Nat} {A : Nat → Option Addr} {N C : Nat → Nat} {Z : Nat → Nat → Int} {w : World} (ha : MatZ ao m A N C Z w) (hm : m ≤ 1000000) :
    Calls Try.prog 39 #[.int .i64 D.q, .slice ao m ca] w fun e w' => Below w.heap.size w w' ∧
      ((D.mchk m N Z ≠ 0 ∧ e = .returned (.tuple #[.slice none 0 0, .slice none 0 0, .int .i64 (D.mchk m N Z)])) ∨
       (D.mchk m N Z = 0 ∧ ∃ G k R' p h' pv W, e = .returned (.tuple #[.slice (some ⟨G, 0, none⟩) k m, pv, .int .i64 0]) ∧ w.heap.size ≤ G ∧ (0 < m → W = N 0) ∧ k ≤ m ∧ Mx w.heap.size G m m W R' h' w' ∧ OwnI w.heap.size pv (zl k fun j => ((p j : Nat) : Int)) w' ∧ RRE D W k R' p ∧ ∀ v, Spn D (RowsOf k R') v ↔ Spn D (RowsOf m (mzc N Z)) v)) := by
  have HA : Hid (D ∈ fieldsL ∧ MatZ ao m A N C Z w) := ⟨hD, ha⟩
  clear hD ha
  go_enter Try.func39, Try.ntmps39
  go_wp2_with fail
  refine (mover1_any HA.out.1 HA.out.2 hm).mono ?_
  rintro e w1 ⟨hb1, hr⟩
  rcases hr with ⟨h0, F, T, f, rfl, hat, hF, hT⟩ | ⟨h0, rfl⟩
  · have HW : Hid (D.mchk m N Z = 0 ∧ FAt F T D f w1 ∧ Below w.heap.size w w1 ∧ MatZ ao m A N C Z w1) := ⟨h0, hat, hb1, HA.out.2.below hb1⟩
    clear h0 hat hF hT hb1
    obtain ⟨n, Wd, HN⟩ : ∃ n Wd, Hid (n ≤ 64 ∧ Wd ≤ n + 1 ∧ m ≤ 64 ∧ Wd = (if m = 0 then 0 else N 0) ∧ (0 < m → n + 1 = N 0) ∧ (∀ i, i < m → El D (mzc N Z i) ∧ Bd (n + 1) (mzc N Z i)) ∧ MatR ao m n (mzc N Z) w1) := by
      by_cases hm0 : m = 0
      · exact ⟨0, 0, ⟨by omega, by omega, by omega, by rw [if_pos hm0], fun h => by omega, fun i hi => by omega, fun i hi => by omega⟩⟩
      · obtain ⟨h1, n, h2, h3, h4, h5⟩ := mchk_rows (fld HA.out.1) HW.out.1 HW.out.2.2.2 (by omega)
        exact ⟨n, n + 1, ⟨by omega, by omega, h1, by rw [if_neg hm0, h2], fun _ => h2.symm, fun i hi => (h4 i hi).2, h5⟩⟩
    have hn64 := HN.out.1
    have hWd := HN.out.2.1
    have hm64 := HN.out.2.2.1
    go_wp2_with fail
    refine (wider_any (more := 0) HN.out.2.2.2.2.2.2 (fun i hi => (HN.out.2.2.2.2.2.1 i hi).2) (by omega) (by omega) (by omega)).mono ?_
    rintro e w2 ⟨rfl, ⟨h, hmx⟩, hb2⟩
    have H2 : Hid (Mx w1.heap.size w1.heap.size m m (n + 1) (mzc N Z) h w2 ∧ Below w1.heap.size w1 w2) := ⟨hmx, hb2⟩
    clear hmx hb2
    have HCw : Hid (Calls Try.prog 52 #[.slice ao m ca] w2 fun e w' => e = .returned (.int .i64 (Wd : Int)) ∧ w' = w2) := by
      show Calls _ _ _ _ _
      have h := width_any (ca := ca) (HW.out.2.2.2.below H2.out.2)
      rw [← HN.out.2.2.2.1] at h; exact h
    go_wp2_with (go_at_call 52; refine HCw.out.mono ?_; rintro e w' ⟨rfl, hw⟩; have hw := hw.symm; subst hw)
    refine (reduce_any HA.out.1 (HW.out.2.1.below H2.out.2 HW.out.2.1.ltF HW.out.2.1.ltT) HW.out.2.1.ltF HW.out.2.1.ltT H2.out.1 (by omega) (by omega) (fun i hi => (HN.out.2.2.2.2.2.1 i hi).1) (fun i hi => (HN.out.2.2.2.2.2.1 i hi).2) hWd).mono ?_
    rintro e w3 ⟨k, R', p, h', pv, rfl, hst⟩
    have H3 : Hid (RSt D w1.heap.size w1.heap.size m m (n + 1) (mzc N Z) w2 Wd k R' p h' pv w3) := hst
    clear hst
    obtain ⟨po, pc, rfl, _⟩ := H3.out.own.argL
    have hkm : k ≤ m := H3.out.rdg.le
    have hki : (k : Int) ≤ (m : Int) := by omega
    go_wp2
    all_goals
      go_ret3
      have hs1 := HW.out.2.2.1.size
      have hs2 := H2.out.2.size
      refine ⟨(HW.out.2.2.1.trans (H2.out.2.mono hs1)).trans (H3.out.bel.mono hs1), Or.inr ⟨HW.out.1, w1.heap.size, k, R', p, h', _, n + 1, rfl, hs1, HN.out.2.2.2.2.1, hkm, H3.out.mx.mono hs1, H3.out.own.mono (by omega), ?_⟩⟩
      by_cases hm0 : m = 0
      · have hk0 : k = 0 := by omega
        refine ⟨⟨fun i hi => by omega, fun i hi => by omega, fun i hi => by omega, fun i j _ hj => by omega, fun i hi => by omega, fun i j hi => by omega, fun i c hi => by omega⟩, fun v => ?_⟩
        constructor
        · exact fun h => spn_le (fld HA.out.1) (fun u ⟨i, hi, _⟩ => by omega) h
        · exact fun h => spn_le (fld HA.out.1) (fun u ⟨i, hi, _⟩ => by omega) h
      · have hR := H3.out.rdg
        rw [show Wd = n + 1 from by rw [HN.out.2.2.2.1, if_neg hm0, HN.out.2.2.2.2.1 (by omega)]] at hR
        obtain ⟨h1, _, h2⟩ := rdg_end (fld HA.out.1) hR
        exact ⟨h1, fun v => (h2 v).trans (H3.out.spn v)⟩
  · have HW : Hid (D.mchk m N Z ≠ 0 ∧ Below w.heap.size w w1) := ⟨h0, hb1⟩
    obtain ⟨e, he⟩ : ∃ e, e = D.mchk m N Z := ⟨_, rfl⟩
    rw [← he] at h0 ⊢
    have hz : (e != 0) = true := by rw [bne_iff_ne]; exact h0
    have HE : Hid (e = D.mchk m N Z) := he
    clear h0 hb1 he
    go_wp2
    go_ret3
    exact ⟨HW.out.2, Or.inl ⟨HW.out.1, by rw [← HE.out]; rfl⟩⟩
end Go.Proofs.Ytbpeahhhkcljeaa

/- The program's matrices: ranks (Rank); what is said where there is no field. -/
namespace Go.Proofs.Ytbpeahhhkcljeaa
open Go.RowKit

set_option maxHeartbeats 4000000 in
set_option maxRecDepth 100000 in
theorem mrank_any {D : FD} (hD : D ∈ fieldsL) {ao : Option Addr} {m ca : Nat} {A : Nat → Option Addr} {N C : Nat → Nat} {Z : Nat → Nat → Int} {w : World} (ha : MatZ ao m A N C Z w) (hm : m ≤ 1000000) :
    Calls Try.prog 37 #[.int .i64 D.q, .slice ao m ca] w fun e w' => Below w.heap.size w w' ∧
      ((D.mchk m N Z ≠ 0 ∧ e = .returned (.tuple #[.int .i64 0, .int .i64 (D.mchk m N Z)])) ∨
       (D.mchk m N Z = 0 ∧ ∃ k R' p W, e = .returned (.tuple #[.int .i64 (k : Nat), .int .i64 0]) ∧ (0 < m → W = N 0) ∧ k ≤ m ∧ RRE D W k R' p ∧ ∀ v, Spn D (RowsOf k R') v ↔ Spn D (RowsOf m (mzc N Z)) v)) := by
  have HA : Hid (D ∈ fieldsL ∧ MatZ ao m A N C Z w) := ⟨hD, ha⟩
  clear hD ha
  go_enter Try.func37, Try.ntmps37
  go_wp2_with fail
  refine (mreduce_any HA.out.1 HA.out.2 hm).mono ?_
  rintro e w1 ⟨hb1, hr⟩
  rcases hr with ⟨h0, rfl⟩ | ⟨h0, G, k, R', p, h', pv, W, rfl, hG, hW, hk, hmx, hown, hR, hS⟩
  · have HW : Hid (D.mchk m N Z ≠ 0 ∧ Below w.heap.size w w1) := ⟨h0, hb1⟩
    clear h0 hb1
    go_wp2
    go_ret2
    exact ⟨HW.out.2, Or.inl ⟨HW.out.1, rfl⟩⟩
  · obtain ⟨po, pc, rfl, _⟩ := hown.argL
    have HW : Hid (D.mchk m N Z = 0 ∧ Below w.heap.size w w1 ∧ (0 < m → W = N 0) ∧ k ≤ m ∧ RRE D W k R' p ∧ ∀ v, Spn D (RowsOf k R') v ↔ Spn D (RowsOf m (mzc N Z)) v) := ⟨h0, hb1, hW, hk, hR, hS⟩
    clear h0 hb1 hG hW hmx hown hR hS
    go_wp2
    go_ret2
    exact ⟨HW.out.2.1, Or.inr ⟨HW.out.1, k, R', p, W, rfl, HW.out.2.2⟩⟩
end Go.Proofs.Ytbpeahhhkcljeaa
