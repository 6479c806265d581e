/- Texts of ours, one behind the other: S53 KN1. -/
import Derived.Test.YtbofcldmgjeklabZS50
import Derived.Test.YtbofcldmgjeklabZKB5
import Derived.Test.YtbofcldmgjeklabZS12
import Derived.Test.YtbofcldmgjeklabZX18
import Derived.Test.YtbofcldmgjeklabZI8
import Derived.Test.YtbofcldmgjeklabZKL3
import Derived.Test.YtbofcldmgjeklabZK6
import Derived.Test.YtbofcldmgjeklabZKL7
import Derived.Test.YtbofcldmgjeklabZKL4
import Derived.Test.YtbofcldmgjeklabZR5
/- A code's weights and those of its dual: what weights.Dual makes of them. -/
namespace Go.Proofs.Ytbofcldmgjeklab
open Go.RowKit Go.Sort

theorem wtn_zero {u : Nat → Nat} : ∀ n, wtn u n = 0 → ∀ j, j < n → u j = 0
  | 0, _, j, hj => absurd hj (by omega)
  | n + 1, h, j, hj => by
    have h' : wtn u n + (if (!decide (((u n : Nat) : Int) = 0)) = true then 1 else 0) = 0 := h
    by_cases e : u n = 0
    · rcases Nat.lt_or_ge j n with c | c
      · exact wtn_zero n (by omega) j c
      · rw [show j = n by omega, e]
    · rw [if_pos (by simp; omega)] at h'
      omega
theorem wtn_pnil : ∀ n, wtn pnil n = 0
  | 0 => rfl
  | n + 1 => by
    show wtn pnil n + (if (!decide (((pnil n : Nat) : Int) = 0)) = true then 1 else 0) = 0
    rw [wtn_pnil n, if_neg (by simp [pnil])]
theorem enw_pnil {D : FD} (F : Fld D) (R : Nat → Nat → Nat) : ∀ k, enw D R pnil k = pnil
  | 0 => rfl
  | k + 1 => by rw [enw_zero F (show pnil k = 0 from rfl), enw_pnil F R k]
/-- One word weighs nothing. -/
theorem wcn_none {D : FD} (F : Fld D) {n k : Nat} {R : Nat → Nat → Nat} {p : Nat → Nat} (h : RRE D n k R p) : wcn D R n k (D.q ^ k) 0 = 1 := by
  have e : ((wcn D R n k (D.q ^ k) 0 : Nat) : Int) = 1 := by
    have e1 : wsum D.q k (fun m => bi (decide (wtn (enw D R m k) n = 0))) = wsum D.q k (fun m => bi (agB k m pnil) * (fun _ => (1 : Int)) m) := by
      refine wsum_congr F k (fun m hm hb => ?_)
      show bi (decide _) = bi (agB k m pnil) * 1
      rw [Int.mul_one]
      congr 1
      rw [Bool.eq_iff_iff, decide_eq_true_iff, agB_iff]
      constructor
      · intro h0 i hi
        have := wtn_zero n h0 (p i) (h.lt i hi)
        rw [enw_piv F h hm hi k (Nat.le_refl _), if_pos hi] at this
        exact this
      · intro h0
        rw [enw_zc h0, enw_pnil F, wtn_pnil]
    rw [wcn_wsum F, e1]
    exact wsum_at F k (fun _ => 1) (el_nil F) (fun _ _ => rfl)
  omega
/-- No more rows than there were. -/
theorem Red.few {D : FD} (hD : D ∈ fieldsL) {n m k : Nat} {M R : Nat → Nat → Nat} (h : Red D n m M k R) (he : ∀ i, i < m → El D (M i) ∧ Bd n (M i)) : k ≤ m := by
  obtain ⟨k', R', p', hk, hr, hs⟩ := rre_ex hD (fun i hi => (he i hi).1) (fun i hi => (he i hi).2)
  have := (Red.uniq (fld hD) h ⟨p', hr, hs⟩ (fun _ => Iff.rfl)).1
  omega
/-- How many words of each weight. -/
def wcZ (D : FD) (R : Nat → Nat → Nat) (n k : Nat) : Nat → Int := fun x => ((wcn D R n k (D.q ^ k) x : Nat) : Int)
theorem wcZ_sum {D : FD} (F : Fld D) (R : Nat → Nat → Nat) (n k : Nat) : tsm (wcZ D R n k) (n + 1) = ((D.q ^ k : Nat) : Int) := wcn_all F R n k
theorem wcZ_tge {D : FD} (F : Fld D) (R : Nat → Nat → Nat) {n k : Nat} (hk : k ≤ n) : tge (wcZ D R n k) (D.q ^ n) (n + 1) = 0 := by
  have h1 := wcZ_sum F R n k
  have h2 := F.q2
  have hle : D.q ^ k ≤ D.q ^ n := Nat.pow_le_pow_right (by omega) hk
  have h0 : 0 < D.q ^ k := Nat.pow_pos (by omega)
  have hb : outB (wcZ D R n k) (D.q ^ n : Nat) (n + 1) = false := outB_in (fun j _ => ⟨by unfold wcZ; omega, by have := wcn_le D R n k (D.q ^ k) j; unfold wcZ; omega⟩)
  unfold tge
  rw [hb, h1, if_neg (by simp), if_neg (by omega), if_neg (by omega)]
/-- MacWilliams, both ways. -/
theorem mac_both {D : FD} (hD : D ∈ fieldsL) {n m k kd k2 : Nat} {M R Rd R2 : Nat → Nat → Nat} (hu : Dul D n m M kd Rd) (hR : Red D n m M k R) (h2 : Red D n kd Rd k2 R2) :
    (∀ j, dlm D.q n (wcZ D R n k) j = ((D.q ^ k : Nat) : Int) * wcZ D R2 n k2 j) ∧ ∀ j, dlm D.q n (wcZ D R2 n k2) j = ((D.q ^ k2 : Nat) : Int) * wcZ D R n k j := by
  have F := fld hD
  have hrow := hR.rows
  obtain ⟨ek, eR⟩ := h2.uniq F hu.own (fun _ => Iff.rfl)
  obtain ⟨p, hr, hs⟩ := hR
  obtain ⟨p2, hr2, hs2⟩ := h2
  have hu' : Dul D n k R kd Rd := hu.of_spn (fun v => (hs v).symm)
  subst ek
  refine ⟨fun j => mac_wcn hD hr hr2 (fun v => (hs2 v).trans (hu'.iff F hrow.1 v)) j, fun j => mac_wcn hD hr2 hr (fun v => ?_) j⟩
  rw [hu'.back F (fun i hi => ⟨hrow.1 i hi, hrow.2 i hi⟩) v]
  refine and_congr_right fun _ => and_congr_right fun _ => ?_
  exact ⟨fun h i hi => by rw [eR i hi]; exact h i hi, fun h i hi => by rw [← eR i hi]; exact h i hi⟩
theorem wck_is {D : FD} {n : Nat} (hn : 1 ≤ n) : D.wck (n : Nat) = if D.q ^ n ≤ 1073741824 then 0 else 4 := by
  unfold FD.wck
  rw [if_neg (by omega), Int.toNat_natCast]
/-- weights.Dual, given numbers whose turn is known. -/
theorem wD_code {D : FD} (hD : D ∈ fieldsL) {n K : Nat} (hn : 1 ≤ n) (hp : D.q ^ n ≤ 1073741824) {f g : Nat → Int} (hE : tge f (D.q ^ n) (n + 1) = 0) (hS : tsm f (n + 1) = ((D.q ^ K : Nat) : Int)) (hm : ∀ j, dlm D.q n f j = ((D.q ^ K : Nat) : Int) * g j) (hg : ∀ j, 0 ≤ g j) {ao : Option Addr} {cap : Nat} {w : World} (hX : Arg ao (n + 1) cap f w) :
    Calls Try.prog 27 #[.int .i64 D.q, .slice ao (n + 1 : Nat) cap] w fun e w' => ∃ G, e = .returned (.tuple #[.slice (some ⟨G, 0, none⟩) (n + 1 : Nat) (n + 1), .int .i64 0]) ∧ Arg (some ⟨G, 0, none⟩) (n + 1) (n + 1) g w' ∧ RowZ G (n + 1) g w' ∧ Below w.heap.size w w' := by
  have h2 := (fld hD).q2
  have hpos : 0 < D.q ^ K := Nat.pow_pos (by omega)
  have h30 := pow30 h2 hp
  have e1 : ∀ j, dgd (dlm D.q n f j) (tsm f (n + 1)) := fun j => ⟨by rw [hm j]; exact Int.mul_nonneg (by omega) (hg j), by rw [hm j, hS]; exact Int.mul_tmod_right _ _⟩
  have e2 : ∀ j, (dlm D.q n f j).tdiv (tsm f (n + 1)) = g j := fun j => by rw [hm j, hS]; exact Int.mul_tdiv_cancel_left _ (by omega)
  refine (wD_ok h2 (fld hD).q64 hp hE hX (fun wx => ?_)).mono ?_
  · have h := wcheck_any hD (n : Nat) (by omega) wx
    rw [wck_is hn, if_pos hp] at h
    exact h
  · rintro e w' ⟨hb, h | ⟨⟨k, _, hk⟩, _⟩⟩
    · obtain ⟨_, G, cp, rfl, ⟨hG, rfl⟩, hrow⟩ := h
      have hrow := hrow.congr (fun j _ => e2 j)
      exact ⟨G, rfl, ⟨fun j hj => ⟨G, 0, rfl, by rw [Nat.zero_add]; exact hrow.cell j hj⟩, fun b hb => by cases hb; exact hG, by omega, (fun h => by cases h), Nat.le_refl _, by omega⟩, hrow, hb⟩
    · exact absurd (e1 k) hk
theorem wD_far {D : FD} (hD : D ∈ fieldsL) {n : Nat} (hn : 1 ≤ n) (hn2 : n ≤ 900) (hp : ¬ D.q ^ n ≤ 1073741824) (ao : Option Addr) (cap : Nat) (w : World) :
    Calls Try.prog 27 #[.int .i64 D.q, .slice ao (n + 1 : Nat) cap] w fun e w' => e = .returned (.tuple #[.slice none 0 0, .int .i64 4]) ∧ Below w.heap.size w w' := by
  refine wD_err D.q 4 (by omega) ao (n + 1) cap (by omega) (fun wx => ?_)
  have h := wcheck_any hD (n : Nat) (by omega) wx
  rw [wck_is hn, if_neg hp] at h
  rw [show ((n + 1 : Nat) : Int) - 1 = (n : Nat) by omega]
  exact h
end Go.Proofs.Ytbofcldmgjeklab

/- TopMacWilliams: the walk of the statement, whatever raw numbers it is given. -/
namespace Go.Proofs.Ytbofcldmgjeklab
open Go.RowKit Go.Sort

theorem Cod.wts {D : FD} (hD : D ∈ fieldsL) {n m : Nat} (ca : Nat) {ao : Option Addr} {M : Nat → Nat → Nat} {w : World} (h : Cod D n ao m M w) :
    Calls Try.prog 26 #[.agg #[.int .i64 D.q, .int .i64 (n : Nat), .slice ao m ca]] w (WsP D n m M w) := by
  have hr := h.rows (fld hD)
  have hc := h.chk hD ca
  obtain ⟨A, N, C, Z, h1, h2⟩ := h
  refine (weights_ok hD hr.2.1.1 hr.2.1.2 (M := mzc N Z) (fun wx hx => small_ok hD (h1.below hx) (fun wy hy => hc wy (bel_up' hx hy)))).mono ?_
  rintro x w' ⟨k, R, hred, hrest⟩
  exact ⟨k, R, hred.of_eq h2, hrest⟩
theorem Row.wcz {D : FD} {R : Nat → Nat → Nat} {n k g N1 : Nat} {w : World} (hN : N1 = n + 1) (h : Row g (n + 1) (wcn D R n k (D.q ^ k)) w) : RowZ g N1 (wcZ D R n k) w := by
  rw [hN]; exact RowZ.of h
theorem RowZ.argT {g N : Nat} {z : Nat → Int} {w : World} (h : RowZ g N z w) (hN : N ≤ 1000) : Arg (some ⟨g, 0, none⟩) N N z w :=
  ⟨fun j hj => ⟨g, 0, rfl, by rw [Nat.zero_add]; exact h.cell j hj⟩, fun x hx => by cases hx; exact h.lt, by omega, (fun h => by cases h), Nat.le_refl _, by omega⟩

theorem same_yes {va vb : Value} {l : List Int} {w : World} (ha : SliceI va l w) (hb : SliceI vb l w) : Calls Try.prog 13 #[va, vb] w fun e w' => e = .returned (.bool true) ∧ ∃ n, w' = w.drewN n :=
  (same_any ha hb).mono (fun _ _ h => ⟨h.1.trans (by rw [decide_eq_true rfl]), h.2⟩)

set_option maxHeartbeats 1000000 in
theorem topMac_long {ao : Option Addr} {n ca : Nat} (q m r : Int) (w : World) (hn : ¬ n ≤ 256) (hn2 : n ≤ 17592186044416) :
    Calls Try.prog 5 #[.slice ao n ca, .int .i64 q, .int .i64 m, .int .i64 r] w fun r w' => r = .returned (.bool true) ∧ Below w.heap.size w w' := by
  have h1 : (256 : Int) < (n : Int) := by omega
  go_enter Try.func5, Try.ntmps5
  go_wp2
  go_ret
  exact ⟨rfl, Below.refl _ _⟩

set_option maxHeartbeats 16000000 in
set_option maxRecDepth 100000 in
theorem topMac_walk {ao : Option Addr} {n ca : Nat} {z : Nat → Int} (q m a : Int) {w : World} (ha : Arg ao n ca z w) (hn : n ≤ 256) (hq : I64 q) (hm : I64 m) (hav : I64 a) :
    Calls Try.prog 5 #[.slice ao n ca, .int .i64 q, .int .i64 m, .int .i64 a] w fun r w' => r = .returned (.bool true) ∧ Below w.heap.size w w' := by
  have HA : Hid (Arg ao n ca z w) := ha
  have HC : Hid (I64 q ∧ I64 m ∧ I64 a) := ⟨hq, hm, hav⟩
  have hnb : ¬ (256 : Int) < (n : Int) := by omega
  clear ha hq hm hav
  go_enter Try.func5, Try.ntmps5
  go_wp2_with fail
  refine (codeOf_any q m a HA.out (by omega) HC.out.1 HC.out.2.1 HC.out.2.2).mono ?_
  clear HC
  rintro e w1 ⟨D, N, r, mo, mc, A, C, Z, hD, hD8, hN, hr, hqr, rfl, hcd, hb1⟩
  obtain ⟨w2, hw2⟩ : ∃ w2, w2 = w1.alloc (.cells #[.int .i64 D.q, .int .i64 (N : Nat), .slice mo r mc] 50) := ⟨_, rfl⟩
  obtain ⟨g1, g2, g3⟩ := box_at D.q (N : Nat) (.slice mo r mc) w1
  rw [← hw2] at g1 g2 g3
  obtain ⟨M, hM⟩ : ∃ M, M = mzc (fun _ => N) Z := ⟨_, rfl⟩
  have h2q := (fld hD).q2
  have h64q := (fld hD).q64
  have hn1 := hcd.n1
  have G2 : Hid ((D ∈ fieldsL) ∧ (Cod D N mo r M w2) ∧ (CB w1.heap.size D.q (N : Nat) (.slice mo r mc) w2) ∧ (Below w.heap.size w w2) ∧ D.q ^ r ≤ 4096) := ⟨hD, ⟨_, _, _, _, hcd.below g1, fun i _ => by rw [hM]⟩, g2, bel_up' hb1 g1, hqr⟩
  clear hD hcd hb1 g1 g2 g3 hM hqr
  go_wp2_with fail
  rw [← hw2]
  clear hw2
  refine (G2.out.2.1.dual G2.out.1 mc).mono ?_
  rintro e w3 ⟨kd, Rd, od, cd, rfl, ⟨hcod, _⟩, hdu, hb⟩
  obtain ⟨w4, hw4⟩ : ∃ w4, w4 = w3.alloc (.cells #[.int .i64 D.q, .int .i64 (N : Nat), .slice od kd cd] 50) := ⟨_, rfl⟩
  obtain ⟨g1, g2, g3⟩ := box_at D.q (N : Nat) (.slice od kd cd) w3
  rw [← hw4] at g1 g2 g3
  have hbb := bel_up' hb g1
  have G4 : Hid ((Cod D N od kd Rd w4) ∧ (CB w3.heap.size D.q (N : Nat) (.slice od kd cd) w4) ∧ (Dul D N r M kd Rd) ∧ (D ∈ fieldsL) ∧ (Cod D N mo r M w4) ∧ (CB w1.heap.size D.q (N : Nat) (.slice mo r mc) w4) ∧ (Below w.heap.size w w4) ∧ D.q ^ r ≤ 4096) := ⟨hcod.below g1, g2, hdu, G2.out.1, G2.out.2.1.below hbb, G2.out.2.2.1.keep hbb, bel_up' G2.out.2.2.2.1 hbb, G2.out.2.2.2.2⟩
  have hqc := G2.out.2.2.1.keep hb
  obtain ⟨qc0, qc1, qc2⟩ := hqc
  have hlc := cell_lt qc0
  clear hcod hb g1 g2 g3 hbb hdu G2
  go_wp2_with fail
  rw [← hw4]
  clear hw4
  clear qc0 qc1 qc2 hlc
  refine (G4.out.2.2.2.2.1.wts G4.out.2.2.2.1 mc).mono ?_
  obtain ⟨N1, hN1⟩ : ∃ N1, N1 = N + 1 := ⟨_, rfl⟩
  rintro e w5 ⟨k, R, hred, hb, h | ⟨hbig, rfl⟩⟩
  rotate_left
  · exfalso
    have h1 := hred.few G4.out.2.2.2.1 (G4.out.2.2.2.2.1.rows (fld G4.out.2.2.2.1)).2.2
    have h2 : D.q ^ k ≤ D.q ^ r := Nat.pow_le_pow_right (by omega) h1
    have h3 := G4.out.2.2.2.2.2.2.2
    omega
  obtain ⟨_, g, _, hrow0, rfl⟩ := h
  have hrow := hrow0.wcz hN1
  have hc0 : w5.cell? ⟨g, 0, none⟩ = some (.int .i64 1) := by
    obtain ⟨p, hp, _⟩ := hred
    have h := hrow.cell 0 (by omega)
    unfold wcZ at h
    rw [wcn_none (fld G4.out.2.2.2.1) hp] at h
    exact h
  have hlg := cell_lt hc0
  have G5 : Hid ((RowZ g N1 (wcZ D R N k) w5) ∧ (Red D N r M k R) ∧ (Cod D N od kd Rd w5) ∧ (CB w3.heap.size D.q (N : Nat) (.slice od kd cd) w5) ∧ (Dul D N r M kd Rd) ∧ (D ∈ fieldsL) ∧ (CB w1.heap.size D.q (N : Nat) (.slice mo r mc) w5) ∧ (Below w.heap.size w w5) ∧ N1 = N + 1) := ⟨hrow, hred, G4.out.1.below hb, G4.out.2.1.keep hb, G4.out.2.2.1, G4.out.2.2.2.1, G4.out.2.2.2.2.2.1.keep hb, bel_up' G4.out.2.2.2.2.2.2.1 hb, hN1⟩
  rw [← hN1]
  have hnw : (N : Int) + 1 = (N1 : Int) := by omega
  have hN1p : 0 < N1 := by omega
  have hN1b : N1 ≤ 13 := by omega
  have MB := mac_both G4.out.2.2.2.1 G4.out.2.2.1 hred G4.out.2.2.1.own
  have HM : Hid ((∀ j, dlm D.q N (wcZ D R N k) j = ((D.q ^ k : Nat) : Int) * wcZ D Rd N kd j) ∧ ∀ j, dlm D.q N (wcZ D Rd N kd) j = ((D.q ^ kd : Nat) : Int) * wcZ D R N k j) := MB
  have HL : Hid (k ≤ N ∧ kd ≤ N) := ⟨hred.le, G4.out.2.2.1.le⟩
  clear MB hrow0 hrow hred hb G4 hN1
  obtain ⟨qc0, qc1, qc2⟩ := G5.out.2.2.2.2.2.2.1
  have hlc := cell_lt qc0
  go_wp2_with fail
  clear qc0 qc1 qc2 hlc hc0 hlg
  by_cases hp : D.q ^ N ≤ 1073741824
  · have HD1 : Hid (Calls Try.prog 27 #[.int .i64 D.q, .slice (some ⟨g, 0, none⟩) N1 N1] w5 fun e w' => ∃ G, e = .returned (.tuple #[.slice (some ⟨G, 0, none⟩) N1 N1, .int .i64 0]) ∧ Arg (some ⟨G, 0, none⟩) N1 N1 (wcZ D Rd N kd) w' ∧ RowZ G N1 (wcZ D Rd N kd) w' ∧ Below w5.heap.size w5 w') := by
      have hX := G5.out.1.argT (by omega)
      have e1 := G5.out.2.2.2.2.2.2.2.2
      show Calls _ _ _ _ _
      rw [e1] at hX ⊢
      exact wD_code G5.out.2.2.2.2.2.1 hn1 hp (wcZ_tge (fld G5.out.2.2.2.2.2.1) R HL.out.1) (wcZ_sum (fld G5.out.2.2.2.2.2.1) R N k) HM.out.1 (fun j => by unfold wcZ; omega) hX
    refine HD1.out.mono ?_
    clear HD1
    rintro e w6 ⟨G, rfl, hX, hrow, hb⟩
    have G6 : Hid ((Arg (some ⟨G, 0, none⟩) N1 N1 (wcZ D Rd N kd) w6) ∧ (RowZ G N1 (wcZ D Rd N kd) w6) ∧ (RowZ g N1 (wcZ D R N k) w6) ∧ (Cod D N od kd Rd w6) ∧ (CB w1.heap.size D.q (N : Nat) (.slice mo r mc) w6) ∧ Below w.heap.size w w6) := ⟨hX, hrow, G5.out.1.below hb G5.out.1.lt, G5.out.2.2.1.below hb, G5.out.2.2.2.2.2.2.1.keep hb, bel_up' G5.out.2.2.2.2.2.2.2.1 hb⟩
    obtain ⟨qd0, qd1, qd2⟩ := G5.out.2.2.2.1.keep hb
    have hld := cell_lt qd0
    clear hX hrow hb
    go_wp2_with fail
    clear qd0 qd1 qd2 hld
    refine (G6.out.2.2.2.1.wts G5.out.2.2.2.2.2.1 cd).mono ?_
    rintro e w7 ⟨k2, R2, hred2, hb, h⟩
    have h' : ∃ (v : Value) (E : Int), e = .returned (.tuple #[v, .int .i64 E]) ∧ (E = 4 ∨ (E = 0 ∧ ∃ g2, v = .slice (some ⟨g2, 0, none⟩) N1 N1 ∧ RowZ g2 N1 (wcZ D Rd N kd) w7)) := by
      rcases h with ⟨_, g2, _, hr2, rfl⟩ | ⟨_, rfl⟩
      · refine ⟨_, _, rfl, Or.inr ⟨rfl, g2, by rw [G5.out.2.2.2.2.2.2.2.2], ?_⟩⟩
        refine (hr2.wcz G5.out.2.2.2.2.2.2.2.2).congr (fun j _ => ?_)
        have e1 := (mac_both G5.out.2.2.2.2.2.1 G5.out.2.2.2.2.1 G5.out.2.1 hred2).1 j
        rw [HM.out.1 j] at e1
        have hpos : 0 < D.q ^ k := Nat.pow_pos (by omega)
        exact (Int.eq_of_mul_eq_mul_left (by omega) e1).symm
      · exact ⟨_, _, rfl, Or.inl rfl⟩
    clear h hred2
    obtain ⟨v2, E2, rfl, hE⟩ := h'
    have G7 : Hid ((Arg (some ⟨G, 0, none⟩) N1 N1 (wcZ D Rd N kd) w7) ∧ (RowZ G N1 (wcZ D Rd N kd) w7) ∧ (RowZ g N1 (wcZ D R N k) w7) ∧ (E2 = 4 ∨ (E2 = 0 ∧ ∃ g2, v2 = .slice (some ⟨g2, 0, none⟩) N1 N1 ∧ RowZ g2 N1 (wcZ D Rd N kd) w7)) ∧ Below w.heap.size w w7) := ⟨G6.out.1.below hb, G6.out.2.1.below hb G6.out.2.1.lt, G6.out.2.2.1.below hb G6.out.2.2.1.lt, hE, bel_up' G6.out.2.2.2.2.2 hb⟩
    have G7c := G6.out.2.2.2.2.1.keep hb
    obtain ⟨qc0, qc1, qc2⟩ := G7c
    have hlc := cell_lt qc0
    clear hb hE G6
    go_wp2_with fail
    refine (rpower_any D.q (N : Nat) h2q h64q (by omega) (by omega) w7).mono ?_
    rintro e w8 ⟨v, rfl, hw, hv⟩
    have hw := hw.symm
    subst hw
    rw [Int.toNat_natCast] at hv
    have hv0 : ¬ v < 0 := by omega
    clear hv
    go_wp2_with fail
    clear qc0 qc1 qc2 hlc hv0
    have HD2 : Hid (Calls Try.prog 27 #[.int .i64 D.q, .slice (some ⟨G, 0, none⟩) N1 N1] w7 fun e w' => ∃ G, e = .returned (.tuple #[.slice (some ⟨G, 0, none⟩) N1 N1, .int .i64 0]) ∧ Arg (some ⟨G, 0, none⟩) N1 N1 (wcZ D R N k) w' ∧ RowZ G N1 (wcZ D R N k) w' ∧ Below w7.heap.size w7 w') := by
      have hX := G7.out.1
      have e1 := G5.out.2.2.2.2.2.2.2.2
      show Calls _ _ _ _ _
      rw [e1] at hX ⊢
      exact wD_code G5.out.2.2.2.2.2.1 hn1 hp (wcZ_tge (fld G5.out.2.2.2.2.2.1) Rd HL.out.2) (wcZ_sum (fld G5.out.2.2.2.2.2.1) Rd N kd) HM.out.2 (fun j => by unfold wcZ; omega) hX
    refine HD2.out.mono ?_
    clear HD2
    rintro e w8 ⟨G3, rfl, _, hrow3, hb⟩
    have G8 : Hid ((RowZ G3 N1 (wcZ D R N k) w8) ∧ (RowZ G N1 (wcZ D Rd N kd) w8) ∧ (RowZ g N1 (wcZ D R N k) w8) ∧ (E2 = 4 ∨ (E2 = 0 ∧ ∃ g2, v2 = .slice (some ⟨g2, 0, none⟩) N1 N1 ∧ RowZ g2 N1 (wcZ D Rd N kd) w8)) ∧ Below w.heap.size w w8) := ⟨hrow3, G7.out.2.1.below hb G7.out.2.1.lt, G7.out.2.2.1.below hb G7.out.2.2.1.lt, G7.out.2.2.2.1.imp id (fun ⟨e, g2, e2, h⟩ => ⟨e, g2, e2, h.below hb h.lt⟩), bel_up' G7.out.2.2.2.2 hb⟩
    clear hrow3 hb G7 G5
    have HS1 : Hid (Calls Try.prog 13 #[.slice (some ⟨G3, 0, none⟩) N1 N1, .slice (some ⟨g, 0, none⟩) N1 N1] w8 fun e w' => e = .returned (.bool true) ∧ ∃ n, w' = w8.drewN n) := same_yes (G8.out.1.sliceI hN1p (by omega)) (G8.out.2.2.1.sliceI hN1p (by omega))
    rcases G8.out.2.2.2.1 with hE | ⟨hE, g2, hv2, hr2⟩
    · subst hE
      go_wp2_with fail
      refine HS1.out.mono ?_
      rintro e w9 ⟨rfl, nd, rfl⟩
      go_wp2
      go_ret
      exact ⟨rfl, below_drewN2 G8.out.2.2.2.2 nd⟩
    · subst hE
      subst hv2
      have HS2 : Hid (∀ nd, Calls Try.prog 13 #[.slice (some ⟨G, 0, none⟩) N1 N1, .slice (some ⟨g2, 0, none⟩) N1 N1] (w8.drewN nd) fun e w' => e = .returned (.bool true) ∧ ∃ n, w' = (w8.drewN nd).drewN n) := fun nd => same_yes (SliceI.drewN (G8.out.2.1.sliceI hN1p (by omega)) nd) (SliceI.drewN (hr2.sliceI hN1p (by omega)) nd)
      clear hr2
      go_wp2_with fail
      refine HS1.out.mono ?_
      rintro e w9 ⟨rfl, nd, rfl⟩
      go_wp2_with fail
      refine (HS2.out nd).mono ?_
      rintro e w9 ⟨rfl, nd2, rfl⟩
      go_wp2
      go_ret
      exact ⟨rfl, below_drewN2 G8.out.2.2.2.2 (nd + nd2)⟩
  · have HD1 : Hid (Calls Try.prog 27 #[.int .i64 D.q, .slice (some ⟨g, 0, none⟩) N1 N1] w5 fun e w' => e = .returned (.tuple #[.slice none 0 0, .int .i64 4]) ∧ Below w5.heap.size w5 w') := by
      have e1 := G5.out.2.2.2.2.2.2.2.2
      show Calls _ _ _ _ _
      rw [e1]
      exact wD_far G5.out.2.2.2.2.2.1 hn1 (by omega) hp _ _ _
    refine HD1.out.mono ?_
    clear HD1
    rintro e w6 ⟨rfl, hb⟩
    have G6 : Hid ((Cod D N od kd Rd w6) ∧ (CB w1.heap.size D.q (N : Nat) (.slice mo r mc) w6) ∧ Below w.heap.size w w6) := ⟨G5.out.2.2.1.below hb, G5.out.2.2.2.2.2.2.1.keep hb, bel_up' G5.out.2.2.2.2.2.2.2.1 hb⟩
    obtain ⟨qd0, qd1, qd2⟩ := G5.out.2.2.2.1.keep hb
    have hld := cell_lt qd0
    clear hb
    go_wp2_with fail
    clear qd0 qd1 qd2 hld
    refine (G6.out.1.wts G5.out.2.2.2.2.2.1 cd).mono ?_
    rintro e w7 ⟨k2, R2, _, hb, h⟩
    have h' : ∃ (v : Value) (E : Int), e = .returned (.tuple #[v, .int .i64 E]) := by
      rcases h with ⟨_, g2, _, _, rfl⟩ | ⟨_, rfl⟩
      · exact ⟨_, _, rfl⟩
      · exact ⟨_, _, rfl⟩
    clear h
    obtain ⟨v2, E2, rfl⟩ := h'
    have G7 : Hid (Below w.heap.size w w7) := bel_up' G6.out.2.2 hb
    obtain ⟨qc0, qc1, qc2⟩ := G6.out.2.1.keep hb
    have hlc := cell_lt qc0
    clear hb G6 G5
    go_wp2_with fail
    refine (rpower_any D.q (N : Nat) h2q h64q (by omega) (by omega) w7).mono ?_
    rintro e w8 ⟨v, rfl, hw, hv⟩
    have hw := hw.symm
    subst hw
    rw [Int.toNat_natCast] at hv
    have hv0 : v = -1 := by omega
    clear hv
    subst hv0
    go_wp2
    go_ret
    exact ⟨rfl, G7.out⟩
end Go.Proofs.Ytbofcldmgjeklab
