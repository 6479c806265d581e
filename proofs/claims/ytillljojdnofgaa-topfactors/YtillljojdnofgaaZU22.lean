/- The program's polynomials: the calls that are listed: Through, Factors, Irreducible. -/
import Derived.Test.YtillljojdnofgaaZU21
namespace Go.Proofs.Ytillljojdnofgaa
open Go.RowKit

theorem mon_mn {D : FD} (hD : D ∈ fieldsL) {c : Nat → Nat} {l : Nat} (he : El D c) (ht : Trd (l + 1) c) : Mn D l (D.mon c (l + 1)) := by
  have F := fld hD
  refine ⟨mon_el hD _ _, (mon_trd hD he ht).1, ?_⟩
  show D.mul (D.iv (c l)) (c l) = 1
  rw [F.mul_comm]
  exact iv_is hD (he l) (ht.2 (by omega))

/-- What Factors says of a list: its error, the parts. -/
def FacSpec (D : FD) (n : Nat) (z : Nat → Int) (er : Int) (L : List (Nat × (Nat → Nat))) : Prop :=
  (D.chk n z = 0 ∧ dgn (zc n z) n ≠ 0 ∧ D.q ^ ((dgn (zc n z) n - 1) / 2) ≤ 4096 ∧ er = 0 ∧ Pre D L (D.mon (zc n z) (dgn (zc n z) n)) pone) ∨
  (D.chk n z = 0 ∧ dgn (zc n z) n ≠ 0 ∧ 4096 < D.q ^ ((dgn (zc n z) n - 1) / 2) ∧ er = 4 ∧ L = []) ∨ (D.chk n z = 0 ∧ dgn (zc n z) n = 0 ∧ er = 5 ∧ L = []) ∨ (D.chk n z ≠ 0 ∧ er = D.chk n z ∧ L = [])
theorem LLs.slice {base : Nat} {v : Value} {L : List (Nat × (Nat → Nat))} {w : World} (h : LLs base v L w) : ∃ ao cap, v = .slice ao L.length cap := by
  obtain ⟨l, h1, h2⟩ := h
  obtain ⟨ao, cap, hv, _⟩ := h1.open
  exact ⟨ao, cap, by rw [hv, h2.1]⟩

set_option maxHeartbeats 4000000 in
set_option maxRecDepth 100000 in
theorem factors_any {D : FD} (hD : D ∈ fieldsL) {ao : Option Addr} {n ca : Nat} {z : Nat → Int} {w : World} (ha : Arg ao n ca z w) :
    Calls Try.prog 41 #[.int .i64 D.q, .slice ao n ca] w fun e w' => ∃ v er L, e = .returned (.tuple #[v, .int .i64 er]) ∧ Below w.heap.size w w' ∧ LLs w.heap.size v L w' ∧ FacSpec D n z er L := by
  have HA : Hid (Arg ao n ca z w ∧ D ∈ fieldsL) := ⟨ha, hD⟩
  have h64 := (fld hD).q64
  have h2 := (fld hD).q2
  clear ha hD
  obtain ⟨n', hn'⟩ : ∃ n', n' = dgn (zc n z) n := ⟨_, rfl⟩
  have hn1 : n' ≤ n := by rw [hn']; exact dgn_le _ _
  have HN0 : Hid (n' = dgn (zc n z) n) := hn'
  clear hn'
  go_enter Try.func41, Try.ntmps41
  go_wp2_with fail
  refine (over1_any HA.out.2 HA.out.1).mono ?_
  rintro e w1 ⟨hb1, hr⟩
  rcases hr with ⟨h0, F, T, f, rfl, hat⟩ | ⟨h0, rfl⟩
  · have HW : Hid (D.chk n z = 0 ∧ FAt F T D f w1 ∧ Below w.heap.size w w1 ∧ Arg ao n ca z w1) := ⟨h0, hat, hb1, HA.out.1.below hb1⟩
    have hn128 := (chk_zero h0).1
    clear h0 hat hb1
    go_wp2_with fail
    refine (trims_ok HW.out.1 HW.out.2.2.2).mono ?_
    rintro e w' ⟨rfl, k1, rfl⟩
    rw [← HN0.out]
    by_cases hn0 : n' = 0
    · have hz : ((n' : Int) == 0) = true := by rw [hn0]; rfl
      have HZ : Hid (n' = 0) := hn0
      clear hn0
      go_wp2
      go_ret2
      exact ⟨_, _, [], rfl, below_drewN2 HW.out.2.2.1 _, LLs.nil _ _, Or.inr (Or.inr (Or.inl ⟨HW.out.1, by rw [← HN0.out]; exact HZ.out, rfl, rfl⟩))⟩
    · obtain ⟨l, rfl⟩ : ∃ l, n' = l + 1 := ⟨n' - 1, by omega⟩
      have hz : (((l + 1 : Nat) : Int) == 0) = false := by rw [beq_eq_false_iff_ne]; omega
      clear hn0
      obtain ⟨p, hp⟩ : ∃ p, p = l / 2 := ⟨_, rfl⟩
      have HPP : Hid (p = l / 2) := hp
      have hp2 : (l : Int) / 2 = (p : Int) := by omega
      clear hp
      have HT : Hid (∀ w : World, Calls Try.prog 74 #[.int .i64 D.q, .int .i64 p] w fun e w' => e = .returned (.bool (decide (4096 < D.q ^ p))) ∧ w' = w) := fun w => tooMany_any D.q p w (by omega) h64 (by have := HPP.out; omega)
      go_wp2_with fail
      refine (HT.out _).mono ?_
      rintro e w2 ⟨rfl, hw⟩
      have hw := hw.symm
      subst hw
      by_cases hbig : 4096 < D.q ^ p
      · have HV : Hid (4096 < D.q ^ ((dgn (zc n z) n - 1) / 2)) := by
          show _ < _
          rw [← HN0.out, Nat.add_sub_cancel, ← HPP.out]; exact hbig
        rw [decide_eq_true hbig]
        clear hbig
        go_wp2
        go_ret2
        exact ⟨_, _, [], rfl, below_drewN2 HW.out.2.2.1 _, LLs.nil _ _, Or.inr (Or.inl ⟨HW.out.1, by rw [← HN0.out]; omega, HV.out, rfl, rfl⟩)⟩
      · have HV : Hid (D.q ^ ((dgn (zc n z) n - 1) / 2) ≤ 4096) := by
          show _ ≤ _
          rw [← HN0.out, Nat.add_sub_cancel, ← HPP.out]; omega
        rw [decide_eq_false hbig]
        clear hbig
        have hF := fld HA.out.2
        have htr : Trd (l + 1) (zc n z) := by rw [HN0.out]; exact trd_dgn (zc_bd _ _)
        have HM : Hid (∀ k, Calls Try.prog 76 #[.pointer (some ⟨F, 0, none⟩), .slice ao (l + 1) ca] (w1.drewN k) fun e w' => ∃ v, e = .returned v ∧ OwnP w1.heap.size v (l + 1) (D.mon (zc n z) (l + 1)) w' ∧ Below w1.heap.size w1 w') := by
          intro k
          refine (monic_any HA.out.2 (HW.out.2.1.drewN k) (by omega) ⟨(zc_sl HW.out.1 HW.out.2.2.2.sl).less hn1, HW.out.2.2.2.lt, HW.out.2.2.2.nil, zc_el hF HW.out.1, htr⟩).mono ?_
          rintro e w' ⟨v, rfl, ho, hb⟩
          exact ⟨v, rfl, ho, (below_drewN2 (Below.refl _ _) k).trans hb⟩
        have HX : Hid (Mn D l (D.mon (zc n z) (l + 1))) := mon_mn HA.out.2 (zc_el hF HW.out.1) htr
        clear htr hF
        go_wp2_with fail
        refine (HM.out _).mono ?_
        rintro e w3 ⟨v, rfl, hown, hb3⟩
        have HY : Hid (Elm v (l, D.mon (zc n z) (l + 1)) w3 ∧ Below w1.heap.size w1 w3) := ⟨hown.elm, hb3⟩
        clear hown hb3 HM
        go_wp2_with fail
        refine (parts_any HA.out.2 (HW.out.2.1.below HY.out.2 HW.out.2.1.ltF HW.out.2.1.ltT) HX.out (by omega) HY.out.1).mono ?_
        rintro e w4 ⟨v4, L, rfl, hls, hpr, hb4⟩
        have hs1 := HW.out.2.2.1.size
        have hs3 := HY.out.2.size
        have HR : Hid (LLs w.heap.size v4 L w4 ∧ Pre D L (D.mon (zc n z) (l + 1)) pone ∧ Below w.heap.size w w4) := ⟨hls.mono (by omega), hpr, bel_up (bel_up HW.out.2.2.1 HY.out.2) hb4⟩
        clear hls hpr hb4
        go_wp2
        go_ret2
        exact ⟨_, _, L, rfl, HR.out.2.2, HR.out.1, Or.inl ⟨HW.out.1, by rw [← HN0.out]; omega, HV.out, rfl, by rw [← HN0.out]; exact HR.out.2.1⟩⟩
  · have HW : Hid (D.chk n z ≠ 0 ∧ Below w.heap.size w w1) := ⟨h0, hb1⟩
    obtain ⟨e, he⟩ : ∃ e, e = D.chk n z := ⟨_, rfl⟩
    rw [← he] at h0 ⊢
    have hz : (e != 0) = true := by rw [bne_iff_ne]; exact h0
    have HE : Hid (e = D.chk n z) := he
    clear h0 hb1 he
    go_wp2
    go_ret2
    exact ⟨_, _, [], rfl, HW.out.2, LLs.nil _ _, Or.inr (Or.inr (Or.inr ⟨HW.out.1, HE.out, rfl⟩))⟩

set_option maxHeartbeats 2000000 in
set_option maxRecDepth 100000 in
theorem irred_any {D : FD} (hD : D ∈ fieldsL) {ao : Option Addr} {n ca : Nat} {z : Nat → Int} {w : World} (ha : Arg ao n ca z w) :
    Calls Try.prog 42 #[.int .i64 D.q, .slice ao n ca] w fun e w' => ∃ er L, e = .returned (.tuple #[.bool (decide (L.length = 1)), .int .i64 er]) ∧ Below w.heap.size w w' ∧ FacSpec D n z er L := by
  have HA : Hid (Arg ao n ca z w ∧ D ∈ fieldsL) := ⟨ha, hD⟩
  clear ha hD
  go_enter Try.func42, Try.ntmps42
  go_wp2_with fail
  refine (factors_any HA.out.2 HA.out.1).mono ?_
  rintro e w1 ⟨v, er, L, rfl, hb1, hls, hsp⟩
  obtain ⟨lo, lc, rfl⟩ := hls.slice
  have HW : Hid (FacSpec D n z er L ∧ Below w.heap.size w w1) := ⟨hsp, hb1⟩
  clear hb1 hls hsp
  by_cases h1 : L.length = 1
  · have hz : ((L.length : Int) == 1) = true := by rw [h1]; rfl
    have HV : Hid (decide (L.length = 1) = true) := decide_eq_true h1
    clear h1
    go_wp2
    go_ret2
    exact ⟨er, L, by rw [HV.out]; rfl, HW.out.2, HW.out.1⟩
  · have hz : ((L.length : Int) == 1) = false := by rw [beq_eq_false_iff_ne]; omega
    have HV : Hid (decide (L.length = 1) = false) := decide_eq_false h1
    clear h1
    go_wp2
    go_ret2
    exact ⟨er, L, by rw [HV.out]; rfl, HW.out.2, HW.out.1⟩
end Go.Proofs.Ytillljojdnofgaa
