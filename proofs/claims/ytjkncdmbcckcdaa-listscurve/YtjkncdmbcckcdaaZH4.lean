/- ListsCurve: the walk of the statement, whatever it is given. -/
import Derived.Test.YtjkncdmbcckcdaaZH3
namespace Go.Proofs.Ytjkncdmbcckcdaa
open Go.RowKit Go.Sort

set_option maxHeartbeats 2000000 in
set_option maxRecDepth 100000 in
theorem curve_err (q e : Int) (he : e ≠ 0) {ao yo : Option Addr} {m my ca cy : Nat} {w : World} (h : Calls Try.prog 63 #[.int .i64 q, .slice yo my cy] w fun x w' => x = .returned (.int .i64 e) ∧ Below w.heap.size w w') :
    Calls Try.prog 21 #[.int .i64 q, .slice ao m ca, .slice yo my cy] w fun x w' => x = .returned (.tuple #[.slice none 0 0, .int .i64 e]) ∧ Below w.heap.size w w' := by
  have HC : Hid (Calls Try.prog 63 #[.int .i64 q, .slice yo my cy] w fun x w' => x = .returned (.int .i64 e) ∧ Below w.heap.size w w') := h
  have hz : (e != 0) = true := by rw [bne_iff_ne]; exact he
  clear h he
  go_enter Try.func21, Try.ntmps21
  go_wp2_with fail
  refine HC.out.mono ?_
  rintro x w1 ⟨rfl, hb1⟩
  have H1 : Hid (Below w.heap.size w w1) := hb1
  clear hb1
  go_wp2
  go_ret2
  exact ⟨rfl, H1.out⟩
set_option maxHeartbeats 2000000 in
set_option maxRecDepth 100000 in
theorem curve_long {D : FD} (hD : D ∈ fieldsL) {ao yo : Option Addr} {m my ca cy : Nat} {yz : Nat → Int} {w : World} (hy : Arg yo my cy yz w) (h0 : D.chk my yz = 0) (hm : 64 < m) (hm2 : m ≤ 17592186044416) :
    Calls Try.prog 21 #[.int .i64 D.q, .slice ao m ca, .slice yo my cy] w fun x w' => x = .returned (.tuple #[.slice none 0 0, .int .i64 4]) ∧ Below w.heap.size w w' := by
  have HC : Hid (Calls Try.prog 63 #[.int .i64 D.q, .slice yo my cy] w fun x w' => x = .returned (.int .i64 0) ∧ Below w.heap.size w w') := by
    show Calls _ _ _ _ _
    have h := check_any (cap := cy) hD hy.sl hy.lt hy.few
    rw [h0] at h; exact h
  have hmi : (64 : Int) < (m : Int) := by omega
  clear hD hy h0
  go_enter Try.func21, Try.ntmps21
  go_wp2_with fail
  refine HC.out.mono ?_
  rintro x w1 ⟨rfl, hb1⟩
  have H1 : Hid (Below w.heap.size w w1) := hb1
  clear hb1
  go_wp2
  go_ret2
  exact ⟨rfl, H1.out⟩
set_option maxHeartbeats 2000000 in
set_option maxRecDepth 100000 in
theorem rcurve_err (q e : Int) (he : e ≠ 0) {ao yo : Option Addr} {m my ca cy : Nat} {w : World} (h : Calls Try.prog 66 #[.int .i64 q, .slice yo my cy] w fun x w' => x = .returned (.int .i64 e) ∧ Below w.heap.size w w') :
    Calls Try.prog 22 #[.int .i64 q, .slice ao m ca, .slice yo my cy] w fun x w' => x = .returned (.tuple #[.slice none 0 0, .int .i64 e]) ∧ Below w.heap.size w w' := by
  have HC : Hid (Calls Try.prog 66 #[.int .i64 q, .slice yo my cy] w fun x w' => x = .returned (.int .i64 e) ∧ Below w.heap.size w w') := h
  have hz : (e != 0) = true := by rw [bne_iff_ne]; exact he
  clear h he
  go_enter Try.func22, Try.ntmps22
  go_wp2_with fail
  refine HC.out.mono ?_
  rintro x w1 ⟨rfl, hb1⟩
  have H1 : Hid (Below w.heap.size w w1) := hb1
  clear hb1
  go_wp2
  go_ret2
  exact ⟨rfl, H1.out⟩
set_option maxHeartbeats 2000000 in
set_option maxRecDepth 100000 in
theorem rcurve_long {D : FD} (hD : D ∈ fieldsL) {ao yo : Option Addr} {m my ca cy : Nat} {yz : Nat → Int} {w : World} (hy : Arg yo my cy yz w) (h0 : D.chk my yz = 0) (hm : 64 < m) (hm2 : m ≤ 17592186044416) :
    Calls Try.prog 22 #[.int .i64 D.q, .slice ao m ca, .slice yo my cy] w fun x w' => x = .returned (.tuple #[.slice none 0 0, .int .i64 4]) ∧ Below w.heap.size w w' := by
  have HC : Hid (Calls Try.prog 66 #[.int .i64 D.q, .slice yo my cy] w fun x w' => x = .returned (.int .i64 0) ∧ Below w.heap.size w w') := by
    show Calls _ _ _ _ _
    have h := polyMay_any (cap := cy) hD hy.sl hy.lt hy.few
    rw [h0] at h; exact h
  have hmi : (64 : Int) < (m : Int) := by omega
  clear hD hy h0
  go_enter Try.func22, Try.ntmps22
  go_wp2_with fail
  refine HC.out.mono ?_
  rintro x w1 ⟨rfl, hb1⟩
  have H1 : Hid (Below w.heap.size w w1) := hb1
  clear hb1
  go_wp2
  go_ret2
  exact ⟨rfl, H1.out⟩

set_option maxHeartbeats 2000000 in
set_option maxRecDepth 100000 in
theorem lcurve_both (q er : Int) {ao yo : Option Addr} {m my ca cy : Nat} {l : List Int} {w : World} (hmy : my ≤ 200) (hHa : Calls Try.prog 20 #[.slice ao m ca] w fun r w' => r = .returned (.bool false) ∧ w' = w)
    (hP : ∀ w1, Below w.heap.size w w1 → Calls Try.prog 21 #[.int .i64 q, .slice ao m ca, .slice yo my cy] w1 fun x w' => Below w1.heap.size w1 w' ∧ ∃ v, x = .returned (.tuple #[v, .int .i64 er]) ∧ ((er ≠ 0 ∧ v = .slice none 0 0) ∨ (er = 0 ∧ KI v l w')))
    (hR : ∀ w1, Below w.heap.size w w1 → Calls Try.prog 22 #[.int .i64 q, .slice ao m ca, .slice yo my cy] w1 fun x w' => Below w1.heap.size w1 w' ∧ ∃ v, x = .returned (.tuple #[v, .int .i64 er]) ∧ ((er ≠ 0 ∧ v = .slice none 0 0) ∨ (er = 0 ∧ KI v l w'))) :
    Calls Try.prog 5 #[.int .i64 q, .slice ao m ca, .slice yo my cy] w fun r w' => r = .returned (.bool true) ∧ Below w.heap.size w w' := by
  have HHa : Hid (Calls Try.prog 20 #[.slice ao m ca] w fun r w' => r = .returned (.bool false) ∧ w' = w) := hHa
  have HP : Hid (∀ w1, Below w.heap.size w w1 → Calls Try.prog 21 #[.int .i64 q, .slice ao m ca, .slice yo my cy] w1 fun x w' => Below w1.heap.size w1 w' ∧ ∃ v, x = .returned (.tuple #[v, .int .i64 er]) ∧ ((er ≠ 0 ∧ v = .slice none 0 0) ∨ (er = 0 ∧ KI v l w'))) := hP
  have HR : Hid (∀ w1, Below w.heap.size w w1 → Calls Try.prog 22 #[.int .i64 q, .slice ao m ca, .slice yo my cy] w1 fun x w' => Below w1.heap.size w1 w' ∧ ∃ v, x = .returned (.tuple #[v, .int .i64 er]) ∧ ((er ≠ 0 ∧ v = .slice none 0 0) ∨ (er = 0 ∧ KI v l w'))) := hR
  have hyb : ¬ (200 : Int) < (my : Int) := by omega
  clear hHa hP hR hmy
  go_enter Try.func5, Try.ntmps5
  go_wp2_with fail
  refine HHa.out.mono ?_
  rintro r w' ⟨rfl, hw⟩
  have hw := hw.symm
  subst hw
  go_wp2_with fail
  refine (HP.out _ (Below.refl _ _)).mono ?_
  rintro x w1 ⟨hb1, v, rfl, hv⟩
  have H1 : Hid (Below w.heap.size w w1 ∧ ((er ≠ 0 ∧ v = .slice none 0 0) ∨ (er = 0 ∧ KI v l w1))) := ⟨hb1, hv⟩
  clear hb1 hv
  go_wp2_with fail
  refine (HR.out _ H1.out.1).mono ?_
  rintro x w2 ⟨hb2, u, rfl, hu⟩
  have H2 : Hid (Below w.heap.size w w2 ∧ ((er ≠ 0 ∧ ∃ ao ca, v = .slice ao 0 ca) ∨ (er = 0 ∧ ∃ l, SliceI v l w2 ∧ SliceI u l w2))) := by
    refine ⟨bel_up' H1.out.1 hb2, ?_⟩
    rcases H1.out.2 with ⟨h1, h2⟩ | ⟨h1, h2⟩
    · exact Or.inl ⟨h1, none, 0, h2⟩
    · rcases hu with ⟨h3, _⟩ | ⟨_, h4⟩
      · exact absurd h1 h3
      · exact Or.inr ⟨h1, l, (h2.below hb2).1, h4.1⟩
  clear hb2 hu
  go_wp2_with fail
  refine (list_gen H2.out.2).mono ?_
  rintro r w3 ⟨rfl, d, hw3⟩
  have H3 : Hid (Below w.heap.size w w3) := by rw [hw3]; exact bel_up' H2.out.1 ⟨rfl, rfl, rfl, Nat.le_refl _, fun _ _ => rfl⟩
  clear hw3
  go_wp2
  go_ret
  exact ⟨rfl, H3.out⟩

set_option maxHeartbeats 2000000 in
set_option maxRecDepth 100000 in
theorem lcurve_heavy (q : Int) {ao yo : Option Addr} {m my ca cy : Nat} {b1 : Bool} {w : World} (hHa : Calls Try.prog 20 #[.slice ao m ca] w fun r w' => r = .returned (.bool b1) ∧ w' = w) (hmy : my ≤ 17592186044416) (h : b1 = true ∨ 200 < my) :
    Calls Try.prog 5 #[.int .i64 q, .slice ao m ca, .slice yo my cy] w fun r w' => r = .returned (.bool true) ∧ Below w.heap.size w w' := by
  have HHa : Hid (Calls Try.prog 20 #[.slice ao m ca] w fun r w' => r = .returned (.bool b1) ∧ w' = w) := hHa
  clear hHa
  cases b1 with
  | true =>
    go_enter Try.func5, Try.ntmps5
    go_wp2_with fail
    refine HHa.out.mono ?_
    rintro r w' ⟨rfl, hw⟩
    have hw := hw.symm
    subst hw
    go_wp2
    go_ret
    exact ⟨rfl, Below.refl _ _⟩
  | false =>
    have hyb : (200 : Int) < (my : Int) := by
      rcases h with h | h
      · cases h
      · omega
    go_enter Try.func5, Try.ntmps5
    go_wp2_with fail
    refine HHa.out.mono ?_
    rintro r w' ⟨rfl, hw⟩
    have hw := hw.symm
    subst hw
    go_wp2
    go_ret
    exact ⟨rfl, Below.refl _ _⟩

theorem listsCurve_walk (q : Int) {ao yo : Option Addr} {m my ca cy : Nat} {A : Nat → Option Addr} {N C : Nat → Nat} {Z : Nat → Nat → Int} {yz : Nat → Int} {w : World} (ha : MatO ao m A N C Z w) (hy : ArgL yo my cy yz w) (hm : m ≤ 17592186044416) (hmy : my ≤ 17592186044416) (hN : ∀ i, i < m → N i ≤ 17592186044416) :
    Calls Try.prog 5 #[.int .i64 q, .slice ao m ca, .slice yo my cy] w fun r w' => r = .returned (.bool true) ∧ Below w.heap.size w w' := by
  have hHa := heavy_any (ca := ca) ha.cell hm hN
  by_cases h1 : hvs N m m ≤ 6000
  · by_cases h3 : my ≤ 200
    · rw [decide_eq_false (by omega)] at hHa
      have f1 := hvs_few m h1
      have haZ := ha.matZ (fun i hi => by have := f1.2 i hi; omega)
      have hyA := hy.arg (by omega)
      by_cases h : ∃ D ∈ fieldsL, (D.q : Int) = q
      · obtain ⟨D, hD, rfl⟩ := h
        by_cases h0 : D.chk my yz = 0
        · by_cases h64 : m ≤ 64
          · refine lcurve_both D.q (cve D (zc my yz) (dgn (zc my yz) my) N Z m m) (l := zl (cvs D (zc my yz) (dgn (zc my yz) my) N Z m m).1 fun j => (((cvs D (zc my yz) (dgn (zc my yz) my) N Z m m).2 j : Nat) : Int)) h3 hHa (fun w1 hb1 => (curve_any hD (haZ.below hb1) (hyA.below hb1) h0 h64).mono ?_) (fun w1 hb1 => (rcurve_any hD (haZ.below hb1) (hyA.below hb1) h0 h64).mono ?_)
            · rintro x w' ⟨hb, hr⟩
              rcases hr with ⟨he, rfl⟩ | ⟨he, v, rfl, hk⟩
              · exact ⟨hb, _, rfl, Or.inl ⟨he, rfl⟩⟩
              · exact ⟨hb, v, by rw [he], Or.inr ⟨he, hk⟩⟩
            · rintro x w' ⟨hb, hr⟩
              rcases hr with ⟨he, rfl⟩ | ⟨he, v, rfl, hk⟩
              · exact ⟨hb, _, rfl, Or.inl ⟨he, rfl⟩⟩
              · exact ⟨hb, v, by rw [he], Or.inr ⟨he, hk⟩⟩
          · refine lcurve_both D.q 4 (l := []) h3 hHa (fun w1 hb1 => (curve_long hD (hyA.below hb1) h0 (by omega) hm).mono ?_) (fun w1 hb1 => (rcurve_long hD (hyA.below hb1) h0 (by omega) hm).mono ?_)
            · rintro x w' ⟨rfl, hb⟩
              exact ⟨hb, _, rfl, Or.inl ⟨by omega, rfl⟩⟩
            · rintro x w' ⟨rfl, hb⟩
              exact ⟨hb, _, rfl, Or.inl ⟨by omega, rfl⟩⟩
        · refine lcurve_both D.q (D.chk my yz) (l := []) h3 hHa (fun w1 hb1 => (curve_err D.q _ h0 (check_any hD (hyA.below hb1).sl (hyA.below hb1).lt (hyA.below hb1).few)).mono ?_) (fun w1 hb1 => (rcurve_err D.q _ h0 (polyMay_any hD (hyA.below hb1).sl (hyA.below hb1).lt (hyA.below hb1).few)).mono ?_)
          · rintro x w' ⟨rfl, hb⟩
            exact ⟨hb, _, rfl, Or.inl ⟨h0, rfl⟩⟩
          · rintro x w' ⟨rfl, hb⟩
            exact ⟨hb, _, rfl, Or.inl ⟨h0, rfl⟩⟩
      · have hn : ∀ D ∈ fieldsL, (D.q : Int) ≠ q := fun D hD e => h ⟨D, hD, e⟩
        refine lcurve_both q 1 (l := []) h3 hHa (fun w1 hb1 => (curve_err q 1 (by omega) ((check_none q hn _ w1).mono fun e w' h => ⟨h.1, bel_of_eq h.2⟩)).mono ?_) (fun w1 hb1 => (rcurve_err q 1 (by omega) (polyMay_none q hn _ _ _ w1)).mono ?_)
        · rintro x w' ⟨rfl, hb⟩
          exact ⟨hb, _, rfl, Or.inl ⟨by omega, rfl⟩⟩
        · rintro x w' ⟨rfl, hb⟩
          exact ⟨hb, _, rfl, Or.inl ⟨by omega, rfl⟩⟩
    · exact lcurve_heavy q hHa hmy (Or.inr (by omega))
  · exact lcurve_heavy q hHa hmy (Or.inl (decide_eq_true (by omega)))
end Go.Proofs.Ytjkncdmbcckcdaa
