/- Texts of ours, one behind the other: K8 W12 K9 E7 S20. -/
import Derived.Test.YtbofcldmgjeklabZS13
import Derived.Test.YtbofcldmgjeklabZI8
import Derived.Test.YtbofcldmgjeklabZX12
import Derived.Test.YtbofcldmgjeklabZZ5
import Derived.Test.YtbofcldmgjeklabZA1
/- Codes out of raw numbers (CodeOf). -/
namespace Go.Proofs.Ytbofcldmgjeklab
open Go.RowKit Go.Sort

theorem MkS.laid {base q c i b : Nat} {v : Value} {vs : Nat → Value} {Z : Nat → Nat → Int} {w : World} (h : MkS base q c i v vs Z w) (hb : b < base) (x y : Int) (u : Value) : MkS base q c i v vs Z (laid w b x y u) :=
  ⟨h.own.same (fun g hg => laid_heap w b x y u (by have := h.own.open_ge g hg; omega)), fun j hj => (h.row j hj).same (fun g hg => laid_heap w b x y u (by have := ((h.row j hj).lt g hg).1; omega)), h.blw⟩

set_option maxHeartbeats 8000000 in
set_option maxRecDepth 100000 in
theorem codeOf_any {ao : Option Addr} {n ca : Nat} {z : Nat → Int} (q m r : Int) {w : World} (ha : Arg ao n ca z w) (hn : n ≤ 256) (hq : I64 q) (hm : I64 m) (hr : I64 r) :
    Calls Try.prog 24 #[.slice ao n ca, .int .i64 q, .int .i64 m, .int .i64 r] w fun e w' => ∃ D N r' mo mc A C Z, D ∈ fieldsL ∧ D.q ≤ 8 ∧ N ≤ 12 ∧ r' ≤ 5 ∧ D.q ^ r' ≤ 4096 ∧ e = .returned (.agg #[.int .i64 D.q, .int .i64 (N : Nat), .slice mo r' mc]) ∧ CdZ D mo r' N A (fun _ => N) C Z w' ∧ Below w.heap.size w w' := by
  obtain ⟨P0, hP0, hP1⟩ := pick_nat6 (m := q) (k := 6) (by omega)
  obtain ⟨N0, hN0, hN1⟩ := pick_nat6 (m := m) (k := 12) (by omega)
  obtain ⟨D, hD, hDq, hD8⟩ := small_field P0 hP1
  have h2q := (fld hD).q2
  obtain ⟨w1, hw1⟩ : ∃ w1, w1 = (w.alloc (.cells #[.int .i64 0, .int .i64 0, .slice none 0 0] 50)).alloc (.cells #[.int .i64 2, .int .i64 2, .int .i64 3, .int .i64 4, .int .i64 5, .int .i64 8] 3) := ⟨_, rfl⟩
  have hcell : w1.cell? ⟨w.heap.size + 1, P0, none⟩ = some (.int .i64 (D.q : Nat)) := by
    rw [hw1, ← hDq]
    have : P0 = 0 ∨ P0 = 1 ∨ P0 = 2 ∨ P0 = 3 ∨ P0 = 4 ∨ P0 = 5 := by omega
    have hsz : (w.alloc (.cells #[.int .i64 0, .int .i64 0, .slice none 0 0] 50)).heap.size = w.heap.size + 1 := by simp
    rcases this with rfl | rfl | rfl | rfl | rfl | rfl <;> (rw [← hsz, cell_of_row _ _ _ _ _ (0, 0) (two_new _)]; rfl)
  have HW : Hid (Below w.heap.size w w1 ∧ RB w.heap.size w1) := by
    rw [hw1]
    have h1 : Below w.heap.size w (w.alloc (.cells #[.int .i64 0, .int .i64 0, .slice none 0 0] 50)) := (Below.refl _ _).alloc (Nat.le_refl _) _
    have h2 : Below (w.alloc (.cells #[.int .i64 0, .int .i64 0, .slice none 0 0] 50)).heap.size (w.alloc (.cells #[.int .i64 0, .int .i64 0, .slice none 0 0] 50)) ((w.alloc (.cells #[.int .i64 0, .int .i64 0, .slice none 0 0] 50)).alloc (.cells #[.int .i64 2, .int .i64 2, .int .i64 3, .int .i64 4, .int .i64 5, .int .i64 8] 3)) := (Below.refl _ _).alloc (Nat.le_refl _) _
    exact ⟨bel_up' h1 h2, (RB.new _ _ _ w).keep h2⟩
  have HA : Hid (Arg ao n ca z w ∧ D ∈ fieldsL) := ⟨ha, hD⟩
  have HP1 : Hid (∀ w : World, Calls Try.prog 7 #[.int .i64 q, .int .i64 6] w fun e w' => e = .returned (.int .i64 P0) ∧ w' = w) := fun w => by rw [← hP0]; exact pick_any q 6 w hq.1 hq.2 (by omega) (by omega)
  have HP2 : Hid (∀ w : World, Calls Try.prog 7 #[.int .i64 m, .int .i64 12] w fun e w' => e = .returned (.int .i64 N0) ∧ w' = w) := fun w => by rw [← hN0]; exact pick_any m 12 w hm.1 hm.2 (by omega) (by omega)
  obtain ⟨N, hNe⟩ : ∃ N, N = 1 + N0 := ⟨_, rfl⟩
  have hwN : IntKind.i64.wrap (1 + (N0 : Int)) = (N : Int) := wrap_to (by omega) (by omega)
  have hNb : 1 ≤ N ∧ N ≤ 12 := by omega
  have HR : Hid (I64 r) := hr
  have hP1i : (P0 : Int) < 6 := by omega
  have hP1j : (0 : Int) ≤ (P0 : Int) := by omega
  clear hD hP0 hN0 ha hq hm hr hNe hDq
  go_enter Try.func24, Try.ntmps24
  go_wp2_with fail
  rw [← hw1]
  clear hw1
  refine (HP1.out w1).mono ?_
  rintro e w' ⟨rfl, hw⟩
  have hw := hw.symm
  subst hw
  go_wp2_with fail
  clear hcell
  refine (HP2.out w1).mono ?_
  rintro e w' ⟨rfl, hw⟩
  have hw := hw.symm
  subst hw
  go_wp2
  go_loopw [9] (fun vi wr => ∃ t : Nat, t ≤ 5 ∧ vi = .int .i64 t ∧ Hid (D.q ^ t ≤ 4096) ∧ wr = w1) (fun vi _ => 5 - (intOf vi).toNat)
  case atStart => exact ⟨0, by omega, rfl, by show D.q ^ 0 ≤ 4096; simp, rfl⟩
  case round =>
    obtain ⟨t, ht, rfl, HT, hw⟩ := hrel
    have hw := hw.symm
    subst hw
    obtain ⟨T, hTe⟩ : ∃ T, T = t + 1 := ⟨_, rfl⟩
    have HTi : Hid ((t : Int) + 1 = (T : Int) ∧ T = t + 1) := ⟨by omega, hTe⟩
    have hTb : 1 ≤ T ∧ T ≤ 6 := by omega
    have HF : Hid (Calls Try.prog 67 #[.int .i64 (D.q : Nat), .int .i64 (T : Nat)] w1 (FewP D.q T w1)) := fewR_any D.q T (by omega) (by omega) (by omega) w1
    clear hTe
    go_wp2_with fail
    rw [HTi.out.1]
    refine HF.out.mono ?_
    rintro e w' ⟨fb, rfl, hfb, hw⟩
    have HFB : Hid (fb = true ↔ D.q ^ T ≤ 4096) := hfb
    clear hfb
    have hw := hw.symm
    subst hw
    by_cases hc : fb = true ∧ t < 5
    · have ht5 : (t : Int) < 5 := by omega
      have hT2 := HFB.out.1 hc.1
      have HT2 : Hid (D.q ^ T ≤ 4096) := hT2
      obtain ⟨hfe, htl⟩ := hc
      subst hfe
      clear hT2 HFB
      go_wp2
      go_roundw
      case rel => exact ⟨T, by have := HTi.out.2; omega, by have h := HTi.out.1; first | rfl | rw [h] | simp [h], HT2.out, by first | rfl | trivial⟩
      case measure => have h := HTi.out; simp [intOf]; omega
    · obtain ⟨r', hr', hr2⟩ := pick_nat6 (m := r) (k := T) (by omega)
      have HP3 : Hid (∀ w : World, Calls Try.prog 7 #[.int .i64 r, .int .i64 (T : Nat)] w fun e w' => e = .returned (.int .i64 r') ∧ w' = w) := fun w => by rw [← hr']; exact pick_any r T w HR.out.1 HR.out.2 (by omega) (by omega)
      have HR2 : Hid (D.q ^ r' ≤ 4096) := Nat.le_trans (fewR_le (by omega) (show r' ≤ t by have := HTi.out.2; omega)) HT.out
      clear hr'
      have HM : Hid (∀ wx, Below w.heap.size w wx → Calls Try.prog 68 #[.slice ao n ca, .int .i64 0, .int .i64 (D.q : Nat), .int .i64 (r' : Nat), .int .i64 (N : Nat)] wx fun e w' => ∃ mo mc vs Z, e = .returned (.slice mo r' mc) ∧ MkS wx.heap.size D.q N r' (.slice mo r' mc) vs Z w' ∧ Below wx.heap.size wx w') := fun wx hx => by
        refine (matrixOf_any (HA.out.1.below hx) (by omega) 0 D.q r' N (by omega) (by omega) (by omega) (by omega) (by omega)).mono ?_
        rintro e w' ⟨v, vs, Z, rfl, hmk, hb⟩
        obtain ⟨mo, mc, rfl, hz⟩ := hmk.cdz (D := D) (by omega) hNb.1 (by omega)
        exact ⟨mo, mc, _, Z, rfl, hmk, hb⟩
      cases fb
      · clear hc HFB
        go_wp2_with fail
        rw [HTi.out.1]
        refine (HP3.out w1).mono ?_
        rintro e w' ⟨rfl, hw⟩
        have hw := hw.symm
        subst hw
        go_wp2_with fail
        refine (HM.out w1 HW.out.1).mono ?_
        rintro e w2 ⟨mo, mc, vs, Z, rfl, hmk, hb2⟩
        have H2 : Hid (MkS w1.heap.size D.q N r' (.slice mo r' mc) vs Z w2 ∧ Below w1.heap.size w1 w2 ∧ RB w.heap.size w2 ∧ w.heap.size < w1.heap.size) := ⟨hmk, hb2, HW.out.2.keep hb2, by obtain ⟨⟨x0, c0⟩, _⟩ := HW.out.2; exact cell_lt c0⟩
        clear hmk hb2
        obtain ⟨⟨x0, c0⟩, ⟨x1, c1⟩, ⟨x2, c2⟩, f0, f1, f2⟩ := H2.out.2.2.1
        go_wp2
        obtain ⟨w3, hw3⟩ : ∃ w3, w3 = laid w2 w.heap.size D.q (N : Nat) (.slice mo r' mc) := ⟨_, rfl⟩
        have H3 : Hid (CB w.heap.size D.q (N : Nat) (.slice mo r' mc) w3 ∧ MkS w1.heap.size D.q N r' (.slice mo r' mc) vs Z w3 ∧ Below w.heap.size w w3) := by
          rw [hw3]; exact ⟨laid_cb H2.out.2.2.1 _ _ _, H2.out.1.laid H2.out.2.2.2 _ _ _, laid_below (bel_up' HW.out.1 H2.out.2.1) (Nat.le_refl _) _ _ _⟩
        unfold laid at hw3
        rw [← hw3]
        clear hw3 c0 c1 c2 f0 f1 f2
        obtain ⟨c0, c1, c2⟩ := H3.out.1
        refine bodyPost_ret (v := .agg #[.int .i64 D.q, .int .i64 (N : Nat), .slice mo r' mc]) (by simp [results, Try.results24, go_sem, c0, c1, c2]) rfl ?_
        obtain ⟨mo', mc', he, hz⟩ := H3.out.2.1.cdz (D := D) (by omega) hNb.1 (by omega)
        cases he
        exact ⟨D, N, r', _, _, _, _, Z, HA.out.2, hD8, hNb.2, by omega, HR2.out, rfl, hz, H3.out.2.2⟩
      · have ht5 : ¬ (t : Int) < 5 := fun h => hc ⟨rfl, by omega⟩
        clear hc HFB
        go_wp2_with fail
        rw [HTi.out.1]
        refine (HP3.out w1).mono ?_
        rintro e w' ⟨rfl, hw⟩
        have hw := hw.symm
        subst hw
        go_wp2_with fail
        refine (HM.out w1 HW.out.1).mono ?_
        rintro e w2 ⟨mo, mc, vs, Z, rfl, hmk, hb2⟩
        have H2 : Hid (MkS w1.heap.size D.q N r' (.slice mo r' mc) vs Z w2 ∧ Below w1.heap.size w1 w2 ∧ RB w.heap.size w2 ∧ w.heap.size < w1.heap.size) := ⟨hmk, hb2, HW.out.2.keep hb2, by obtain ⟨⟨x0, c0⟩, _⟩ := HW.out.2; exact cell_lt c0⟩
        clear hmk hb2
        obtain ⟨⟨x0, c0⟩, ⟨x1, c1⟩, ⟨x2, c2⟩, f0, f1, f2⟩ := H2.out.2.2.1
        go_wp2
        obtain ⟨w3, hw3⟩ : ∃ w3, w3 = laid w2 w.heap.size D.q (N : Nat) (.slice mo r' mc) := ⟨_, rfl⟩
        have H3 : Hid (CB w.heap.size D.q (N : Nat) (.slice mo r' mc) w3 ∧ MkS w1.heap.size D.q N r' (.slice mo r' mc) vs Z w3 ∧ Below w.heap.size w w3) := by
          rw [hw3]; exact ⟨laid_cb H2.out.2.2.1 _ _ _, H2.out.1.laid H2.out.2.2.2 _ _ _, laid_below (bel_up' HW.out.1 H2.out.2.1) (Nat.le_refl _) _ _ _⟩
        unfold laid at hw3
        rw [← hw3]
        clear hw3 c0 c1 c2 f0 f1 f2
        obtain ⟨c0, c1, c2⟩ := H3.out.1
        refine bodyPost_ret (v := .agg #[.int .i64 D.q, .int .i64 (N : Nat), .slice mo r' mc]) (by simp [results, Try.results24, go_sem, c0, c1, c2]) rfl ?_
        obtain ⟨mo', mc', he, hz⟩ := H3.out.2.1.cdz (D := D) (by omega) hNb.1 (by omega)
        cases he
        exact ⟨D, N, r', _, _, _, _, Z, HA.out.2, hD8, hNb.2, by omega, HR2.out, rfl, hz, H3.out.2.2⟩
end Go.Proofs.Ytbofcldmgjeklab

/- A region that draws its order: one of two operations comes next. No Go text here. -/
namespace Go.Proofs.Ytbofcldmgjeklab
open Go

end Go.Proofs.Ytbofcldmgjeklab

/- Codes in hand: Encode, Has; words of a code and of its dual. -/
namespace Go.Proofs.Ytbofcldmgjeklab
open Go.RowKit Go.Sort

/-- A word that was told: it can be handed in again. -/
def Wrd (n : Nat) (v : Nat → Nat) (gr c : Nat) (w : World) : Prop := Row gr n v w ∧ n ≤ c ∧ c ≤ 9223372036854775807
theorem Wrd.below {n gr c : Nat} {v : Nat → Nat} {w w' : World} (h : Wrd n v gr c w) (hb : Below w.heap.size w w') : Wrd n v gr c w' := ⟨h.1.below hb h.1.lt, h.2⟩
theorem Wrd.arg {n gr c : Nat} {v : Nat → Nat} {w : World} (h : Wrd n v gr c w) (hn : n ≤ 1000) : Arg (some ⟨gr, 0, none⟩) n c (fun i => ((v i : Nat) : Int)) w :=
  ⟨slz_of (h.1.sl (Nat.le_refl _)), fun x hx => by cases hx; exact h.1.lt, by omega, (fun e => by cases e), h.2.1, h.2.2⟩
end Go.Proofs.Ytbofcldmgjeklab

/- TopDual: the walk of the statement, whatever raw numbers it is given. -/
namespace Go.Proofs.Ytbofcldmgjeklab
open Go.RowKit Go.Sort

theorem Dul.red {D : FD} {n m k : Nat} {M R : Nat → Nat → Nat} (h : Dul D n m M k R) {m' : Nat} {M' : Nat → Nat → Nat} (hs : ∀ v, Spn D (RowsOf k R) v ↔ Spn D (RowsOf m' M') v) : Red D n m' M' k R := by
  obtain ⟨_, _, _, p, _, _, q1, _⟩ := h
  exact ⟨p, q1, hs⟩
/-- The dual's own one form. -/
theorem Dul.own {D : FD} {n m k : Nat} {M R : Nat → Nat → Nat} (h : Dul D n m M k R) : Red D n k R k R := h.red (fun _ => Iff.rfl)

end Go.Proofs.Ytbofcldmgjeklab

/- Plain mathematics: how many sets there are; Krawtchouk's numbers. No Go text here. -/
namespace Go.Proofs.Ytbofcldmgjeklab

/-- How many sets of k there are of n. -/
def chs : Nat → Nat → Nat
  | _, 0 => 1
  | 0, _ + 1 => 0
  | n + 1, k + 1 => chs n k + chs n (k + 1)
theorem chs_zero (n : Nat) : chs n 0 = 1 := by cases n <;> rfl
theorem chs_over : ∀ n k, n < k → chs n k = 0
  | _, 0, h => by omega
  | 0, _ + 1, _ => rfl
  | n + 1, k + 1, h => by
    show chs n k + chs n (k + 1) = 0
    rw [chs_over n k (by omega), chs_over n (k + 1) (by omega)]
/-- One more in the set. -/
theorem chs_step : ∀ n k, (k + 1) * chs n (k + 1) = (n - k) * chs n k
  | 0, k => by
    rw [show chs 0 (k + 1) = 0 from rfl, Nat.zero_sub]; omega
  | n + 1, 0 => by
    have h := chs_step n 0
    rw [chs_zero] at h ⊢
    show (0 + 1) * (chs n 0 + chs n (0 + 1)) = _
    rw [chs_zero]
    omega
  | n + 1, k + 1 => by
    have h1 := chs_step n k
    have h2 := chs_step n (k + 1)
    show (k + 1 + 1) * (chs n (k + 1) + chs n (k + 1 + 1)) = (n + 1 - (k + 1)) * (chs n k + chs n (k + 1))
    by_cases e : k + 1 ≤ n
    · rw [Nat.mul_add, h2, show n + 1 - (k + 1) = n - k by omega, Nat.mul_add, ← h1, ← Nat.add_mul, ← Nat.add_mul, show k + 1 + 1 + (n - (k + 1)) = n + 1 by omega, show k + 1 + (n - k) = n + 1 by omega]
    · rw [chs_over n (k + 1) (by omega), chs_over n (k + 1 + 1) (by omega), show n + 1 - (k + 1) = 0 by omega]
      omega
theorem chs_pw (b : Nat) : ∀ n k, b ^ k * chs n k ≤ (b + 1) ^ n
  | n, 0 => by
    rw [chs_zero, Nat.pow_zero]
    exact Nat.one_le_pow _ _ (by omega)
  | 0, k + 1 => by rw [show chs 0 (k + 1) = 0 from rfl]; exact Nat.zero_le _
  | n + 1, k + 1 => by
    have h1 := chs_pw b n k
    have h2 := chs_pw b n (k + 1)
    show b ^ (k + 1) * (chs n k + chs n (k + 1)) ≤ _
    have e1 : b ^ (k + 1) * chs n k = b * (b ^ k * chs n k) := by rw [Nat.pow_succ, Nat.mul_comm (b ^ k) b, Nat.mul_assoc]
    have h3 : b * (b ^ k * chs n k) ≤ b * (b + 1) ^ n := Nat.mul_le_mul_left _ h1
    have e2 : (b + 1) ^ (n + 1) = b * (b + 1) ^ n + (b + 1) ^ n := by rw [Nat.pow_succ, Nat.mul_add, Nat.mul_one, Nat.mul_comm ((b + 1) ^ n) b]
    rw [Nat.mul_add, e1, e2]
    omega
theorem chs_le (n k : Nat) : chs n k ≤ 2 ^ n := by
  have h := chs_pw 1 n k
  rw [Nat.one_pow, Nat.one_mul] at h
  exact h

/-- The coefficients of a product of (1 + c z). -/
def kc (c : Nat → Int) : Nat → Nat → Int
  | 0, 0 => 1
  | 0, _ + 1 => 0
  | i + 1, 0 => kc c i 0
  | i + 1, k + 1 => kc c i (k + 1) + c i * kc c i k
theorem kc_zero (c : Nat → Int) : ∀ i, kc c i 0 = 1
  | 0 => rfl
  | i + 1 => kc_zero c i
theorem kc_abs {c : Nat → Int} {q : Nat} (hq : 1 ≤ q) (hc : ∀ i, (c i).natAbs ≤ q - 1) : ∀ i k, (kc c i k).natAbs ≤ q ^ i
  | 0, 0 => by show (1 : Int).natAbs ≤ _; simp
  | 0, _ + 1 => by show (0 : Int).natAbs ≤ _; simp
  | i + 1, 0 => by
    rw [kc_zero]
    exact Nat.one_le_pow _ _ (by omega)
  | i + 1, k + 1 => by
    have h1 := kc_abs hq hc i (k + 1)
    have h2 := kc_abs hq hc i k
    show (kc c i (k + 1) + c i * kc c i k).natAbs ≤ _
    have h3 : (c i * kc c i k).natAbs ≤ (q - 1) * q ^ i := by rw [Int.natAbs_mul]; exact Nat.mul_le_mul (hc i) h2
    have h4 := Int.natAbs_add_le (kc c i (k + 1)) (c i * kc c i k)
    have h5 : q ^ (i + 1) = (q - 1) * q ^ i + q ^ i := by
      rw [Nat.pow_succ, Nat.mul_comm, ← Nat.succ_mul]
      congr 1
      omega
    omega
/-- Of a product of two, the first j terms. -/
def cv (A B : Nat → Int) (k : Nat) : Nat → Int
  | 0 => 0
  | j + 1 => cv A B k j + A j * B (k - j)
theorem cv_congr {A A' B B' : Nat → Int} {k : Nat} : ∀ j, (∀ i, i < j → A i = A' i ∧ B (k - i) = B' (k - i)) → cv A B k j = cv A' B' k j
  | 0, _ => rfl
  | j + 1, h => by
    show cv A B k j + A j * B (k - j) = cv A' B' k j + A' j * B' (k - j)
    rw [cv_congr j (fun i hi => h i (by omega)), (h j (by omega)).1, (h j (by omega)).2]
/-- b^l times how many sets of l there are of m. -/
def bl (b : Int) (m l : Nat) : Int := b ^ l * (chs m l : Nat)
theorem bl_zero (b : Int) (m : Nat) : bl b m 0 = 1 := by unfold bl; rw [chs_zero]; simp
theorem bl_succ (b : Int) (m l : Nat) : bl b (m + 1) (l + 1) = bl b m (l + 1) + b * bl b m l := by
  unfold bl
  rw [show chs (m + 1) (l + 1) = chs m l + chs m (l + 1) from rfl, Int.natCast_add, Int.mul_add, Int.pow_succ]
  have : b ^ l * b * (chs m l : Nat) = b * (b ^ l * (chs m l : Nat)) := by rw [Int.mul_comm (b ^ l) b, Int.mul_assoc]
  rw [this, Int.add_comm]
theorem cv_step (A : Nat → Int) (b : Int) (m k : Nat) : ∀ j, j ≤ k + 1 → cv A (bl b (m + 1)) (k + 1) j = cv A (bl b m) (k + 1) j + b * cv A (bl b m) k j
  | 0, _ => by show (0 : Int) = 0 + b * 0; simp
  | j + 1, h => by
    show cv A (bl b (m + 1)) (k + 1) j + A j * bl b (m + 1) (k + 1 - j) = cv A (bl b m) (k + 1) j + A j * bl b m (k + 1 - j) + b * (cv A (bl b m) k j + A j * bl b m (k - j))
    rw [cv_step A b m k j (by omega), show k + 1 - j = (k - j) + 1 by omega, bl_succ, Int.mul_add, Int.mul_add, ← Int.mul_assoc (A j) b, Int.mul_comm (A j) b, Int.mul_assoc b (A j)]
    omega
/-- The coefficients of (1 - z)^x (1 + b z)^(n - x). -/
def kwc (b : Int) (x : Nat) : Nat → Int := fun i => if i < x then -1 else b
theorem kc_lo (b : Int) (x : Nat) : ∀ i k, i ≤ x → kc (kwc b x) i k = (-1) ^ k * (chs i k : Nat)
  | 0, 0, _ => rfl
  | 0, k + 1, _ => by
    show (0 : Int) = (-1) ^ (k + 1) * ((0 : Nat) : Int)
    simp
  | i + 1, 0, h => by
    rw [kc_zero, chs_zero]; simp
  | i + 1, k + 1, h => by
    show kc (kwc b x) i (k + 1) + kwc b x i * kc (kwc b x) i k = (-1) ^ (k + 1) * ((chs i k + chs i (k + 1) : Nat) : Int)
    rw [kc_lo b x i (k + 1) (by omega), kc_lo b x i k (by omega), show kwc b x i = -1 from if_pos (by omega), Int.natCast_add, Int.mul_add, Int.pow_succ]
    have : (-1 : Int) * ((-1) ^ k * (chs i k : Nat)) = (-1) ^ k * -1 * (chs i k : Nat) := by rw [← Int.mul_assoc, Int.mul_comm (-1 : Int)]
    rw [this]
    omega
theorem kc_hi (b : Int) (x : Nat) : ∀ m k, kc (kwc b x) (x + m) k = cv (kc (kwc b x) x) (bl b m) k (k + 1)
  | 0, k => by
    have h : ∀ j, j ≤ k → cv (kc (kwc b x) x) (bl b 0) k j = 0 := fun j => by
      induction j with
      | zero => intro _; rfl
      | succ j ih =>
        intro hj
        show cv (kc (kwc b x) x) (bl b 0) k j + kc (kwc b x) x j * bl b 0 (k - j) = 0
        rw [ih (by omega), show k - j = (k - j - 1) + 1 by omega]
        have : bl b 0 (k - j - 1 + 1) = 0 := by unfold bl; rw [show chs 0 (k - j - 1 + 1) = 0 from rfl]; simp
        rw [this]; simp
    show kc (kwc b x) x k = cv (kc (kwc b x) x) (bl b 0) k k + kc (kwc b x) x k * bl b 0 (k - k)
    rw [h k (Nat.le_refl _), Nat.sub_self, bl_zero]; simp
  | m + 1, 0 => by
    show kc (kwc b x) (x + m) 0 = cv (kc (kwc b x) x) (bl b (m + 1)) 0 0 + kc (kwc b x) x 0 * bl b (m + 1) (0 - 0)
    rw [kc_zero, kc_zero, bl_zero]
    show (1 : Int) = 0 + 1 * 1
    rfl
  | m + 1, k + 1 => by
    show kc (kwc b x) (x + m) (k + 1) + kwc b x (x + m) * kc (kwc b x) (x + m) k = cv (kc (kwc b x) x) (bl b (m + 1)) (k + 1) (k + 1) + kc (kwc b x) x (k + 1) * bl b (m + 1) (k + 1 - (k + 1))
    rw [kc_hi b x m (k + 1), kc_hi b x m k, show kwc b x (x + m) = b from if_neg (by omega), cv_step _ _ _ _ _ (Nat.le_refl _), Nat.sub_self, bl_zero]
    show cv (kc (kwc b x) x) (bl b m) (k + 1) (k + 1) + kc (kwc b x) x (k + 1) * bl b m (k + 1 - (k + 1)) + b * cv (kc (kwc b x) x) (bl b m) k (k + 1) = _
    rw [Nat.sub_self, bl_zero]
    omega
/-- Krawtchouk's number, as a sum. -/
def krw (q n k x : Nat) : Nat → Int := cv (fun j => (-1) ^ j * (chs x j : Nat)) (bl ((q : Int) - 1) (n - x)) k
theorem krw_is (q n k x : Nat) (hx : x ≤ n) : krw q n k x (k + 1) = kc (kwc ((q : Int) - 1) x) n k := by
  have h := kc_hi ((q : Int) - 1) x (n - x) k
  rw [show x + (n - x) = n by omega] at h
  rw [h]
  exact cv_congr _ (fun i _ => ⟨(kc_lo _ x x i (Nat.le_refl _)).symm, rfl⟩)
end Go.Proofs.Ytbofcldmgjeklab
