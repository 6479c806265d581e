/- Texts of ours, one behind the other: KO18 KO19. -/
import Derived.Test.YtmklnjkallhphaaZKO17
import Derived.Test.YtmklnjkallhphaaZKO11
import Derived.Test.YtmklnjkallhphaaZKD6
import Derived.Test.YtmklnjkallhphaaZKO13
import Derived.Test.YtmklnjkallhphaaZKE21
import Derived.Test.YtmklnjkallhphaaZI21
/- MullerMends: its walk. -/
namespace Go.Proofs.Ytmklnjkallhphaa
open Go.RowKit Go.Sort

/-- Where two words differ. -/
def dff (a b : Nat → Nat) : Nat → Nat := fun x => if a x = b x then 0 else 1
theorem ct_dff {a b : Nat → Nat} : ∀ n, ct (fun x => !decide (((a x : Nat) : Int) = ((b x : Nat) : Int))) n = wgt (dff a b) n
  | 0 => rfl
  | n + 1 => by
    show ct (fun x => !decide (((a x : Nat) : Int) = ((b x : Nat) : Int))) n + (if (!decide (((a n : Nat) : Int) = ((b n : Nat) : Int))) = true then 1 else 0) = wgt (dff a b) n + if dff a b n = 1 then 1 else 0
    rw [ct_dff n]
    unfold dff
    by_cases e : a n = b n
    · rw [if_pos e, decide_eq_true (by omega)]; rfl
    · rw [if_neg e, decide_eq_false (by omega)]; rfl
/-- What is left is where the message's word differs. -/
theorem mrs_dff {l : List Nat} {P : Nat} {c : Nat → Nat} (hc : ∀ x, x < P → c x < 2) : wgt (mrs l P c l.length) P = wgt (dff (fun x => mwv l (dbt l P c) x l.length) c) P :=
  wgt_congr P (fun x hx => by
    have h1 := mrs_end (l := l) hc hx
    have h2 := mrs_lt (l := l) hc l.length x hx
    have h3 := mwv_lt l (dbt l P c) x l.length
    have h4 := hc x hx
    show mrs l P c l.length x = if mwv l (dbt l P c) x l.length = c x then 0 else 1
    split <;> omega)
/-- No message's word is near where Decode tells none. -/
theorem none_near {m r P : Nat} (h1 : 1 ≤ m) (h : m ≤ 5) (hr : r ≤ m) (hP : P = 2 ^ m) {c : Nat → Nat} (hc : ∀ x, x < P → c x < 2) (hn : ¬ 2 * wgt (mrs (mnl m (r + 1)) P c (mnl m (r + 1)).length) P < 2 ^ (m - r)) (g : Nat → Nat) (hg : ∀ i, g i < 2) :
    ¬ 2 * ct (fun x => !decide (((mwv (mnl m (r + 1)) g x (mnl m (r + 1)).length : Nat) : Int) = ((c x : Nat) : Int))) P < 2 ^ (m - r) := by
  subst hP
  intro hlt
  rw [ct_dff (a := fun x => mwv (mnl m (r + 1)) g x (mnl m (r + 1)).length)] at hlt
  have h5 := muller_mends h1 h hr (c := c) (g := g) (e := dff (fun x => mwv (mnl m (r + 1)) g x (mnl m (r + 1)).length) c) (fun x _ => by unfold dff; split <;> omega) hc (fun x hx => by
    have h3 := mwv_lt (mnl m (r + 1)) g x (mnl m (r + 1)).length
    have h4 := hc x hx
    unfold dff
    dsimp only
    split <;> omega) hlt (fun i _ => hg i)
  rw [wgt_congr (2 ^ m) h5.1] at hn
  exact hn hlt

set_option maxHeartbeats 16000000 in
set_option maxRecDepth 100000 in
theorem mullerMends_ok (r m P : Nat) (h1 : 1 ≤ m) (h : m ≤ 5) (hr : r ≤ m) (hP : P = 2 ^ m) {ao : Option Addr} {ca : Nat} {c : Nat → Nat} {w : World} (ha : Arg ao P ca (fun j => ((c j : Nat) : Int)) w) (hc : ∀ x, x < P → c x < 2) :
    Calls Try.prog 4 #[.int .i64 (r : Nat), .int .i64 (m : Nat), .slice ao P ca] w fun e w' => e = .returned (.bool true) ∧ Below w.heap.size w w' := by
  have hPb : P ≤ 32 := by rw [hP]; exact Nat.pow_le_pow_right (by omega) h
  have hnb : ¬ (100 : Int) < (P : Int) := by omega
  have hsh : (2 : Int) ^ m = (P : Int) := by rw [hP]; simp
  have hnz : ((P : Int) != (P : Int)) = false := by simp
  obtain ⟨l, hl⟩ : ∃ l, l = mnl m (r + 1) := ⟨_, rfl⟩
  obtain ⟨K0, hK0⟩ : ∃ K0, K0 = l.length := ⟨_, rfl⟩
  have hlen : K0 ≤ 1000 := by have := mnl_len h (r + 1); rw [hK0, hl]; omega
  have hpos : 0 < K0 := by rw [hK0, hl]; exact mnl_pos h1 h hr
  obtain ⟨d, hd⟩ : ∃ d, d = m - r := ⟨_, rfl⟩
  have hdi : (m : Int) - (r : Int) = (d : Int) := by omega
  have hd5 : d ≤ 5 := by omega
  obtain ⟨Q0, hQ0⟩ : ∃ Q0, Q0 = 2 ^ d := ⟨_, rfl⟩
  have hshd : (2 : Int) ^ d = (Q0 : Int) := by rw [hQ0]; simp
  have hQb : Q0 ≤ 32 := by rw [hQ0]; exact Nat.pow_le_pow_right (by omega) hd5
  obtain ⟨e0, he0⟩ : ∃ e0, e0 = wgt (mrs l P c l.length) P := ⟨_, rfl⟩
  have he0P : e0 ≤ P := by rw [he0]; exact wgt_le _ _
  have HMy : Hid (∀ w : World, Calls Try.prog 7 #[.int .i64 (r : Nat), .int .i64 (m : Nat)] w fun e w' => e = .returned (.int .i64 0) ∧ w' = w) := fun w => by have := mullerMay_any (r : Int) (m : Int) w; rw [mck_fine h1 h hr] at this; exact this
  have HMo : Hid (∀ w : World, Calls Try.prog 12 #[.int .i64 (r : Nat), .int .i64 (m : Nat)] w fun e w' => ∃ g c, e = .returned (.slice (some ⟨g, 0, none⟩) K0 c) ∧ Below w.heap.size w w') := fun w => by
    refine (rmonos_any r m h1 h hr w).mono ?_
    rintro e w' ⟨v, rfl, hov, hb⟩
    rw [← hl] at hov
    obtain ⟨g, c, hv, _⟩ := hov.at (fun e => by have := nli_len l; rw [e] at this; simp at this; omega)
    rw [nli_len, ← hK0] at hv
    exact ⟨g, c, by rw [hv], hb⟩
  have HBt : Hid (Calls Try.prog 13 #[.slice ao P ca, .bool false] w fun e w' => e = .returned (.bool true) ∧ w' = w) := by
    have := rbits_any false (cap := ca) ha.sl (by omega)
    rw [show allP (isbg false) (fun j => ((c j : Nat) : Int)) P = true from allP_ofM P (fun j hj => decide_eq_true (by have := hc j hj; omega))] at this
    exact this
  have HDc : Hid (Calls Try.prog 17 #[.int .i64 (r : Nat), .int .i64 (m : Nat), .slice ao P ca] w fun e w' => Below w.heap.size w w' ∧ ((2 * e0 < Q0 ∧ ∃ G, e = .returned (.tuple #[.slice (some ⟨G, 0, none⟩) K0 K0, .int .i64 (e0 : Nat), .bool true, .int .i64 0]) ∧ Row G K0 (dbt l P c) w') ∨ (¬ 2 * e0 < Q0 ∧ e = .returned (.tuple #[.slice none 0 0, .int .i64 0, .bool false, .int .i64 0])))) := by
    refine (mDecode_any r m P h1 h hr hP ha hc).mono ?_
    rintro e w' ⟨hb, hx⟩
    rw [← hl, ← he0, ← hd, ← hQ0, ← hK0] at hx
    refine ⟨hb, ?_⟩
    rcases hx with ⟨q1, G, q2, _, q3⟩ | q
    · exact Or.inl ⟨q1, G, q2, q3⟩
    · exact Or.inr q
  have HNr : Hid (¬ 2 * e0 < Q0 → K0 ≤ 11 → ∀ wx, Below w.heap.size w wx → Calls Try.prog 18 #[.int .i64 (r : Nat), .int .i64 (m : Nat), .slice ao P ca] wx fun e w' => e = .returned (.tuple #[.slice none 0 0, .int .i64 0, .bool false]) ∧ Below wx.heap.size wx w') := fun q1 q2 wx hx => by
    refine rmullerNear_none r m P h1 h hr hP (by rw [← hl, ← hK0]; exact q2) (ha.below hx) (fun g hg => none_near h1 h hr hP hc ?_ g hg)
    rw [← hl, ← he0, ← hd, ← hQ0]; exact q1
  have HBa : Hid (∀ G wx, Row G K0 (dbt l P c) wx → Calls Try.prog 13 #[.slice (some ⟨G, 0, none⟩) K0 K0, .bool false] wx fun e w' => e = .returned (.bool true) ∧ w' = wx) := fun G wx hrow => by
    have := rbits_any false (cap := K0) (hrow.sl (Nat.le_refl _)).z (by omega)
    rw [show allP (isbg false) (fun j => ((dbt l P c j : Nat) : Int)) K0 = true from allP_ofM K0 (fun j hj => decide_eq_true (by have := dbt_lt l P c j; omega))] at this
    exact this
  have HWd : Hid (∀ G wx, Row G K0 (dbt l P c) wx → Calls Try.prog 14 #[.int .i64 (r : Nat), .int .i64 (m : Nat), .slice (some ⟨G, 0, none⟩) K0 K0] wx fun e w' => ∃ G2, e = .returned (.slice (some ⟨G2, 0, none⟩) P P) ∧ Row G2 P (fun x => mwv l (dbt l P c) x l.length) w' ∧ Below wx.heap.size wx w') := fun G wx hrow => by
    refine (rmw_any r m P h1 h hr hP (by rw [← hl]; exact hK0) (fun i _ => dbt_lt l P c i) ⟨(hrow.sl (Nat.le_refl _)).z, fun x hx => (by cases hx; exact hrow.lt), by omega, fun e => (by cases e), Nat.le_refl _, by omega⟩).mono ?_
    rintro e w' ⟨G2, rfl, _, hr2, hb⟩
    rw [← hl] at hr2
    exact ⟨G2, rfl, hr2, hb⟩
  have HAp : Hid (∀ G wx, Row G P (fun x => mwv l (dbt l P c) x l.length) wx → Below w.heap.size w wx → Calls Try.prog 19 #[.slice (some ⟨G, 0, none⟩) P P, .slice ao P ca] wx fun e w' => e = .returned (.int .i64 (e0 : Nat)) ∧ Below wx.heap.size wx w') := fun G wx hrow hb => by
    rw [he0, mrs_dff hc, ← ct_dff]
    exact rapart_any (hrow.sl (Nat.le_refl _)).z (ha.below hb).sl (fun x hx => by cases hx; exact hrow.lt) (ha.below hb).lt (by omega)
  clear hl hK0 hP ha hc hd hQ0 he0
  go_enter Try.func4, Try.ntmps4
  go_wp2_with fail
  refine (HMy.out w).mono ?_
  rintro e w' ⟨rfl, hw⟩
  have hw := hw.symm
  subst hw
  go_wp2_with fail
  refine HBt.out.mono ?_
  rintro e w' ⟨rfl, hw⟩
  have hw := hw.symm
  subst hw
  go_wp2_with fail
  refine HDc.out.mono ?_
  rintro e w2 ⟨hb2, hx⟩
  have H2 : Hid (Below w.heap.size w w2) := hb2
  clear hb2
  rcases hx with ⟨hf, G, rfl, hrow⟩ | ⟨hf, rfl⟩
  · have hfi : 2 * (e0 : Int) < (Q0 : Int) := by omega
    have HR : Hid (Row G K0 (dbt l P c) w2) := hrow
    have hkz : ((K0 : Int) != (K0 : Int)) = false := by simp
    clear hf hrow
    go_wp2_with fail
    refine (HMo.out w2).mono ?_
    rintro e w3 ⟨gM, cM, rfl, hb3⟩
    have H3 : Hid (Below w.heap.size w w3 ∧ Row G K0 (dbt l P c) w3) := ⟨bel_up' H2.out hb3, HR.out.below hb3 HR.out.lt⟩
    clear hb3
    go_wp2_with fail
    refine (HBa.out G w3 H3.out.2).mono ?_
    rintro e w' ⟨rfl, hw⟩
    have hw := hw.symm
    subst hw
    go_wp2_with fail
    refine (HWd.out G w3 H3.out.2).mono ?_
    rintro e w4 ⟨G2, rfl, hr4, hb4⟩
    have H4 : Hid (Below w.heap.size w w4 ∧ Row G2 P (fun x => mwv l (dbt l P c) x l.length) w4) := ⟨bel_up' H3.out.1 hb4, hr4⟩
    clear hr4 hb4
    go_wp2_with fail
    refine (HAp.out G2 w4 H4.out.2 H4.out.1).mono ?_
    rintro e w5 ⟨rfl, hb5⟩
    have H5 : Hid (Below w.heap.size w w5) := bel_up' H4.out.1 hb5
    clear hb5
    go_wp2
    go_ret
    exact ⟨rfl, H5.out⟩
  · have HF : Hid (¬ 2 * e0 < Q0) := hf
    clear hf
    go_wp2_with fail
    refine (HMo.out w2).mono ?_
    rintro e w3 ⟨gM, cM, rfl, hb3⟩
    have H3 : Hid (Below w.heap.size w w3) := bel_up' H2.out hb3
    clear hb3
    by_cases hk11 : K0 ≤ 11
    · have hki : ¬ (11 : Int) < (K0 : Int) := by omega
      have HN2 : Hid (Calls Try.prog 18 #[.int .i64 (r : Nat), .int .i64 (m : Nat), .slice ao P ca] w3 fun e w' => e = .returned (.tuple #[.slice none 0 0, .int .i64 0, .bool false]) ∧ Below w3.heap.size w3 w') := HNr.out HF.out hk11 w3 H3.out
      go_wp2_with fail
      refine HN2.out.mono ?_
      rintro e w4 ⟨rfl, hb4⟩
      have H4 : Hid (Below w.heap.size w w4) := bel_up' H3.out hb4
      clear hb4
      go_wp2
      go_ret
      exact ⟨rfl, H4.out⟩
    · have hki : (11 : Int) < (K0 : Int) := by omega
      go_wp2
      go_ret
      exact ⟨rfl, H3.out⟩
end Go.Proofs.Ytmklnjkallhphaa

/- MullerMade: its walk. -/
namespace Go.Proofs.Ytmklnjkallhphaa
open Go.RowKit Go.Sort

/-- One more place turned: one more difference at most. -/
theorem dff_turn {a b b' : Nat → Nat} {k : Nat} (h : ∀ x, x ≠ k → b' x = b x) : ∀ n, wgt (dff a b') n ≤ wgt (dff a b) n + if k < n then 1 else 0
  | 0 => by show 0 ≤ _; omega
  | n + 1 => by
    have ih := dff_turn (a := a) h n
    show wgt (dff a b') n + (if dff a b' n = 1 then 1 else 0) ≤ wgt (dff a b) n + (if dff a b n = 1 then 1 else 0) + if k < n + 1 then 1 else 0
    by_cases e : n = k
    · rw [if_neg (show ¬ k < n by omega)] at ih
      rw [if_pos (show k < n + 1 by omega)]
      split <;> omega
    · have e2 : dff a b' n = dff a b n := by unfold dff; rw [h n e]
      rw [e2]
      by_cases e3 : k < n
      · rw [if_pos e3] at ih; rw [if_pos (show k < n + 1 by omega)]; omega
      · rw [if_neg e3] at ih; rw [if_neg (show ¬ k < n + 1 by omega)]; omega
theorem dff_same (a : Nat → Nat) : ∀ n, wgt (dff a a) n = 0
  | 0 => rfl
  | n + 1 => by
    show wgt (dff a a) n + (if dff a a n = 1 then 1 else 0) = 0
    rw [dff_same a n]
    unfold dff
    rw [if_pos rfl]; rfl
/-- Few errors: Decode tells the message. -/
theorem mends_few {m r P : Nat} (h1 : 1 ≤ m) (h : m ≤ 5) (hr : r ≤ m) (hP : P = 2 ^ m) {c g : Nat → Nat} (hc : ∀ x, x < P → c x < 2) (hg : ∀ i, i < (mnl m (r + 1)).length → g i < 2) (hlt : 2 * wgt (dff (fun x => mwv (mnl m (r + 1)) g x (mnl m (r + 1)).length) c) P < 2 ^ (m - r)) :
    wgt (mrs (mnl m (r + 1)) P c (mnl m (r + 1)).length) P = wgt (dff (fun x => mwv (mnl m (r + 1)) g x (mnl m (r + 1)).length) c) P ∧ ∀ i, i < (mnl m (r + 1)).length → dbt (mnl m (r + 1)) P c i = g i := by
  subst hP
  have h5 := muller_mends h1 h hr (c := c) (g := g) (e := dff (fun x => mwv (mnl m (r + 1)) g x (mnl m (r + 1)).length) c) (fun x _ => by unfold dff; split <;> omega) hc (fun x hx => by
    have h3 := mwv_lt (mnl m (r + 1)) g x (mnl m (r + 1)).length
    have h4 := hc x hx
    unfold dff
    dsimp only
    split <;> omega) hlt hg
  exact ⟨wgt_congr (2 ^ m) h5.1, h5.2⟩

set_option maxHeartbeats 1000000 in
set_option maxRecDepth 100000 in
theorem mullerMade_long {ao : Option Addr} {n ca : Nat} (r m t : Int) (w : World) (hn : ¬ n ≤ 256) (hn2 : n ≤ 17592186044416) :
    Calls Try.prog 5 #[.slice ao n ca, .int .i64 r, .int .i64 m, .int .i64 t] w fun e w' => e = .returned (.bool true) ∧ Below w.heap.size w w' := by
  have h1 : (256 : Int) < (n : Int) := by omega
  go_enter Try.func5, Try.ntmps5
  go_wp2
  go_ret
  exact ⟨rfl, Below.refl _ _⟩

set_option maxHeartbeats 16000000 in
set_option maxRecDepth 100000 in
theorem mullerMade_walk {ao : Option Addr} {n ca : Nat} {z : Nat → Int} (r m t : Int) {w : World} (ha : Arg ao n ca z w) (hn : n ≤ 256) (hr : I64 r) (hm : I64 m) (ht : I64 t) :
    Calls Try.prog 5 #[.slice ao n ca, .int .i64 r, .int .i64 m, .int .i64 t] w fun e w' => e = .returned (.bool true) ∧ Below w.heap.size w w' := by
  obtain ⟨M0, hM0, hM1⟩ := pick_nat6 (m := m) (k := 5) (by omega)
  obtain ⟨M, hM⟩ : ∃ M, M = 1 + M0 := ⟨_, rfl⟩
  have hMw : IntKind.i64.wrap (1 + (M0 : Int)) = (M : Int) := wrap_to (by omega) (by omega)
  have hMb : 1 ≤ M ∧ M ≤ 5 := by omega
  obtain ⟨M1, hM1e⟩ : ∃ M1, M1 = M + 1 := ⟨_, rfl⟩
  have hM1w : IntKind.i64.wrap ((M : Int) + 1) = (M1 : Int) := wrap_to (by omega) (by omega)
  obtain ⟨R, hR0, hR1⟩ := pick_nat6 (m := r) (k := M1) (by omega)
  have hRM : R ≤ M := by omega
  obtain ⟨P, hP⟩ : ∃ P, P = 2 ^ M := ⟨_, rfl⟩
  have hPb : P ≤ 32 := by rw [hP]; exact Nat.pow_le_pow_right (by omega) hMb.2
  have hPp : 0 < P := by rw [hP]; exact Nat.pow_pos (by omega)
  obtain ⟨d, hd⟩ : ∃ d, d = M - R := ⟨_, rfl⟩
  have hdi : (M : Int) - (R : Int) = (d : Int) := by omega
  have hd5 : d ≤ 5 := by omega
  obtain ⟨Q0, hQ0⟩ : ∃ Q0, Q0 = 2 ^ d := ⟨_, rfl⟩
  have hshd : (2 : Int) ^ d = (Q0 : Int) := by rw [hQ0]; simp
  have hQb : 1 ≤ Q0 ∧ Q0 ≤ 32 := by rw [hQ0]; exact ⟨Nat.pow_pos (by omega), Nat.pow_le_pow_right (by omega) hd5⟩
  obtain ⟨H0, hH0⟩ : ∃ H0, H0 = (Q0 + 1) / 2 := ⟨_, rfl⟩
  have hHq : ((Q0 : Int) + 1).tdiv 2 = (H0 : Int) := by rw [Int.tdiv_eq_ediv_of_nonneg (by omega), hH0]; rfl
  have hHb : 1 ≤ H0 ∧ H0 ≤ 32 := by omega
  obtain ⟨T, hT0, hT1⟩ := pick_nat6 (m := t) (k := H0) (by omega)
  have hTb : T ≤ 32 := by omega
  have HTQ : Hid (2 * T < Q0) := by show 2 * T < Q0; omega
  obtain ⟨l, hl⟩ : ∃ l, l = mnl M (R + 1) := ⟨_, rfl⟩
  obtain ⟨K0, hK0⟩ : ∃ K0, K0 = l.length := ⟨_, rfl⟩
  have hlen : K0 ≤ 1000 := by have := mnl_len hMb.2 (R + 1); rw [hK0, hl]; omega
  have hpos : 0 < K0 := by rw [hK0, hl]; exact mnl_pos hMb.1 hMb.2 hRM
  have hnb : ¬ (256 : Int) < (n : Int) := by omega
  have HP1 : Hid (∀ w : World, Calls Try.prog 20 #[.int .i64 m, .int .i64 5] w fun e w' => e = .returned (.int .i64 M0) ∧ w' = w) := fun w => by rw [← hM0]; exact pick_any m 5 w hm.1 hm.2 (by omega) (by omega)
  have HP2 : Hid (∀ w : World, Calls Try.prog 20 #[.int .i64 r, .int .i64 (M1 : Nat)] w fun e w' => e = .returned (.int .i64 R) ∧ w' = w) := fun w => by rw [← hR0]; exact pick_any r M1 w hr.1 hr.2 (by omega) (by omega)
  have HP3 : Hid (∀ w : World, Calls Try.prog 20 #[.int .i64 t, .int .i64 (H0 : Nat)] w fun e w' => e = .returned (.int .i64 T) ∧ w' = w) := fun w => by rw [← hT0]; exact pick_any t H0 w ht.1 ht.2 (by omega) (by omega)
  have HP4 : Hid (∀ x, I64 x → ∃ k : Nat, k < P ∧ ∀ w : World, Calls Try.prog 20 #[.int .i64 x, .int .i64 (P : Nat)] w fun e w' => e = .returned (.int .i64 k) ∧ w' = w) := fun x hx => by
    obtain ⟨k, hk0, hk1⟩ := pick_nat6 (m := x) (k := P) hPp
    exact ⟨k, hk1, fun w => by rw [← hk0]; exact pick_any x P w hx.1 hx.2 (by omega) (by omega)⟩
  have HRw : Hid (∀ (i : Nat) wx, i ≤ 1000 → Below w.heap.size w wx → Calls Try.prog 22 #[.slice ao n ca, .int .i64 (i : Nat)] wx fun e w' => (∃ r, e = .returned (.int .i64 r) ∧ I64 r) ∧ ∃ k, w' = wx.drewN k) := fun i wx hi hx => raw_any (ha.below hx) (by omega) i (by omega)
  have HMo : Hid (∀ w : World, Calls Try.prog 12 #[.int .i64 (R : Nat), .int .i64 (M : Nat)] w fun e w' => ∃ g c, e = .returned (.slice (some ⟨g, 0, none⟩) K0 c) ∧ Below w.heap.size w w') := fun w => by
    refine (rmonos_any R M hMb.1 hMb.2 hRM w).mono ?_
    rintro e w' ⟨v, rfl, hov, hb⟩
    rw [← hl] at hov
    obtain ⟨g, c, hv, _⟩ := hov.at (fun e => by have := nli_len l; rw [e] at this; simp at this; omega)
    rw [nli_len, ← hK0] at hv
    exact ⟨g, c, by rw [hv], hb⟩
  have HWo : Hid (∀ wx, Below w.heap.size w wx → Calls Try.prog 21 #[.slice ao n ca, .int .i64 0, .int .i64 (K0 : Nat), .bool false] wx fun e w' => ∃ (g : Nat → Nat) (ga cg : Nat), e = .returned (.slice (some ⟨ga, 0, none⟩) K0 cg) ∧ (∀ i, g i < 2) ∧ Row ga K0 g w' ∧ (K0 ≤ cg ∧ cg ≤ 9223372036854775807) ∧ Below wx.heap.size wx w') := fun wx hx => by
    refine (wordOf_any (ha.below hx) (by omega) 0 K0 false (by omega) (by omega)).mono ?_
    rintro e w' ⟨v, y, rfl, hov, hwd, hb⟩
    obtain ⟨K1, hK1⟩ : ∃ K1, K0 = K1 + 1 := ⟨K0 - 1, by omega⟩
    have hy : ∀ j, j < K0 → y j = (((if (y j).toNat < 2 then (y j).toNat else 0) : Nat) : Int) := fun j hj => by
      have := hwd j hj
      rcases this with (e | e) | ⟨e, _⟩
      · rw [e]; rfl
      · rw [e]; rfl
      · cases e
    rw [zl_congr (y := fun j => (((if (y j).toNat < 2 then (y j).toNat else 0) : Nat) : Int)) (fun j hj => hy j hj)] at hov
    rw [hK1] at hov
    obtain ⟨g, cp, e1, e2, e3, e4⟩ := own_elm (c := fun j => if (y j).toNat < 2 then (y j).toNat else 0) hov
    subst e1
    refine ⟨fun j => if (y j).toNat < 2 then (y j).toNat else 0, g, cp, by rw [hK1], fun i => by dsimp only; split <;> omega, by rw [hK1]; exact e4, by rw [hK1]; exact ⟨e2, e3⟩, hb⟩
  have HWd : Hid (∀ (g : Nat → Nat) ga cg wx, (∀ i, g i < 2) → Row ga K0 g wx → (K0 ≤ cg ∧ cg ≤ 9223372036854775807) → Calls Try.prog 14 #[.int .i64 (R : Nat), .int .i64 (M : Nat), .slice (some ⟨ga, 0, none⟩) K0 cg] wx fun e w' => ∃ G2, e = .returned (.slice (some ⟨G2, 0, none⟩) P P) ∧ wx.heap.size ≤ G2 ∧ Row G2 P (fun x => mwv l g x l.length) w' ∧ Below wx.heap.size wx w') := fun g ga cg wx hg hrow hcg => by
    refine (rmw_any R M P hMb.1 hMb.2 hRM hP (by rw [← hl]; exact hK0) (fun i _ => hg i) ⟨(hrow.sl (Nat.le_refl _)).z, fun x hx => (by cases hx; exact hrow.lt), by omega, fun e => (by cases e), hcg.1, hcg.2⟩).mono ?_
    rintro e w' ⟨G2, rfl, hG2, hr2, hb⟩
    rw [← hl] at hr2
    exact ⟨G2, rfl, hG2, hr2, hb⟩
  have HDc : Hid (∀ (g c : Nat → Nat) G wx, (∀ i, g i < 2) → (∀ x, x < P → c x < 2) → Row G P c wx → wgt (dff (fun x => mwv l g x l.length) c) P ≤ T → Calls Try.prog 17 #[.int .i64 (R : Nat), .int .i64 (M : Nat), .slice (some ⟨G, 0, none⟩) P P] wx fun e w' => Below wx.heap.size wx w' ∧ ∃ G2 e0, e = .returned (.tuple #[.slice (some ⟨G2, 0, none⟩) K0 K0, .int .i64 e0, .bool true, .int .i64 0]) ∧ Row G2 K0 g w') := fun g c G wx hg hc hrow hfew => by
    have hQ := HTQ.out
    have hmf := mends_few hMb.1 hMb.2 hRM hP hc (g := g) (fun i _ => hg i) (by rw [← hl, ← hd, ← hQ0]; omega)
    refine (mDecode_any R M P hMb.1 hMb.2 hRM hP (cap := P) (c := c) ⟨(hrow.sl (Nat.le_refl _)).z, fun x hx => (by cases hx; exact hrow.lt), by omega, fun e => (by cases e), Nat.le_refl _, by omega⟩ hc).mono ?_
    rintro e w' ⟨hb, hx⟩
    refine ⟨hb, ?_⟩
    rcases hx with ⟨_, G2, rfl, _, q3⟩ | ⟨q, _⟩
    · rw [← hl, ← hK0] at q3 hmf
      refine ⟨G2, _, by rw [← hl, ← hK0], q3.congr (fun i hi => hmf.2 i (by omega))⟩
    · exfalso
      apply q
      rw [hmf.1, ← hl, ← hd, ← hQ0]
      omega
  have HSy : Hid (∀ (g : Nat → Nat) ga cg wx, Row ga K0 g wx → (K0 ≤ cg ∧ cg ≤ 9223372036854775807) → Calls Try.prog 3 #[.int .i64 (R : Nat), .int .i64 (M : Nat), .slice (some ⟨ga, 0, none⟩) K0 cg] wx fun e w' => e = .returned (.bool true) ∧ Below wx.heap.size wx w') := fun g ga cg wx hrow hcg => by
    by_cases h100 : K0 ≤ 100
    · exact mullerSays_ok R M hMb.1 hMb.2 hRM (z := fun j => ((g j : Nat) : Int)) ⟨(hrow.sl (Nat.le_refl _)).z, fun x hx => (by cases hx; exact hrow.lt), by omega, fun e => (by cases e), hcg.1, hcg.2⟩ h100
    · exact mullerSays_long R M wx h100 (by omega)
  have HMe : Hid (∀ (c : Nat → Nat) G wx, (∀ x, x < P → c x < 2) → Row G P c wx → Calls Try.prog 4 #[.int .i64 (R : Nat), .int .i64 (M : Nat), .slice (some ⟨G, 0, none⟩) P P] wx fun e w' => e = .returned (.bool true) ∧ Below wx.heap.size wx w') := fun c G wx hc hrow =>
    mullerMends_ok R M P hMb.1 hMb.2 hRM hP ⟨(hrow.sl (Nat.le_refl _)).z, fun x hx => (by cases hx; exact hrow.lt), by omega, fun e => (by cases e), Nat.le_refl _, by omega⟩ hc
  clear ha hM0 hM1 hM hM1e hR0 hR1 hP hd hQ0 hH0 hT0 hT1 hl hK0 hr hm ht
  go_enter Try.func5, Try.ntmps5
  go_wp2_with fail
  refine (HP1.out w).mono ?_
  rintro e w' ⟨rfl, hw⟩
  have hw := hw.symm
  subst hw
  go_wp2_with fail
  refine (HP2.out w).mono ?_
  rintro e w' ⟨rfl, hw⟩
  have hw := hw.symm
  subst hw
  go_wp2_with fail
  refine (HMo.out w).mono ?_
  rintro e w1 ⟨gM, cM, rfl, hb1⟩
  have H1 : Hid (Below w.heap.size w w1) := hb1
  clear hb1
  go_wp2_with fail
  refine (HWo.out w1 H1.out).mono ?_
  rintro e w2 ⟨g, ga, cg, rfl, hg, hrow2, hcg, hb2⟩
  have H2 : Hid ((∀ i, g i < 2) ∧ Row ga K0 g w2 ∧ (K0 ≤ cg ∧ cg ≤ 9223372036854775807) ∧ Below w.heap.size w w2) := ⟨hg, hrow2, hcg, bel_up' H1.out hb2⟩
  clear hg hrow2 hcg hb2
  go_wp2_with fail
  refine (HWd.out g ga cg w2 H2.out.1 H2.out.2.1 H2.out.2.2.1).mono ?_
  rintro e w3 ⟨G, rfl, hG, hrow3, hb3⟩
  have H3 : Hid (w2.heap.size ≤ G ∧ Row G P (fun x => mwv l g x l.length) w3 ∧ Below w2.heap.size w2 w3) := ⟨hG, hrow3, hb3⟩
  clear hG hrow3 hb3
  go_wp2
  go_loopw [11] (fun vi wr => ∃ (i : Nat) (c : Nat → Nat), i ≤ T ∧ vi = .int .i64 (i : Nat) ∧ Hid (Row G P c wr ∧ (∀ x, x < P → c x < 2) ∧ wgt (dff (fun x => mwv l g x l.length) c) P ≤ i ∧ Below w2.heap.size w2 wr)) (fun vi _ => T - (intOf vi).toNat)
  case atStart => exact ⟨0, fun x => mwv l g x l.length, by omega, rfl, H3.out.2.1, fun x _ => mwv_lt _ _ _ _, by rw [dff_same]; exact Nat.le_refl _, H3.out.2.2⟩
  case round =>
    obtain ⟨i, c, hi, rfl, HG⟩ := hrel
    rename World => wr
    go_wp2_with fail
    refine (HP3.out wr).mono ?_
    rintro e w' ⟨rfl, hw⟩
    have hw := hw.symm
    subst hw
    by_cases hlt : i < T
    · have hib : (i : Int) < (T : Int) := by omega
      obtain ⟨I5, hI5⟩ : ∃ I5, I5 = 50 + i := ⟨_, rfl⟩
      have hI5w : IntKind.i64.wrap (50 + (i : Int)) = (I5 : Int) := wrap_to (by omega) (by omega)
      have HRr : Hid (Calls Try.prog 22 #[.slice ao n ca, .int .i64 (I5 : Nat)] wr fun e w' => (∃ r, e = .returned (.int .i64 r) ∧ I64 r) ∧ ∃ k, w' = wr.drewN k) := HRw.out I5 wr (by omega) (bel_up' H2.out.2.2.2 HG.out.2.2.2)
      clear hI5
      go_wp2_with fail
      refine HRr.out.mono ?_
      rintro e w4 ⟨⟨x, rfl, hx⟩, kk, hw4⟩
      obtain ⟨k, hk, hpk⟩ := HP4.out x hx
      have HPk : Hid (∀ w : World, Calls Try.prog 20 #[.int .i64 x, .int .i64 (P : Nat)] w fun e w' => e = .returned (.int .i64 k) ∧ w' = w) := hpk
      have H4 : Hid (Row G P c w4 ∧ Below w2.heap.size w2 w4) := by rw [hw4]; exact ⟨HG.out.1.drewN kk, below_drewN2 HG.out.2.2.2 kk⟩
      have hcell := H4.out.1.cell k hk
      have hfree := H4.out.1.free k
      obtain ⟨b, hb⟩ : ∃ b, b = c k := ⟨_, rfl⟩
      rw [← hb] at hcell
      have hb2 : b < 2 := by rw [hb]; exact HG.out.2.1 k hk
      have hki : (k : Int) < (P : Int) := by omega
      have hki0 : (0 : Int) ≤ (k : Int) := by omega
      have hsub : (1 : Int) - (b : Int) = ((1 - b : Nat) : Int) := by omega
      have HN : Hid (∀ wz, wz = w4.setCell ⟨G, k, none⟩ (.int .i64 ((1 - b : Nat) : Int)) → Row G P (fun x => if x = k then 1 - b else c x) wz ∧ (∀ x, x < P → (if x = k then 1 - b else c x) < 2) ∧ wgt (dff (fun x => mwv l g x l.length) (fun x => if x = k then 1 - b else c x)) P ≤ i + 1 ∧ Below w2.heap.size w2 wz) := fun wz e => by
        rw [e]
        refine ⟨H4.out.1.store k (1 - b) (fun j _ => rfl), fun x hx => ?_, ?_, H4.out.2.setCell H3.out.1 _⟩
        · split
          · omega
          · exact HG.out.2.1 x hx
        · have h6 := dff_turn (a := fun x => mwv l g x l.length) (b := c) (b' := fun x => if x = k then 1 - b else c x) (k := k) (fun x hx => if_neg hx) P
          rw [if_pos hk] at h6
          have := HG.out.2.2.1
          omega
      clear hb hx hpk hw4
      go_wp2_with fail
      refine (HPk.out w4).mono ?_
      rintro e w' ⟨rfl, hw⟩
      have hw := hw.symm
      subst hw
      go_wp2
      go_roundw
      case rel => exact ⟨i + 1, _, by omega, by go_num, HN.out _ rfl⟩
      case measure => simp [intOf]; omega
    · have hib : ¬ (i : Int) < (T : Int) := by omega
      have HR2 : Hid (Row G P c wr ∧ (∀ x, x < P → c x < 2) ∧ wgt (dff (fun x => mwv l g x l.length) c) P ≤ T ∧ Below w2.heap.size w2 wr) := by
        rw [show T = i by omega]; exact HG.out
      go_wp2_with fail
      refine (HDc.out g c G wr H2.out.1 HR2.out.2.1 HR2.out.1 HR2.out.2.2.1).mono ?_
      rintro e w5 ⟨hb5, G2, e0, rfl, hrow5⟩
      have hb25 : Below w2.heap.size w2 w5 := bel_up' HR2.out.2.2.2 hb5
      have H5 : Hid (Row G2 K0 g w5 ∧ Row ga K0 g w5 ∧ Row G P c w5 ∧ Below w.heap.size w w5) := ⟨hrow5, H2.out.2.1.below hb25 H2.out.2.1.lt, HR2.out.1.below hb5 HR2.out.1.lt, bel_up' H2.out.2.2.2 hb25⟩
      clear hb5 hrow5 hb25
      go_wp2_with fail
      refine (same_any (sl_sliceI (H5.out.2.1.sl (Nat.le_refl _)) (by omega)) (sl_sliceI (H5.out.1.sl (Nat.le_refl _)) (by omega))).mono ?_
      rintro e w6 ⟨rfl, kk, hw6⟩
      have H6 : Hid (Row ga K0 g w6 ∧ Row G P c w6 ∧ Below w.heap.size w w6) := by rw [hw6]; exact ⟨H5.out.2.1.drewN kk, H5.out.2.2.1.drewN kk, below_drewN2 H5.out.2.2.2 kk⟩
      clear hw6
      go_wp2_with fail
      refine (HSy.out g ga cg w6 H6.out.1 H2.out.2.2.1).mono ?_
      rintro e w7 ⟨rfl, hb7⟩
      have H7 : Hid (Row G P c w7 ∧ Below w.heap.size w w7) := ⟨H6.out.2.1.below hb7 H6.out.2.1.lt, bel_up' H6.out.2.2 hb7⟩
      clear hb7
      go_wp2_with fail
      refine (HMe.out c G w7 HR2.out.2.1 H7.out.1).mono ?_
      rintro e w8 ⟨rfl, hb8⟩
      have H8 : Hid (Below w.heap.size w w8) := bel_up' H7.out.2 hb8
      clear hb8
      go_wp2
      go_ret
      exact ⟨rfl, H8.out⟩
end Go.Proofs.Ytmklnjkallhphaa
