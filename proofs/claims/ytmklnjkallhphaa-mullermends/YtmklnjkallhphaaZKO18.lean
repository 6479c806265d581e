/- MullerMends: its walk. -/
import Derived.Test.YtmklnjkallhphaaZKO17
import Derived.Test.YtmklnjkallhphaaZKO9
import Derived.Test.YtmklnjkallhphaaZKD10
namespace Go.Proofs.Ytmklnjkallhphaa
open Go.RowKit Go.Sort

/-- Where two words differ. -/
def dff (a b : Nat → Nat) : Nat → Nat := fun x => if a x = b x then 0 else 1
theorem ct_dff {a b : Nat → Nat} : ∀ n, ct (fun x => !decide (((a x : Nat) : Int) = ((b x : Nat) : Int))) n = wgt (dff a b) n
  | 0 => rfl
  | n + 1 => by
    show ct (fun x => !decide (((a x : Nat) : Int) = ((b x : Nat) : Int))) n + (if (!decide (((a n : Nat) : Int) = ((b n : Nat) : Int))) = true then 1 else 0) = wgt (dff a b) n + if dff a b n = 1 then 1 else 0
    rw [ct_dff n]
    unfold dff
    by_cases e : a n = b n
    · rw [if_pos e, decide_eq_true (by omega)]; rfl
    · rw [if_neg e, decide_eq_false (by omega)]; rfl
/-- What is left is where the message's word differs. -/
theorem mrs_dff {l : List Nat} {P : Nat} {c : Nat → Nat} (hc : ∀ x, x < P → c x < 2) : wgt (mrs l P c l.length) P = wgt (dff (fun x => mwv l (dbt l P c) x l.length) c) P :=
  wgt_congr P (fun x hx => by
    have h1 := mrs_end (l := l) hc hx
    have h2 := mrs_lt (l := l) hc l.length x hx
    have h3 := mwv_lt l (dbt l P c) x l.length
    have h4 := hc x hx
    show mrs l P c l.length x = if mwv l (dbt l P c) x l.length = c x then 0 else 1
    split <;> omega)
/-- No message's word is near where Decode tells none. -/
theorem none_near {m r P : Nat} (h1 : 1 ≤ m) (h : m ≤ 5) (hr : r ≤ m) (hP : P = 2 ^ m) {c : Nat → Nat} (hc : ∀ x, x < P → c x < 2) (hn : ¬ 2 * wgt (mrs (mnl m (r + 1)) P c (mnl m (r + 1)).length) P < 2 ^ (m - r)) (g : Nat → Nat) (hg : ∀ i, g i < 2) :
    ¬ 2 * ct (fun x => !decide (((mwv (mnl m (r + 1)) g x (mnl m (r + 1)).length : Nat) : Int) = ((c x : Nat) : Int))) P < 2 ^ (m - r) := by
  subst hP
  intro hlt
  rw [ct_dff (a := fun x => mwv (mnl m (r + 1)) g x (mnl m (r + 1)).length)] at hlt
  have h5 := muller_mends h1 h hr (c := c) (g := g) (e := dff (fun x => mwv (mnl m (r + 1)) g x (mnl m (r + 1)).length) c) (fun x _ => by unfold dff; split <;> omega) hc (fun x hx => by
    have h3 := mwv_lt (mnl m (r + 1)) g x (mnl m (r + 1)).length
    have h4 := hc x hx
    unfold dff
    dsimp only
    split <;> omega) hlt (fun i _ => hg i)
  rw [wgt_congr (2 ^ m) h5.1] at hn
  exact hn hlt

set_option maxHeartbeats 1000000 in
set_option maxRecDepth 100000 in
theorem mullerMends_long (r m : Int) {ao : Option Addr} {n ca : Nat} (w : World) (hn : ¬ n ≤ 100) (hn2 : n ≤ 17592186044416) :
    Calls Try.prog 4 #[.int .i64 r, .int .i64 m, .slice ao n ca] w fun e w' => e = .returned (.bool true) ∧ Below w.heap.size w w' := by
  have h1 : (100 : Int) < (n : Int) := by omega
  go_enter Try.func4, Try.ntmps4
  go_wp2
  go_ret
  exact ⟨rfl, Below.refl _ _⟩

set_option maxHeartbeats 8000000 in
set_option maxRecDepth 100000 in
theorem mullerMends_err (r m : Int) (he : mck r m ≠ 0) (ao : Option Addr) (n ca : Nat) (w : World) (hn : n ≤ 100) :
    Calls Try.prog 4 #[.int .i64 r, .int .i64 m, .slice ao n ca] w fun e w' => e = .returned (.bool true) ∧ Below w.heap.size w w' := by
  obtain ⟨E, hE⟩ : ∃ E, E = mck r m := ⟨_, rfl⟩
  have hz : (E != 0) = true := by rw [bne_iff_ne, hE]; exact he
  have hz2 : (E == 0) = false := by rw [beq_eq_false_iff_ne, hE]; exact he
  have hzE : (E != E) = false := by simp
  have hnb : ¬ (100 : Int) < (n : Int) := by omega
  have HMy : Hid (∀ w : World, Calls Try.prog 7 #[.int .i64 r, .int .i64 m] w fun e w' => e = .returned (.int .i64 E) ∧ w' = w) := fun w => by rw [hE]; exact mullerMay_any r m w
  have HDc : Hid (∀ w : World, Calls Try.prog 17 #[.int .i64 r, .int .i64 m, .slice ao n ca] w fun e w' => e = .returned (.tuple #[.slice none 0 0, .int .i64 0, .bool false, .int .i64 E]) ∧ Below w.heap.size w w') := fun w => by rw [hE]; exact mDecode_none r m he ao n ca w
  clear hE he
  go_enter Try.func4, Try.ntmps4
  go_wp2_with fail
  refine (HMy.out w).mono ?_
  rintro e w' ⟨rfl, hw⟩
  have hw := hw.symm
  subst hw
  go_wp2_with fail
  refine (HDc.out w).mono ?_
  rintro e w2 ⟨rfl, hb2⟩
  have H2 : Hid (Below w.heap.size w w2) := hb2
  clear hb2
  go_wp2
  go_ret
  exact ⟨rfl, H2.out⟩

set_option maxHeartbeats 16000000 in
set_option maxRecDepth 100000 in
theorem mullerMends_bad (r m P : Nat) (h1 : 1 ≤ m) (h : m ≤ 5) (hr : r ≤ m) (hP : P = 2 ^ m) {ao : Option Addr} {n ca : Nat} {z : Nat → Int} {w : World} (ha : Arg ao n ca z w) (hn : n ≤ 100) (he : bchk isbt n z (P : Nat) ≠ 0) :
    Calls Try.prog 4 #[.int .i64 (r : Nat), .int .i64 (m : Nat), .slice ao n ca] w fun e w' => e = .returned (.bool true) ∧ Below w.heap.size w w' := by
  have hnb : ¬ (100 : Int) < (n : Int) := by omega
  have hPb : P ≤ 32 := by rw [hP]; exact Nat.pow_le_pow_right (by omega) h
  have hsh : (2 : Int) ^ m = (P : Int) := by rw [hP]; simp
  have HMy : Hid (∀ w : World, Calls Try.prog 7 #[.int .i64 (r : Nat), .int .i64 (m : Nat)] w fun e w' => e = .returned (.int .i64 0) ∧ w' = w) := fun w => by have := mullerMay_any (r : Int) (m : Int) w; rw [mck_fine h1 h hr] at this; exact this
  by_cases hk : n = P
  · have hnz : ((n : Int) != (P : Int)) = false := by rw [hk]; simp
    have hbt : allP isbt z n = false := by
      cases hb : allP isbt z n with
      | false => rfl
      | true =>
        exfalso
        apply he
        unfold bchk
        rw [if_neg (by omega), if_pos hb]
    have HDc : Hid (Calls Try.prog 17 #[.int .i64 (r : Nat), .int .i64 (m : Nat), .slice ao n ca] w fun e w' => e = .returned (.tuple #[.slice none 0 0, .int .i64 0, .bool false, .int .i64 2]) ∧ Below w.heap.size w w') := by
      have := mDecode_bad r m P h1 h hr hP (cap := ca) ha.sl (by omega) he
      rw [show bchk isbt n z (P : Nat) = 2 by unfold bchk; rw [if_neg (by omega), hbt, if_neg (by intro h; cases h)]] at this
      exact this
    have HBt : Hid (Calls Try.prog 13 #[.slice ao n ca, .bool false] w fun e w' => e = .returned (.bool false) ∧ w' = w) := by
      have := rbits_any false (cap := ca) ha.sl (by omega)
      rw [show allP (isbg false) z n = false from hbt] at this
      exact this
    clear hbt he ha hP hk
    go_enter Try.func4, Try.ntmps4
    go_wp2_with fail
    refine (HMy.out w).mono ?_
    rintro e w' ⟨rfl, hw⟩
    have hw := hw.symm
    subst hw
    go_wp2_with fail
    refine HBt.out.mono ?_
    rintro e w' ⟨rfl, hw⟩
    have hw := hw.symm
    subst hw
    go_wp2_with fail
    refine HDc.out.mono ?_
    rintro e w2 ⟨rfl, hb2⟩
    have H2 : Hid (Below w.heap.size w w2) := hb2
    clear hb2
    go_wp2
    go_ret
    exact ⟨rfl, H2.out⟩
  · have hnz : ((n : Int) != (P : Int)) = true := by rw [bne_iff_ne]; omega
    have HDc : Hid (Calls Try.prog 17 #[.int .i64 (r : Nat), .int .i64 (m : Nat), .slice ao n ca] w fun e w' => e = .returned (.tuple #[.slice none 0 0, .int .i64 0, .bool false, .int .i64 6]) ∧ Below w.heap.size w w') := by
      have := mDecode_bad r m P h1 h hr hP (cap := ca) ha.sl (by omega) he
      rw [show bchk isbt n z (P : Nat) = 6 by unfold bchk; rw [if_pos (by omega)]] at this
      exact this
    clear he ha hP hk
    go_enter Try.func4, Try.ntmps4
    go_wp2_with fail
    refine (HMy.out w).mono ?_
    rintro e w' ⟨rfl, hw⟩
    have hw := hw.symm
    subst hw
    go_wp2_with fail
    refine HDc.out.mono ?_
    rintro e w2 ⟨rfl, hb2⟩
    have H2 : Hid (Below w.heap.size w w2) := hb2
    clear hb2
    go_wp2
    go_ret
    exact ⟨rfl, H2.out⟩

set_option maxHeartbeats 16000000 in
set_option maxRecDepth 100000 in
theorem mullerMends_ok (r m P : Nat) (h1 : 1 ≤ m) (h : m ≤ 5) (hr : r ≤ m) (hP : P = 2 ^ m) {ao : Option Addr} {ca : Nat} {c : Nat → Nat} {w : World} (ha : Arg ao P ca (fun j => ((c j : Nat) : Int)) w) (hc : ∀ x, x < P → c x < 2) :
    Calls Try.prog 4 #[.int .i64 (r : Nat), .int .i64 (m : Nat), .slice ao P ca] w fun e w' => e = .returned (.bool true) ∧ Below w.heap.size w w' := by
  have hPb : P ≤ 32 := by rw [hP]; exact Nat.pow_le_pow_right (by omega) h
  have hnb : ¬ (100 : Int) < (P : Int) := by omega
  have hsh : (2 : Int) ^ m = (P : Int) := by rw [hP]; simp
  have hnz : ((P : Int) != (P : Int)) = false := by simp
  obtain ⟨l, hl⟩ : ∃ l, l = mnl m (r + 1) := ⟨_, rfl⟩
  obtain ⟨K0, hK0⟩ : ∃ K0, K0 = l.length := ⟨_, rfl⟩
  have hlen : K0 ≤ 1000 := by have := mnl_len h (r + 1); rw [hK0, hl]; omega
  have hpos : 0 < K0 := by rw [hK0, hl]; exact mnl_pos h1 h hr
  obtain ⟨d, hd⟩ : ∃ d, d = m - r := ⟨_, rfl⟩
  have hdi : (m : Int) - (r : Int) = (d : Int) := by omega
  have hd5 : d ≤ 5 := by omega
  obtain ⟨Q0, hQ0⟩ : ∃ Q0, Q0 = 2 ^ d := ⟨_, rfl⟩
  have hshd : (2 : Int) ^ d = (Q0 : Int) := by rw [hQ0]; simp
  have hQb : Q0 ≤ 32 := by rw [hQ0]; exact Nat.pow_le_pow_right (by omega) hd5
  obtain ⟨e0, he0⟩ : ∃ e0, e0 = wgt (mrs l P c l.length) P := ⟨_, rfl⟩
  have he0P : e0 ≤ P := by rw [he0]; exact wgt_le _ _
  have HMy : Hid (∀ w : World, Calls Try.prog 7 #[.int .i64 (r : Nat), .int .i64 (m : Nat)] w fun e w' => e = .returned (.int .i64 0) ∧ w' = w) := fun w => by have := mullerMay_any (r : Int) (m : Int) w; rw [mck_fine h1 h hr] at this; exact this
  have HMo : Hid (∀ w : World, Calls Try.prog 12 #[.int .i64 (r : Nat), .int .i64 (m : Nat)] w fun e w' => ∃ g c, e = .returned (.slice (some ⟨g, 0, none⟩) K0 c) ∧ Below w.heap.size w w') := fun w => by
    refine (rmonos_any r m h1 h hr w).mono ?_
    rintro e w' ⟨v, rfl, hov, hb⟩
    rw [← hl] at hov
    obtain ⟨g, c, hv, _⟩ := hov.at (fun e => by have := nli_len l; rw [e] at this; simp at this; omega)
    rw [nli_len, ← hK0] at hv
    exact ⟨g, c, by rw [hv], hb⟩
  have HBt : Hid (Calls Try.prog 13 #[.slice ao P ca, .bool false] w fun e w' => e = .returned (.bool true) ∧ w' = w) := by
    have := rbits_any false (cap := ca) ha.sl (by omega)
    rw [show allP (isbg false) (fun j => ((c j : Nat) : Int)) P = true from allP_ofM P (fun j hj => decide_eq_true (by have := hc j hj; omega))] at this
    exact this
  have HDc : Hid (Calls Try.prog 17 #[.int .i64 (r : Nat), .int .i64 (m : Nat), .slice ao P ca] w fun e w' => Below w.heap.size w w' ∧ ((2 * e0 < Q0 ∧ ∃ G, e = .returned (.tuple #[.slice (some ⟨G, 0, none⟩) K0 K0, .int .i64 (e0 : Nat), .bool true, .int .i64 0]) ∧ Row G K0 (dbt l P c) w') ∨ (¬ 2 * e0 < Q0 ∧ e = .returned (.tuple #[.slice none 0 0, .int .i64 0, .bool false, .int .i64 0])))) := by
    refine (mDecode_any r m P h1 h hr hP ha hc).mono ?_
    rintro e w' ⟨hb, hx⟩
    rw [← hl, ← he0, ← hd, ← hQ0, ← hK0] at hx
    refine ⟨hb, ?_⟩
    rcases hx with ⟨q1, G, q2, _, q3⟩ | q
    · exact Or.inl ⟨q1, G, q2, q3⟩
    · exact Or.inr q
  have HNr : Hid (¬ 2 * e0 < Q0 → K0 ≤ 11 → ∀ wx, Below w.heap.size w wx → Calls Try.prog 18 #[.int .i64 (r : Nat), .int .i64 (m : Nat), .slice ao P ca] wx fun e w' => e = .returned (.tuple #[.slice none 0 0, .int .i64 0, .bool false]) ∧ Below wx.heap.size wx w') := fun q1 q2 wx hx => by
    refine rmullerNear_none r m P h1 h hr hP (by rw [← hl, ← hK0]; exact q2) (ha.below hx) (fun g hg => none_near h1 h hr hP hc ?_ g hg)
    rw [← hl, ← he0, ← hd, ← hQ0]; exact q1
  have HBa : Hid (∀ G wx, Row G K0 (dbt l P c) wx → Calls Try.prog 13 #[.slice (some ⟨G, 0, none⟩) K0 K0, .bool false] wx fun e w' => e = .returned (.bool true) ∧ w' = wx) := fun G wx hrow => by
    have := rbits_any false (cap := K0) (hrow.sl (Nat.le_refl _)).z (by omega)
    rw [show allP (isbg false) (fun j => ((dbt l P c j : Nat) : Int)) K0 = true from allP_ofM K0 (fun j hj => decide_eq_true (by have := dbt_lt l P c j; omega))] at this
    exact this
  have HWd : Hid (∀ G wx, Row G K0 (dbt l P c) wx → Calls Try.prog 14 #[.int .i64 (r : Nat), .int .i64 (m : Nat), .slice (some ⟨G, 0, none⟩) K0 K0] wx fun e w' => ∃ G2, e = .returned (.slice (some ⟨G2, 0, none⟩) P P) ∧ Row G2 P (fun x => mwv l (dbt l P c) x l.length) w' ∧ Below wx.heap.size wx w') := fun G wx hrow => by
    refine (rmw_any r m P h1 h hr hP (by rw [← hl]; exact hK0) (fun i _ => dbt_lt l P c i) ⟨(hrow.sl (Nat.le_refl _)).z, fun x hx => (by cases hx; exact hrow.lt), by omega, fun e => (by cases e), Nat.le_refl _, by omega⟩).mono ?_
    rintro e w' ⟨G2, rfl, _, hr2, hb⟩
    rw [← hl] at hr2
    exact ⟨G2, rfl, hr2, hb⟩
  have HAp : Hid (∀ G wx, Row G P (fun x => mwv l (dbt l P c) x l.length) wx → Below w.heap.size w wx → Calls Try.prog 19 #[.slice (some ⟨G, 0, none⟩) P P, .slice ao P ca] wx fun e w' => e = .returned (.int .i64 (e0 : Nat)) ∧ Below wx.heap.size wx w') := fun G wx hrow hb => by
    rw [he0, mrs_dff hc, ← ct_dff]
    exact rapart_any (hrow.sl (Nat.le_refl _)).z (ha.below hb).sl (fun x hx => by cases hx; exact hrow.lt) (ha.below hb).lt (by omega)
  clear hl hK0 hP ha hc hd hQ0 he0
  go_enter Try.func4, Try.ntmps4
  go_wp2_with fail
  refine (HMy.out w).mono ?_
  rintro e w' ⟨rfl, hw⟩
  have hw := hw.symm
  subst hw
  go_wp2_with fail
  refine HBt.out.mono ?_
  rintro e w' ⟨rfl, hw⟩
  have hw := hw.symm
  subst hw
  go_wp2_with fail
  refine HDc.out.mono ?_
  rintro e w2 ⟨hb2, hx⟩
  have H2 : Hid (Below w.heap.size w w2) := hb2
  clear hb2
  rcases hx with ⟨hf, G, rfl, hrow⟩ | ⟨hf, rfl⟩
  · have hfi : 2 * (e0 : Int) < (Q0 : Int) := by omega
    have HR : Hid (Row G K0 (dbt l P c) w2) := hrow
    have hkz : ((K0 : Int) != (K0 : Int)) = false := by simp
    clear hf hrow
    go_wp2_with fail
    refine (HMo.out w2).mono ?_
    rintro e w3 ⟨gM, cM, rfl, hb3⟩
    have H3 : Hid (Below w.heap.size w w3 ∧ Row G K0 (dbt l P c) w3) := ⟨bel_up' H2.out hb3, HR.out.below hb3 HR.out.lt⟩
    clear hb3
    go_wp2_with fail
    refine (HBa.out G w3 H3.out.2).mono ?_
    rintro e w' ⟨rfl, hw⟩
    have hw := hw.symm
    subst hw
    go_wp2_with fail
    refine (HWd.out G w3 H3.out.2).mono ?_
    rintro e w4 ⟨G2, rfl, hr4, hb4⟩
    have H4 : Hid (Below w.heap.size w w4 ∧ Row G2 P (fun x => mwv l (dbt l P c) x l.length) w4) := ⟨bel_up' H3.out.1 hb4, hr4⟩
    clear hr4 hb4
    go_wp2_with fail
    refine (HAp.out G2 w4 H4.out.2 H4.out.1).mono ?_
    rintro e w5 ⟨rfl, hb5⟩
    have H5 : Hid (Below w.heap.size w w5) := bel_up' H4.out.1 hb5
    clear hb5
    go_wp2
    go_ret
    exact ⟨rfl, H5.out⟩
  · have HF : Hid (¬ 2 * e0 < Q0) := hf
    clear hf
    go_wp2_with fail
    refine (HMo.out w2).mono ?_
    rintro e w3 ⟨gM, cM, rfl, hb3⟩
    have H3 : Hid (Below w.heap.size w w3) := bel_up' H2.out hb3
    clear hb3
    by_cases hk11 : K0 ≤ 11
    · have hki : ¬ (11 : Int) < (K0 : Int) := by omega
      have HN2 : Hid (Calls Try.prog 18 #[.int .i64 (r : Nat), .int .i64 (m : Nat), .slice ao P ca] w3 fun e w' => e = .returned (.tuple #[.slice none 0 0, .int .i64 0, .bool false]) ∧ Below w3.heap.size w3 w') := HNr.out HF.out hk11 w3 H3.out
      go_wp2_with fail
      refine HN2.out.mono ?_
      rintro e w4 ⟨rfl, hb4⟩
      have H4 : Hid (Below w.heap.size w w4) := bel_up' H3.out hb4
      clear hb4
      go_wp2
      go_ret
      exact ⟨rfl, H4.out⟩
    · have hki : (11 : Int) < (K0 : Int) := by omega
      go_wp2
      go_ret
      exact ⟨rfl, H3.out⟩
theorem bits_arg {ao : Option Addr} {n ca : Nat} {z : Nat → Int} {w : World} (ha : Arg ao n ca z w) (hb : allP isbt z n = true) : Arg ao n ca (fun j => (((z j).toNat : Nat) : Int)) w ∧ ∀ x, x < n → (z x).toNat < 2 := by
  have hz : ∀ j, j < n → z j = (((z j).toNat : Nat) : Int) ∧ (z j).toNat < 2 := fun j hj => by
    have := of_decide_eq_true (allP_iff n hb j hj)
    omega
  refine ⟨⟨fun j hj => ?_, ha.lt, ha.few, ha.nil, ha.le, ha.cap⟩, fun x hx => (hz x hx).2⟩
  obtain ⟨b, off, e1, e2⟩ := ha.sl j hj
  exact ⟨b, off, e1, by rw [e2, ← (hz j hj).1]⟩
theorem mullerMends_walk (r m : Int) {ao : Option Addr} {n ca : Nat} {z : Nat → Int} {w : World} (ha : ArgL ao n ca z w) (hn2 : n ≤ 17592186044416) :
    Calls Try.prog 4 #[.int .i64 r, .int .i64 m, .slice ao n ca] w fun e w' => e = .returned (.bool true) ∧ Below w.heap.size w w' := by
  by_cases hn : n ≤ 100
  · by_cases he : mck r m = 0
    · obtain ⟨R, M, rfl, rfl, h1, h2, h3⟩ := mck_ok he
      have hA := ha.arg (by omega)
      by_cases hb : bchk isbt n z ((2 ^ M : Nat) : Int) = 0
      · unfold bchk at hb
        by_cases e : (n : Int) ≠ ((2 ^ M : Nat) : Int)
        · rw [if_pos e] at hb; cases hb
        · rw [if_neg e] at hb
          by_cases e2 : allP isbt z n = true
          · have e3 : n = 2 ^ M := by omega
            obtain ⟨q1, q2⟩ := bits_arg hA e2
            clear hb
            generalize hP : 2 ^ M = P at e3
            subst e3
            exact mullerMends_ok R M n h1 h2 h3 hP.symm q1 q2
          · rw [if_neg e2] at hb; cases hb
      · exact mullerMends_bad R M (2 ^ M) h1 h2 h3 rfl hA hn hb
    · exact mullerMends_err r m he ao n ca w hn
  · exact mullerMends_long r m w hn hn2
end Go.Proofs.Ytmklnjkallhphaa
