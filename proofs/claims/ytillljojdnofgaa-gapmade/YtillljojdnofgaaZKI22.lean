/- GapSays: whatever it is given. -/
import Derived.Test.YtillljojdnofgaaZKI21
namespace Go.Proofs.Ytillljojdnofgaa
open Go.Shelf Go.RowKit Go.Lib Go.Sort

theorem allP_congr {p : Int → Bool} {z y : Nat → Int} : ∀ n, (∀ j, j < n → z j = y j) → allP p z n = allP p y n
  | 0, _ => rfl
  | n + 1, h => by
    show (allP p z n && p (z n)) = (allP p y n && p (y n))
    rw [allP_congr n fun j hj => h j (by omega), h n (by omega)]
theorem gwchk_congr {n : Nat} {z y : Nat → Int} (h : ∀ j, j < n → z j = y j) : gwchk n z = gwchk n y := by
  unfold gwchk
  rw [allP_congr n h]
theorem argL_congr {ao : Option Addr} {n ca : Nat} {z y : Nat → Int} {w : World} (h : ArgL ao n ca z w) (e : ∀ j, j < n → z j = y j) : ArgL ao n ca y w := ⟨fun j hj => by rw [← e j hj]; exact h.sl j hj, h.lt, h.nil, h.le, h.cap⟩
theorem argL_below {ao : Option Addr} {n ca : Nat} {z : Nat → Int} {w w' : World} (h : ArgL ao n ca z w) (hb : Below w.heap.size w w') : ArgL ao n ca z w' := ⟨slz_below h.sl hb, h.lt.mono hb.size, h.nil, h.le, h.cap⟩
/-- The bits of a word as numbers. -/
def bt (l : Nat) (z : Nat → Int) : Nat → Nat := fun j => if j < l then (z j).toNat else 0
theorem bt_at {l : Nat} {z : Nat → Int} (h : gwchk l z = 0) : (∀ j, j < l → z j = ((bt l z j : Nat) : Int)) ∧ ∀ j, bt l z j ≤ 1 := by
  have hp := fun j hj => isbt_is (allP_iff l (gwchk_ok h).2 j hj)
  refine ⟨fun j hj => ?_, fun j => ?_⟩
  · unfold bt; rw [if_pos hj]
    rcases hp j hj with e | e <;> rw [e] <;> rfl
  · unfold bt
    by_cases hj : j < l
    · rw [if_pos hj]
      rcases hp j hj with e | e <;> rw [e] <;> decide
    · rw [if_neg hj]; omega
theorem gaChk_ok {n a : Int} (h : gaChk n a = 0) : n = ((n.toNat : Nat) : Int) ∧ a = ((a.toNat : Nat) : Int) ∧ 1 ≤ n.toNat ∧ n.toNat ≤ 12 ∧ a.toNat ≤ n.toNat := by
  unfold gaChk at h
  by_cases h1 : n < 1 ∨ 12 < n
  · rw [if_pos h1] at h; cases h
  · rw [if_neg h1] at h
    by_cases h2 : a < 0 ∨ n < a
    · rw [if_pos h2] at h; cases h
    · omega

set_option maxHeartbeats 32000000 in
set_option maxRecDepth 100000 in
theorem gapSays_walk (n a : Int) {ao bo : Option Addr} {l ca m cb : Nat} {z y : Nat → Int} {w : World} (hA : ArgL ao l ca z w) (hB : ArgL bo m cb y w) (hlm : l + m ≤ 100) :
    Calls Try.prog 3 #[.int .i64 n, .int .i64 a, .slice ao l ca, .slice bo m cb] w fun e w' => e = .returned (.bool true) ∧ Below w.heap.size w w' := by
  obtain ⟨E, hE⟩ : ∃ E, E = gaChk n a := ⟨_, rfl⟩
  obtain ⟨S, hS⟩ : ∃ S, S = gwchk l z := ⟨_, rfl⟩
  obtain ⟨S2, hS2⟩ : ∃ S2, S2 = gwchk m y := ⟨_, rfl⟩
  obtain ⟨f, hf⟩ : ∃ f, f = bt l z := ⟨_, rfl⟩
  obtain ⟨N, hN⟩ : ∃ N, N = n.toNat := ⟨_, rfl⟩
  obtain ⟨A, hAe⟩ : ∃ A, A = a.toNat := ⟨_, rfl⟩
  obtain ⟨E2, hE2⟩ : ∃ E2, E2 = if E = 0 then S else E := ⟨_, rfl⟩
  obtain ⟨S3, hS3⟩ : ∃ S3, S3 = if S = 0 then S2 else S := ⟨_, rfl⟩
  have HC1 : Hid (Calls Try.prog 8 #[.int .i64 n, .int .i64 a] w fun e w' => e = .returned (.int .i64 E) ∧ w' = w) := by rw [hE]; exact gapArgs_any n a w
  have okE : E = 0 → n = (N : Int) ∧ a = (A : Int) ∧ 1 ≤ N ∧ N ≤ 12 ∧ A ≤ N := fun h => by rw [hN, hAe]; exact gaChk_ok (by rw [← hE]; exact h)
  have okS : S = 0 → (∀ j, j < l → z j = ((f j : Nat) : Int)) ∧ (∀ j, f j ≤ 1) ∧ l ≤ 13 := fun h => by
    rw [hS] at h
    rw [hf]
    exact ⟨(bt_at h).1, (bt_at h).2, (gwchk_ok h).1⟩
  have argF : S = 0 → ∀ wx : World, Below w.heap.size w wx → ArgL ao l ca (fun j => ((f j : Nat) : Int)) wx ∧ gwchk l (fun j => ((f j : Nat) : Int)) = 0 := fun h wx hb => ⟨argL_congr (argL_below hA hb) (okS h).1, by rw [← gwchk_congr (okS h).1, ← hS]; exact h⟩
  have HW1 : Hid (E = 0 → ∀ wx : World, Calls Try.prog 9 #[.int .i64 n, .int .i64 a] wx fun e w' => ∃ v, e = .returned v ∧ WLs wx.heap.size v N (wdL N A (2 ^ N)) w' ∧ Below wx.heap.size wx w') := fun h wx => by
    obtain ⟨e1, e2, e3, e4, e5⟩ := okE h
    rw [e1, e2]; exact gapWords_any e3 e4 e5 wx
  have HW2 : Hid (∀ wx : World, Calls Try.prog 10 #[.int .i64 n, .int .i64 a] wx fun e w' => ∃ v, e = .returned (.tuple #[v, .int .i64 E]) ∧ (E = 0 → WLs wx.heap.size v N (wdL N A (2 ^ N)) w') ∧ (E ≠ 0 → v = .slice none 0 0) ∧ Below wx.heap.size wx w') := fun wx => by
    by_cases h : E = 0
    · obtain ⟨e1, e2, e3, e4, e5⟩ := okE h
      rw [h, e1, e2]
      refine (gwords_ok e3 e4 e5 wx).mono ?_
      rintro e w' ⟨v, rfl, h1, h2⟩
      exact ⟨v, rfl, fun _ => h1, fun x => absurd rfl x, h2⟩
    · rw [hE] at h ⊢
      refine (gwords_err n a h wx).mono ?_
      rintro e w' ⟨rfl, rfl⟩
      exact ⟨_, rfl, fun x => absurd x h, fun _ => rfl, Below.refl _ _⟩
  have HLs : Hid (∀ (v v' : Value) (B B' : Nat) (wx : World), (E = 0 → WLs B v N (wdL N A (2 ^ N)) wx) → (E ≠ 0 → v = .slice none 0 0) → (E = 0 → WLs B' v' N (wdL N A (2 ^ N)) wx) → Calls Try.prog 11 #[v, .int .i64 E, v', .int .i64 E] wx fun r w' => r = .returned (.bool true) ∧ ∃ d, w' = wx.drewN d) := fun v v' B B' wx h1 h2 h3 => by
    by_cases h : E = 0
    · have h1 := h1 h
      have h3 := h3 h
      obtain ⟨e1, e2, e3, e4, e5⟩ := okE h
      rw [h]
      exact lists_rl h1.rl h3.rl (Nat.le_trans (wdL_len N A (2 ^ N)) (Nat.le_trans (Nat.pow_le_pow_right (by omega) e4) (by decide))) (by omega)
    · rw [h2 h]
      refine (lists_err2 E h none 0 v' wx).mono ?_
      rintro e w' ⟨rfl, rfl⟩
      exact ⟨rfl, 0, rfl⟩
  have HM1 : Hid (∀ wx : World, Below w.heap.size w wx → Calls Try.prog 12 #[.slice ao l ca] wx fun e w' => e = .returned (.int .i64 S) ∧ w' = wx) := fun wx hb => by rw [hS]; exact gapMay_any (slz_below hA.sl hb) (by omega)
  have HM2 : Hid (∀ wx : World, Below w.heap.size w wx → Calls Try.prog 12 #[.slice bo m cb] wx fun e w' => e = .returned (.int .i64 S2) ∧ w' = wx) := fun wx hb => by rw [hS2]; exact gapMay_any (slz_below hB.sl hb) (by omega)
  have HCk : Hid (∀ wx : World, Below w.heap.size w wx → Calls Try.prog 15 #[.slice ao l ca] wx fun e w' => e = .returned (.int .i64 S) ∧ w' = wx) := fun wx hb => by rw [hS]; exact gCheck_any (slz_below hA.sl hb) (by omega)
  have e20 : E2 = 0 → E = 0 ∧ S = 0 := fun h => by
    rw [hE2] at h
    by_cases x : E = 0
    · rw [if_pos x] at h; exact ⟨x, h⟩
    · rw [if_neg x] at h; exact absurd h x
  have HGm : Hid (E2 = 0 → ∀ wx : World, Below w.heap.size w wx → Calls Try.prog 13 #[.int .i64 n, .int .i64 a, .slice ao l ca] wx fun e w' => ∃ v ok, e = .returned (.tuple #[v, .bool ok]) ∧ GmP N A l f v ok w' ∧ Below wx.heap.size wx w') := fun h wx hb => by
    obtain ⟨h1, h2⟩ := e20 h
    obtain ⟨e1, e2, e3, e4, e5⟩ := okE h1
    rw [e1, e2]; exact gapMended_any (argF h2 wx hb).1 (okS h2).2.2 e3 e4 e5
  have HMd : Hid (∀ wx : World, Below w.heap.size w wx → Calls Try.prog 14 #[.int .i64 n, .int .i64 a, .slice ao l ca] wx fun e w' => ∃ v ok, e = .returned (.tuple #[v, .bool ok, .int .i64 E2]) ∧ (E2 = 0 → MdP N A (snL N l f) v ok w') ∧ (E2 ≠ 0 → v = .slice none 0 0 ∧ ok = false) ∧ Below wx.heap.size wx w') := fun wx hb => by
    by_cases h1 : E = 0
    · have e2' : E2 = S := by rw [hE2, if_pos h1]
      by_cases h2 : S = 0
      · obtain ⟨e1, e2, e3, e4, e5⟩ := okE h1
        rw [e2', h2, e1, e2]
        refine (gmend_ok (argF h2 wx hb).1 (argF h2 wx hb).2 (okS h2).2.1 e3 e4 e5).mono ?_
        rintro e w' ⟨v, ok, rfl, h3, h4⟩
        exact ⟨v, ok, rfl, fun _ => h3, fun x => absurd rfl x, h4⟩
      · rw [e2']
        rw [hS] at h2 ⊢
        refine (gmend_e2 n a (by rw [← hE]; exact h1) (slz_below hA.sl hb) (by omega) h2).mono ?_
        rintro e w' ⟨rfl, rfl⟩
        exact ⟨_, _, rfl, fun x => absurd x h2, fun _ => ⟨rfl, rfl⟩, Below.refl _ _⟩
    · have e2' : E2 = E := by rw [hE2, if_neg h1]
      rw [e2']
      rw [hE] at h1 ⊢
      refine (gmend_e1 n a h1 wx).mono ?_
      rintro e w' ⟨rfl, rfl⟩
      exact ⟨_, _, rfl, fun x => absurd x h1, fun _ => ⟨rfl, rfl⟩, Below.refl _ _⟩
  have HLo : Hid (S = 0 → ∀ wx : World, Below w.heap.size w wx → Calls Try.prog 17 #[.slice ao l ca] wx fun e w' => ∃ v, e = .returned v ∧ WLs wx.heap.size v (l - 1) (lsL f l) w' ∧ Below wx.heap.size wx w') := fun h wx hb => rlost_any (argF h wx hb).1 (okS h).2.2
  have HBa : Hid (∀ wx : World, Below w.heap.size w wx → Calls Try.prog 19 #[.slice ao l ca] wx fun e w' => ∃ v, e = .returned (.tuple #[v, .int .i64 S]) ∧ (S = 0 → BlR l f v w') ∧ (S ≠ 0 → v = .slice none 0 0) ∧ Below wx.heap.size wx w') := fun wx hb => by
    by_cases h2 : S = 0
    · rw [h2]
      refine (gball_ok (argF h2 wx hb).1 (argF h2 wx hb).2 (okS h2).2.1).mono ?_
      rintro e w' ⟨v, rfl, h3, h4⟩
      exact ⟨v, rfl, fun _ => h3, fun x => absurd rfl x, h4⟩
    · rw [hS] at h2 ⊢
      refine (gball_err (slz_below hA.sl hb) (by omega) h2).mono ?_
      rintro e w' ⟨rfl, rfl⟩
      exact ⟨_, rfl, fun x => absurd x h2, fun _ => rfl, Below.refl _ _⟩
  have HLb : Hid (∀ (v v' : Value) (wx : World), (S = 0 → BlR l f v wx) → (S ≠ 0 → v = .slice none 0 0) → (S = 0 → BlR l f v' wx) → Calls Try.prog 11 #[v, .int .i64 S, v', .int .i64 S] wx fun r w' => r = .returned (.bool true) ∧ ∃ d, w' = wx.drewN d) := fun v v' wx h1 h2 h3 => by
    by_cases h : S = 0
    · have h1 := h1 h
      have h3 := h3 h
      have hl := (okS h).2.2
      rw [h]
      exact h1.same h3 hl
    · rw [h2 h]
      refine (lists_err2 S h none 0 v' wx).mono ?_
      rintro e w' ⟨rfl, rfl⟩
      exact ⟨rfl, 0, rfl⟩
  have est : stE l m z y = S3 := by unfold stE; rw [hS3, ← hS, ← hS2]; by_cases h : S = 0; rw [if_neg (fun x => x h), if_pos h]; rw [if_pos h, if_neg h]
  obtain ⟨st, hst⟩ : ∃ st : Nat, st = if S3 = 0 then lvd z y l m else 0 := ⟨_, rfl⟩
  have HSt : Hid (∀ wx : World, Below w.heap.size w wx → Calls Try.prog 21 #[.slice ao l ca, .slice bo m cb] wx fun e w' => e = .returned (.tuple #[.int .i64 (st : Nat), .int .i64 S3]) ∧ Below wx.heap.size wx w') := fun wx hb => by
    have h := gSteps_any (ca := ca) (cb := cb) (slz_below hA.sl hb) (slz_below hB.sl hb) (by omega) (by omega)
    rw [est, ← hst] at h; exact h
  have HRs : Hid (S3 = 0 → ∀ wx : World, Below w.heap.size w wx → Calls Try.prog 20 #[.slice ao l ca, .slice bo m cb] wx fun e w' => e = .returned (.int .i64 (st : Nat)) ∧ Below wx.heap.size wx w') := fun h wx hb => by
    have hSz : S = 0 := by
      by_cases x : S = 0
      · exact x
      · rw [hS3, if_neg x] at h; exact absurd h x
    have hS2z : S2 = 0 := by rw [hS3, if_pos hSz] at h; exact h
    rw [hst, if_pos h]
    exact rsteps_any (slz_below hA.sl hb) (slz_below hB.sl hb) (okS hSz).2.2 (gwchk_ok (hS2.symm.trans hS2z)).1
  have HNm : Hid (∀ wx : World, Calls Try.prog 22 #[.int .i64 (st : Nat), .int .i64 S3, .int .i64 (st : Nat), .int .i64 S3] wx fun e w' => e = .returned (.bool true) ∧ w' = wx) := fun wx => by
    by_cases h : S3 = 0
    · rw [h]; exact num_same _ _
    · have h0 : st = 0 := by rw [hst, if_neg h]
      rw [h0]; exact num_err S3 h _ _
  have HOk : Hid ((E = 0 → 1 ≤ N) ∧ (S = 0 → (∀ j, f j ≤ 1) ∧ l ≤ 13) ∧ (E2 = 0 → E = 0 ∧ S = 0) ∧ E2 = (if E = 0 then S else E) ∧ S3 = (if S = 0 then S2 else S) ∧ (S3 ≠ 0 → st = 0)) := ⟨fun h => (okE h).2.2.1, fun h => ⟨(okS h).2.1, (okS h).2.2⟩, e20, hE2, hS3, fun h => by rw [hst, if_neg h]⟩
  have hz : ¬ (100 : Int) < (l : Int) + (m : Int) := by omega
  clear hE hS hS2 hf hN hAe hE2 hS3 okE okS argF hA hB e20 est hst
  go_enter Try.func3, Try.ntmps3
  go_wp2_with fail
  refine HC1.out.mono ?_
  rintro e w' ⟨rfl, hw⟩
  have hw := hw.symm
  subst hw
  clear HC1
  go_upto_if 34 with fail
  go_cut [10] (fun v10 wx => ∃ v, v10 = v ∧ Hid (Below w.heap.size w wx ∧ (E = 0 → WLs w.heap.size v N (wdL N A (2 ^ N)) wx) ∧ (E ≠ 0 → v = .slice none 0 0)))
  case first =>
    by_cases h : E = 0
    · have zE : (E == 0) = true := by rw [h]; rfl
      have HWc := HW1.out h w
      have HWd : Hid (Calls Try.prog 9 #[.int .i64 n, .int .i64 a] w fun e w' => ∃ v, e = .returned v ∧ WLs w.heap.size v N (wdL N A (2 ^ N)) w' ∧ Below w.heap.size w w') := HWc
      have HE0 : Hid (E = 0) := h
      clear h HWc
      go_wp2_with fail
      refine HWd.out.mono ?_
      rintro e w1 ⟨v1, rfl, h1, hb1⟩
      have H1 : Hid (Below w.heap.size w w1 ∧ (E = 0 → WLs w.heap.size v1 N (wdL N A (2 ^ N)) w1) ∧ (E ≠ 0 → v1 = .slice none 0 0)) := ⟨hb1, fun _ => h1, fun x => absurd HE0.out x⟩
      clear h1 hb1
      go_wp2
      go_meet
      case rel => exact ⟨_, rfl, H1.out⟩
    · have zE : (E == 0) = false := beq_eq_false_iff_ne.2 h
      have HE0 : Hid (E ≠ 0) := h
      clear h
      go_wp2
      go_meet
      case rel => exact ⟨_, rfl, Below.refl _ _, fun x => absurd x HE0.out, fun _ => rfl⟩
  case rest =>
  obtain ⟨v10, hv10, H10⟩ := hcut
  have hv10 := hv10.symm
  subst hv10
  rename World => wA
  clear HW1
  go_wp2_with fail
  refine (HW2.out wA).mono ?_
  rintro e wB ⟨v11, rfl, h1, h2, hb⟩
  have HLc : Hid (Calls Try.prog 11 #[v11, .int .i64 E, v10, .int .i64 E] wB fun r w' => r = .returned (.bool true) ∧ ∃ d, w' = wB.drewN d) := HLs.out v11 v10 _ w.heap.size wB h1 h2 (fun h => (H10.out.2.1 h).below hb)
  have HB : Hid (Below w.heap.size w wB) := bel_up' H10.out.1 hb
  clear h1 h2 hb H10 HW2 HLs
  go_wp2_with fail
  refine HLc.out.mono ?_
  rintro e wC ⟨rfl, d, hd⟩
  have HC : Hid (Below w.heap.size w wC) := by rw [hd]; exact below_drewN2 HB.out d
  clear hd HB HLc
  go_wp2_with fail
  refine (HM1.out wC HC.out).mono ?_
  rintro e w' ⟨rfl, hw⟩
  have hw := hw.symm
  subst hw
  clear HM1
  go_upto_if 53 with fail
  go_cut [9] (fun v9 wx => v9 = .int .i64 E2 ∧ wx = wC)
  case first =>
    by_cases h : E = 0
    · have zE : (E == 0) = true := by rw [h]; rfl
      have hSE : Hid (S = E2) := by show S = E2; rw [HOk.out.2.2.2.1, if_pos h]
      clear h
      go_wp2
      go_meet
      case rel => exact ⟨by rw [hSE.out], rfl⟩
    · have zE : (E == 0) = false := beq_eq_false_iff_ne.2 h
      have hSE : Hid (E = E2) := by show E = E2; rw [HOk.out.2.2.2.1, if_neg h]
      clear h
      go_wp2
      go_meet
      case rel => exact ⟨by rw [hSE.out], rfl⟩
  case rest =>
  obtain ⟨hv9, hwx⟩ := hcut
  have hwx := hwx.symm
  subst hv9 hwx
  go_upto_if 56 with fail
  go_cut [14, 15] (fun v14 v15 wx => ∃ v ok, v14 = v ∧ v15 = .bool ok ∧ Hid (Below w.heap.size w wx ∧ (E2 = 0 → GmP N A l f v ok wx) ∧ (E2 ≠ 0 → v = .slice none 0 0 ∧ ok = false)))
  case first =>
    by_cases h : E2 = 0
    · have zE : (E2 == 0) = true := by rw [h]; rfl
      have HGc : Hid (Calls Try.prog 13 #[.int .i64 n, .int .i64 a, .slice ao l ca] wC fun e w' => ∃ v ok, e = .returned (.tuple #[v, .bool ok]) ∧ GmP N A l f v ok w' ∧ Below wC.heap.size wC w') := HGm.out h wC HC.out
      have HE0 : Hid (E2 = 0) := h
      clear h
      go_wp2_with fail
      refine HGc.out.mono ?_
      rintro e w1 ⟨v1, ok1, rfl, h1, hb1⟩
      have H1 : Hid (Below w.heap.size w w1 ∧ (E2 = 0 → GmP N A l f v1 ok1 w1) ∧ (E2 ≠ 0 → v1 = .slice none 0 0 ∧ ok1 = false)) := ⟨bel_up' HC.out hb1, fun _ => h1, fun x => absurd HE0.out x⟩
      clear h1 hb1
      go_wp2
      go_meet
      case rel => exact ⟨_, _, rfl, rfl, H1.out⟩
    · have zE : (E2 == 0) = false := beq_eq_false_iff_ne.2 h
      have HE0 : Hid (E2 ≠ 0) := h
      clear h
      go_wp2
      go_meet
      case rel => exact ⟨_, false, rfl, rfl, HC.out, fun x => absurd x HE0.out, fun _ => ⟨rfl, rfl⟩⟩
  case rest =>
  obtain ⟨v14, ok, hv14, hv15, H14⟩ := hcut
  have hv14 := hv14.symm
  subst hv14
  subst hv15
  rename World => wD
  clear HGm HC
  go_wp2_with fail
  refine (HMd.out wD H14.out.1).mono ?_
  rintro e wE ⟨v16, ok2, rfl, h1, h2, hb⟩
  have hoks : ok2 = ok ∧ ∃ lw, KI v16 lw wE ∧ KI v14 lw wE := by
    by_cases h : E2 = 0
    · obtain ⟨hE0, hS0⟩ := HOk.out.2.2.1 h
      obtain ⟨e1, lw, k1, k2⟩ := mend_same (HOk.out.1 hE0) (HOk.out.2.1 hS0).1 (h1 h) (H14.out.2.1 h)
      exact ⟨e1, lw, k1, k2.below hb⟩
    · obtain ⟨e1, e2⟩ := h2 h
      obtain ⟨e3, e4⟩ := H14.out.2.2 h
      rw [e1, e2, e3, e4]
      exact ⟨rfl, [], KI.nil _, KI.nil _⟩
  obtain ⟨hok, lw, k1, k2⟩ := hoks
  subst hok
  have HSm : Hid (Calls Try.prog 16 #[v16, v14] wE fun e w' => e = .returned (.bool true) ∧ ∃ d, w' = wE.drewN d) := by
    have h := same_any k1.1 k2.1
    rw [decide_eq_true rfl] at h; exact h
  have HE : Hid (Below w.heap.size w wE) := bel_up' H14.out.1 hb
  have zS : (S != S) = false := by simp
  have zE2 : (E2 != E2) = false := by simp
  have zok : (ok2 != ok2) = false := by simp
  clear h1 h2 hb k1 k2 H14 HMd
  go_wp2_with fail
  refine (HCk.out wE HE.out).mono ?_
  rintro e w' ⟨rfl, hw⟩
  have hw := hw.symm
  subst hw
  clear HCk
  go_wp2_with fail
  refine HSm.out.mono ?_
  rintro e wF ⟨rfl, d, hd⟩
  have HF : Hid (Below w.heap.size w wF) := by rw [hd]; exact below_drewN2 HE.out d
  clear hd HE HSm
  go_upto_if 93 with fail
  go_cut [18] (fun v18 wx => ∃ v, v18 = v ∧ Hid (Below w.heap.size w wx ∧ (S = 0 → BlR l f v wx) ∧ (S ≠ 0 → v = .slice none 0 0)))
  case first =>
    by_cases h : S = 0
    · have zE : (S == 0) = true := by rw [h]; rfl
      have HLc : Hid (Calls Try.prog 17 #[.slice ao l ca] wF fun e w' => ∃ v, e = .returned v ∧ WLs wF.heap.size v (l - 1) (lsL f l) w' ∧ Below wF.heap.size wF w') := HLo.out h wF HF.out
      have HE0 : Hid (S = 0 ∧ (∀ j, f j ≤ 1) ∧ l ≤ 13) := ⟨h, HOk.out.2.1 h⟩
      have hl13 : l ≤ 13 := HE0.out.2.2
      clear h
      go_wp2_with fail
      refine HLc.out.mono ?_
      rintro e wG ⟨v19, rfl, h1, hb1⟩
      have HSc : Hid (Calls Try.prog 18 #[v19] wG fun e w' => e = .returned (.tuple #[]) ∧ Below wF.heap.size wF w' ∧ ∃ M, M.length = l ∧ KLs wF.heap.size v19 (l - 1) M w' ∧ (∀ i j, i < j → j < M.length → M.getD i 0 ≤ M.getD j 0) ∧ ∀ x, (∃ j, j < M.length ∧ x = M.getD j 0) ↔ ∃ i, i < l ∧ x = dnum 2 (wo i f) (l - 1)) := rsort_lost HE0.out.2.1 HE0.out.2.2 h1 hb1 (Nat.le_refl _)
      clear h1 hb1 HLc
      go_wp2_with fail
      refine HSc.out.mono ?_
      rintro e wH ⟨rfl, hbH, M, hM1, hM2, hM3, hM4⟩
      obtain ⟨so, sc, hv19⟩ := hM2.form
      rw [hM1] at hv19
      subst hv19
      have HH : Hid (Below w.heap.size w wH ∧ KLs wF.heap.size (.slice so l sc) (l - 1) M wH ∧ (∀ i j, i < j → j < M.length → M.getD i 0 ≤ M.getD j 0) ∧ (∀ x, (∃ j, j < M.length ∧ x = M.getD j 0) ↔ ∃ i, i < l ∧ x = dnum 2 (wo i f) (l - 1)) ∧ M.length = l) := ⟨bel_up' HF.out hbH, hM2, hM3, hM4, hM1⟩
      clear hbH hM1 hM2 hM3 hM4 HSc
      obtain ⟨m1, hm1⟩ : ∃ m1, m1 = l - 1 := ⟨_, rfl⟩
      have HM1 : Hid (m1 = l - 1 ∧ m1 ≤ 13) := ⟨hm1, by omega⟩
      clear hm1
      go_wp2
      go_loopw [18, 20] (fun vb vi wx => ∃ (i : Nat), i ≤ l ∧ vi = .int .i64 (i : Nat) ∧ Hid (KLs wH.heap.size vb m1 (ddp M i) wx ∧ Below wH.heap.size wH wx)) (fun _ vi _ => l - (intOf vi).toNat)
      case atStart => exact ⟨0, by omega, rfl, KLs.nil _ _ _, Below.refl _ _⟩
      case round =>
        obtain ⟨i, hi, rfl, HI⟩ := hrel
        rename World => wI
        by_cases hlt : i < l
        · have hib : (i : Int) < (l : Int) := by omega
          have hib0 : (0 : Int) ≤ (i : Int) := by omega
          obtain ⟨g, x, cx, hso, hcx, hwx⟩ := (HH.out.2.1.below HI.out.2).item (j := i) (by rw [HH.out.2.2.2.2]; exact hlt)
          rw [← HM1.out.1] at hcx hwx
          subst hso
          obtain ⟨lst, hov, hln, hels⟩ := HI.out.1
          have hll : lst.length ≤ 1000000 := by rw [hln]; have := ddp_len M i; omega
          have HV : Hid (OwnV wH.heap.size u18 lst wI ∧ lst.length = (ddp M i).length ∧ (∀ (j : Nat) (u : Value) (k : Nat), lst[j]? = some u → (ddp M i)[j]? = some k → WdK m1 u k wI) ∧ WdK m1 (.slice x m1 cx) (M.getD i 0) wI) := ⟨hov, hln, hels, hwx⟩
          have hszI := HI.out.2.size
          clear hov hln hels
          by_cases h0 : i = 0
          · have zi : ((i : Int) == 0) = true := by rw [h0]; rfl
            have HNx : Hid (ddp M (i + 1) = ddp M i ++ [M.getD i 0]) := by show ddp M i ++ _ = _; rw [if_pos (Or.inl h0)]
            clear h0 hwx
            have HD : Hid (∀ d, OwnV wH.heap.size u18 lst (wI.drewN d) ∧ (∀ (j : Nat) (u : Value) (k : Nat), lst[j]? = some u → (ddp M i)[j]? = some k → WdK m1 u k (wI.drewN d)) ∧ WdK m1 (.slice x m1 cx) (M.getD i 0) (wI.drewN d) ∧ Below wH.heap.size wH (wI.drewN d)) := fun d => ⟨HV.out.1.below (below_drewN2 (Below.refl _ _) d) (Nat.le_refl _), fun j u k hu hk => (HV.out.2.2.1 j u k hu hk).below (below_drewN2 (Below.refl _ _) d), HV.out.2.2.2.below (below_drewN2 (Below.refl _ _) d), below_drewN2 HI.out.2 d⟩
            go_wp2
            go_big_quiet (fail)
            generalize hwq : World.drewN wI _ = wQ
            have HQ : Hid (OwnV wH.heap.size u18 lst wQ ∧ (∀ (j : Nat) (u : Value) (k : Nat), lst[j]? = some u → (ddp M i)[j]? = some k → WdK m1 u k wQ) ∧ WdK m1 (.slice x m1 cx) (M.getD i 0) wQ ∧ Below wH.heap.size wH wQ) := by rw [← hwq]; exact HD.out _
            have hcq : wQ.cell? ⟨g, i, none⟩ = some (.slice x m1 cx) := by rw [← hwq]; exact hcx
            have hszq := HQ.out.2.2.2.size
            clear hwq hcx
            go_wp2_with (at_builtin; refine append_sl rfl _ _ rfl wH.heap.size u18 lst rfl (HQ.out.1.below ((Below.refl _ _).alloc (Nat.le_refl _) _) (Nat.le_refl _)) ⟨wQ.heap.size, 0, none⟩ 1 (.slice x m1 cx) rfl rfl (by rw [cell_of_row _ _ _ _ _ (0, 0) (two_new _)]; rfl) hll (by simp; omega) ?_; intro v' w6 hown6 hg6)
            have hal : Below wQ.heap.size wQ (wQ.alloc (.cells #[.slice x m1 cx] 22)) := (Below.refl _ _).alloc (Nat.le_refl _) _
            have ho := HQ.out.1.below hal (Nat.le_refl _)
            have H6 : Hid (KLs wH.heap.size v' m1 (ddp M (i + 1)) w6 ∧ Below wH.heap.size wH w6) := by
              rw [HNx.out]
              have hp := kl_push ho HV.out.2.1 (fun j u k hu hk => (HQ.out.2.1 j u k hu hk).below hal) (HQ.out.2.2.1.below hal) hg6
              exact ⟨⟨_, hown6, hp.1, hp.2⟩, (bel_up' HQ.out.2.2.2 hal).grown hg6 (by simp; omega) (fun q hq => ho.open_ge q hq)⟩
            clear hown6 hg6 hal ho
            try go_wp2
            go_roundw
            case rel => exact ⟨i + 1, by omega, by go_num, H6.out⟩
            case measure => simp [intOf]; omega
          · have zi : ((i : Int) == 0) = false := beq_eq_false_iff_ne.2 (by omega)
            obtain ⟨i1, hi1⟩ : ∃ i1, i1 = i - 1 := ⟨_, rfl⟩
            have wi1 : IntKind.i64.wrap ((i : Int) - 1) = (i1 : Int) := wrap_to (by omega) (by omega)
            have hi1b : (i1 : Int) < (l : Int) := by omega
            have hi10 : (0 : Int) ≤ (i1 : Int) := by omega
            obtain ⟨g', x', cx', hso', hcx', hwx'⟩ := (HH.out.2.1.below HI.out.2).item (j := i1) (by rw [HH.out.2.2.2.2]; omega)
            rw [← HM1.out.1] at hcx' hwx'
            cases hso'
            obtain ⟨t, ht⟩ : ∃ t, t = decide (M.getD i 0 = M.getD i1 0) := ⟨_, rfl⟩
            have HSq : Hid (∀ d, Calls Try.prog 16 #[.slice x m1 cx, .slice x' m1 cx'] (wI.drewN d) fun e w' => e = .returned (.bool t) ∧ ∃ n, w' = (wI.drewN d).drewN n) := fun d => by
              rw [ht]
              exact wdk_same (by have := HM1.out.2; omega) (hwx.below (below_drewN2 (Below.refl _ _) d)) (hwx'.below (below_drewN2 (Below.refl _ _) d))
            have HD : Hid (∀ d, OwnV wH.heap.size u18 lst (wI.drewN d) ∧ (∀ (j : Nat) (u : Value) (k : Nat), lst[j]? = some u → (ddp M i)[j]? = some k → WdK m1 u k (wI.drewN d)) ∧ WdK m1 (.slice x m1 cx) (M.getD i 0) (wI.drewN d) ∧ Below wH.heap.size wH (wI.drewN d)) := fun d => ⟨HV.out.1.below (below_drewN2 (Below.refl _ _) d) (Nat.le_refl _), fun j u k hu hk => (HV.out.2.2.1 j u k hu hk).below (below_drewN2 (Below.refl _ _) d), HV.out.2.2.2.below (below_drewN2 (Below.refl _ _) d), below_drewN2 HI.out.2 d⟩
            cases t with
            | true =>
              have HNx : Hid (ddp M (i + 1) = ddp M i) := by
                show ddp M i ++ _ = _
                rw [if_neg (by rintro (e | e); exact h0 e; exact e (by rw [← hi1]; exact of_decide_eq_true ht.symm)), List.append_nil]
              have HR : Hid (∀ d, KLs wH.heap.size u18 m1 (ddp M (i + 1)) (wI.drewN d) ∧ Below wH.heap.size wH (wI.drewN d)) := fun d => ⟨by rw [HNx.out]; exact HI.out.1.below (below_drewN2 (Below.refl _ _) d), below_drewN2 HI.out.2 d⟩
              clear h0 hwx hwx' ht hi1
              go_wp2
              go_big_quiet (first | (go_at_call 16; exact Calls.quiet_of (HSq.out _)))
              go_wp2
              go_roundw
              case rel => exact ⟨i + 1, by omega, by go_num, HR.out _⟩
              case measure => simp [intOf]; omega
            | false =>
              have HNx : Hid (ddp M (i + 1) = ddp M i ++ [M.getD i 0]) := by
                show ddp M i ++ _ = _
                rw [if_pos (Or.inr (by rw [← hi1]; exact of_decide_eq_false ht.symm))]
              clear h0 hwx hwx' ht hi1
              go_wp2
              go_big_quiet (first | (go_at_call 16; exact Calls.quiet_of (HSq.out _)))
              generalize hwq : World.drewN wI _ = wQ
              have HQ : Hid (OwnV wH.heap.size u18 lst wQ ∧ (∀ (j : Nat) (u : Value) (k : Nat), lst[j]? = some u → (ddp M i)[j]? = some k → WdK m1 u k wQ) ∧ WdK m1 (.slice x m1 cx) (M.getD i 0) wQ ∧ Below wH.heap.size wH wQ) := by rw [← hwq]; exact HD.out _
              have hcq : wQ.cell? ⟨g, i, none⟩ = some (.slice x m1 cx) := by rw [← hwq]; exact hcx
              have hszq := HQ.out.2.2.2.size
              clear hwq hcx
              go_wp2_with (at_builtin; refine append_sl rfl _ _ rfl wH.heap.size u18 lst rfl (HQ.out.1.below ((Below.refl _ _).alloc (Nat.le_refl _) _) (Nat.le_refl _)) ⟨wQ.heap.size, 0, none⟩ 1 (.slice x m1 cx) rfl rfl (by rw [cell_of_row _ _ _ _ _ (0, 0) (two_new _)]; rfl) hll (by simp; omega) ?_; intro v' w6 hown6 hg6)
              have hal : Below wQ.heap.size wQ (wQ.alloc (.cells #[.slice x m1 cx] 22)) := (Below.refl _ _).alloc (Nat.le_refl _) _
              have ho := HQ.out.1.below hal (Nat.le_refl _)
              have H6 : Hid (KLs wH.heap.size v' m1 (ddp M (i + 1)) w6 ∧ Below wH.heap.size wH w6) := by
                rw [HNx.out]
                have hp := kl_push ho HV.out.2.1 (fun j u k hu hk => (HQ.out.2.1 j u k hu hk).below hal) (HQ.out.2.2.1.below hal) hg6
                exact ⟨⟨_, hown6, hp.1, hp.2⟩, (bel_up' HQ.out.2.2.2 hal).grown hg6 (by simp; omega) (fun q hq => ho.open_ge q hq)⟩
              clear hown6 hg6 hal ho
              try go_wp2
              go_roundw
              case rel => exact ⟨i + 1, by omega, by go_num, H6.out⟩
              case measure => simp [intOf]; omega
        · have hib : ¬ (i : Int) < (l : Int) := by omega
          have HR : Hid (Below w.heap.size w wI ∧ (S = 0 → BlR l f u18 wI) ∧ (S ≠ 0 → u18 = .slice none 0 0)) := by
            have hil : i = M.length := by rw [HH.out.2.2.2.2]; omega
            refine ⟨bel_up' HH.out.1 HI.out.2, fun _ => ⟨ddp M i, ddp_inc HH.out.2.2.1 i (by omega), fun x => ?_, by have := ddp_len M i; omega, ?_⟩, fun x => absurd HE0.out.1 x⟩
            · rw [ddp_mem, hil]; exact HH.out.2.2.2.1 x
            · have h := HI.out.1.rl
              rw [HM1.out.1] at h; exact h
          go_wp2
          go_meet
          case rel => exact ⟨_, rfl, HR.out⟩
    · have zE : (S == 0) = false := beq_eq_false_iff_ne.2 h
      have HE0 : Hid (S ≠ 0) := h
      clear h
      go_wp2
      go_meet
      case rel => exact ⟨_, rfl, HF.out, fun x => absurd x HE0.out, fun _ => rfl⟩
  case rest =>
  obtain ⟨v18, hv18, H18⟩ := hcut
  have hv18 := hv18.symm
  subst hv18
  rename World => wJ
  clear HF HLo
  go_wp2_with fail
  refine (HBa.out wJ H18.out.1).mono ?_
  rintro e wK ⟨v21, rfl, h1, h2, hb⟩
  have HLc : Hid (Calls Try.prog 11 #[v21, .int .i64 S, v18, .int .i64 S] wK fun r w' => r = .returned (.bool true) ∧ ∃ d, w' = wK.drewN d) := HLb.out v21 v18 wK h1 h2 (fun h => (H18.out.2.1 h).below hb)
  have HKb : Hid (Below w.heap.size w wK) := bel_up' H18.out.1 hb
  clear h1 h2 hb H18 HBa HLb
  go_wp2_with fail
  refine HLc.out.mono ?_
  rintro e wL ⟨rfl, d, hd⟩
  have HLb2 : Hid (Below w.heap.size w wL) := by rw [hd]; exact below_drewN2 HKb.out d
  clear hd HKb HLc
  go_upto_if 138 with fail
  go_cut [13] (fun v13 wx => v13 = .int .i64 S3 ∧ wx = wL)
  case first =>
    by_cases h : S = 0
    · have zE : (S == 0) = true := by rw [h]; rfl
      have hSE : Hid (S2 = S3) := by show S2 = S3; rw [HOk.out.2.2.2.2.1, if_pos h]
      have HMc : Hid (Calls Try.prog 12 #[.slice bo m cb] wL fun e w' => e = .returned (.int .i64 S2) ∧ w' = wL) := HM2.out wL HLb2.out
      clear h
      go_wp2_with fail
      refine HMc.out.mono ?_
      rintro e w' ⟨rfl, hw⟩
      have hw := hw.symm
      subst hw
      go_wp2
      go_meet
      case rel => exact ⟨by rw [hSE.out], rfl⟩
    · have zE : (S == 0) = false := beq_eq_false_iff_ne.2 h
      have hSE : Hid (S = S3) := by show S = S3; rw [HOk.out.2.2.2.2.1, if_neg h]
      clear h
      go_wp2
      go_meet
      case rel => exact ⟨by rw [hSE.out], rfl⟩
  case rest =>
  obtain ⟨hv13, hwx⟩ := hcut
  have hwx := hwx.symm
  subst hv13 hwx
  go_upto_if 142 with fail
  go_cut [22] (fun v22 wx => v22 = .int .i64 (st : Nat) ∧ Hid (Below w.heap.size w wx))
  case first =>
    by_cases h : S3 = 0
    · have zE : (S3 == 0) = true := by rw [h]; rfl
      have HRc : Hid (Calls Try.prog 20 #[.slice ao l ca, .slice bo m cb] wL fun e w' => e = .returned (.int .i64 (st : Nat)) ∧ Below wL.heap.size wL w') := HRs.out h wL HLb2.out
      clear h
      go_wp2_with fail
      refine HRc.out.mono ?_
      rintro e w1 ⟨rfl, hb1⟩
      have H1 : Hid (Below w.heap.size w w1) := bel_up' HLb2.out hb1
      clear hb1
      go_wp2
      go_meet
      case rel => exact ⟨rfl, H1.out⟩
    · have zE : (S3 == 0) = false := beq_eq_false_iff_ne.2 h
      have hSE : Hid (st = 0) := HOk.out.2.2.2.2.2 h
      clear h
      go_wp2
      go_meet
      case rel => exact ⟨by rw [hSE.out]; rfl, HLb2.out⟩
  case rest =>
  obtain ⟨hv22, HM⟩ := hcut
  rename World => wM
  subst hv22
  go_wp2_with fail
  refine (HSt.out wM HM.out).mono ?_
  rintro e wN ⟨rfl, hb⟩
  have HNb : Hid (Below w.heap.size w wN) := bel_up' HM.out hb
  clear hb
  go_wp2_with fail
  refine (HNm.out wN).mono ?_
  rintro e w' ⟨rfl, hw⟩
  have hw := hw.symm
  subst hw
  go_wp2
  go_ret
  exact ⟨rfl, HNb.out⟩
end Go.Proofs.Ytillljojdnofgaa
