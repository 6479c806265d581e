/- TopDigits: the kind of trade. -/
import Derived.Test.YtonjkpakbmbafaaZKK24
namespace Go.Proofs.Ytonjkpakbmbafaa
open Go.RowKit Go.Maps

set_option maxHeartbeats 16000000 in
set_option maxRecDepth 100000 in
theorem topDigits_t {ao : Option Addr} {m ca : Nat} {z : Nat → Int} {k0 n0 a0 b0 : Int} {w : World} (hA : Arg ao m ca z w) (hm : m ≤ 100) (hn0 : I64 n0) (ha0 : I64 a0) (hb0 : I64 b0)
    (HK : Hid (∀ w, Calls Try.prog 20 #[.int .i64 k0, .int .i64 5] w fun e w' => e = .returned (.int .i64 2) ∧ w' = w)) :
    Calls Try.prog 7 #[.int .i64 k0, .slice ao m ca, .int .i64 n0, .int .i64 a0, .int .i64 b0] w fun e w' => e = .returned (.bool true) ∧ Below w.heap.size w w' := by
  have HF : Hid (Arg ao m ca z w ∧ I64 a0 ∧ I64 b0) := ⟨hA, ha0, hb0⟩
  have i100 : ¬ (100 : Int) < (m : Int) := by omega
  obtain ⟨pn, hpn, hPn⟩ := pickN n0 hn0 20 (by omega) (by omega)
  have HPn : Hid (∀ w, Calls Try.prog 20 #[.int .i64 n0, .int .i64 20] w fun e w' => e = .returned (.int .i64 (pn : Nat)) ∧ w' = w) := hPn

  have hsg : sgm 3 12 := ⟨by omega, by omega, fun e => (by cases e), fun _ => rfl⟩
  have HSG : Hid (sgm 3 12) := hsg
  clear hA hn0 ha0 hb0 hPn hsg
  go_enter Try.func7, Try.ntmps7
  go_wp2_with fail
  refine (HK.out _).mono ?_
  rintro e w' ⟨rfl, hw⟩
  have hw := hw.symm
  subst hw
  go_wp2_with fail
  refine (HPn.out _).mono ?_
  rintro e w' ⟨rfl, hw⟩
  have hw := hw.symm
  subst hw
  go_wp2
  go_loopw [11, 12] (fun vt vi wr => ∃ (r : Nat) (T : ByteArray) (d : Nat → Nat), r ≤ 12 ∧ vt = .string T ∧ vi = .int .i64 (r : Nat) ∧ Hid (Txt T r d ∧ Below w.heap.size w wr)) (fun _ vi _ => 12 - (intOf vi).toNat)
  case atStart => exact ⟨0, ⟨#[]⟩, fun _ => 0, by omega, rfl, rfl, ⟨rfl, fun j hj => absurd hj (by omega), fun j hj => absurd hj (by omega)⟩, Below.refl _ _⟩
  case round =>
    obtain ⟨r, T, d, hr, rfl, rfl, HG⟩ := hrel
    rename World => wr
    by_cases hlt : r < 12
    · have hib : (r : Int) < 12 := by omega
      have HR : Hid (Calls Try.prog 34 #[.slice ao m ca, .int .i64 (r : Nat)] wr fun e w' => (∃ x, e = .returned (.int .i64 x) ∧ I64 x) ∧ ∃ k, w' = wr.drewN k) := raw_any (HF.out.1.below HG.out.2) (by omega) r (by omega)
      go_wp2_with fail
      refine HR.out.mono ?_
      rintro e w1 ⟨⟨x, rfl, hx⟩, k1, hw1⟩
      obtain ⟨y, hy, hPy⟩ := pickN x hx 10 (by omega) (by omega)
      have HPy : Hid (∀ w, Calls Try.prog 20 #[.int .i64 x, .int .i64 10] w fun e w' => e = .returned (.int .i64 (y : Nat)) ∧ w' = w) := hPy
      have HB1 : Hid (Below w.heap.size w w1) := by rw [hw1]; exact ⟨HG.out.2.os, HG.out.2.tape, HG.out.2.output, HG.out.2.size, HG.out.2.block⟩
      clear hw1 hPy hx HR
      go_wp2_with fail
      refine (HPy.out _).mono ?_
      rintro e w' ⟨rfl, hw⟩
      have hw := hw.symm
      subst hw
      go_wp2_with fail
      refine (dec_any hy w1).mono ?_
      rintro e w2 ⟨s, rfl, hs1, hsb, hb2⟩
      have HX : Hid (Txt (T ++ s) (r + 1) (xtn d r y) ∧ Below w.heap.size w w2) := ⟨HG.out.1.more hs1 hsb hy, below_two HB1.out hb2⟩
      have HTs : Hid (T.size = r ∧ s.size = 1) := ⟨HG.out.1.size, hs1⟩
      clear hs1 hsb hb2 hy
      have hcat : T.size + s.size ≤ 100 := by have := HTs.out; omega
      go_wp2
      go_roundw
      case rel => exact ⟨r + 1, T ++ s, _, by omega, rfl, by first | rfl | go_num, HX.out⟩
      case measure => simp [intOf]; omega
    · have hib : ¬ (r : Int) < 12 := by omega
      have hre : r = 12 := by omega
      have hT := HG.out.1
      rw [hre] at hT
      have HT : Hid (Txt T 12 d ∧ Below w.heap.size w wr) := ⟨hT, HG.out.2⟩
      have hok := hT.ok (k := 3) (by omega) (by omega) HSG.out
      obtain ⟨v, hv⟩ : ∃ v, v = sgn 3 12 d := ⟨_, rfl⟩
      rw [← hv] at hok
      have hvx : v ≤ sgx 3 := by rw [hv]; exact sgn_le hT.lt
      obtain ⟨S, hS⟩ : ∃ S, S = sgS v := ⟨_, rfl⟩
      have hv10 : v ≤ 10 := Nat.le_trans hvx (sgx_le _)
      have hS1 : S.size = 1 := by rw [hS]; exact sgS_size hv10
      have hSb : byt S 0 = sgb v := by rw [hS]; exact sgS_at hv10
      have HSg : Hid (∀ w, Calls Try.prog 27 #[.int .i64 3, .string T] w fun e w' => e = .returned (.tuple #[.string S, .int .i64 0]) ∧ Below w.heap.size w w') := fun w => by
        have h := sign_any ((3 : Nat) : Int) (WalkArith.wf_i64 (by omega)) T w (by rw [hT.size]; omega)
        rw [hok.1, hok.2, ← hS] at h
        exact h
      have hW := hT.word (k := 3) hS1 hSb hvx
      obtain ⟨D, hD⟩ : ∃ D, D = xtn d 12 v := ⟨_, rfl⟩
      have hck : ckk 3 (12 + 1) D = true := by rw [hD, hv]; exact ckk_self HSG.out hT.lt
      rw [← hD] at hW
      obtain ⟨A, hAe⟩ : ∃ A, A = T ++ S := ⟨_, rfl⟩
      rw [← hAe] at hW
      have hRt : ∀ (X : ByteArray) (E : Nat → Nat), Wrd2 3 X 12 E → ∀ w, Calls Try.prog 28 #[.int .i64 3, .string X] w fun e w' => e = .returned (.tuple #[.bool (ckk 3 (12 + 1) E), .int .i64 0]) ∧ Below w.heap.size w w' := fun X E hX w => by
        have h := right_any ((3 : Nat) : Int) (WalkArith.wf_i64 (by omega)) X w (by rw [hX.size]; omega)
        have h2 := hX.right (by omega) (by omega) HSG.out
        rw [h2.1, h2.2] at h
        exact h
      have HRt : Hid (∀ (X : ByteArray) (E : Nat → Nat), Wrd2 3 X 12 E → ∀ w, Calls Try.prog 28 #[.int .i64 3, .string X] w fun e w' => e = .returned (.tuple #[.bool (ckk 3 (12 + 1) E), .int .i64 0]) ∧ Below w.heap.size w w') := hRt
      have HR1 : Hid (∀ w, Calls Try.prog 28 #[.int .i64 3, .string A] w fun e w' => e = .returned (.tuple #[.bool true, .int .i64 0]) ∧ Below w.heap.size w w') := fun w => by
        have h := hRt A D hW w
        rw [hck] at h; exact h
      have HW : Hid (Wrd2 3 A 12 D ∧ ckk 3 (12 + 1) D = true ∧ A = T ++ S) := ⟨hW, hck, hAe⟩
      have hS1i : ((S.size : Int) != 1) = false := by rw [hS1]; rfl
      have HTs : Hid (T.size = 12 ∧ S.size = 1) := ⟨hT.size, hS1⟩
      have hcat : T.size + S.size ≤ 100 := by have := HTs.out; omega
      obtain ⟨a, haN, hPa⟩ := pickN a0 HF.out.2.1 12 (by omega) (by omega)
      have HPa : Hid (∀ w, Calls Try.prog 20 #[.int .i64 a0, .int .i64 12] w fun e w' => e = .returned (.int .i64 (a : Nat)) ∧ w' = w) := hPa
      obtain ⟨b, hb9, hPb⟩ := pickN b0 HF.out.2.2 9 (by omega) (by omega)
      have HPb : Hid (∀ w, Calls Try.prog 20 #[.int .i64 b0, .int .i64 9] w fun e w' => e = .returned (.int .i64 (b : Nat)) ∧ w' = w) := hPb
      clear hT hok hv hvx hS hv10 hS1 hSb hW hD hck hRt hPa hPb hre
      go_wp2_with fail
      refine (HSg.out _).mono ?_
      rintro e w1 ⟨rfl, hb1⟩
      have HB1 : Hid (Below w.heap.size w w1) := below_two HT.out.2 hb1
      clear hb1
      go_wp2_with fail
      rw [← hAe]
      clear hAe
      refine (HR1.out _).mono ?_
      rintro e w2 ⟨rfl, hb2⟩
      have HB2 : Hid (Below w.heap.size w w2) := below_two HB1.out hb2
      clear hb2
      go_wp2_with fail
      refine (HPa.out _).mono ?_
      rintro e w' ⟨rfl, hw⟩
      have hw := hw.symm
      subst hw
      have hAs : A.size = 12 + 1 := HW.out.1.size
      have haA : a < A.size := by omega
      have hab := byt_at A a haA
      have hDa := HW.out.1.at' a haN
      have hDl := HW.out.1.lt a haN
      obtain ⟨x, hx⟩ : ∃ x, x = D a := ⟨_, rfl⟩
      rw [← hx] at hDa hDl
      have wu : IntKind.u8.wrap (((A[a]'haA).toNat : Int) - 48) = (x : Int) := by rw [show ((A[a]'haA).toNat : Int) - 48 = (x : Int) by omega]; exact u8_ten x hDl
      obtain ⟨x1, hx1⟩ : ∃ x1, x1 = x + 1 := ⟨_, rfl⟩
      have wx1 : IntKind.i64.wrap ((x : Int) + 1) = (x1 : Int) := wrpT (by omega) (by omega)
      obtain ⟨x2, hx2⟩ : ∃ x2, x2 = x1 + b := ⟨_, rfl⟩
      have wx2 : IntKind.i64.wrap ((x1 : Int) + (b : Int)) = (x2 : Int) := wrpT (by omega) (by omega)
      obtain ⟨y, hy⟩ : ∃ y, y = x2 % 10 := ⟨_, rfl⟩
      have wy : Int.tmod (x2 : Int) 10 = (y : Int) := by rw [hy]; rfl
      have hy10 : y < 10 := by omega
      have hyx : y ≠ x := by omega
      have hai : (a : Int) < (A.size : Int) := by omega
      have hai0 : (0 : Int) ≤ (a : Int) := by omega
      have HXY : Hid (x = D a ∧ y ≠ x) := ⟨hx, hyx⟩
      have HAs : Hid (A.size = 12 + 1) := hAs
      clear hx hx1 hx2 hy hyx hab hDa hAs
      go_wp2
      refine quiet_tail 10 (by kernel_rfl) (by kernel_rfl) ?_
      simp only [List.take_succ_cons, List.take_zero, List.drop_succ_cons, List.drop_zero]
      repeat (go_big_quiet_step ((go_at_call 20; exact Calls.quiet_of_same (HPb.out _))))
      refine wpQuiet_nil ?_
      intro _ hw'
      obtain ⟨nq, hw''⟩ := hw'
      subst hw''
      go_wp2_with fail
      refine (dec_any hy10 _).mono ?_
      rintro e w3 ⟨dd, rfl, hd1, hdb, hb3⟩
      have hbc : Below w.heap.size w w3 := by
        have h0 : Below w.heap.size w (w2.drewN nq) := ⟨HB2.out.os, HB2.out.tape, HB2.out.output, HB2.out.size, HB2.out.block⟩
        exact below_two h0 hb3
      obtain ⟨a1, ha1⟩ : ∃ a1, a1 = a + 1 := ⟨_, rfl⟩
      have wa1 : IntKind.i64.wrap ((a : Int) + 1) = (a1 : Int) := wrpT (by omega) (by omega)
      have HX1 : Hid (∀ wx, Below w.heap.size w wx → Calls Try.prog 28 #[.int .i64 3, .string ((A.extract 0 a ++ dd) ++ A.extract a1 A.size)] wx fun e w' => e = .returned (.tuple #[.bool false, .int .i64 0]) ∧ Below w.heap.size w w') := fun wx hwx => by
        have hX := HW.out.1.one haN hd1 hdb hy10
        have h := HRt.out _ _ hX wx
        have hf : ckk 3 (12 + 1) (fun j => if j = a then y else D j) = false := by
          refine ckk_one HSG.out (a := a) ⟨by omega, ?_, HW.out.1.lt a haN, ?_, fun j hj hja => ?_⟩ (fun j hj => ?_) HW.out.2.1
          · show D a ≠ if a = a then y else D a
            rw [if_pos rfl, ← HXY.out.1]; exact fun e => HXY.out.2 e.symm
          · show (if a = a then y else D a) < 10
            rw [if_pos rfl]; exact hy10
          · show D j = if j = a then y else D j
            rw [if_neg hja]
          · by_cases c : j = 12
            · rw [c]; exact HW.out.1.le
            · have h9 := sgx_nine 3
              have := HW.out.1.lt j (by omega)
              omega
        rw [hf, ← ha1] at h
        exact h.mono fun e w' he => ⟨he.1, below_two hwx he.2⟩
      have HA1 : Hid (a1 = a + 1 ∧ dd.size = 1) := ⟨ha1, hd1⟩
      have hz1 : (A.extract 0 a).size + dd.size ≤ 100 := by rw [ByteArray.size_extract, hd1]; omega
      have hz2 : (A.extract 0 a ++ dd).size + (A.extract a1 A.size).size ≤ 200 := by have := HAs.out; rw [ByteArray.size_append, ByteArray.size_extract, ByteArray.size_extract, hd1]; omega
      have hq1 : a + dd.size ≤ 100 := by omega
      have hq2 : a + dd.size + (A.size - a1) ≤ 200 := by have := HAs.out; omega
      have hq3 : min a A.size + dd.size ≤ 100 := by omega
      have hq4 : min a A.size + dd.size + (A.size - a1) ≤ 200 := by have := HAs.out; omega
      have hm1 : min a A.size = a := by omega
      have hn1 : ¬ 9223372036854775807 < a + dd.size := by omega
      have hn2 : ¬ 9223372036854775807 < min a A.size + dd.size := by omega
      have hn3 : ¬ 9223372036854775807 < (A.extract 0 a).size + dd.size := by omega
      have hn4 : ¬ 9223372036854775807 < a + dd.size + (A.size - a1) := by omega
      have hn5 : ¬ 9223372036854775807 < min a A.size + dd.size + (A.size - a1) := by omega
      have hn6 : ¬ 9223372036854775807 < (A.extract 0 a).size + dd.size + (A.extract a1 A.size).size := by rw [ByteArray.size_append] at hz2; omega
      have ha1s : a1 ≤ A.size := by omega
      have ha1i : (a1 : Int) ≤ (A.size : Int) := by omega
      have hai2 : (a : Int) ≤ (A.size : Int) := by omega
      have has2 : a ≤ A.size := by omega
      have HB3 : Hid (w.heap.size ≤ w.heap.size) := Nat.le_refl _
      clear hb3 hd1 hdb ha1
      go_wp2
      refine wp_region_noPanic ?_
      go_region_held3 (fun _ => True) (exact True.intro)
        (first
          | (go_at_call 28; refine (HX1.out _ (by first | exact hbc | exact hbc.drew | exact hbc.drew.drew)).mono ?_; rintro e w4 ⟨rfl, hb4⟩)
          | fail)
      refine NoPanic.normal ?_
      have HB4 : Hid (Below w.heap.size w w4) := hb4
      clear hb4 hbc hz1 hz2 hq1 hq2 hq3 hq4 hn1 hn2 hn3 hn4 hn5 hn6 wu wx1 wx2 wy
      go_wp2
      go_big_quiet (fail)
      go_wp2
      go_ret
      exact ⟨rfl, ⟨HB4.out.os, HB4.out.tape, HB4.out.output, HB4.out.size, HB4.out.block⟩⟩

end Go.Proofs.Ytonjkpakbmbafaa
