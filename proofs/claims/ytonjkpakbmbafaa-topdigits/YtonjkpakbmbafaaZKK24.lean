/- TopDigits: one digit wrong shows; two neighbours that change places show. -/
import Derived.Test.YtonjkpakbmbafaaZKK23
import Derived.Test.YtonjkpakbmbafaaZL10
import Derived.Deep.RegionHeld3
namespace Go.Proofs.Ytonjkpakbmbafaa
open Go.RowKit Go.Maps

theorem pickN (x : Int) (hx : I64 x) (n : Nat) (h : 0 < n) (h2 : n ≤ 1000000) : ∃ p : Nat, p < n ∧ ∀ w, Calls Try.prog 20 #[.int .i64 x, .int .i64 (n : Nat)] w fun e w' => e = .returned (.int .i64 (p : Nat)) ∧ w' = w := by
  have h1 := pick_lo x (n : Int) (by omega)
  have h3 := pick_hi x (n : Int) (by omega)
  obtain ⟨p, hp⟩ : ∃ p : Nat, pick x (n : Int) = (p : Int) := ⟨(pick x (n : Int)).toNat, by omega⟩
  exact ⟨p, by omega, fun w => by rw [← hp]; exact pick_any x n w hx.1 hx.2 (by omega) (by omega)⟩
theorem Txt.more {T s : ByteArray} {r y : Nat} {d : Nat → Nat} (h : Txt T r d) (hs : s.size = 1) (hb : byt s 0 = 48 + y) (hy : y < 10) : Txt (T ++ s) (r + 1) (xtn d r y) := by
  refine ⟨by rw [ByteArray.size_append, h.size, hs], fun j hj => ?_, fun j hj => ?_⟩
  · rw [byt_app _ _ _ (by rw [h.size, hs]; exact hj), h.size]
    by_cases e : j < r
    · rw [if_pos e, xtn_lt e]; exact h.at' j e
    · have : j = r := by omega
      subst this
      rw [if_neg e, Nat.sub_self, hb, xtn_at]
  · by_cases e : j < r
    · rw [xtn_lt e]; exact h.lt j e
    · have : j = r := by omega
      subst this
      rw [xtn_at]; exact hy
theorem Txt.word {k : Nat} {T S : ByteArray} {n v : Nat} {d : Nat → Nat} (h : Txt T n d) (hs : S.size = 1) (hb : byt S 0 = sgb v) (hv : v ≤ sgx k) : Wrd2 k (T ++ S) n (xtn d n v) := by
  refine ⟨by rw [ByteArray.size_append, h.size, hs], fun j hj => ?_, fun j hj => ?_, ?_, ?_⟩
  · rw [byt_app _ _ _ (by rw [h.size, hs]; omega), h.size, if_pos hj, xtn_lt hj]; exact h.at' j hj
  · rw [xtn_lt hj]; exact h.lt j hj
  · rw [byt_app _ _ _ (by rw [h.size, hs]; omega), h.size, if_neg (by omega), Nat.sub_self, hb, xtn_at]
  · rw [xtn_at]; exact hv
/-- One digit another one. -/
theorem Wrd2.one {k : Nat} {A s : ByteArray} {n a y : Nat} {D : Nat → Nat} (h : Wrd2 k A n D) (ha : a < n) (hs : s.size = 1) (hb : byt s 0 = 48 + y) (hy : y < 10) :
    Wrd2 k ((A.extract 0 a ++ s) ++ A.extract (a + 1) A.size) n (fun j => if j = a then y else D j) := by
  have hA := h.size
  have e1 : (A.extract 0 a).size = a := by rw [ByteArray.size_extract]; omega
  have e2 : (A.extract (a + 1) A.size).size = n - a := by rw [ByteArray.size_extract]; omega
  have e3 : (A.extract 0 a ++ s).size = a + 1 := by rw [ByteArray.size_append, e1, hs]
  have hbt : ∀ j, j ≤ n → byt ((A.extract 0 a ++ s) ++ A.extract (a + 1) A.size) j = if j = a then 48 + y else byt A j := by
    intro j hj
    rw [byt_app _ _ _ (by rw [e3, e2]; omega), e3]
    by_cases c1 : j < a + 1
    · rw [if_pos c1, byt_app _ _ _ (by rw [e1, hs]; omega), e1]
      by_cases c2 : j < a
      · rw [if_pos c2, if_neg (by omega), byt_sub _ _ _ _ (by omega) (by omega), Nat.zero_add]
      · have : j = a := by omega
        subst this
        rw [if_neg c2, if_pos rfl, Nat.sub_self, hb]
    · rw [if_neg c1, if_neg (by omega), byt_sub _ _ _ _ (by omega) (by omega), show a + 1 + (j - (a + 1)) = j by omega]
  refine ⟨by rw [ByteArray.size_append, e3, e2]; omega, fun j hj => ?_, fun j hj => ?_, ?_, ?_⟩
  · rw [hbt j (by omega)]
    by_cases c : j = a
    · rw [if_pos c, if_pos c]
    · rw [if_neg c, if_neg c]; exact h.at' j hj
  · by_cases c : j = a
    · rw [if_pos c]; exact hy
    · rw [if_neg c]; exact h.lt j hj
  · rw [hbt n (by omega), if_neg (by omega), if_neg (by omega)]; exact h.last
  · rw [if_neg (by omega)]; exact h.le
/-- Two neighbours change places. -/
theorem Wrd2.two {k : Nat} {A : ByteArray} {n a : Nat} {D : Nat → Nat} (h : Wrd2 k A n D) (ha : a < n) (hl : D (a + 1) < 10) (hk : 9 ≤ sgx k) :
    Wrd2 k (((A.extract 0 a ++ A.extract (a + 1) (a + 2)) ++ A.extract a (a + 1)) ++ A.extract (a + 2) A.size) n (swq D a) := by
  have hA := h.size
  have e1 : (A.extract 0 a).size = a := by rw [ByteArray.size_extract]; omega
  have e2 : (A.extract (a + 1) (a + 2)).size = 1 := by rw [ByteArray.size_extract]; omega
  have e3 : (A.extract a (a + 1)).size = 1 := by rw [ByteArray.size_extract]; omega
  have e4 : (A.extract (a + 2) A.size).size = n - (a + 1) := by rw [ByteArray.size_extract]; omega
  have e5 : (A.extract 0 a ++ A.extract (a + 1) (a + 2)).size = a + 1 := by rw [ByteArray.size_append, e1, e2]
  have e6 : ((A.extract 0 a ++ A.extract (a + 1) (a + 2)) ++ A.extract a (a + 1)).size = a + 2 := by rw [ByteArray.size_append, e5, e3]
  have hbt : ∀ j, j ≤ n → byt (((A.extract 0 a ++ A.extract (a + 1) (a + 2)) ++ A.extract a (a + 1)) ++ A.extract (a + 2) A.size) j = if j = a then byt A (a + 1) else if j = a + 1 then byt A a else byt A j := by
    intro j hj
    rw [byt_app _ _ _ (by rw [e6, e4]; omega), e6]
    by_cases c1 : j < a + 2
    · rw [if_pos c1, byt_app _ _ _ (by rw [e5, e3]; omega), e5]
      by_cases c2 : j < a + 1
      · rw [if_pos c2, byt_app _ _ _ (by rw [e1, e2]; omega), e1]
        by_cases c3 : j < a
        · rw [if_pos c3, if_neg (by omega), if_neg (by omega), byt_sub _ _ _ _ (by omega) (by omega), Nat.zero_add]
        · have : j = a := by omega
          subst this
          rw [if_neg c3, if_pos rfl, Nat.sub_self, byt_sub _ _ _ _ (by omega) (by omega), Nat.add_zero]
      · have : j = a + 1 := by omega
        subst this
        rw [if_neg c2, if_neg (by omega), if_pos rfl, Nat.sub_self, byt_sub _ _ _ _ (by omega) (by omega), Nat.add_zero]
    · rw [if_neg c1, if_neg (by omega), if_neg (by omega), byt_sub _ _ _ _ (by omega) (by omega), show a + 2 + (j - (a + 2)) = j by omega]
  have hb1 : byt A (a + 1) = 48 + D (a + 1) := by
    by_cases c : a + 1 < n
    · exact h.at' _ c
    · have : a + 1 = n := by omega
      rw [this] at hl ⊢
      rw [h.last]; unfold sgb; rw [if_pos hl]
  have hsw : ∀ j, j < n + 1 → swq D a j < 10 ∨ j = n ∧ swq D a j = D n := by
    intro j hj
    by_cases c1 : j = a
    · left; rw [c1, swq_a]; exact hl
    by_cases c2 : j = a + 1
    · left; rw [c2, swq_b]; exact h.lt a ha
    rw [swq_o D c1 c2]
    by_cases c3 : j = n
    · right; exact ⟨c3, by rw [c3]⟩
    · left; exact h.lt j (by omega)
  refine ⟨by rw [ByteArray.size_append, e6, e4]; omega, fun j hj => ?_, fun j hj => ?_, ?_, ?_⟩
  · rw [hbt j (by omega)]
    by_cases c1 : j = a
    · rw [if_pos c1, c1, swq_a]; exact hb1
    rw [if_neg c1]
    by_cases c2 : j = a + 1
    · rw [if_pos c2, c2, swq_b]; exact h.at' a ha
    · rw [if_neg c2, swq_o D c1 c2]; exact h.at' j hj
  · rcases hsw j (by omega) with h1 | h1
    · exact h1
    · omega
  · rw [hbt n (by omega), if_neg (by omega)]
    by_cases c2 : n = a + 1
    · rw [if_pos c2, h.at' a ha]
      have : swq D a n = D a := by rw [c2, swq_b]
      rw [this]; unfold sgb; rw [if_pos (h.lt a ha)]
    · rw [if_neg c2, swq_o D (by omega) c2]; exact h.last
  · rcases hsw n (by omega) with h1 | h1
    · omega
    · rw [h1.2]; exact h.le
theorem sgx_nine (k : Nat) : 9 ≤ sgx k := by unfold sgx; split <;> omega
theorem ckk_self {k m : Nat} {d : Nat → Nat} (hm : sgm k m) (hd : ∀ i, i < m → d i < 10) : ckk k (m + 1) (xtn d m (sgn k m d)) = true := (ckk_iff hm (sgn_le hd) hd).2 rfl

set_option maxHeartbeats 16000000 in
set_option maxRecDepth 100000 in
theorem topDigits_g {k : Nat} (hk : 1 ≤ k) (hk5 : k ≤ 5) (hk2 : ¬ k = 2) (hk3 : ¬ k = 3) {ao : Option Addr} {m ca : Nat} {z : Nat → Int} {k0 n0 a0 b0 : Int} {w : World} (hA : Arg ao m ca z w) (hm : m ≤ 100) (hn0 : I64 n0) (ha0 : I64 a0) (hb0 : I64 b0)
    (HK : Hid (∀ w, Calls Try.prog 20 #[.int .i64 k0, .int .i64 5] w fun e w' => e = .returned (.int .i64 ((k - 1 : Nat) : Int)) ∧ w' = w)) :
    Calls Try.prog 7 #[.int .i64 k0, .slice ao m ca, .int .i64 n0, .int .i64 a0, .int .i64 b0] w fun e w' => e = .returned (.bool true) ∧ Below w.heap.size w w' := by
  have HF : Hid (Arg ao m ca z w ∧ I64 a0 ∧ I64 b0) := ⟨hA, ha0, hb0⟩
  have i100 : ¬ (100 : Int) < (m : Int) := by omega
  obtain ⟨pn, hpn, hPn⟩ := pickN n0 hn0 20 (by omega) (by omega)
  have HPn : Hid (∀ w, Calls Try.prog 20 #[.int .i64 n0, .int .i64 20] w fun e w' => e = .returned (.int .i64 (pn : Nat)) ∧ w' = w) := hPn
  obtain ⟨k1, hk1⟩ : ∃ k1, k1 = k - 1 := ⟨_, rfl⟩
  rw [← hk1] at HK
  have wk : IntKind.i64.wrap (1 + (k1 : Int)) = (k : Int) := wrpT (by omega) (by omega)
  obtain ⟨n, hn⟩ : ∃ n, n = 1 + pn := ⟨_, rfl⟩
  have wn : IntKind.i64.wrap (1 + (pn : Int)) = (n : Int) := wrpT (by omega) (by omega)
  have z2 : ((k : Int) == 2) = false := by rw [beq_eq_false_iff_ne]; omega
  have z3 : ((k : Int) == 3) = false := by rw [beq_eq_false_iff_ne]; omega
  have hn1 : 1 ≤ n := by omega
  have hn20 : n ≤ 20 := by omega
  clear hk1 hn
  have hsg : sgm k n := ⟨by omega, by omega, fun e => absurd e hk2, fun e => absurd e hk3⟩
  have HSG : Hid (sgm k n) := hsg
  clear hA hn0 ha0 hb0 hPn hsg
  go_enter Try.func7, Try.ntmps7
  go_wp2_with fail
  refine (HK.out _).mono ?_
  rintro e w' ⟨rfl, hw⟩
  have hw := hw.symm
  subst hw
  go_wp2_with fail
  refine (HPn.out _).mono ?_
  rintro e w' ⟨rfl, hw⟩
  have hw := hw.symm
  subst hw
  go_wp2
  go_loopw [11, 12] (fun vt vi wr => ∃ (r : Nat) (T : ByteArray) (d : Nat → Nat), r ≤ n ∧ vt = .string T ∧ vi = .int .i64 (r : Nat) ∧ Hid (Txt T r d ∧ Below w.heap.size w wr)) (fun _ vi _ => n - (intOf vi).toNat)
  case atStart => exact ⟨0, ⟨#[]⟩, fun _ => 0, by omega, rfl, rfl, ⟨rfl, fun j hj => absurd hj (by omega), fun j hj => absurd hj (by omega)⟩, Below.refl _ _⟩
  case round =>
    obtain ⟨r, T, d, hr, rfl, rfl, HG⟩ := hrel
    rename World => wr
    by_cases hlt : r < n
    · have hib : (r : Int) < (n : Int) := by omega
      have HR : Hid (Calls Try.prog 34 #[.slice ao m ca, .int .i64 (r : Nat)] wr fun e w' => (∃ x, e = .returned (.int .i64 x) ∧ I64 x) ∧ ∃ k, w' = wr.drewN k) := raw_any (HF.out.1.below HG.out.2) (by omega) r (by omega)
      go_wp2_with fail
      refine HR.out.mono ?_
      rintro e w1 ⟨⟨x, rfl, hx⟩, k1, hw1⟩
      obtain ⟨y, hy, hPy⟩ := pickN x hx 10 (by omega) (by omega)
      have HPy : Hid (∀ w, Calls Try.prog 20 #[.int .i64 x, .int .i64 10] w fun e w' => e = .returned (.int .i64 (y : Nat)) ∧ w' = w) := hPy
      have HB1 : Hid (Below w.heap.size w w1) := by rw [hw1]; exact ⟨HG.out.2.os, HG.out.2.tape, HG.out.2.output, HG.out.2.size, HG.out.2.block⟩
      clear hw1 hPy hx HR
      go_wp2_with fail
      refine (HPy.out _).mono ?_
      rintro e w' ⟨rfl, hw⟩
      have hw := hw.symm
      subst hw
      go_wp2_with fail
      refine (dec_any hy w1).mono ?_
      rintro e w2 ⟨s, rfl, hs1, hsb, hb2⟩
      have HX : Hid (Txt (T ++ s) (r + 1) (xtn d r y) ∧ Below w.heap.size w w2) := ⟨HG.out.1.more hs1 hsb hy, below_two HB1.out hb2⟩
      have HTs : Hid (T.size = r ∧ s.size = 1) := ⟨HG.out.1.size, hs1⟩
      clear hs1 hsb hb2 hy
      have hcat : T.size + s.size ≤ 100 := by have := HTs.out; omega
      go_wp2
      go_roundw
      case rel => exact ⟨r + 1, T ++ s, _, by omega, rfl, by first | rfl | go_num, HX.out⟩
      case measure => simp [intOf]; omega
    · have hib : ¬ (r : Int) < (n : Int) := by omega
      have hre : r = n := by omega
      have hT := HG.out.1
      rw [hre] at hT
      have HT : Hid (Txt T n d ∧ Below w.heap.size w wr) := ⟨hT, HG.out.2⟩
      have hok := hT.ok (k := k) (by omega) (by omega) HSG.out
      obtain ⟨v, hv⟩ : ∃ v, v = sgn k n d := ⟨_, rfl⟩
      rw [← hv] at hok
      have hvx : v ≤ sgx k := by rw [hv]; exact sgn_le hT.lt
      obtain ⟨S, hS⟩ : ∃ S, S = sgS v := ⟨_, rfl⟩
      have hv10 : v ≤ 10 := Nat.le_trans hvx (sgx_le _)
      have hS1 : S.size = 1 := by rw [hS]; exact sgS_size hv10
      have hSb : byt S 0 = sgb v := by rw [hS]; exact sgS_at hv10
      have HSg : Hid (∀ w, Calls Try.prog 27 #[.int .i64 (k : Nat), .string T] w fun e w' => e = .returned (.tuple #[.string S, .int .i64 0]) ∧ Below w.heap.size w w') := fun w => by
        have h := sign_any ((k : Nat) : Int) (WalkArith.wf_i64 (by omega)) T w (by rw [hT.size]; omega)
        rw [hok.1, hok.2, ← hS] at h
        exact h
      have hW := hT.word (k := k) hS1 hSb hvx
      obtain ⟨D, hD⟩ : ∃ D, D = xtn d n v := ⟨_, rfl⟩
      have hck : ckk k (n + 1) D = true := by rw [hD, hv]; exact ckk_self HSG.out hT.lt
      rw [← hD] at hW
      obtain ⟨A, hAe⟩ : ∃ A, A = T ++ S := ⟨_, rfl⟩
      rw [← hAe] at hW
      have hRt : ∀ (X : ByteArray) (E : Nat → Nat), Wrd2 k X n E → ∀ w, Calls Try.prog 28 #[.int .i64 (k : Nat), .string X] w fun e w' => e = .returned (.tuple #[.bool (ckk k (n + 1) E), .int .i64 0]) ∧ Below w.heap.size w w' := fun X E hX w => by
        have h := right_any ((k : Nat) : Int) (WalkArith.wf_i64 (by omega)) X w (by rw [hX.size]; omega)
        have h2 := hX.right (by omega) (by omega) HSG.out
        rw [h2.1, h2.2] at h
        exact h
      have HRt : Hid (∀ (X : ByteArray) (E : Nat → Nat), Wrd2 k X n E → ∀ w, Calls Try.prog 28 #[.int .i64 (k : Nat), .string X] w fun e w' => e = .returned (.tuple #[.bool (ckk k (n + 1) E), .int .i64 0]) ∧ Below w.heap.size w w') := hRt
      have HR1 : Hid (∀ w, Calls Try.prog 28 #[.int .i64 (k : Nat), .string A] w fun e w' => e = .returned (.tuple #[.bool true, .int .i64 0]) ∧ Below w.heap.size w w') := fun w => by
        have h := hRt A D hW w
        rw [hck] at h; exact h
      have HW : Hid (Wrd2 k A n D ∧ ckk k (n + 1) D = true ∧ A = T ++ S) := ⟨hW, hck, hAe⟩
      have hS1i : ((S.size : Int) != 1) = false := by rw [hS1]; rfl
      have HTs : Hid (T.size = n ∧ S.size = 1) := ⟨hT.size, hS1⟩
      have hcat : T.size + S.size ≤ 100 := by have := HTs.out; omega
      obtain ⟨a, haN, hPa⟩ := pickN a0 HF.out.2.1 n (by omega) (by omega)
      have HPa : Hid (∀ w, Calls Try.prog 20 #[.int .i64 a0, .int .i64 (n : Int)] w fun e w' => e = .returned (.int .i64 (a : Nat)) ∧ w' = w) := hPa
      obtain ⟨b, hb9, hPb⟩ := pickN b0 HF.out.2.2 9 (by omega) (by omega)
      have HPb : Hid (∀ w, Calls Try.prog 20 #[.int .i64 b0, .int .i64 9] w fun e w' => e = .returned (.int .i64 (b : Nat)) ∧ w' = w) := hPb
      clear hT hok hv hvx hS hv10 hS1 hSb hW hD hck hRt hPa hPb hre
      go_wp2_with fail
      refine (HSg.out _).mono ?_
      rintro e w1 ⟨rfl, hb1⟩
      have HB1 : Hid (Below w.heap.size w w1) := below_two HT.out.2 hb1
      clear hb1
      go_wp2_with fail
      rw [← hAe]
      clear hAe
      refine (HR1.out _).mono ?_
      rintro e w2 ⟨rfl, hb2⟩
      have HB2 : Hid (Below w.heap.size w w2) := below_two HB1.out hb2
      clear hb2
      go_wp2_with fail
      refine (HPa.out _).mono ?_
      rintro e w' ⟨rfl, hw⟩
      have hw := hw.symm
      subst hw
      have hAs : A.size = n + 1 := HW.out.1.size
      have haA : a < A.size := by omega
      have hab := byt_at A a haA
      have hDa := HW.out.1.at' a haN
      have hDl := HW.out.1.lt a haN
      obtain ⟨x, hx⟩ : ∃ x, x = D a := ⟨_, rfl⟩
      rw [← hx] at hDa hDl
      have wu : IntKind.u8.wrap (((A[a]'haA).toNat : Int) - 48) = (x : Int) := by rw [show ((A[a]'haA).toNat : Int) - 48 = (x : Int) by omega]; exact u8_ten x hDl
      obtain ⟨x1, hx1⟩ : ∃ x1, x1 = x + 1 := ⟨_, rfl⟩
      have wx1 : IntKind.i64.wrap ((x : Int) + 1) = (x1 : Int) := wrpT (by omega) (by omega)
      obtain ⟨x2, hx2⟩ : ∃ x2, x2 = x1 + b := ⟨_, rfl⟩
      have wx2 : IntKind.i64.wrap ((x1 : Int) + (b : Int)) = (x2 : Int) := wrpT (by omega) (by omega)
      obtain ⟨y, hy⟩ : ∃ y, y = x2 % 10 := ⟨_, rfl⟩
      have wy : Int.tmod (x2 : Int) 10 = (y : Int) := by rw [hy]; rfl
      have hy10 : y < 10 := by omega
      have hyx : y ≠ x := by omega
      have hai : (a : Int) < (A.size : Int) := by omega
      have hai0 : (0 : Int) ≤ (a : Int) := by omega
      have HXY : Hid (x = D a ∧ y ≠ x) := ⟨hx, hyx⟩
      have HAs : Hid (A.size = n + 1) := hAs
      clear hx hx1 hx2 hy hyx hab hDa hAs
      go_wp2
      refine quiet_tail 10 (by kernel_rfl) (by kernel_rfl) ?_
      simp only [List.take_succ_cons, List.take_zero, List.drop_succ_cons, List.drop_zero]
      repeat (go_big_quiet_step ((go_at_call 20; exact Calls.quiet_of_same (HPb.out _))))
      refine wpQuiet_nil ?_
      intro _ hw'
      obtain ⟨nq, hw''⟩ := hw'
      subst hw''
      go_wp2_with fail
      refine (dec_any hy10 _).mono ?_
      rintro e w3 ⟨dd, rfl, hd1, hdb, hb3⟩
      have hbc : Below w.heap.size w w3 := by
        have h0 : Below w.heap.size w (w2.drewN nq) := ⟨HB2.out.os, HB2.out.tape, HB2.out.output, HB2.out.size, HB2.out.block⟩
        exact below_two h0 hb3
      obtain ⟨a1, ha1⟩ : ∃ a1, a1 = a + 1 := ⟨_, rfl⟩
      have wa1 : IntKind.i64.wrap ((a : Int) + 1) = (a1 : Int) := wrpT (by omega) (by omega)
      have HX1 : Hid (∀ wx, Below w.heap.size w wx → Calls Try.prog 28 #[.int .i64 (k : Nat), .string ((A.extract 0 a ++ dd) ++ A.extract a1 A.size)] wx fun e w' => e = .returned (.tuple #[.bool false, .int .i64 0]) ∧ Below w.heap.size w w') := fun wx hwx => by
        have hX := HW.out.1.one haN hd1 hdb hy10
        have h := HRt.out _ _ hX wx
        have hf : ckk k (n + 1) (fun j => if j = a then y else D j) = false := by
          refine ckk_one HSG.out (a := a) ⟨by omega, ?_, HW.out.1.lt a haN, ?_, fun j hj hja => ?_⟩ (fun j hj => ?_) HW.out.2.1
          · show D a ≠ if a = a then y else D a
            rw [if_pos rfl, ← HXY.out.1]; exact fun e => HXY.out.2 e.symm
          · show (if a = a then y else D a) < 10
            rw [if_pos rfl]; exact hy10
          · show D j = if j = a then y else D j
            rw [if_neg hja]
          · by_cases c : j = n
            · rw [c]; exact HW.out.1.le
            · have h9 := sgx_nine k
              have := HW.out.1.lt j (by omega)
              omega
        rw [hf, ← ha1] at h
        exact h.mono fun e w' he => ⟨he.1, below_two hwx he.2⟩
      have HA1 : Hid (a1 = a + 1 ∧ dd.size = 1) := ⟨ha1, hd1⟩
      have hz1 : (A.extract 0 a).size + dd.size ≤ 100 := by rw [ByteArray.size_extract, hd1]; omega
      have hz2 : (A.extract 0 a ++ dd).size + (A.extract a1 A.size).size ≤ 200 := by have := HAs.out; rw [ByteArray.size_append, ByteArray.size_extract, ByteArray.size_extract, hd1]; omega
      have hq1 : a + dd.size ≤ 100 := by omega
      have hq2 : a + dd.size + (A.size - a1) ≤ 200 := by have := HAs.out; omega
      have hq3 : min a A.size + dd.size ≤ 100 := by omega
      have hq4 : min a A.size + dd.size + (A.size - a1) ≤ 200 := by have := HAs.out; omega
      have hm1 : min a A.size = a := by omega
      have hn1 : ¬ 9223372036854775807 < a + dd.size := by omega
      have hn2 : ¬ 9223372036854775807 < min a A.size + dd.size := by omega
      have hn3 : ¬ 9223372036854775807 < (A.extract 0 a).size + dd.size := by omega
      have hn4 : ¬ 9223372036854775807 < a + dd.size + (A.size - a1) := by omega
      have hn5 : ¬ 9223372036854775807 < min a A.size + dd.size + (A.size - a1) := by omega
      have hn6 : ¬ 9223372036854775807 < (A.extract 0 a).size + dd.size + (A.extract a1 A.size).size := by rw [ByteArray.size_append] at hz2; omega
      have ha1s : a1 ≤ A.size := by omega
      have ha1i : (a1 : Int) ≤ (A.size : Int) := by omega
      have hai2 : (a : Int) ≤ (A.size : Int) := by omega
      have has2 : a ≤ A.size := by omega
      have HB3 : Hid (w.heap.size ≤ w.heap.size) := Nat.le_refl _
      clear hb3 hd1 hdb ha1
      go_wp2
      refine wp_region_noPanic ?_
      go_region_held3 (fun _ => True) (exact True.intro)
        (first
          | (go_at_call 28; refine (HX1.out _ (by first | exact hbc | exact hbc.drew | exact hbc.drew.drew)).mono ?_; rintro e w4 ⟨rfl, hb4⟩)
          | fail)
      refine NoPanic.normal ?_
      have HB4 : Hid (Below w.heap.size w w4) := hb4
      clear hb4 hbc hz1 hz2 hq1 hq2 hq3 hq4 hn1 hn2 hn3 hn4 hn5 hn6 wu wx1 wx2 wy
      by_cases hk1 : k = 1
      · have z1 : ((k : Int) == 1) = true := by rw [hk1]; rfl
        clear hk1
        go_wp2
        go_big_quiet (fail)
        go_wp2
        go_ret
        exact ⟨rfl, ⟨HB4.out.os, HB4.out.tape, HB4.out.output, HB4.out.size, HB4.out.block⟩⟩
      have z1 : ((k : Int) == 1) = false := by rw [beq_eq_false_iff_ne]; omega
      have hk45 : k = 2 ∨ k = 4 ∨ 5 ≤ k := by omega
      have ha1A : a1 < A.size := by have := HAs.out; have := HA1.out.1; omega
      have ha1j : (a1 : Int) < (A.size : Int) := by omega
      have ha1j0 : (0 : Int) ≤ (a1 : Int) := by omega
      have hb1 := byt_at A a haA
      have hb2 := byt_at A a1 ha1A
      obtain ⟨u, hu⟩ : ∃ u, u = (A[a]'haA).toNat := ⟨_, rfl⟩
      obtain ⟨t, ht⟩ : ∃ t, t = (A[a1]'ha1A).toNat := ⟨_, rfl⟩
      have HU : Hid (byt A a = u ∧ byt A a1 = t) := ⟨by rw [hu]; exact hb1.symm, by rw [ht]; exact hb2.symm⟩
      clear hb1 hb2
      by_cases c1 : u = t
      · have g1 : (((A[a]'haA).toNat : Int) == ((A[a1]'ha1A).toNat : Int)) = true := by rw [← hu, ← ht, c1]; exact beq_self_eq_true _
        have g2 : ((A[a]'haA).toNat == (A[a1]'ha1A).toNat) = true := by rw [← hu, ← ht, c1]; exact beq_self_eq_true _
        have g3 : (A[a]'haA).toNat = (A[a1]'ha1A).toNat := by rw [← hu, ← ht, c1]
        clear c1 hu ht
        go_wp2
        go_big_quiet (fail)
        go_wp2
        go_ret
        exact ⟨rfl, ⟨HB4.out.os, HB4.out.tape, HB4.out.output, HB4.out.size, HB4.out.block⟩⟩
      have g1 : (((A[a]'haA).toNat : Int) == ((A[a1]'ha1A).toNat : Int)) = false := by rw [← hu, ← ht, beq_eq_false_iff_ne]; omega
      have g2 : ((A[a]'haA).toNat == (A[a1]'ha1A).toNat) = false := by rw [← hu, ← ht, beq_eq_false_iff_ne]; exact c1
      have g3 : ¬ (A[a]'haA).toNat = (A[a1]'ha1A).toNat := by rw [← hu, ← ht]; exact c1
      by_cases c2 : t = 88
      · have g4 : (((A[a1]'ha1A).toNat : Int) == 88) = true := by rw [← ht, c2]; rfl
        clear c1 c2 hu ht
        go_wp2
        go_big_quiet (fail)
        go_wp2
        go_ret
        exact ⟨rfl, ⟨HB4.out.os, HB4.out.tape, HB4.out.output, HB4.out.size, HB4.out.block⟩⟩
      have g4 : (((A[a1]'ha1A).toNat : Int) == 88) = false := by rw [← ht, beq_eq_false_iff_ne]; omega
      have g5 : ¬ (A[a1]'ha1A).toNat = 88 := by rw [← ht]; exact c2
      have hD1 : D (a + 1) < 10 ∧ D a ≠ D (a + 1) := by
        have h1 := HW.out.1.at' a haN
        have h2 := HU.out
        have h3 := HA1.out.1
        rw [h3] at h2
        by_cases e : a + 1 < n
        · have h4 := HW.out.1.at' (a + 1) e
          exact ⟨HW.out.1.lt _ e, fun e2 => c1 (by rw [← h2.1, ← h2.2, h1, h4, e2])⟩
        · have e3 : a + 1 = n := by omega
          have h4 := HW.out.1.last
          rw [← e3] at h4
          rw [h4] at h2
          unfold sgb at h2
          by_cases e4 : D (a + 1) < 10
          · rw [if_pos e4] at h2
            exact ⟨e4, fun e2 => c1 (by rw [← h2.1, ← h2.2, h1, e2])⟩
          · rw [if_neg e4] at h2
            exact absurd h2.2.symm c2
      have HX2 : Hid (∀ a2, a2 = a1 + 1 → ∀ wx, Below w.heap.size w wx → Calls Try.prog 28 #[.int .i64 (k : Nat), .string (((A.extract 0 a ++ A.extract a1 a2) ++ A.extract a a1) ++ A.extract a2 A.size)] wx fun e w' => e = .returned (.tuple #[.bool false, .int .i64 0]) ∧ Below w.heap.size w w') := fun a2 ha2 wx hwx => by
        have hX := HW.out.1.two haN hD1.1 (sgx_nine k)
        have h := HRt.out _ _ hX wx
        have hf : ckk k (n + 1) (swq D a) = false := by
          refine ckk_two hk45 (by omega) hD1.2 (HW.out.1.lt a haN) hD1.1 (fun j hj => ?_) HW.out.2.1
          by_cases c : j = n
          · rw [c]; exact HW.out.1.le
          · have h9 := sgx_nine k
            have := HW.out.1.lt j (by omega)
            omega
        rw [hf] at h
        have e1 : a + 1 = a1 := HA1.out.1.symm
        have e2 : a + 2 = a2 := by rw [ha2, ← e1]
        rw [e1, e2] at h
        exact h.mono fun e w' he => ⟨he.1, below_two hwx he.2⟩
      obtain ⟨a2, ha2⟩ : ∃ a2, a2 = a1 + 1 := ⟨_, rfl⟩
      have HX3 : Hid (∀ wx, Below w.heap.size w wx → Calls Try.prog 28 #[.int .i64 (k : Nat), .string (((A.extract 0 a ++ A.extract a1 a2) ++ A.extract a a1) ++ A.extract a2 A.size)] wx fun e w' => e = .returned (.tuple #[.bool false, .int .i64 0]) ∧ Below w.heap.size w w') := HX2.out a2 ha2
      have wa2 : IntKind.i64.wrap ((a : Int) + 2) = (a2 : Int) := wrpT (by have := HA1.out.1; omega) (by have := HA1.out.1; omega)
      have q1 : (a1 : Int) ≤ (a2 : Int) := by omega
      have q2 : (a2 : Int) ≤ (A.size : Int) := by omega
      have q3 : (a : Int) ≤ (a1 : Int) := by have := HA1.out.1; omega
      have q4 : a2 ≤ A.size := by omega
      have q5 : a1 ≤ a2 := by omega
      have q6 : a ≤ a1 := by have := HA1.out.1; omega
      have hm1 : min a A.size = a := by omega
      have hm2 : min a2 A.size = a2 := by omega
      have hm3 : min a1 A.size = a1 := by omega
      have hA30 : A.size ≤ 100 := by have := HAs.out; omega
      have hn1 : ¬ 9223372036854775807 < a + (a2 - a1) := by omega
      have hn2 : ¬ 9223372036854775807 < a + (a2 - a1) + (a1 - a) := by omega
      have hn3 : ¬ 9223372036854775807 < a + (a2 - a1) + (a1 - a) + (A.size - a2) := by omega
      have hn4 : ¬ 9223372036854775807 < (A.extract 0 a).size + (A.extract a1 a2).size := by rw [ByteArray.size_extract, ByteArray.size_extract]; omega
      have hn5 : ¬ 9223372036854775807 < (A.extract 0 a).size + (A.extract a1 a2).size + (A.extract a a1).size := by rw [ByteArray.size_extract, ByteArray.size_extract, ByteArray.size_extract]; omega
      have hn6 : ¬ 9223372036854775807 < (A.extract 0 a).size + (A.extract a1 a2).size + (A.extract a a1).size + (A.extract a2 A.size).size := by rw [ByteArray.size_extract, ByteArray.size_extract, ByteArray.size_extract, ByteArray.size_extract]; omega
      clear c1 c2 hu ht ha2 hD1
      go_wp2
      go_big_quiet (fail)
      have hbc : Below w.heap.size w (w4.drewN nq) := ⟨HB4.out.os, HB4.out.tape, HB4.out.output, HB4.out.size, HB4.out.block⟩
      go_wp2
      refine wp_region_noPanic ?_
      go_region_held3 (fun _ => True) (exact True.intro)
        (first
          | (go_at_call 28; refine (HX3.out _ (by first | exact hbc | exact hbc.drew | exact hbc.drew.drew)).mono ?_; rintro e w5 ⟨rfl, hb5⟩)
          | fail)
      refine NoPanic.normal ?_
      go_wp2
      go_ret
      exact ⟨rfl, hb5⟩

end Go.Proofs.Ytonjkpakbmbafaa
