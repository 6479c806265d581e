/- PolySays: where both may be. -/
import Derived.Test.YtmnkablobhdbjaaZL6
import Derived.Test.YtmnkablobhdbjaaZL8
namespace Go.Proofs.Ytmnkablobhdbjaa
open Go.RowKit Go.Sort

/-- How long a product is. -/
theorem pmul_len {D : FD} (hD : D ∈ fieldsL) {a b : Nat → Nat} {n m : Nat} (ha : El D a) (hb : El D b) (hn : Bd n a) (hm : Bd m b) :
    dgn (pmul D n a b) (n + m) = if dgn a n = 0 ∨ dgn b m = 0 then 0 else dgn a n + dgn b m - 1 := by
  have F := fld hD
  have na := dgn_le a n
  have nb := dgn_le b m
  by_cases h1 : dgn a n = 0
  · rw [if_pos (Or.inl h1)]
    have h0 : Bd 0 a := by have := dgn_bd hn; rwa [h1] at this
    rw [pmul_zeros F b h0 n, dgn_from (c := pnil) (n := 0) (fun _ _ => rfl) (Nat.zero_le _)]; rfl
  · by_cases h2 : dgn b m = 0
    · rw [if_pos (Or.inr h2)]
      have h0 : Bd 0 b := by have := dgn_bd hm; rwa [h2] at this
      rw [pmul_comm F ha hb hn hm, pmul_zeros F a h0 m, dgn_from (c := pnil) (n := 0) (fun _ _ => rfl) (Nat.zero_le _)]; rfl
    · rw [if_neg (by omega)]
      obtain ⟨s, hs⟩ : ∃ s, dgn a n = s + 1 := ⟨dgn a n - 1, by omega⟩
      obtain ⟨t, ht⟩ : ∃ t, dgn b m = t + 1 := ⟨dgn b m - 1, by omega⟩
      have hsb : Bd (s + 1) a := by have := dgn_bd hn; rwa [hs] at this
      have htb : Bd (t + 1) b := by have := dgn_bd hm; rwa [ht] at this
      have hst : a s ≠ 0 := by have := dgn_top a n h1; rwa [hs, Nat.add_sub_cancel] at this
      have htt : b t ≠ 0 := by have := dgn_top b m h2; rwa [ht, Nat.add_sub_cancel] at this
      rw [pmul_to F b hsb (by omega), hs, ht]
      refine Trd.dgn (n := s + 1 + (t + 1) - 1) ⟨pmul_bd F htb (s + 1), fun _ => ?_⟩ (by omega)
      rw [show s + 1 + (t + 1) - 1 - 1 = s + t from by omega, pmul_top F htb]
      exact mul_ne hD (ha s) (hb t) hst htt
theorem pmul_dgn {D : FD} (hD : D ∈ fieldsL) {a b : Nat → Nat} {n m : Nat} (hn : Bd n a) (hm : Bd m b) : dgn (pmul D n a b) (dgn a n + dgn b m) = dgn (pmul D n a b) (n + m) := by
  have F := fld hD
  have na := dgn_le a n
  have nb := dgn_le b m
  refine (dgn_from ?_ (by omega)).symm
  rw [pmul_to F b (dgn_bd hn) na]
  exact (pmul_bd F (dgn_bd hm) (dgn a n)).mono (by omega)

theorem gcd_len (D : FD) (N : Nat) : ∀ (k : Nat) (a : Nat → Nat) (n : Nat) (b : Nat → Nat) (m : Nat), n ≤ N → m ≤ N → (D.gcd k a n b m).2 ≤ N
  | 0, a, n, b, m, h, _ => h
  | k + 1, a, n, b, m, h, hm => by
    rw [FD.gcd]
    split
    · exact h
    · exact gcd_len D N k _ _ _ _ hm (Nat.le_trans (dgn_le _ _) h)
theorem gcdL_len {D : FD} (_hD : D ∈ fieldsL) (n : Nat) (z : Nat → Int) (m : Nat) (y : Nat → Int) (hn : n ≤ 128) (hm : m ≤ 128) : (D.gcdL n z m y).2 ≤ 1000000 := by
  have h1 := dgn_le (zc n z) n
  have h2 := dgn_le (zc m y) m
  exact Nat.le_trans (gcd_len D 128 m _ _ _ _ (by omega) (by omega)) (by omega)

set_option maxHeartbeats 8000000 in
set_option maxRecDepth 100000 in
theorem polySays_ok {D : FD} (hD : D ∈ fieldsL) {ao bo : Option Addr} {n m ca cb : Nat} {z y : Nat → Int} (x : Int) {w : World} (hnm : n + m ≤ 300) (ha : Arg ao n ca z w) (hb : Arg bo m cb y w) (h1 : D.chk n z = 0) (h2 : D.chk m y = 0) :
    Calls Try.prog 6 #[.int .i64 D.q, .slice ao n ca, .slice bo m cb, .int .i64 x] w fun r w' => r = .returned (.bool true) ∧ Below w.heap.size w w' := by
  have hn128 := (chk_zero h1).1
  have hm128 := (chk_zero h2).1
  have h12 : D.chk2 n z m y = 0 := by rw [chk2_def, if_pos h1, h2]
  have HA : Hid (D ∈ fieldsL ∧ Arg ao n ca z w ∧ Arg bo m cb y w ∧ El D (zc n z) ∧ El D (zc m y) ∧ D.chk n z = 0 ∧ D.chk m y = 0 ∧ D.chk2 n z m y = 0) := ⟨hD, ha, hb, zc_el (fld hD) h1, zc_el (fld hD) h2, h1, h2, h12⟩
  obtain ⟨P, hP⟩ : ∃ P, P = dgn (pmul D n (zc n z) (zc m y)) (n + m) := ⟨_, rfl⟩
  have hP1 : P ≤ n + m := by rw [hP]; exact dgn_le _ _
  have HP : Hid (P = dgn (pmul D n (zc n z) (zc m y)) (n + m) ∧ (128 < P ↔ 129 < dgn (zc n z) n + dgn (zc m y) m)) := by
    refine ⟨hP, ?_⟩
    have na := dgn_le (zc n z) n
    have nb := dgn_le (zc m y) m
    rw [hP, pmul_len hD (zc_el (fld hD) h1) (zc_el (fld hD) h2) (zc_bd _ _) (zc_bd _ _)]
    split <;> omega
  obtain ⟨T, hT⟩ : ∃ T, T = dgn (zc m y) m := ⟨_, rfl⟩
  have HT0 : Hid (T = dgn (zc m y) m) := hT
  have hT1 : T ≤ m := by rw [hT]; exact dgn_le _ _
  obtain ⟨MU, hMU⟩ : ∃ MU : Int, MU = if 128 < P then 4 else 0 := ⟨_, rfl⟩
  obtain ⟨ZE, hZE⟩ : ∃ ZE : Int, ZE = if T = 0 then 5 else 0 := ⟨_, rfl⟩
  have HMU : Hid (MU = if 128 < P then 4 else 0) := hMU
  have HZE : Hid (ZE = if T = 0 then 5 else 0) := hZE
  clear hD ha hb h1 h2 h12 hP hT hMU hZE
  have HMa : Hid (∀ w1, Below w.heap.size w w1 → Calls Try.prog 46 #[.int .i64 D.q, .slice ao n ca] w1 fun r w' => r = .returned (.int .i64 0) ∧ Below w1.heap.size w1 w') := fun w1 hb1 => by
    have hA := HA.out.2.1.below hb1
    have h := polyMay_any (cap := ca) HA.out.1 hA.sl hA.lt hA.few
    rw [HA.out.2.2.2.2.2.1] at h; exact h
  have HMb : Hid (∀ w1, Below w.heap.size w w1 → Calls Try.prog 46 #[.int .i64 D.q, .slice bo m cb] w1 fun r w' => r = .returned (.int .i64 0) ∧ Below w1.heap.size w1 w') := fun w1 hb1 => by
    have hA := HA.out.2.2.1.below hb1
    have h := polyMay_any (cap := cb) HA.out.1 hA.sl hA.lt hA.few
    rw [HA.out.2.2.2.2.2.2.1] at h; exact h
  have HCk : Hid (∀ w1, Below w.heap.size w w1 → Calls Try.prog 47 #[.int .i64 D.q, .slice ao n ca] w1 fun r w' => r = .returned (.int .i64 0) ∧ Below w1.heap.size w1 w') := fun w1 hb1 => by
    have hA := HA.out.2.1.below hb1
    have h := check_any (cap := ca) HA.out.1 hA.sl hA.lt hA.few
    rw [HA.out.2.2.2.2.2.1] at h; exact h
  have HAd : Hid (∀ w1, Below w.heap.size w w1 → Calls Try.prog 53 #[.int .i64 D.q, .slice ao n ca, .slice bo m cb] w1 fun r w' => ∃ v, r = .returned (.tuple #[v, .int .i64 0]) ∧ KI v (zl (dgn (padd D (zc n z) (zc m y)) (max n m)) fun j => (padd D (zc n z) (zc m y) j : Nat)) w' ∧ Below w1.heap.size w1 w') := fun w1 hb1 => by
    refine (padd_any HA.out.1 (HA.out.2.1.below hb1) (HA.out.2.2.1.below hb1)).mono ?_
    rintro e w' ⟨hb, h⟩
    rcases h with ⟨_, v, rfl, ho⟩ | ⟨h, _⟩
    · exact ⟨v, rfl, ho.ki (by have := dgn_le (padd D (zc n z) (zc m y)) (max n m); omega), hb⟩
    · exact absurd HA.out.2.2.2.2.2.2.2 h
  have HMu : Hid (∀ w1, Below w.heap.size w w1 → Calls Try.prog 54 #[.int .i64 D.q, .slice ao n ca, .slice bo m cb] w1 fun r w' => ∃ v, r = .returned (.tuple #[v, .int .i64 MU]) ∧ ((MU ≠ 0 ∧ ∃ ao ca, v = .slice ao 0 ca) ∨ (MU = 0 ∧ KI v (zl P fun j => (pmul D n (zc n z) (zc m y) j : Nat)) w')) ∧ Below w1.heap.size w1 w') := fun w1 hb1 => by
    refine (pmul_any HA.out.1 (HA.out.2.1.below hb1) (HA.out.2.2.1.below hb1)).mono ?_
    rintro e w' ⟨hb, h⟩
    rcases h with ⟨_, h3, v, rfl, ho⟩ | ⟨_, h3, rfl⟩ | ⟨h, _⟩
    · have hmu : MU = 0 := by rw [HMU.out, if_neg (fun h => by have := HP.out.2.1 h; omega)]
      rw [pmul_dgn HA.out.1 (zc_bd _ _) (zc_bd _ _), ← HP.out.1] at ho
      exact ⟨v, by rw [hmu], Or.inr ⟨hmu, ho.ki (by omega)⟩, hb⟩
    · have hmu : MU = 4 := by rw [HMU.out, if_pos (HP.out.2.2 h3)]
      exact ⟨_, by rw [hmu], Or.inl ⟨by omega, _, _, rfl⟩, hb⟩
    · exact absurd HA.out.2.2.2.2.2.2.2 h
  have HGc : Hid (∀ w1, Below w.heap.size w w1 → Calls Try.prog 55 #[.int .i64 D.q, .slice ao n ca, .slice bo m cb] w1 fun r w' => ∃ v, r = .returned (.tuple #[v, .int .i64 0]) ∧ KI v (zl (D.gcdL n z m y).2 fun j => (D.mon (D.gcdL n z m y).1 (D.gcdL n z m y).2 j : Nat)) w' ∧ Below w1.heap.size w1 w') := fun w1 hb1 => by
    refine (gcd_any HA.out.1 (HA.out.2.1.below hb1) (HA.out.2.2.1.below hb1)).mono ?_
    rintro e w' ⟨hb, h⟩
    rcases h with ⟨_, v, rfl, ho⟩ | ⟨h, _⟩
    · exact ⟨v, rfl, ho.ki (gcdL_len HA.out.1 n z m y hn128 hm128), hb⟩
    · exact absurd HA.out.2.2.2.2.2.2.2 h
  have HDi : Hid (∀ w1, Below w.heap.size w w1 → Calls Try.prog 56 #[.int .i64 D.q, .slice ao n ca, .slice bo m cb] w1 fun r w' => ∃ v u, r = .returned (.tuple #[v, u, .int .i64 ZE]) ∧ ((ZE ≠ 0 ∧ (∃ ao ca, v = .slice ao 0 ca) ∧ ∃ ao ca, u = .slice ao 0 ca) ∨ (ZE = 0 ∧ KI v (zl (dgn (D.quo (zc n z) n (zc m y) m) (n - (dgn (zc m y) m - 1))) fun j => (D.quo (zc n z) n (zc m y) m j : Nat)) w' ∧ KI u (zl (dgn (D.rst (zc n z) n (zc m y) m) n) fun j => (D.rst (zc n z) n (zc m y) m j : Nat)) w')) ∧ Below w1.heap.size w1 w') := fun w1 hb1 => by
    refine (pdiv_any HA.out.1 (HA.out.2.1.below hb1) (HA.out.2.2.1.below hb1)).mono ?_
    rintro e w' ⟨hb, h⟩
    rcases h with ⟨_, h3, v, u, rfl, ho, ho2⟩ | ⟨_, h3, rfl⟩ | ⟨h, _⟩
    · have hze : ZE = 0 := by rw [HZE.out, if_neg (by rw [HT0.out]; exact h3)]
      exact ⟨v, u, by rw [hze], Or.inr ⟨hze, ho.ki (by have := dgn_le (D.quo (zc n z) n (zc m y) m) (n - (dgn (zc m y) m - 1)); omega), ho2.ki (by have := dgn_le (D.rst (zc n z) n (zc m y) m) n; omega)⟩, hb⟩
    · have hze : ZE = 5 := by rw [HZE.out, if_pos (by rw [HT0.out]; exact h3)]
      exact ⟨_, _, by rw [hze], Or.inl ⟨by omega, ⟨_, _, rfl⟩, _, _, rfl⟩, hb⟩
    · exact absurd HA.out.2.2.2.2.2.2.2 h
  have HAt : Hid (∀ w1, Below w.heap.size w w1 → Calls Try.prog 57 #[.int .i64 D.q, .slice ao n ca, .int .i64 x, .int .i64 0] w1 fun r w' => r = .returned (.bool true) ∧ Below w1.heap.size w1 w') := fun w1 hb1 => by
    have h := polyAt_any HA.out.1 x (HA.out.2.1.below hb1)
    rw [HA.out.2.2.2.2.2.1] at h; exact h
  have HRo : Hid (∀ w1, Below w.heap.size w w1 → Calls Try.prog 58 #[.int .i64 D.q, .slice ao n ca, .int .i64 0] w1 fun r w' => r = .returned (.bool true) ∧ Below w1.heap.size w1 w') := fun w1 hb1 => by
    have h := polyRoots_all HA.out.1 (HA.out.2.1.below hb1)
    rw [HA.out.2.2.2.2.2.1] at h; exact h
  have HTh : Hid (∀ w1, Below w.heap.size w w1 → Calls Try.prog 59 #[.int .i64 D.q, .slice ao n ca, .slice bo m cb, .int .i64 0] w1 fun r w' => r = .returned (.bool true) ∧ Below w1.heap.size w1 w') := fun w1 hb1 => by
    have h := polyThrough_all HA.out.1 (HA.out.2.1.below hb1) (HA.out.2.2.1.below hb1)
    rw [HA.out.2.2.2.2.2.2.2] at h; exact h
  have HB : Hid (Below w.heap.size w w) := Below.refl _ _
  go_enter Try.func6, Try.ntmps6
  go_wp2_with fail
  refine (HMa.out _ HB.out).mono ?_
  rintro r w1 ⟨rfl, hb'⟩
  replace HB : Hid (Below w.heap.size w w1) := bel_up HB.out hb'
  clear hb'
  go_wp2_with fail
  refine (HMb.out _ HB.out).mono ?_
  rintro r w2 ⟨rfl, hb'⟩
  replace HB : Hid (Below w.heap.size w w2) := bel_up HB.out hb'
  clear hb'
  go_wp2_with fail
  refine (HCk.out _ HB.out).mono ?_
  rintro r w3 ⟨rfl, hb'⟩
  replace HB : Hid (Below w.heap.size w w3) := bel_up HB.out hb'
  clear hb'
  go_wp2_with fail
  refine (rfield_sl HA.out.1 w3).mono ?_
  rintro r w4 ⟨gm, cm, rfl, hmod, hb4⟩
  have HM : Hid (ModAt D (.slice (some ⟨gm, 0, none⟩) (D.m + 1) cm) D.md w4 ∧ Below w.heap.size w w4) := ⟨hmod, bel_up HB.out hb4⟩
  clear hmod hb4 HB HMa HMb HCk
  unfold rf
  have HX : Hid (Box w4.heap.size D D.gen (.slice (some ⟨gm, 0, none⟩) (D.m + 1) cm) (w4.alloc (.cells #[.int .i64 D.q, .int .i64 D.p, .int .i64 D.m, .int .i64 D.gen, .slice (some ⟨gm, 0, none⟩) (D.m + 1) cm] 28)) ∧ Below w4.heap.size w4 (w4.alloc (.cells #[.int .i64 D.q, .int .i64 D.p, .int .i64 D.m, .int .i64 D.gen, .slice (some ⟨gm, 0, none⟩) (D.m + 1) cm] 28))) := ⟨box_new D D.gen _ w4, (Below.refl _ _).alloc (Nat.le_refl _) _⟩
  have HPA : Hid (∀ w1, Below w4.heap.size w4 w1 → Calls Try.prog 48 #[.agg #[.int .i64 D.q, .int .i64 D.p, .int .i64 D.m, .int .i64 D.gen, .slice (some ⟨gm, 0, none⟩) (D.m + 1) cm], .slice ao n ca, .slice bo m cb] w1 fun r w' => ∃ v, r = .returned v ∧ KI v (zl (dgn (padd D (zc n z) (zc m y)) (max n m)) fun j => (padd D (zc n z) (zc m y) j : Nat)) w' ∧ Below w1.heap.size w1 w') := fun w1 hb1 => by
    have hA := HA.out.2.1.below (bel_up HM.out.2 hb1)
    have hB := HA.out.2.2.1.below (bel_up HM.out.2 hb1)
    refine (rpadd_any HA.out.1 D.gen gm cm (by omega) (by omega) HA.out.2.2.2.1 HA.out.2.2.2.2.1 (zc_bd _ _) (zc_bd _ _) (zc_sl HA.out.2.2.2.2.2.1 hA.sl) (zc_sl HA.out.2.2.2.2.2.2.1 hB.sl) hA.lt hB.lt).mono ?_
    rintro e w' ⟨v, rfl, ho, hb⟩
    exact ⟨v, rfl, ho.ki (by have := dgn_le (padd D (zc n z) (zc m y)) (max n m); omega), hb⟩
  have HPM : Hid (∀ w1, Below w4.heap.size w4 w1 → Calls Try.prog 49 #[.agg #[.int .i64 D.q, .int .i64 D.p, .int .i64 D.m, .int .i64 D.gen, .slice (some ⟨gm, 0, none⟩) (D.m + 1) cm], .slice ao n ca, .slice bo m cb] w1 fun r w' => ∃ po pc, r = .returned (.slice po P pc) ∧ KI (.slice po P pc) (zl P fun j => (pmul D n (zc n z) (zc m y) j : Nat)) w' ∧ Below w1.heap.size w1 w') := fun w1 hb1 => by
    have hA := HA.out.2.1.below (bel_up HM.out.2 hb1)
    have hB := HA.out.2.2.1.below (bel_up HM.out.2 hb1)
    refine (rpmul_any HA.out.1 D.gen gm cm (by omega) (by omega) HA.out.2.2.2.1 HA.out.2.2.2.2.1 (zc_bd _ _) (zc_bd _ _) (zc_sl HA.out.2.2.2.2.2.1 hA.sl) (zc_sl HA.out.2.2.2.2.2.2.1 hB.sl) hA.lt hB.lt hA.le hA.cap hA.nil hB.le hB.cap hB.nil (HM.out.1.below hb1)).mono ?_
    rintro e w' ⟨v, rfl, ho, hb⟩
    rw [← HP.out.1] at ho
    obtain ⟨po, pc, rfl, _⟩ := ho.open
    exact ⟨po, pc, rfl, ho.ki (by omega), hb⟩
  have HPG : Hid (∀ w1, Below w4.heap.size w4 w1 → Calls Try.prog 50 #[.agg #[.int .i64 D.q, .int .i64 D.p, .int .i64 D.m, .int .i64 D.gen, .slice (some ⟨gm, 0, none⟩) (D.m + 1) cm], .slice ao n ca, .slice bo m cb] w1 fun r w' => ∃ v, r = .returned v ∧ KI v (zl (D.gcdL n z m y).2 fun j => (D.mon (D.gcdL n z m y).1 (D.gcdL n z m y).2 j : Nat)) w' ∧ Below w1.heap.size w1 w') := fun w1 hb1 => by
    have hA := HA.out.2.1.below (bel_up HM.out.2 hb1)
    have hB := HA.out.2.2.1.below (bel_up HM.out.2 hb1)
    refine (rgcd_any HA.out.1 D.gen gm cm (by omega) (by omega) HA.out.2.2.2.1 HA.out.2.2.2.2.1 (zc_bd _ _) (zc_bd _ _) (zc_sl HA.out.2.2.2.2.2.1 hA.sl) (zc_sl HA.out.2.2.2.2.2.2.1 hB.sl) hA.lt hB.lt hA.le hA.cap hA.nil hB.le hB.cap hB.nil (HM.out.1.below hb1)).mono ?_
    rintro e w' ⟨v, rfl, ho, hb⟩
    exact ⟨v, rfl, OwnP.ki (n := (D.gcdL n z m y).2) ho (gcdL_len HA.out.1 n z m y hn128 hm128), hb⟩
  have HTr : Hid (∀ w1, Below w4.heap.size w4 w1 → Calls Try.prog 51 #[.slice bo m cb] w1 fun r w' => ∃ tp tc, r = .returned (.slice tp T tc) ∧ Below w1.heap.size w1 w') := fun w1 hb1 => by
    have hB := HA.out.2.2.1.below (bel_up HM.out.2 hb1)
    refine (rtrim_any (zc_sl HA.out.2.2.2.2.2.2.1 hB.sl) hB.le hB.cap hB.nil hB.lt hB.few).mono ?_
    rintro e w' ⟨v, rfl, ho, hb⟩
    rw [← HT0.out] at ho
    obtain ⟨bo, cb, rfl, _⟩ := ho.open
    exact ⟨bo, cb, rfl, hb⟩
  have HPD : Hid (T ≠ 0 → ∀ w1, Below w4.heap.size w4 w1 → Calls Try.prog 52 #[.agg #[.int .i64 D.q, .int .i64 D.p, .int .i64 D.m, .int .i64 D.gen, .slice (some ⟨gm, 0, none⟩) (D.m + 1) cm], .slice ao n ca, .slice bo m cb] w1 fun r w' => ∃ v u, r = .returned (.tuple #[v, u]) ∧ KI v (zl (dgn (D.quo (zc n z) n (zc m y) m) (n - (dgn (zc m y) m - 1))) fun j => (D.quo (zc n z) n (zc m y) m j : Nat)) w' ∧ KI u (zl (dgn (D.rst (zc n z) n (zc m y) m) n) fun j => (D.rst (zc n z) n (zc m y) m j : Nat)) w' ∧ Below w1.heap.size w1 w') := fun hT w1 hb1 => by
    have hA := HA.out.2.1.below (bel_up HM.out.2 hb1)
    have hB := HA.out.2.2.1.below (bel_up HM.out.2 hb1)
    refine (rpdiv_any HA.out.1 D.gen gm cm (by omega) (by omega) HA.out.2.2.2.1 HA.out.2.2.2.2.1 (zc_bd _ _) (zc_bd _ _) (zc_sl HA.out.2.2.2.2.2.1 hA.sl) (zc_sl HA.out.2.2.2.2.2.2.1 hB.sl) hA.lt hB.lt hA.le hA.cap hA.nil hB.le hB.cap hB.nil (HM.out.1.below hb1) (dgn (zc m y) m - 1) (by have := HT0.out; omega)).mono ?_
    rintro e w' ⟨v, u, rfl, ho, ho2, hb⟩
    exact ⟨v, u, rfl, OwnP.ki (n := dgn (D.quo (zc n z) n (zc m y) m) (n - (dgn (zc m y) m - 1))) ho (by have := dgn_le (D.quo (zc n z) n (zc m y) m) (n - (dgn (zc m y) m - 1)); omega), OwnP.ki (n := dgn (D.rst (zc n z) n (zc m y) m) n) ho2 (by have := dgn_le (D.rst (zc n z) n (zc m y) m) n; omega), hb⟩
  obtain ⟨k0, k1, k2, k3, k4⟩ := HX.out.1
  go_wp2_with fail
  refine (HPA.out _ HX.out.2).mono ?_
  rintro r w5 ⟨vs, rfl, hk0, hb'⟩
  have hsw5 := hb'.size
  replace HX : Hid (Box w4.heap.size D D.gen (.slice (some ⟨gm, 0, none⟩) (D.m + 1) cm) w5 ∧ Below w4.heap.size w4 w5 ∧ KI vs (zl (dgn (padd D (zc n z) (zc m y)) (max n m)) fun j => (padd D (zc n z) (zc m y) j : Nat)) w5) := ⟨HX.out.1.below hb' (by have := HX.out.2.size; first | (simp; done) | omega), bel_up HX.out.2 hb', hk0⟩
  clear hb' k0 k1 k2 k3 k4 hk0
  have hw5 : w4.heap.size < w5.heap.size := by simp at hsw5; omega
  obtain ⟨k0, k1, k2, k3, k4⟩ := HX.out.1
  go_wp2_with fail
  refine (HPM.out _ HX.out.2.1).mono ?_
  rintro r w6 ⟨po, pc, rfl, hk0, hb'⟩
  have hsw6 := hb'.size
  replace HX : Hid (Box w4.heap.size D D.gen (.slice (some ⟨gm, 0, none⟩) (D.m + 1) cm) w6 ∧ Below w4.heap.size w4 w6 ∧ KI vs (zl (dgn (padd D (zc n z) (zc m y)) (max n m)) fun j => (padd D (zc n z) (zc m y) j : Nat)) w6 ∧ KI (.slice po P pc) (zl P fun j => (pmul D n (zc n z) (zc m y) j : Nat)) w6) := ⟨HX.out.1.below hb' (by have := HX.out.2.1.size; first | (simp; done) | omega), bel_up HX.out.2.1 hb', HX.out.2.2.below hb', hk0⟩
  clear hb' k0 k1 k2 k3 k4 hk0
  obtain ⟨k0, k1, k2, k3, k4⟩ := HX.out.1
  go_wp2_with fail
  refine (HPG.out _ HX.out.2.1).mono ?_
  rintro r w7 ⟨vg, rfl, hk0, hb'⟩
  have hsw7 := hb'.size
  replace HX : Hid (Box w4.heap.size D D.gen (.slice (some ⟨gm, 0, none⟩) (D.m + 1) cm) w7 ∧ Below w4.heap.size w4 w7 ∧ KI vs (zl (dgn (padd D (zc n z) (zc m y)) (max n m)) fun j => (padd D (zc n z) (zc m y) j : Nat)) w7 ∧ KI (.slice po P pc) (zl P fun j => (pmul D n (zc n z) (zc m y) j : Nat)) w7 ∧ KI vg (zl (D.gcdL n z m y).2 fun j => (D.mon (D.gcdL n z m y).1 (D.gcdL n z m y).2 j : Nat)) w7) := ⟨HX.out.1.below hb' (by have := HX.out.2.1.size; first | (simp; done) | omega), bel_up HX.out.2.1 hb', HX.out.2.2.1.below hb', HX.out.2.2.2.below hb', hk0⟩
  clear hb' k0 k1 k2 k3 k4 hk0
  clear HPA HPM HPG
  go_upto_if 71 with fail
  go_cut [18] (fun vm wx => vm = .int .i64 MU ∧ wx = w7)
  case first =>
    by_cases hmu : 128 < P
    · have hz : (128 : Int) < (P : Int) := by omega
      have hv : MU = 4 := by rw [HMU.out, if_pos hmu]
      go_wp2
      go_meet
      case rel => exact ⟨by rw [hv], rfl⟩
    · have hz : ¬ (128 : Int) < (P : Int) := by omega
      have hv : MU = 0 := by rw [HMU.out, if_neg hmu]
      go_wp2
      go_meet
      case rel => exact ⟨by rw [hv], rfl⟩
  case rest =>
    obtain ⟨hv18, hwx⟩ := hcut
    have hwx := hwx.symm
    subst hv18 hwx
    go_upto_if 75 with (go_at_call 51; refine (HTr.out _ HX.out.2.1).mono ?_; rintro r w8 ⟨tp, tc, rfl, hb8⟩)
    have hs8 := hb8.size
    have HY : Hid (Box w4.heap.size D D.gen (.slice (some ⟨gm, 0, none⟩) (D.m + 1) cm) w8 ∧ Below w4.heap.size w4 w8 ∧ Below w7.heap.size w7 w8) := ⟨HX.out.1.below hb8 (by omega), bel_up HX.out.2.1 hb8, hb8⟩
    clear hb8 HTr
    go_cut [15, 16, 19] (fun vq vr vz wx => vz = .int .i64 ZE ∧ Hid (Below w7.heap.size w7 wx ∧ (ZE = 0 → KI vq (zl (dgn (D.quo (zc n z) n (zc m y) m) (n - (dgn (zc m y) m - 1))) fun j => (D.quo (zc n z) n (zc m y) m j : Nat)) wx ∧ KI vr (zl (dgn (D.rst (zc n z) n (zc m y) m) n) fun j => (D.rst (zc n z) n (zc m y) m j : Nat)) wx)))
    case first =>
      by_cases hT0 : T = 0
      · have hz : ((T : Int) == 0) = true := by rw [hT0]; rfl
        have hv : ZE = 5 := by rw [HZE.out, if_pos hT0]
        clear hT0
        go_wp2
        go_meet
        case rel => exact ⟨by rw [hv], HY.out.2.2, fun h => by omega⟩
      · have hz : ((T : Int) == 0) = false := by rw [beq_eq_false_iff_ne]; omega
        have hv : ZE = 0 := by rw [HZE.out, if_neg hT0]
        have HPD2 := HPD.out hT0 w8 HY.out.2.1
        have HPD3 : Hid (Calls Try.prog 52 #[.agg #[.int .i64 D.q, .int .i64 D.p, .int .i64 D.m, .int .i64 D.gen, .slice (some ⟨gm, 0, none⟩) (D.m + 1) cm], .slice ao n ca, .slice bo m cb] w8 fun r w' => ∃ v u, r = .returned (.tuple #[v, u]) ∧ KI v (zl (dgn (D.quo (zc n z) n (zc m y) m) (n - (dgn (zc m y) m - 1))) fun j => (D.quo (zc n z) n (zc m y) m j : Nat)) w' ∧ KI u (zl (dgn (D.rst (zc n z) n (zc m y) m) n) fun j => (D.rst (zc n z) n (zc m y) m j : Nat)) w' ∧ Below w8.heap.size w8 w') := HPD2
        clear hT0 HPD2
        obtain ⟨k0, k1, k2, k3, k4⟩ := HY.out.1
        go_wp2_with fail
        refine HPD3.out.mono ?_
        rintro r w9 ⟨vq, vr, rfl, hk0, hk1, hb9⟩
        have HQ : Hid (KI vq (zl (dgn (D.quo (zc n z) n (zc m y) m) (n - (dgn (zc m y) m - 1))) fun j => (D.quo (zc n z) n (zc m y) m j : Nat)) w9 ∧ KI vr (zl (dgn (D.rst (zc n z) n (zc m y) m) n) fun j => (D.rst (zc n z) n (zc m y) m j : Nat)) w9 ∧ Below w7.heap.size w7 w9) := ⟨hk0, hk1, bel_up HY.out.2.2 hb9⟩
        clear hk0 hk1 hb9 k0 k1 k2 k3 k4
        go_wp2
        go_meet
        case rel => exact ⟨by rw [hv], HQ.out.2.2, fun _ => ⟨HQ.out.1, HQ.out.2.1⟩⟩
    case rest =>
      obtain ⟨hv19, HQ⟩ := hcut
      subst hv19
      have HZ : Hid (Below w.heap.size w wc ∧ KI vs (zl (dgn (padd D (zc n z) (zc m y)) (max n m)) fun j => (padd D (zc n z) (zc m y) j : Nat)) wc ∧ KI (.slice po P pc) (zl P fun j => (pmul D n (zc n z) (zc m y) j : Nat)) wc ∧ KI vg (zl (D.gcdL n z m y).2 fun j => (D.mon (D.gcdL n z m y).1 (D.gcdL n z m y).2 j : Nat)) wc ∧ (ZE = 0 → KI u15 (zl (dgn (D.quo (zc n z) n (zc m y) m) (n - (dgn (zc m y) m - 1))) fun j => (D.quo (zc n z) n (zc m y) m j : Nat)) wc ∧ KI u16 (zl (dgn (D.rst (zc n z) n (zc m y) m) n) fun j => (D.rst (zc n z) n (zc m y) m j : Nat)) wc)) := ⟨bel_up HM.out.2 (bel_up HX.out.2.1 HQ.out.1), HX.out.2.2.1.below HQ.out.1, HX.out.2.2.2.1.below HQ.out.1, HX.out.2.2.2.2.below HQ.out.1, HQ.out.2⟩
      clear HX HY HQ HPD HM
      go_wp2_with fail
      refine (HAd.out _ HZ.out.1).mono ?_
      rintro r wa ⟨va, rfl, hka, hba⟩
      have HBa : Hid (Below w.heap.size w wa ∧ Below wc.heap.size wc wa ∧ KI va (zl (dgn (padd D (zc n z) (zc m y)) (max n m)) fun j => (padd D (zc n z) (zc m y) j : Nat)) wa) := ⟨bel_up HZ.out.1 hba, hba, hka⟩
      clear hka hba
      go_wp2_with fail
      refine (HMu.out _ HBa.out.1).mono ?_
      rintro r wb ⟨vb, rfl, hkb, hbb⟩
      have HBb : Hid (Below w.heap.size w wb ∧ Below wa.heap.size wa wb ∧ ((MU ≠ 0 ∧ ∃ ao ca, vb = .slice ao 0 ca) ∨ (MU = 0 ∧ KI vb (zl P fun j => (pmul D n (zc n z) (zc m y) j : Nat)) wb))) := ⟨bel_up HBa.out.1 hbb, hbb, hkb⟩
      clear hkb hbb
      go_wp2_with fail
      refine (HGc.out _ HBb.out.1).mono ?_
      rintro r wd ⟨vd, rfl, hkd, hbd⟩
      have hbc := bel_up (bel_up HBa.out.2.1 HBb.out.2.1) hbd
      have HBd : Hid (Below w.heap.size w wd ∧ Below wc.heap.size wc wd ∧ KI va (zl (dgn (padd D (zc n z) (zc m y)) (max n m)) fun j => (padd D (zc n z) (zc m y) j : Nat)) wd ∧ ((MU ≠ 0 ∧ ∃ ao ca, vb = .slice ao 0 ca) ∨ (MU = 0 ∧ KI vb (zl P fun j => (pmul D n (zc n z) (zc m y) j : Nat)) wd)) ∧ KI vd (zl (D.gcdL n z m y).2 fun j => (D.mon (D.gcdL n z m y).1 (D.gcdL n z m y).2 j : Nat)) wd) :=
        ⟨bel_up HBb.out.1 hbd, hbc, HBa.out.2.2.below (bel_up HBb.out.2.1 hbd), HBb.out.2.2.imp id (fun h => ⟨h.1, h.2.below hbd⟩), hkd⟩
      clear hkd hbd hbc
      have HL1 : Hid (∀ k, Calls Try.prog 45 #[va, .int .i64 0, vs, .int .i64 0] (wd.drewN k) fun r w' => r = .returned (.bool true) ∧ ∃ m, w' = (wd.drewN k).drewN m) := fun k =>
        list_gen (w := wd.drewN k) (Or.inr ⟨rfl, _, (HBd.out.2.2.1.drewN k).1, ((HZ.out.2.1.below HBd.out.2.1).drewN k).1⟩)
      have HL2 : Hid (∀ k, Calls Try.prog 45 #[vb, .int .i64 MU, .slice po P pc, .int .i64 MU] (wd.drewN k) fun r w' => r = .returned (.bool true) ∧ ∃ m, w' = (wd.drewN k).drewN m) := fun k =>
        list_gen (w := wd.drewN k) (HBd.out.2.2.2.1.imp id (fun h => ⟨h.1, _, (h.2.drewN k).1, ((HZ.out.2.2.1.below HBd.out.2.1).drewN k).1⟩))
      have HL3 : Hid (∀ k, Calls Try.prog 45 #[vd, .int .i64 0, vg, .int .i64 0] (wd.drewN k) fun r w' => r = .returned (.bool true) ∧ ∃ m, w' = (wd.drewN k).drewN m) := fun k =>
        list_gen (w := wd.drewN k) (Or.inr ⟨rfl, _, (HBd.out.2.2.2.2.drewN k).1, ((HZ.out.2.2.2.1.below HBd.out.2.1).drewN k).1⟩)
      go_wp2_with fail
      refine (HL1.out 0).mono ?_
      rintro r w' ⟨rfl, j1, rfl⟩
      rw [World.drewN_drewN]
      go_wp2_with fail
      refine (HL2.out _).mono ?_
      rintro r w' ⟨rfl, j2, rfl⟩
      rw [World.drewN_drewN]
      go_wp2_with fail
      refine (HL3.out _).mono ?_
      rintro r w' ⟨rfl, j3, rfl⟩
      rw [World.drewN_drewN]
      obtain ⟨j, hj⟩ : ∃ j, j = j1 + j2 + j3 := ⟨_, rfl⟩
      rw [← hj]
      clear hj HL1 HL2 HL3
      go_wp2_with fail
      refine (HDi.out (wd.drewN j) (below_drewN2 HBd.out.1 j)).mono ?_
      rintro r we ⟨ve, vf, rfl, hke, hbe⟩
      have hde : Below wd.heap.size wd we := (below_drewN2 (Below.refl _ _) j).trans hbe
      have HBe : Hid (Below w.heap.size w we ∧ ((ZE ≠ 0 ∧ (∃ ao ca, ve = .slice ao 0 ca) ∧ ∃ ao ca, vf = .slice ao 0 ca) ∨ (ZE = 0 ∧ KI ve (zl (dgn (D.quo (zc n z) n (zc m y) m) (n - (dgn (zc m y) m - 1))) fun j => (D.quo (zc n z) n (zc m y) m j : Nat)) we ∧ KI vf (zl (dgn (D.rst (zc n z) n (zc m y) m) n) fun j => (D.rst (zc n z) n (zc m y) m j : Nat)) we)) ∧ (ZE = 0 → KI u15 (zl (dgn (D.quo (zc n z) n (zc m y) m) (n - (dgn (zc m y) m - 1))) fun j => (D.quo (zc n z) n (zc m y) m j : Nat)) we ∧ KI u16 (zl (dgn (D.rst (zc n z) n (zc m y) m) n) fun j => (D.rst (zc n z) n (zc m y) m j : Nat)) we)) :=
        ⟨bel_up HBd.out.1 hde, hke, fun h => ⟨(HZ.out.2.2.2.2 h).1.below (bel_up HBd.out.2.1 hde), (HZ.out.2.2.2.2 h).2.below (bel_up HBd.out.2.1 hde)⟩⟩
      clear hke hbe hde
      have HL4 : Hid (∀ k, Calls Try.prog 45 #[ve, .int .i64 ZE, u15, .int .i64 ZE] (we.drewN k) fun r w' => r = .returned (.bool true) ∧ ∃ m, w' = (we.drewN k).drewN m) := fun k =>
        list_gen (w := we.drewN k) (HBe.out.2.1.imp (fun h => ⟨h.1, h.2.1⟩) (fun h => ⟨h.1, _, (h.2.1.drewN k).1, ((HBe.out.2.2 h.1).1.drewN k).1⟩))
      have HL5 : Hid (∀ k, Calls Try.prog 45 #[vf, .int .i64 ZE, u16, .int .i64 ZE] (we.drewN k) fun r w' => r = .returned (.bool true) ∧ ∃ m, w' = (we.drewN k).drewN m) := fun k =>
        list_gen (w := we.drewN k) (HBe.out.2.1.imp (fun h => ⟨h.1, h.2.2⟩) (fun h => ⟨h.1, _, (h.2.2.drewN k).1, ((HBe.out.2.2 h.1).2.drewN k).1⟩))
      go_wp2_with fail
      refine (HL4.out 0).mono ?_
      rintro r w' ⟨rfl, j1, rfl⟩
      rw [World.drewN_drewN]
      go_wp2_with fail
      refine (HL5.out _).mono ?_
      rintro r w' ⟨rfl, j2, rfl⟩
      rw [World.drewN_drewN]
      obtain ⟨j', hj⟩ : ∃ j', j' = j1 + j2 := ⟨_, rfl⟩
      rw [← hj]
      clear hj HL4 HL5
      have HB : Hid (Below w.heap.size w (we.drewN j')) := below_drewN2 HBe.out.1 j'
      go_wp2_with fail
      refine (HAt.out _ HB.out).mono ?_
      rintro r wf ⟨rfl, hb'⟩
      replace HB : Hid (Below w.heap.size w wf) := bel_up HB.out hb'
      clear hb'
      go_wp2_with fail
      refine (HRo.out _ HB.out).mono ?_
      rintro r wg ⟨rfl, hb'⟩
      replace HB : Hid (Below w.heap.size w wg) := bel_up HB.out hb'
      clear hb'
      go_wp2_with fail
      refine (HTh.out _ HB.out).mono ?_
      rintro r wh ⟨rfl, hb'⟩
      replace HB : Hid (Below w.heap.size w wh) := bel_up HB.out hb'
      clear hb'
      go_wp2
      go_ret
      exact ⟨by first | rfl | simp, HB.out⟩
end Go.Proofs.Ytmnkablobhdbjaa
