/- TopGap: one bit lost or got is mended; two such words are four steps apart; steps are a distance (printed by make/ki25.py). -/
import Derived.Test.YtabkomelnhnoiaaZS44
namespace Go.Proofs.Ytabkomelnhnoiaa
open Go.RowKit Go.Sort

set_option maxHeartbeats 2000000 in
set_option maxRecDepth 100000 in
theorem topGap_long {ao : Option Addr} {sn ca : Nat} (n a k t b : Int) (w : World) (hn : ¬ sn ≤ 64) (hn2 : sn ≤ 17592186044416) :
    Calls Try.prog 8 #[.int .i64 n, .int .i64 a, .int .i64 k, .int .i64 t, .int .i64 b, .slice ao sn ca] w fun r w' => r = .returned (.bool true) ∧ Below w.heap.size w w' := by
  have h1 : (64 : Int) < (sn : Int) := by omega
  go_enter Try.func8, Try.ntmps8
  go_wp2
  go_ret
  exact ⟨rfl, Below.refl _ _⟩
theorem gsteps_ok {ao bo : Option Addr} {n m ca cb : Nat} {x y : Nat → Int} {w : World} (hX : SlZ ao n x w) (hY : SlZ bo m y w) (h1 : gwchk n x = 0) (h2 : gwchk m y = 0) :
    Calls Try.prog 22 #[.slice ao n ca, .slice bo m cb] w fun e w' => e = .returned (.tuple #[.int .i64 ((lvd x y n m : Nat) : Int), .int .i64 0]) ∧ Below w.heap.size w w' := by
  have b1 := (gwchk_ok h1).1
  have b2 := (gwchk_ok h2).1
  have h := gSteps_any (ca := ca) (cb := cb) hX hY (by omega) (by omega)
  have e : stE n m x y = 0 := by unfold stE; rw [if_neg (fun z => z h1)]; exact h2
  rw [e, if_pos rfl] at h; exact h

theorem wdS_le (n k : Nat) {i j : Nat} (h : i ≤ j) : wdS n k i ≤ wdS n k j := by
  obtain ⟨d, rfl⟩ := Nat.exists_eq_add_of_le h
  refine Nat.rec (Nat.le_refl _) (fun d ih => ?_) d
  show _ ≤ wdS n k (i + d) + _
  omega

set_option maxHeartbeats 16000000 in
set_option maxRecDepth 100000 in
theorem topGap_walk (n a k t b : Int) {ao : Option Addr} {sn ca : Nat} {z : Nat → Int} {w : World} (hA : Arg ao sn ca z w) (hs : sn ≤ 64) (hn : I64 n) (ha : I64 a) (hk : I64 k) (ht : I64 t) (hb : I64 b) :
    Calls Try.prog 8 #[.int .i64 n, .int .i64 a, .int .i64 k, .int .i64 t, .int .i64 b, .slice ao sn ca] w fun e w' => e = .returned (.bool true) ∧ Below w.heap.size w w' := by
  have HPi : Hid (∀ (x : Int) (m : Nat), I64 x → 1 ≤ m → m ≤ 5000 → ∃ M : Nat, M < m ∧ ∀ w : World, Calls Try.prog 24 #[.int .i64 x, .int .i64 (m : Nat)] w fun e w' => e = .returned (.int .i64 (M : Nat)) ∧ w' = w) := fun x m hx h1 h2 => by
    have h3 := pick_lo x (m : Int) (by omega)
    have h4 := pick_hi x (m : Int) (by omega)
    refine ⟨(pick x (m : Int)).toNat, by omega, fun w => ?_⟩
    rw [Int.toNat_of_nonneg h3]
    exact pick_any x m w hx.1 hx.2 (by omega) (by omega)
  obtain ⟨M1, hM1, hP1⟩ := HPi.out n 10 hn (by omega) (by omega)
  have HP1 : Hid (∀ w : World, Calls Try.prog 24 #[.int .i64 n, .int .i64 10] w fun e w' => e = .returned (.int .i64 (M1 : Nat)) ∧ w' = w) := hP1
  obtain ⟨N, hN⟩ : ∃ N, N = 1 + M1 := ⟨_, rfl⟩
  have wN : IntKind.i64.wrap (1 + (M1 : Int)) = (N : Int) := wrap_to (by omega) (by omega)
  have hN1 : 1 ≤ N ∧ N ≤ 10 := by omega
  obtain ⟨N1, hN1e⟩ : ∃ N1, N1 = N + 1 := ⟨_, rfl⟩
  obtain ⟨A, hAl, hPA⟩ := HPi.out a N1 ha (by omega) (by omega)
  have HPA : Hid (∀ w : World, Calls Try.prog 24 #[.int .i64 a, .int .i64 ((N : Int) + 1)] w fun e w' => e = .returned (.int .i64 (A : Nat)) ∧ w' = w) := fun w => by
    have h := hPA w
    rw [show ((N1 : Nat) : Int) = (N : Int) + 1 by omega] at h; exact h
  obtain ⟨T, hTe⟩ : ∃ T, T = 2 ^ N := ⟨_, rfl⟩
  have hT : T ≤ 1024 := by rw [hTe]; exact Nat.le_trans (Nat.pow_le_pow_right (by omega) hN1.2) (by decide)
  have hTI : (2 : Int) ^ N = (T : Int) := by rw [hTe]; simp
  have wT : IntKind.i64.wrap ((T : Nat) : Int) = (T : Int) := wrap_to rfl (by omega)
  have HSh : Hid ((2 : Int) ^ N = (T : Int) ∧ IntKind.i64.wrap ((T : Nat) : Int) = (T : Int) ∧ (¬ (N : Int) < 0) ∧ (¬ (63 : Int) < (N : Int)) ∧ (¬ (64 : Int) ≤ (N : Int)) ∧ T ≤ 1024 ∧ A ≤ N ∧ 1 ≤ N ∧ N ≤ 10 ∧ N1 = N + 1) := ⟨hTI, wT, by omega, by omega, by omega, hT, by omega, hN1.1, hN1.2, hN1e⟩
  obtain ⟨Ln, hLn⟩ : ∃ Ln : Nat → Nat, Ln = fun i => (wdL N i T).length := ⟨_, rfl⟩
  have HL : Hid (T = 2 ^ N ∧ (∀ i, Ln i = (wdL N i T).length) ∧ Arg ao sn ca z w ∧ I64 k ∧ I64 t ∧ I64 b) := ⟨hTe, fun i => by rw [hLn], hA, hk, ht, hb⟩
  have HWo : Hid (∀ (i : Nat) (w : World), i ≤ N → Calls Try.prog 11 #[.int .i64 (N : Nat), .int .i64 (i : Nat)] w fun e w' => ∃ vo vc, e = .returned (.tuple #[.slice vo (Ln i) vc, .int .i64 0]) ∧ WLs w.heap.size (.slice vo (Ln i) vc) N (wdL N i T) w' ∧ Below w.heap.size w w') := fun i w hi => by
    have h := gwords_ok HSh.out.2.2.2.2.2.2.2.1 (by have := HSh.out.2.2.2.2.2.2.2.2.1; omega) hi w
    rw [← HL.out.1] at h
    refine h.mono ?_
    rintro e w' ⟨v, rfl, hl, hb⟩
    obtain ⟨vo, vc, rfl⟩ := hl.form
    rw [← HL.out.2.1 i] at hl ⊢
    exact ⟨vo, vc, rfl, hl, hb⟩
  have hz : ¬ (64 : Int) < (sn : Int) := by omega
  clear hP1 hN hPA hTe hLn hA hn ha hk ht hb hTI wT hT hAl hM1
  go_enter Try.func8, Try.ntmps8
  go_wp2_with fail
  refine (HP1.out _).mono ?_
  rintro e w' ⟨rfl, hw⟩
  have hw := hw.symm
  subst hw
  go_wp2
  go_loopw [13, 14] (fun vs vi wr => ∃ s i : Nat, i ≤ N1 ∧ vs = .int .i64 (s : Nat) ∧ vi = .int .i64 (i : Nat) ∧ s ≤ T ∧ Hid (s = wdS N T i ∧ Below w.heap.size w wr)) (fun _ vi _ => N1 - (intOf vi).toNat)
  case atStart => exact ⟨0, 0, by omega, rfl, rfl, by omega, rfl, Below.refl _ _⟩
  case round =>
    obtain ⟨s, i, hi, rfl, rfl, hsT, HI⟩ := hrel
    rename World => wr
    by_cases hlt : i ≤ N
    · have hib : (i : Int) ≤ (N : Int) := by omega
      have hT := HSh.out.2.2.2.2.2.1
      have HWi : Hid (Calls Try.prog 11 #[.int .i64 (N : Nat), .int .i64 (i : Nat)] wr fun e w' => ∃ vo vc, e = .returned (.tuple #[.slice vo (Ln i) vc, .int .i64 0]) ∧ WLs wr.heap.size (.slice vo (Ln i) vc) N (wdL N i T) w' ∧ Below wr.heap.size wr w') := HWo.out i wr hlt
      obtain ⟨l, hl⟩ : ∃ l, l = Ln i := ⟨_, rfl⟩
      rw [← hl] at HWi
      obtain ⟨s2, hs2⟩ : ∃ s2, s2 = s + l := ⟨_, rfl⟩
      have hs2e : s2 = wdS N T (i + 1) := by rw [hs2, HI.out.1, hl, HL.out.2.1]; rfl
      have hs2T : s2 ≤ T := by
        have h := wdS_le N T (show i + 1 ≤ N + 1 by omega)
        rw [wdS_all, ← hs2e] at h; exact h
      have ws2 : IntKind.i64.wrap ((s : Int) + (l : Int)) = (s2 : Int) := wrap_to (by omega) (by omega)
      have HS2 : Hid (s2 = wdS N T (i + 1)) := hs2e
      clear hs2e hs2 hl hT
      go_wp2_with fail
      refine HWi.out.mono ?_
      rintro e w1 ⟨vo, vc, rfl, _, hb1⟩
      have H1 : Hid (Below w.heap.size w w1) := bel_up' HI.out.2 hb1
      clear hb1
      go_wp2
      go_roundw
      case rel => exact ⟨s2, i + 1, by have := HSh.out.2.2.2.2.2.2.2.2.2; omega, by first | rfl | go_num, by go_num, hs2T, HS2.out, H1.out⟩
      case measure => have := HSh.out.2.2.2.2.2.2.2.2.2; simp [intOf]; omega
    · have hib : ¬ (i : Int) ≤ (N : Int) := by omega
      have hsT2 : s = T := by
        have h := HI.out.1
        rw [show i = N + 1 by have := HSh.out.2.2.2.2.2.2.2.2.2; omega, wdS_all] at h; exact h
      subst hsT2
      have HB : Hid (Below w.heap.size w wr) := HI.out.2
      clear HI hsT
      go_upto_region 12 with fail
      clear hib hlt hi
      go_wp2_with fail
      refine (HPA.out _).mono ?_
      rintro e w' ⟨rfl, hw⟩
      have hw := hw.symm
      subst hw
      have hAN : A ≤ N := HSh.out.2.2.2.2.2.2.1
      obtain ⟨L, hLe⟩ : ∃ L, L = Ln A := ⟨_, rfl⟩
      have HWA : Hid (Calls Try.prog 11 #[.int .i64 (N : Nat), .int .i64 (A : Nat)] wr fun e w' => ∃ vo vc, e = .returned (.tuple #[.slice vo L vc, .int .i64 0]) ∧ WLs wr.heap.size (.slice vo L vc) N (wdL N A s) w' ∧ Below wr.heap.size wr w') := by rw [hLe]; exact HWo.out A wr hAN
      have HLe : Hid (L = (wdL N A s).length) := by rw [hLe]; exact HL.out.2.1 A
      have hL4 : L ≤ 1024 := by rw [HLe.out]; have := wdL_len N A s; have := HSh.out.2.2.2.2.2.1; omega
      clear hLe hAN
      go_wp2_with fail
      refine HWA.out.mono ?_
      rintro e w1 ⟨vo, vc, rfl, hl1, hb1⟩
      have H1 : Hid (WLs wr.heap.size (.slice vo L vc) N (wdL N A s) w1 ∧ Below w.heap.size w w1) := ⟨hl1, bel_up' HB.out hb1⟩
      clear hl1 hb1 HWA HB
      obtain ⟨hTI, wT, hn0, hn63, hn64, _⟩ := HSh.out
      have zs : ((s : Int) != (s : Int)) = false := by simp
      have ze : ((s : Int) == (s : Int)) = true := by simp
      by_cases hL0 : L = 0
      · have zL : ((L : Int) == 0) = true := by rw [hL0]; rfl
        clear hL0
        go_wp2
        go_ret
        exact ⟨rfl, H1.out.2⟩
      have zL : ((L : Int) == 0) = false := beq_eq_false_iff_ne.2 (by omega)
      obtain ⟨K, hK, hPK⟩ := HPi.out k L HL.out.2.2.2.1 (by omega) (by omega)
      have HPK : Hid (∀ w : World, Calls Try.prog 24 #[.int .i64 k, .int .i64 (L : Nat)] w fun e w' => e = .returned (.int .i64 (K : Nat)) ∧ w' = w) := hPK
      obtain ⟨T0, hT0, hPT⟩ := HPi.out t N HL.out.2.2.2.2.1 HSh.out.2.2.2.2.2.2.2.1 (by have := HSh.out.2.2.2.2.2.2.2.2.1; omega)
      have HPT : Hid (∀ w : World, Calls Try.prog 24 #[.int .i64 t, .int .i64 (N : Nat)] w fun e w' => e = .returned (.int .i64 (T0 : Nat)) ∧ w' = w) := hPT
      have hKb : (K : Int) < (L : Int) := by omega
      have hKb0 : (0 : Int) ≤ (K : Int) := by omega
      obtain ⟨c, hc⟩ : ∃ c, (wdL N A s)[K]? = some c := ⟨_, List.getElem?_eq_getElem (by rw [← HLe.out]; exact hK)⟩
      obtain ⟨g, x, cx, hvo, hcell, hoX, hAX⟩ := H1.out.1.item hc
      subst hvo
      have hcS := wdL_sum (List.mem_of_getElem? hc)
      have H2 : Hid (WLs wr.heap.size (.slice (some ⟨g, 0, none⟩) L vc) N (wdL N A s) w1 ∧ Below w.heap.size w w1 ∧ ArgL x N cx (fun j => ((c j : Nat) : Int)) w1 ∧ psm c N % (N + 1) = A ∧ (∀ j, c j ≤ 1)) := ⟨H1.out.1, H1.out.2, hAX, hcS⟩
      clear H1 hL0 hPK hPT hoX hAX hcS
      go_wp2_with fail
      refine (HPK.out _).mono ?_
      rintro e w' ⟨rfl, hw⟩
      have hw := hw.symm
      subst hw
      have zN : ((N : Int) != (N : Int)) = false := by simp
      go_wp2_with fail
      refine (HPT.out _).mono ?_
      rintro e w' ⟨rfl, hw⟩
      have hw := hw.symm
      subst hw
      clear HPT HPK hcell
      go_upto_region 20 with fail
      obtain ⟨bx, ox, hx, _⟩ := H2.out.2.2.1.sl 0 (by omega)
      subst hx
      obtain ⟨N0, hN0⟩ : ∃ N0, N0 = N - 1 := ⟨_, rfl⟩
      have HN0 : Hid (N0 = N - 1) := hN0
      have h0 : (0 : Int) ≤ (T0 : Int) := by omega
      have hcx := H2.out.2.2.1.le
      have hcx2 := H2.out.2.2.1.cap
      have h1 : (T0 : Int) ≤ (cx : Int) := by omega
      have h2 : (0 : Int) ≤ (T0 : Int) + 1 := by omega
      have h3 : (T0 : Int) + 1 ≤ (N : Int) := by omega
      have h4 : (N : Int) ≤ (cx : Int) := by omega
      have hwr : IntKind.i64.wrap ((T0 : Int) + 1) = (T0 : Int) + 1 := by rw [IntKind.wrap_i64]; omega
      have htn : ((T0 : Int) + 1).toNat = T0 + 1 := by omega
      have HCp : Hid (∀ (wx wy : World) (cy : Nat), Below wx.heap.size wx wy → Below w1.heap.size w1 wx → Calls Try.prog 39 #[.slice (some ⟨bx, ox, none⟩) T0 cy] wy fun e w' => ∃ v, e = .returned v ∧ OwnI wx.heap.size v (zl T0 fun j => ((c j : Nat) : Int)) w' ∧ Below wx.heap.size wx w') := fun wx wy cy hb hb1 => by
        have hA1 := argL_below H2.out.2.2.1 (bel_up' hb1 hb)
        refine (copyI_any (n := T0) (z := fun j => ((c j : Nat) : Int)) (fun j hj => hA1.sl j (by omega)) (by omega) (fun h => by cases h) hA1.lt).mono ?_
        rintro e w' ⟨v, rfl, ho, hb2⟩
        exact ⟨v, rfl, ho.mono hb.size, bel_up' hb hb2⟩
      have HSx : Hid (∀ wx : World, Below w1.heap.size w1 wx → SlZ (some ⟨bx, ox + (T0 + 1), none⟩) (N - (T0 + 1)) (fun j => ((c (T0 + 1 + j) : Nat) : Int)) wx) := fun wx hb j hj => by
        obtain ⟨b1, o1, e1, hc1⟩ := (argL_below H2.out.2.2.1 hb).sl (T0 + 1 + j) (by omega)
        cases e1
        exact ⟨bx, ox + (T0 + 1), rfl, by rw [show ox + (T0 + 1) + j = ox + (T0 + 1 + j) by omega]; exact hc1⟩
      clear hN0
      go_cut [20] (fun v20 wx => ∃ lo lc, v20 = .slice lo N0 lc ∧ Hid (ArgL lo N0 lc (fun j => ((wo T0 c j : Nat) : Int)) wx ∧ Below w1.heap.size w1 wx))
      case first =>
        by_cases hca : cx = T0 + 1
        · have HNA : Hid (N = T0 + 1) := by show N = T0 + 1; omega
          subst hca
          have h1' : (T0 : Int) ≤ (T0 : Int) + 1 := by omega
          have h4' : (N : Int) ≤ (T0 : Int) + 1 := by omega
          refine wp_region_noPanic ?_
          refine wp_region_X (S := fun _ => True) 9 (by kernel_rfl) ?_
          refine wpAnyX_take (i := 0) (v := ?_) (by rw [List.getElem?_toArray]; rfl) (by kernel_rfl) (by kernel_rfl) (by kernel_rfl) (by kernel_rfl) (fun _ _ _ h => h) True.intro (Or.inl ⟨by rfl, ?_⟩) ?_
          rotate_left
          · intro wz hSz; go_simp; first | done | with_reducible rfl | (simp only [hwr, htn, h0, h2, h3, Nat.sub_self, if_true, if_false, and_self]; first | done | with_reducible rfl)
          try simp only [Act.put, List.setIfInBounds_toArray, List.set_cons_zero, List.set_cons_succ]
          refine wpAnyX_take (i := 1) (v := ?_) (by rw [List.getElem?_toArray]; rfl) (by kernel_rfl) (by kernel_rfl) (by kernel_rfl) (by kernel_rfl) (fun _ _ _ h => h) True.intro (Or.inl ⟨by rfl, ?_⟩) ?_
          rotate_left
          · intro wz hSz; go_simp; first | done | with_reducible rfl | (simp only [hwr, htn, h0, h2, h3, Nat.sub_self, if_true, if_false, and_self]; first | done | with_reducible rfl)
          try simp only [Act.put, List.setIfInBounds_toArray, List.set_cons_zero, List.set_cons_succ]
          refine wpAnyX_take (i := 2) (v := ?_) (by rw [List.getElem?_toArray]; rfl) (by kernel_rfl) (by kernel_rfl) (by kernel_rfl) (by kernel_rfl) (fun _ _ _ h => h) True.intro (Or.inl ⟨by rfl, ?_⟩) ?_
          rotate_left
          · intro wz hSz; go_simp; first | done | with_reducible rfl | (simp only [hwr, htn, h0, h2, h3, Nat.sub_self, if_true, if_false, and_self]; first | done | with_reducible rfl)
          try simp only [Act.put, List.setIfInBounds_toArray, List.set_cons_zero, List.set_cons_succ]
          refine wpAnyX_take (i := 4) (v := ?_) (by rw [List.getElem?_toArray]; rfl) (by kernel_rfl) (by kernel_rfl) (by kernel_rfl) (by kernel_rfl) (fun _ _ _ h => h) True.intro (Or.inl ⟨by rfl, ?_⟩) ?_
          rotate_left
          · intro wz hSz; go_simp; first | done | with_reducible rfl | (simp only [hwr, htn, h0, h2, h3, Nat.sub_self, if_true, if_false, and_self]; first | done | with_reducible rfl)
          try simp only [Act.put, List.setIfInBounds_toArray, List.set_cons_zero, List.set_cons_succ]
          refine wpAnyX_take (i := 5) (v := ?_) (by rw [List.getElem?_toArray]; rfl) (by kernel_rfl) (by kernel_rfl) (by kernel_rfl) (by kernel_rfl) (fun _ _ _ h => h) True.intro (Or.inl ⟨by rfl, ?_⟩) ?_
          rotate_left
          · intro wz hSz; go_simp; first | done | with_reducible rfl | (simp only [hwr, htn, h0, h2, h3, Nat.sub_self, if_true, if_false, and_self]; first | done | with_reducible rfl)
          try simp only [Act.put, List.setIfInBounds_toArray, List.set_cons_zero, List.set_cons_succ]
          refine wpAnyX_take (i := 6) (v := ?_) (by rw [List.getElem?_toArray]; rfl) (by kernel_rfl) (by kernel_rfl) (by kernel_rfl) (by kernel_rfl) (fun _ _ _ h => h) True.intro (Or.inl ⟨by rfl, ?_⟩) ?_
          rotate_left
          · intro wz hSz; go_simp; first | done | with_reducible rfl | (simp only [hwr, htn, h0, h2, h3, Nat.sub_self, if_true, if_false, and_self]; first | done | with_reducible rfl)
          try simp only [Act.put, List.setIfInBounds_toArray, List.set_cons_zero, List.set_cons_succ]
          refine wpAnyX_take (i := 7) (v := ?_) (by rw [List.getElem?_toArray]; rfl) (by kernel_rfl) (by kernel_rfl) (by kernel_rfl) (by kernel_rfl) (fun _ _ _ h => h) True.intro (Or.inl ⟨by rfl, ?_⟩) ?_
          rotate_left
          · intro wz hSz; go_simp; first | done | with_reducible rfl | (simp only [hwr, htn, h0, h2, h3, Nat.sub_self, if_true, if_false, and_self]; first | done | with_reducible rfl)
          try simp only [Act.put, List.setIfInBounds_toArray, List.set_cons_zero, List.set_cons_succ]
          refine wpAnyX_one (i := 3) (by kernel_rfl) (by rw [List.getElem?_toArray]; rfl) (fun K hK => ?_)
          have HK : Hid _ := hK
          clear hK
          go_simp
          refine (HCp.out w1 _ _ (by first | exact Below.refl _ _ | exact (Below.refl _ _).drew) (Below.refl _ _)).mono ?_
          rintro e w5 ⟨v5, rfl, ho5, hb5⟩
          have H5 : Hid (OwnI w1.heap.size v5 (zl T0 fun j => ((c j : Nat) : Int)) w5 ∧ Below w1.heap.size w1 w5) := ⟨ho5, hb5⟩
          clear ho5 hb5
          refine HK.out _ _ (fun _ => True.intro) ?_
          clear HK K
          try simp only [Act.put, List.setIfInBounds_toArray, List.set_cons_zero, List.set_cons_succ]
          refine wpAnyX_one (i := 8) (by kernel_rfl) (by rw [List.getElem?_toArray]; rfl) (fun K hK => ?_)
          have HK : Hid _ := hK
          clear hK
          refine step_append_ints (by rfl) _ _ (by rfl) w1.heap.size v5 (zl T0 fun j => ((c j : Nat) : Int)) (by rfl) H5.out.1 (some ⟨bx, ox, none⟩) 0 0 (fun _ => 0) (by rfl) (fun j hj => absurd hj (by omega)) (fun e => by cases e) (by rw [zl_len]; omega) H5.out.2.size w1 H5.out.2 (Nat.le_refl _) ?_
          intro v6 w6 hown6 hg6 hb6
          have hown : OwnI w1.heap.size v6 (zl N0 fun j => ((wo T0 c j : Nat) : Int)) w6 := by
            rw [HN0.out, ← zl_wo T0 N c (by omega)]
            rw [show N - (T0 + 1) = 0 by have := HNA.out; omega]
            exact hown6
          obtain ⟨lo, lc, hv6, ha6⟩ := OwnI.argL hown
          subst hv6
          have H6 : Hid (ArgL lo N0 lc (fun j => ((wo T0 c j : Nat) : Int)) w6 ∧ Below w1.heap.size w1 w6) := ⟨ha6, hb6⟩
          clear hown6 hg6 hb6 hown ha6
          refine HK.out _ _ (fun _ => True.intro) ?_
          clear HK K
          try simp only [Act.put, List.setIfInBounds_toArray, List.set_cons_zero, List.set_cons_succ]
          refine wpAnyX_one (i := 9) (by kernel_rfl) (by rw [List.getElem?_toArray]; rfl) (fun K hK => ?_)
          have HK : Hid _ := hK
          clear hK
          go_simp
          refine HK.out _ _ (fun h => absurd rfl h) ?_
          clear HK K
          try simp only [Act.put, List.setIfInBounds_toArray, List.set_cons_zero, List.set_cons_succ]
          refine wpAnyX_done (by kernel_rfl) (NoPanic.normal ?_)
          go_wp2
          go_meet
          case rel => exact ⟨_, _, rfl, H6.out⟩
        · refine wp_region_noPanic ?_
          refine wp_region_X (S := fun _ => True) 9 (by kernel_rfl) ?_
          refine wpAnyX_take (i := 0) (v := ?_) (by rw [List.getElem?_toArray]; rfl) (by kernel_rfl) (by kernel_rfl) (by kernel_rfl) (by kernel_rfl) (fun _ _ _ h => h) True.intro (Or.inl ⟨by rfl, ?_⟩) ?_
          rotate_left
          · intro wz hSz; go_simp; first | done | with_reducible rfl | (simp only [hwr, htn, h0, h2, h3, Nat.sub_self, if_true, if_false, and_self]; first | done | with_reducible rfl)
          try simp only [Act.put, List.setIfInBounds_toArray, List.set_cons_zero, List.set_cons_succ]
          refine wpAnyX_take (i := 1) (v := ?_) (by rw [List.getElem?_toArray]; rfl) (by kernel_rfl) (by kernel_rfl) (by kernel_rfl) (by kernel_rfl) (fun _ _ _ h => h) True.intro (Or.inl ⟨by rfl, ?_⟩) ?_
          rotate_left
          · intro wz hSz; go_simp; first | done | with_reducible rfl | (simp only [hwr, htn, h0, h2, h3, Nat.sub_self, if_true, if_false, and_self]; first | done | with_reducible rfl)
          try simp only [Act.put, List.setIfInBounds_toArray, List.set_cons_zero, List.set_cons_succ]
          refine wpAnyX_take (i := 2) (v := ?_) (by rw [List.getElem?_toArray]; rfl) (by kernel_rfl) (by kernel_rfl) (by kernel_rfl) (by kernel_rfl) (fun _ _ _ h => h) True.intro (Or.inl ⟨by rfl, ?_⟩) ?_
          rotate_left
          · intro wz hSz; go_simp; first | done | with_reducible rfl | (simp only [hwr, htn, h0, h2, h3, Nat.sub_self, if_true, if_false, and_self]; first | done | with_reducible rfl)
          try simp only [Act.put, List.setIfInBounds_toArray, List.set_cons_zero, List.set_cons_succ]
          refine wpAnyX_take (i := 4) (v := ?_) (by rw [List.getElem?_toArray]; rfl) (by kernel_rfl) (by kernel_rfl) (by kernel_rfl) (by kernel_rfl) (fun _ _ _ h => h) True.intro (Or.inl ⟨by rfl, ?_⟩) ?_
          rotate_left
          · intro wz hSz; go_simp; first | done | with_reducible rfl | (simp only [hwr, htn, h0, h2, h3, Nat.sub_self, if_true, if_false, and_self]; first | done | with_reducible rfl)
          try simp only [Act.put, List.setIfInBounds_toArray, List.set_cons_zero, List.set_cons_succ]
          refine wpAnyX_take (i := 5) (v := ?_) (by rw [List.getElem?_toArray]; rfl) (by kernel_rfl) (by kernel_rfl) (by kernel_rfl) (by kernel_rfl) (fun _ _ _ h => h) True.intro (Or.inl ⟨by rfl, ?_⟩) ?_
          rotate_left
          · intro wz hSz; go_simp; first | done | with_reducible rfl | (simp only [hwr, htn, h0, h2, h3, Nat.sub_self, if_true, if_false, and_self]; first | done | with_reducible rfl)
          try simp only [Act.put, List.setIfInBounds_toArray, List.set_cons_zero, List.set_cons_succ]
          refine wpAnyX_take (i := 6) (v := ?_) (by rw [List.getElem?_toArray]; rfl) (by kernel_rfl) (by kernel_rfl) (by kernel_rfl) (by kernel_rfl) (fun _ _ _ h => h) True.intro (Or.inl ⟨by rfl, ?_⟩) ?_
          rotate_left
          · intro wz hSz; go_simp; first | done | with_reducible rfl | (simp only [hwr, htn, h0, h2, h3, Nat.sub_self, if_true, if_false, and_self]; first | done | with_reducible rfl)
          try simp only [Act.put, List.setIfInBounds_toArray, List.set_cons_zero, List.set_cons_succ]
          refine wpAnyX_take (i := 7) (v := ?_) (by rw [List.getElem?_toArray]; rfl) (by kernel_rfl) (by kernel_rfl) (by kernel_rfl) (by kernel_rfl) (fun _ _ _ h => h) True.intro (Or.inl ⟨by rfl, ?_⟩) ?_
          rotate_left
          · intro wz hSz; go_simp; first | done | with_reducible rfl | (simp only [hwr, htn, h0, h2, h3, Nat.sub_self, if_true, if_false, and_self]; first | done | with_reducible rfl)
          try simp only [Act.put, List.setIfInBounds_toArray, List.set_cons_zero, List.set_cons_succ]
          refine wpAnyX_one (i := 3) (by kernel_rfl) (by rw [List.getElem?_toArray]; rfl) (fun K hK => ?_)
          have HK : Hid _ := hK
          clear hK
          go_simp
          refine (HCp.out w1 _ _ (by first | exact Below.refl _ _ | exact (Below.refl _ _).drew) (Below.refl _ _)).mono ?_
          rintro e w5 ⟨v5, rfl, ho5, hb5⟩
          have H5 : Hid (OwnI w1.heap.size v5 (zl T0 fun j => ((c j : Nat) : Int)) w5 ∧ Below w1.heap.size w1 w5) := ⟨ho5, hb5⟩
          clear ho5 hb5
          refine HK.out _ _ (fun _ => True.intro) ?_
          clear HK K
          try simp only [Act.put, List.setIfInBounds_toArray, List.set_cons_zero, List.set_cons_succ]
          refine wpAnyX_one (i := 8) (by kernel_rfl) (by rw [List.getElem?_toArray]; rfl) (fun K hK => ?_)
          have HK : Hid _ := hK
          clear hK
          refine step_append_ints (by rfl) _ _ (by rfl) w1.heap.size v5 (zl T0 fun j => ((c j : Nat) : Int)) (by rfl) H5.out.1 (some ⟨bx, ox + (T0 + 1), none⟩) (N - (T0 + 1)) (cx - (T0 + 1)) (fun j => ((c (T0 + 1 + j) : Nat) : Int)) (by rfl) (HSx.out _ H5.out.2) (fun e => by cases e) (by rw [zl_len]; omega) H5.out.2.size w1 H5.out.2 (Nat.le_refl _) ?_
          intro v6 w6 hown6 hg6 hb6
          have hown : OwnI w1.heap.size v6 (zl N0 fun j => ((wo T0 c j : Nat) : Int)) w6 := by
            rw [HN0.out, ← zl_wo T0 N c (by omega)]
            exact hown6
          obtain ⟨lo, lc, hv6, ha6⟩ := OwnI.argL hown
          subst hv6
          have H6 : Hid (ArgL lo N0 lc (fun j => ((wo T0 c j : Nat) : Int)) w6 ∧ Below w1.heap.size w1 w6) := ⟨ha6, hb6⟩
          clear hown6 hg6 hb6 hown ha6
          refine HK.out _ _ (fun _ => True.intro) ?_
          clear HK K
          try simp only [Act.put, List.setIfInBounds_toArray, List.set_cons_zero, List.set_cons_succ]
          refine wpAnyX_one (i := 9) (by kernel_rfl) (by rw [List.getElem?_toArray]; rfl) (fun K hK => ?_)
          have HK : Hid _ := hK
          clear hK
          go_simp
          refine HK.out _ _ (fun h => absurd rfl h) ?_
          clear HK K
          try simp only [Act.put, List.setIfInBounds_toArray, List.set_cons_zero, List.set_cons_succ]
          refine wpAnyX_done (by kernel_rfl) (NoPanic.normal ?_)
          go_wp2
          go_meet
          case rel => exact ⟨_, _, rfl, H6.out⟩
      case rest =>
      obtain ⟨lo, lc, hv20, H20⟩ := hcut
      subst hv20
      rename World => wC
      clear HSx h2 h3 hwr htn h1
      obtain ⟨Bt, hBt, hPB⟩ := HPi.out b 2 HL.out.2.2.2.2.2 (by omega) (by omega)
      have HPB : Hid (∀ w : World, Calls Try.prog 24 #[.int .i64 b, .int .i64 2] w fun e w' => e = .returned (.int .i64 (Bt : Nat)) ∧ w' = w) := hPB
      have h1 : (T0 : Int) ≤ (cx : Int) := by omega
      have h2 : (T0 : Int) ≤ (N : Int) := by omega
      have h3 : ¬ cx = T0 := by omega
      have h3' : ¬ cx - T0 = 0 := by omega
      have HSy : Hid (∀ wx : World, Below wC.heap.size wC wx → SlZ (some ⟨bx, ox + T0, none⟩) (N - T0) (fun j => ((c (T0 + j) : Nat) : Int)) wx) := fun wx hb j hj => by
        obtain ⟨b1, o1, e1, hc1⟩ := (argL_below H2.out.2.2.1 (bel_up' H20.out.2 hb)).sl (T0 + j) (by omega)
        cases e1
        exact ⟨bx, ox + T0, rfl, by rw [show ox + T0 + j = ox + (T0 + j) by omega]; exact hc1⟩
      clear hPB
      go_upto_region 21 with fail
      go_cut [21] (fun v21 wx => ∃ mo mc, v21 = .slice mo (N + 1 : Nat) mc ∧ Hid (ArgL mo (N + 1) mc (fun j => ((wib T0 Bt c j : Nat) : Int)) wx ∧ Below wC.heap.size wC wx))
      case first =>
        refine wp_region_noPanic ?_
        refine wp_region_X (S := fun _ => True) 12 (by kernel_rfl) ?_
        refine wpAnyX_take (i := 0) (v := ?_) (by rw [List.getElem?_toArray]; rfl) (by kernel_rfl) (by kernel_rfl) (by kernel_rfl) (by kernel_rfl) (fun _ _ _ h => h) True.intro (Or.inl ⟨by rfl, ?_⟩) ?_
        rotate_left
        · intro wz hSz; go_simp; first | done | with_reducible rfl | (simp only [h0, h1, h2, h3, h4, Nat.sub_self, if_true, if_false, and_self]; first | done | with_reducible rfl)
        try simp only [Act.put, List.setIfInBounds_toArray, List.set_cons_zero, List.set_cons_succ]
        refine wpAnyX_take (i := 1) (v := ?_) (by rw [List.getElem?_toArray]; rfl) (by kernel_rfl) (by kernel_rfl) (by kernel_rfl) (by kernel_rfl) (fun _ _ _ h => h) True.intro (Or.inl ⟨by rfl, ?_⟩) ?_
        rotate_left
        · intro wz hSz; go_simp; first | done | with_reducible rfl | (simp only [h0, h1, h2, h3, h4, Nat.sub_self, if_true, if_false, and_self]; first | done | with_reducible rfl)
        try simp only [Act.put, List.setIfInBounds_toArray, List.set_cons_zero, List.set_cons_succ]
        refine wpAnyX_take (i := 2) (v := ?_) (by rw [List.getElem?_toArray]; rfl) (by kernel_rfl) (by kernel_rfl) (by kernel_rfl) (by kernel_rfl) (fun _ _ _ h => h) True.intro (Or.inl ⟨by rfl, ?_⟩) ?_
        rotate_left
        · intro wz hSz; go_simp; first | done | with_reducible rfl | (simp only [h0, h1, h2, h3, h4, Nat.sub_self, if_true, if_false, and_self]; first | done | with_reducible rfl)
        try simp only [Act.put, List.setIfInBounds_toArray, List.set_cons_zero, List.set_cons_succ]
        refine wpAnyX_take (i := 4) (v := ?_) (by rw [List.getElem?_toArray]; rfl) (by kernel_rfl) (by kernel_rfl) (by kernel_rfl) (by kernel_rfl) (fun _ _ _ h => h) True.intro (Or.inl ⟨by rfl, ?_⟩) ?_
        rotate_left
        · intro wz hSz; go_simp; first | done | with_reducible rfl | (simp only [h0, h1, h2, h3, h4, Nat.sub_self, if_true, if_false, and_self]; first | done | with_reducible rfl)
        try simp only [Act.put, List.setIfInBounds_toArray, List.set_cons_zero, List.set_cons_succ]
        refine wpAnyX_take (i := 8) (v := ?_) (by rw [List.getElem?_toArray]; rfl) (by kernel_rfl) (by kernel_rfl) (by kernel_rfl) (by kernel_rfl) (fun _ _ _ h => h) True.intro (Or.inl ⟨by rfl, ?_⟩) ?_
        rotate_left
        · intro wz hSz; go_simp; first | done | with_reducible rfl | (simp only [h0, h1, h2, h3, h4, Nat.sub_self, if_true, if_false, and_self]; first | done | with_reducible rfl)
        try simp only [Act.put, List.setIfInBounds_toArray, List.set_cons_zero, List.set_cons_succ]
        refine wpAnyX_take (i := 9) (v := ?_) (by rw [List.getElem?_toArray]; rfl) (by kernel_rfl) (by kernel_rfl) (by kernel_rfl) (by kernel_rfl) (fun _ _ _ h => h) True.intro (Or.inl ⟨by rfl, ?_⟩) ?_
        rotate_left
        · intro wz hSz; go_simp; first | done | with_reducible rfl | (simp only [h0, h1, h2, h3, h4, Nat.sub_self, if_true, if_false, and_self]; first | done | with_reducible rfl)
        try simp only [Act.put, List.setIfInBounds_toArray, List.set_cons_zero, List.set_cons_succ]
        refine wpAnyX_take (i := 10) (v := ?_) (by rw [List.getElem?_toArray]; rfl) (by kernel_rfl) (by kernel_rfl) (by kernel_rfl) (by kernel_rfl) (fun _ _ _ h => h) True.intro (Or.inl ⟨by rfl, ?_⟩) ?_
        rotate_left
        · intro wz hSz; go_simp; first | done | with_reducible rfl | (simp only [h0, h1, h2, h3, h4, Nat.sub_self, if_true, if_false, and_self]; first | done | with_reducible rfl)
        try simp only [Act.put, List.setIfInBounds_toArray, List.set_cons_zero, List.set_cons_succ]
        refine wpAnyX_one (i := 3) (by kernel_rfl) (by rw [List.getElem?_toArray]; rfl) (fun K hK => ?_)
        have HK : Hid _ := hK
        clear hK
        go_simp
        refine (HCp.out wC _ _ (by first | exact Below.refl _ _ | exact (Below.refl _ _).drew) H20.out.2).mono ?_
        rintro e w5 ⟨v5, rfl, ho5, hb5⟩
        have H5 : Hid (OwnI wC.heap.size v5 (zl T0 fun j => ((c j : Nat) : Int)) w5 ∧ Below wC.heap.size wC w5) := ⟨ho5, hb5⟩
        clear ho5 hb5
        refine HK.out _ _ (fun _ => True.intro) ?_
        clear HK K
        try simp only [Act.put, List.setIfInBounds_toArray, List.set_cons_zero, List.set_cons_succ]
        refine wpAnyX_one (i := 5) (by kernel_rfl) (by rw [List.getElem?_toArray]; rfl) (fun K hK => ?_)
        have HK : Hid _ := hK
        clear hK
        go_simp
        refine (HPB.out _).mono ?_
        rintro e w' ⟨rfl, hw⟩
        have hw := hw.symm
        subst hw
        refine HK.out _ _ (fun _ => True.intro) ?_
        clear HK K
        try simp only [Act.put, List.setIfInBounds_toArray, List.set_cons_zero, List.set_cons_succ]
        refine wpAnyX_one (i := 6) (by kernel_rfl) (by rw [List.getElem?_toArray]; rfl) (fun K hK => ?_)
        have HK : Hid _ := hK
        clear hK
        go_simp
        obtain ⟨wf, hwf⟩ : ∃ wf, wf = w5.alloc (.cells #[.int .i64 (Bt : Nat)] 3) := ⟨_, rfl⟩
        have hal : Below w5.heap.size w5 wf := by rw [hwf]; exact (Below.refl _ _).alloc (Nat.le_refl _) _
        have HF : Hid (OwnI wC.heap.size v5 (zl T0 fun j => ((c j : Nat) : Int)) wf ∧ SlZ (some ⟨w5.heap.size, 0, none⟩) 1 (fun _ => ((Bt : Nat) : Int)) wf ∧ Below wC.heap.size wC wf) := ⟨H5.out.1.below hal fun q hq => (H5.out.1.lt q hq).2, SlZ.one (by rw [hwf, cell_of_row _ _ _ _ _ (0, 0) (two_new _)]; rfl), bel_up' H5.out.2 hal⟩
        rw [← hwf]
        clear hwf hal
        refine HK.out _ _ (fun _ => True.intro) ?_
        clear HK K
        try simp only [Act.put, List.setIfInBounds_toArray, List.set_cons_zero, List.set_cons_succ]
        refine wpAnyX_one (i := 7) (by kernel_rfl) (by rw [List.getElem?_toArray]; rfl) (fun K hK => ?_)
        have HK : Hid _ := hK
        clear hK
        refine step_append_ints (by rfl) _ _ (by rfl) wC.heap.size v5 (zl T0 fun j => ((c j : Nat) : Int)) (by rfl) HF.out.1 (some ⟨w5.heap.size, 0, none⟩) 1 1 (fun _ => ((Bt : Nat) : Int)) (by rfl) HF.out.2.1 (fun e => by cases e) (by rw [zl_len]; omega) HF.out.2.2.size wC HF.out.2.2 (Nat.le_refl _) ?_
        intro v6 w6 hown6 hg6 hb6
        have H6 : Hid (OwnI wC.heap.size v6 ((zl T0 fun j => ((c j : Nat) : Int)) ++ zl 1 fun _ => ((Bt : Nat) : Int)) w6 ∧ Below wC.heap.size wC w6) := ⟨hown6, hb6⟩
        clear hown6 hg6 hb6
        refine HK.out _ _ (fun _ => True.intro) ?_
        clear HK K
        try simp only [Act.put, List.setIfInBounds_toArray, List.set_cons_zero, List.set_cons_succ]
        refine wpAnyX_one (i := 11) (by kernel_rfl) (by rw [List.getElem?_toArray]; rfl) (fun K hK => ?_)
        have HK : Hid _ := hK
        clear hK
        refine step_append_ints (by rfl) _ _ (by rfl) wC.heap.size v6 ((zl T0 fun j => ((c j : Nat) : Int)) ++ zl 1 fun _ => ((Bt : Nat) : Int)) (by rfl) H6.out.1 (some ⟨bx, ox + T0, none⟩) (N - T0) (cx - T0) (fun j => ((c (T0 + j) : Nat) : Int)) (by rfl) (HSy.out _ H6.out.2) (fun e => by cases e) (by rw [List.length_append, zl_len, zl_len]; omega) H6.out.2.size wC H6.out.2 (Nat.le_refl _) ?_
        intro v7 w7 hown7 hg7 hb7
        have hown : OwnI wC.heap.size v7 (wz (N + 1) (wib T0 Bt c)) w7 := by
          rw [← zl_wib T0 Bt N c (by omega)]
          exact hown7
        obtain ⟨mo, mc, hv7, ha7⟩ := OwnI.argL (n := N + 1) (y := fun j => ((wib T0 Bt c j : Nat) : Int)) hown
        subst hv7
        have H7 : Hid (ArgL mo (N + 1) mc (fun j => ((wib T0 Bt c j : Nat) : Int)) w7 ∧ Below wC.heap.size wC w7) := ⟨ha7, hb7⟩
        clear hown7 hg7 hb7 hown ha7
        refine HK.out _ _ (fun _ => True.intro) ?_
        clear HK K
        try simp only [Act.put, List.setIfInBounds_toArray, List.set_cons_zero, List.set_cons_succ]
        refine wpAnyX_one (i := 12) (by kernel_rfl) (by rw [List.getElem?_toArray]; rfl) (fun K hK => ?_)
        have HK : Hid _ := hK
        clear hK
        go_simp
        refine HK.out _ _ (fun h => absurd rfl h) ?_
        clear HK K
        try simp only [Act.put, List.setIfInBounds_toArray, List.set_cons_zero, List.set_cons_succ]
        refine wpAnyX_done (by kernel_rfl) (NoPanic.normal ?_)
        go_wp2
        go_meet
        case rel => exact ⟨_, _, rfl, H7.out⟩
      case rest =>
      obtain ⟨mo, mc, hv21, H21⟩ := hcut
      subst hv21
      rename World => wD
      have HNN : Hid (1 ≤ N ∧ N ≤ 10 ∧ A ≤ N ∧ Bt ≤ 1 ∧ T0 < N ∧ N0 = N - 1) := ⟨hN1.1, hN1.2, HSh.out.2.2.2.2.2.2.1, by omega, hT0, HN0.out⟩
      have HM1 : Hid (Calls Try.prog 15 #[.int .i64 (N : Nat), .int .i64 (A : Nat), .slice lo N0 lc] wD fun e w' => ∃ v, e = .returned (.tuple #[v, .bool true, .int .i64 0]) ∧ KI v (wz N c) w' ∧ Below wD.heap.size wD w') := by
        obtain ⟨e1, e2, e3, e4, e5, e6⟩ := HNN.out
        refine (gmend_ok (argL_below H20.out.1 H21.out.2) (allP_bits (wo_bits H2.out.2.2.2.2) (by omega)) (wo_bits H2.out.2.2.2.2) e1 (by omega) e3).mono ?_
        rintro e w' ⟨v, ok, rfl, hm, hb⟩
        obtain ⟨hok, hki⟩ := hm.found e1 (wo_bits H2.out.2.2.2.2) H2.out.2.2.2.2 H2.out.2.2.2.1 (by rw [e6]; exact rel_less e5)
        subst hok
        exact ⟨v, rfl, hki, hb⟩
      have HM2 : Hid (∀ wx : World, Below wD.heap.size wD wx → Calls Try.prog 15 #[.int .i64 (N : Nat), .int .i64 (A : Nat), .slice mo (N + 1 : Nat) mc] wx fun e w' => ∃ v, e = .returned (.tuple #[v, .bool true, .int .i64 0]) ∧ KI v (wz N c) w' ∧ Below wx.heap.size wx w') := fun wx hbx => by
        obtain ⟨e1, e2, e3, e4, e5, e6⟩ := HNN.out
        refine (gmend_ok (argL_below H21.out.1 hbx) (allP_bits (wib_bits e4 H2.out.2.2.2.2) (by omega)) (wib_bits e4 H2.out.2.2.2.2) e1 (by omega) e3).mono ?_
        rintro e w' ⟨v, ok, rfl, hm, hb⟩
        obtain ⟨hok, hki⟩ := hm.found e1 (wib_bits e4 H2.out.2.2.2.2) H2.out.2.2.2.2 H2.out.2.2.2.1 (rel_more (by omega))
        subst hok
        exact ⟨v, rfl, hki, hb⟩
      have HB1 : Hid (Below w1.heap.size w1 wD) := bel_up' H20.out.2 H21.out.2
      have HSm : Hid (∀ (v : Value) (wx : World), KI v (wz N c) wx → Below w1.heap.size w1 wx → Calls Try.prog 17 #[v, .slice (some ⟨bx, ox, none⟩) N cx] wx fun e w' => e = .returned (.bool true) ∧ ∃ d, w' = wx.drewN d) := fun v wx hv hb => by
        have h := same_any (lb := wz N c) hv.1 (gs_slI (cap := cx) (argL_below H2.out.2.2.1 hb).sl (by have := HNN.out.2.1; omega))
        rw [decide_eq_true rfl] at h; exact h
      clear H20 H21 HSy HCp h0 h1 h2 h3 h3' h4 hcx hcx2 hBt
      go_wp2_with fail
      refine HM1.out.mono ?_
      rintro e wE ⟨v22, rfl, hki, hb⟩
      have HE : Hid (KI v22 (wz N c) wE ∧ Below wD.heap.size wD wE) := ⟨hki, hb⟩
      clear hki hb HM1
      go_wp2_with fail
      refine (HM2.out _ HE.out.2).mono ?_
      rintro e wF ⟨v24, rfl, hki, hb⟩
      have HF : Hid (KI v22 (wz N c) wF ∧ KI v24 (wz N c) wF ∧ Below w1.heap.size w1 wF) := ⟨HE.out.1.below hb, hki, bel_up' HB1.out (bel_up' HE.out.2 hb)⟩
      clear hki hb HE HM2 HB1
      have HS1 : Hid (Calls Try.prog 17 #[v22, .slice (some ⟨bx, ox, none⟩) N cx] wF fun e w' => e = .returned (.bool true) ∧ ∃ d, w' = wF.drewN d) := HSm.out v22 wF HF.out.1 HF.out.2.2
      go_wp2_with fail
      refine HS1.out.mono ?_
      rintro e wG ⟨rfl, d1, hd1⟩
      have HG : Hid (KI v24 (wz N c) wG ∧ Below w1.heap.size w1 wG) := by
        have hb : Below wF.heap.size wF wG := by rw [hd1]; exact below_drewN2 (Below.refl _ _) d1
        exact ⟨HF.out.2.1.below hb, bel_up' HF.out.2.2 hb⟩
      clear hd1 HF HS1
      have HS2 : Hid (Calls Try.prog 17 #[v24, .slice (some ⟨bx, ox, none⟩) N cx] wG fun e w' => e = .returned (.bool true) ∧ ∃ d, w' = wG.drewN d) := HSm.out v24 wG HG.out.1 HG.out.2
      go_wp2_with fail
      refine HS2.out.mono ?_
      rintro e wI ⟨rfl, d2, hd2⟩
      have HI2 : Hid (Below w1.heap.size w1 wI) := by rw [hd2]; exact below_drewN2 HG.out.2 d2
      clear hd2 HG HS2
      go_upto_region 26 with fail
      have hk7 : I64 (k.tdiv 7) ∧ I64 (k.tdiv 7 + 1) := by
        have hk := HL.out.2.2.2.1
        unfold I64 at hk ⊢
        rcases Int.le_total 0 k with h | h
        · rw [Int.tdiv_eq_ediv_of_nonneg h]; omega
        · have : k.tdiv 7 = -((-k).tdiv 7) := by rw [Int.neg_tdiv, Int.neg_neg]
          rw [this, Int.tdiv_eq_ediv_of_nonneg (by omega)]; omega
      have hb2 : I64 (b.tdiv 2) := by
        have hk := HL.out.2.2.2.2.2
        unfold I64 at hk ⊢
        rcases Int.le_total 0 b with h | h
        · rw [Int.tdiv_eq_ediv_of_nonneg h]; omega
        · have : b.tdiv 2 = -((-b).tdiv 2) := by rw [Int.neg_tdiv, Int.neg_neg]
          rw [this, Int.tdiv_eq_ediv_of_nonneg (by omega)]; omega
      obtain ⟨K2, hK2, hPK2⟩ := HPi.out (k.tdiv 7 + 1) L hk7.2 (by omega) (by omega)
      have HPK2 : Hid (∀ w : World, Calls Try.prog 24 #[.int .i64 (k.tdiv 7 + 1), .int .i64 (L : Nat)] w fun e w' => e = .returned (.int .i64 (K2 : Nat)) ∧ w' = w) := hPK2
      obtain ⟨m, hm, hPm⟩ := HPi.out (b.tdiv 2) 12 hb2 (by omega) (by omega)
      have HPm : Hid (∀ w : World, Calls Try.prog 24 #[.int .i64 (b.tdiv 2), .int .i64 12] w fun e w' => e = .returned (.int .i64 (m : Nat)) ∧ w' = w) := hPm
      obtain ⟨wk1, wk2⟩ : IntKind.i64.wrap (k.tdiv 7) = k.tdiv 7 ∧ IntKind.i64.wrap (k.tdiv 7 + 1) = k.tdiv 7 + 1 := ⟨by rw [IntKind.wrap_i64]; have := hk7.1; unfold I64 at this; omega, by rw [IntKind.wrap_i64]; have := hk7.2; unfold I64 at this; omega⟩
      have wb2 : IntKind.i64.wrap (b.tdiv 2) = b.tdiv 2 := by rw [IntKind.wrap_i64]; have := hb2; unfold I64 at this; omega
      have hKb2 : (K2 : Int) < (L : Int) := by omega
      have hKb20 : (0 : Int) ≤ (K2 : Int) := by omega
      obtain ⟨d, hd⟩ : ∃ d, (wdL N A s)[K2]? = some d := ⟨_, List.getElem?_eq_getElem (by rw [← HLe.out]; exact hK2)⟩
      obtain ⟨g', xd, cd, hg', hcell, _, hAd⟩ := (H2.out.1.below HI2.out).item hd
      cases hg'
      have hdS := wdL_sum (List.mem_of_getElem? hd)
      have HD : Hid (ArgL xd N cd (fun j => ((d j : Nat) : Int)) wI ∧ psm d N % (N + 1) = A ∧ (∀ j, d j ≤ 1)) := ⟨hAd, hdS⟩
      clear hPK2 hPm hAd hdS
      go_wp2_with fail
      refine (HPK2.out _).mono ?_
      rintro e w' ⟨rfl, hw⟩
      have hw := hw.symm
      subst hw
      go_wp2_with fail
      refine (HPm.out _).mono ?_
      rintro e w' ⟨rfl, hw⟩
      have hw := hw.symm
      subst hw
      have HWf : Hid (Calls Try.prog 25 #[.slice ao sn ca, .int .i64 0, .int .i64 (m : Nat), .bool false] wI fun e w' => ∃ yo yc y, e = .returned (.slice yo m yc) ∧ ArgL yo m yc y w' ∧ gwchk m y = 0 ∧ Below wI.heap.size wI w') := by
        refine (wordOf_any (HL.out.2.2.1.below (bel_up' H2.out.2.1 HI2.out)) (by omega) 0 m false (by omega) (by omega)).mono ?_
        rintro e w' ⟨v, y, rfl, ho, hwd, hb'⟩
        obtain ⟨yo, yc, rfl, hA⟩ := ho.argL
        refine ⟨yo, yc, y, rfl, hA, ?_, hb'⟩
        unfold gwchk
        rw [if_neg (by omega), if_pos]
        exact gt_all m fun j hj => decide_eq_true (by rcases hwd j hj with h | h; exact h; cases h.1)
      clear hcell HPK2 HPm hk7 hb2 wk1 wk2 wb2 hKb hKb0 hKb2 hKb20
      go_wp2_with fail
      refine HWf.out.mono ?_
      rintro e wJ ⟨yo, yc, y, rfl, hAy, hgy, hbJ⟩
      obtain ⟨p, hp⟩ : ∃ p, p = lvd (fun j => ((c j : Nat) : Int)) (fun j => ((d j : Nat) : Int)) N N := ⟨_, rfl⟩
      obtain ⟨q, hq⟩ : ∃ q, q = lvd (fun j => ((c j : Nat) : Int)) y N m := ⟨_, rfl⟩
      obtain ⟨r, hr⟩ : ∃ r, r = lvd y (fun j => ((d j : Nat) : Int)) m N := ⟨_, rfl⟩
      have hp2 : p ≤ 40 := by rw [hp]; have := lvd_few (fun j => ((c j : Nat) : Int)) (fun j => ((d j : Nat) : Int)) N N; omega
      have hq2 : q ≤ 40 := by rw [hq]; have := lvd_few (fun j => ((c j : Nat) : Int)) y N m; omega
      have hr2 : r ≤ 40 := by rw [hr]; have := lvd_few y (fun j => ((d j : Nat) : Int)) m N; omega
      have hpqr : p ≤ q + r := by rw [hp, hq, hr]; exact lvd_tri _ _ _ _ _ _ _ (Nat.le_refl _)
      have Hsame : Hid (p < 4 → ∀ j, j < N → c j = d j) := fun h => lvd_four HNN.out.1 H2.out.2.2.2.2 HD.out.2.2 H2.out.2.2.2.1 HD.out.2.1 (by rw [← hp]; exact h)
      have HJ : Hid (Below w1.heap.size w1 wJ) := bel_up' HI2.out hbJ
      have HFs : Hid (∀ wx, Below wJ.heap.size wJ wx → ArgL (some ⟨bx, ox, none⟩) N cx (fun j => ((c j : Nat) : Int)) wx ∧ ArgL xd N cd (fun j => ((d j : Nat) : Int)) wx ∧ ArgL yo m yc y wx ∧ gwchk N (fun j => ((c j : Nat) : Int)) = 0 ∧ gwchk N (fun j => ((d j : Nat) : Int)) = 0 ∧ gwchk m y = 0) := fun wx hb => ⟨argL_below H2.out.2.2.1 (bel_up' HJ.out hb), argL_below HD.out.1 (bel_up' hbJ hb), argL_below hAy hb, allP_bits H2.out.2.2.2.2 (by omega), allP_bits HD.out.2.2 (by omega), hgy⟩
      have HSt1 : Hid (∀ wx, Below wJ.heap.size wJ wx → Calls Try.prog 22 #[.slice (some ⟨bx, ox, none⟩) N cx, .slice xd N cd] wx fun e w' => e = .returned (.tuple #[.int .i64 (p : Nat), .int .i64 0]) ∧ Below wx.heap.size wx w') := fun wx hb => by
        obtain ⟨a1, a2, a3, a4, a5, a6⟩ := HFs.out wx hb
        rw [hp]; exact gsteps_ok a1.sl a2.sl a4 a5
      have HSt2 : Hid (∀ wx, Below wJ.heap.size wJ wx → Calls Try.prog 22 #[.slice (some ⟨bx, ox, none⟩) N cx, .slice yo m yc] wx fun e w' => e = .returned (.tuple #[.int .i64 (q : Nat), .int .i64 0]) ∧ Below wx.heap.size wx w') := fun wx hb => by
        obtain ⟨a1, a2, a3, a4, a5, a6⟩ := HFs.out wx hb
        rw [hq]; exact gsteps_ok a1.sl a3.sl a4 a6
      have HSt3 : Hid (∀ wx, Below wJ.heap.size wJ wx → Calls Try.prog 22 #[.slice yo m yc, .slice xd N cd] wx fun e w' => e = .returned (.tuple #[.int .i64 (r : Nat), .int .i64 0]) ∧ Below wx.heap.size wx w') := fun wx hb => by
        obtain ⟨a1, a2, a3, a4, a5, a6⟩ := HFs.out wx hb
        rw [hr]; exact gsteps_ok a3.sl a2.sl a6 a5
      obtain ⟨R, hR⟩ : ∃ R, R = (srL c N).length := ⟨_, rfl⟩
      have hR2 : R ≤ 13 := by rw [hR]; have := srL_len c N; omega
      have HBl : Hid (∀ wx, Below wJ.heap.size wJ wx → Calls Try.prog 20 #[.slice (some ⟨bx, ox, none⟩) N cx] wx fun e w' => ∃ so sc, e = .returned (.tuple #[.slice so R sc, .int .i64 0]) ∧ Below wx.heap.size wx w') := fun wx hb => by
        obtain ⟨a1, a2, a3, a4, a5, a6⟩ := HFs.out wx hb
        refine (gball_ok a1 a4 H2.out.2.2.2.2).mono ?_
        rintro e w' ⟨v, rfl, hbl, hb'⟩
        obtain ⟨so, sc, rfl⟩ := hbl.len H2.out.2.2.2.2
        exact ⟨so, sc, by rw [hR], hb'⟩
      have HR : Hid (R = (srL c N).length) := hR
      clear hp hq hr hR hAy hgy hbJ HWf
      go_wp2_with fail
      refine (HSt1.out _ (Below.refl _ _)).mono ?_
      rintro e wK ⟨rfl, hb⟩
      have HK1 : Hid (Below wJ.heap.size wJ wK) := hb
      clear hb HSt1
      go_wp2_with fail
      refine (HSt2.out _ HK1.out).mono ?_
      rintro e wL ⟨rfl, hb⟩
      have HL1 : Hid (Below wJ.heap.size wJ wL) := bel_up' HK1.out hb
      clear hb HSt2 HK1
      go_wp2_with fail
      refine (HSt3.out _ HL1.out).mono ?_
      rintro e wM ⟨rfl, hb⟩
      have HM3 : Hid (Below wJ.heap.size wJ wM) := bel_up' HL1.out hb
      clear hb HSt3 HL1
      go_wp2_with fail
      refine (HBl.out _ HM3.out).mono ?_
      rintro e wN ⟨so, sc, rfl, hb⟩
      have HN3 : Hid (Below wJ.heap.size wJ wN) := bel_up' HM3.out hb
      clear hb HBl HM3
      go_wp2
      go_loopw [35, 36] (fun vr vi wx => ∃ (i rr : Nat), 1 ≤ i ∧ i ≤ N ∧ rr ≤ i ∧ vr = .int .i64 (rr : Nat) ∧ vi = .int .i64 (i : Nat) ∧ Hid (rr = (srL c i).length ∧ ∃ e, wx = wN.drewN e)) (fun _ vi _ => N - (intOf vi).toNat)
      case atStart => exact ⟨1, 1, by omega, by omega, by omega, rfl, rfl, by rw [srL_next, if_pos (Or.inl rfl)]; rfl, 0, rfl⟩
      case round =>
        obtain ⟨i, rr, hi1, hiN, hrr, rfl, rfl, HI⟩ := hrel
        rename World => wx
        by_cases hlt : i < N
        · have hib : (i : Int) < (N : Int) := by omega
          have hib0 : (0 : Int) ≤ (i : Int) := by omega
          obtain ⟨i1, hi1e⟩ : ∃ i1, i1 = i - 1 := ⟨_, rfl⟩
          have wi1 : IntKind.i64.wrap ((i : Int) - 1) = (i1 : Int) := wrap_to (by omega) (by omega)
          have hi1b : (i1 : Int) < (N : Int) := by omega
          have hi10 : (0 : Int) ≤ (i1 : Int) := by omega
          obtain ⟨a1, ha1⟩ : ∃ a1, a1 = c i := ⟨_, rfl⟩
          obtain ⟨a2, ha2⟩ : ∃ a2, a2 = c i1 := ⟨_, rfl⟩
          have hcs : wx.cell? ⟨bx, ox + i, none⟩ = some (.int .i64 (a1 : Nat)) ∧ wx.cell? ⟨bx, ox + i1, none⟩ = some (.int .i64 (a2 : Nat)) := by
            obtain ⟨e, hwx⟩ := HI.out.2
            have hS := (argL_below H2.out.2.2.1 (bel_up' HJ.out HN3.out)).sl
            obtain ⟨b1, o1, e1, hc1⟩ := hS i hlt
            obtain ⟨b2, o2, e2, hc2⟩ := hS i1 (by omega)
            cases e1
            cases e2
            rw [hwx, ha1, ha2]
            exact ⟨hc1, hc2⟩
          obtain ⟨hc1, hc2⟩ := hcs
          have HW : Hid (∀ e, Hid (∃ e', wx.drewN e = wN.drewN e')) := fun e => by
            obtain ⟨e7, hwz⟩ := HI.out.2
            exact ⟨_, by rw [hwz, World.drewN_drewN]⟩
          by_cases hne : a1 = a2
          · have zz : ((a1 : Int) != (a2 : Int)) = false := by rw [hne]; simp
            have HV : Hid (rr = (srL c (i + 1)).length) := by
              show rr = _
              rw [srL_next, if_neg (by rintro (h | h); omega; exact h (by rw [← hi1e, ← ha1, ← ha2, hne])), HI.out.1]; rfl
            clear hne ha1 ha2 hi1e
            go_wp2
            go_quiet (fail)
            go_wp2
            go_roundw
            case rel => exact ⟨i + 1, rr, by omega, by omega, by omega, rfl, by go_num, HV.out, (HW.out _).out⟩
            case measure => simp [intOf]; omega
          · have zz : ((a1 : Int) != (a2 : Int)) = true := bne_iff_ne.2 (by omega)
            have HV : Hid (rr + 1 = (srL c (i + 1)).length) := by
              show rr + 1 = _
              rw [srL_next, if_pos (Or.inr (by rw [← hi1e, ← ha1, ← ha2]; exact fun e => hne e.symm)), HI.out.1]
            clear hne ha1 ha2 hi1e
            go_wp2
            go_quiet (fail)
            go_wp2
            go_roundw
            case rel => exact ⟨i + 1, rr + 1, by omega, by omega, by omega, by go_num, by go_num, HV.out, (HW.out _).out⟩
            case measure => simp [intOf]; omega
        · have hib : ¬ (i : Int) < (N : Int) := by omega
          have hrR : rr = R := by
            have h := HI.out.1
            rw [show i = N by omega, ← HR.out] at h; exact h
          have HX : Hid (Below wJ.heap.size wJ wx) := by
            obtain ⟨e, hwx⟩ := HI.out.2
            rw [hwx]; exact below_drewN2 HN3.out e
          subst hrR
          have zR : ((rr : Int) == (rr : Int)) = true := by simp
          have hle : (p : Int) ≤ (q : Int) + (r : Int) := by omega
          by_cases hp4 : 4 ≤ p
          · have hp4' : (4 : Int) ≤ (p : Int) := by omega
            have HEnd : Hid (Below w.heap.size w wx) := bel_up' H2.out.2.1 (bel_up' HJ.out HX.out)
            clear hp4
            go_wp2
            go_ret
            exact ⟨rfl, HEnd.out⟩
          · have hp4' : ¬ (4 : Int) ≤ (p : Int) := by omega
            have HSe : Hid (Calls Try.prog 17 #[.slice xd N cd, .slice (some ⟨bx, ox, none⟩) N cx] wx fun e w' => e = .returned (.bool true) ∧ ∃ d, w' = wx.drewN d) := by
              obtain ⟨q1, q2, _⟩ := HFs.out wx HX.out
              have hcd := Hsame.out (by omega)
              have h := same_any (la := wz N d) (lb := wz N c) (gs_slI (cap := cd) q2.sl (by omega)) (gs_slI (cap := cx) q1.sl (by omega))
              rw [decide_eq_true (wz_eq.2 fun j hj => (hcd j hj).symm)] at h; exact h
            clear hp4
            go_wp2_with fail
            refine HSe.out.mono ?_
            rintro e wZ ⟨rfl, dd, hdd⟩
            have HEnd : Hid (Below w.heap.size w wZ) := by rw [hdd]; exact below_drewN2 (bel_up' H2.out.2.1 (bel_up' HJ.out HX.out)) dd
            clear hdd
            go_wp2
            go_ret
            exact ⟨rfl, HEnd.out⟩
end Go.Proofs.Ytabkomelnhnoiaa
