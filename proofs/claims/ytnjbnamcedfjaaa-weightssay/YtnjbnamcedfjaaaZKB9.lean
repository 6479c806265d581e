/- Weights: the law's walk of the bounds, where all may be (printed by make/kb8.py). -/
import Derived.Test.YtnjbnamcedfjaaaZKB8
import Derived.Test.YtnjbnamcedfjaaaZV1
namespace Go.Proofs.Ytnjbnamcedfjaaa
open Go.RowKit Go.Sort

set_option maxHeartbeats 4000000 in
set_option maxRecDepth 100000 in
theorem bd_ok {q n d : Nat} (hq : 2 ≤ q) (hq2 : q ≤ 64) (hp : q ^ n ≤ 1073741824) (hd : 1 ≤ d) (hdn : d ≤ n) {w : World} (hC : ∀ wx, Calls Try.prog 47 #[.int .i64 (q : Nat), .int .i64 (n : Nat), .int .i64 (d : Nat)] wx fun e w' => e = .returned (.int .i64 0) ∧ Below wx.heap.size wx w') :
    Calls Try.prog 13 #[.int .i64 (q : Nat), .int .i64 (n : Nat), .int .i64 (d : Nat), .int .i64 0] w fun e w' => e = .returned (.bool true) ∧ Below w.heap.size w w' := by
  have hn30 : n ≤ 30 := pow30 hq hp
  have h1 : ¬ (d : Int) < 1 := by omega
  have h2 : ¬ (n : Int) < (d : Int) := by omega
  have h2b : ¬ (d : Int) > (n : Int) := by omega
  have HC : Hid (∀ wx, Calls Try.prog 47 #[.int .i64 (q : Nat), .int .i64 (n : Nat), .int .i64 (d : Nat)] wx fun e w' => e = .returned (.int .i64 0) ∧ Below wx.heap.size wx w') := hC
  have HG : Hid (q ^ n ≤ 1073741824) := hp
  obtain ⟨P, hP⟩ : ∃ P, P = q ^ n := ⟨_, rfl⟩
  have hPb : P ≤ 1073741824 := by rw [hP]; exact hp
  have HPw : Hid (∀ ww : World, Calls Try.prog 34 #[.int .i64 (q : Nat), .int .i64 (n : Nat)] ww fun e w' => e = .returned (.int .i64 (P : Nat)) ∧ w' = ww) := fun ww => by
    rw [hP]; exact rpow_is q n hq hq2 (by omega) hp ww
  obtain ⟨r, hr⟩ : ∃ r, r = (d - 1) / 2 := ⟨_, rfl⟩
  obtain ⟨d1, hd1⟩ : ∃ d1, d1 = d - 1 := ⟨_, rfl⟩
  have hdm : (d : Int) - 1 = (d1 : Int) := by omega
  have hd1b : d1 ≤ 30 := by omega
  have hrb : r ≤ 30 := by omega
  have hdr : Int.tdiv (d1 : Int) 2 = (r : Int) := by
    rw [hr, ← hd1]
    rfl
  obtain ⟨s1, hs1⟩ : ∃ s1, s1 = n - d + 1 := ⟨_, rfl⟩
  have hs1b : s1 ≤ 31 := by omega
  obtain ⟨s0, hs0⟩ : ∃ s0, s0 = n - d := ⟨_, rfl⟩
  have hsa : (n : Int) - (d : Int) = (s0 : Int) := by omega
  have hsm : (s0 : Int) + 1 = (s1 : Int) := by omega
  obtain ⟨B, hB⟩ : ∃ B, B = bls q n (r + 1) := ⟨_, rfl⟩
  have hBp : 1 ≤ B := by rw [hB]; exact bls_pos _
  have hBb : B ≤ 34359738368 := by
    rw [hB]
    exact Nat.le_trans (bls_le (by omega) _) (Nat.le_trans (Nat.mul_le_mul (show r + 1 ≤ 32 by omega) hp) (by omega))
  have hBne : (B : Int) ≠ 0 := by omega
  have HB1 : Hid (∀ ww : World, Calls Try.prog 38 #[.int .i64 (q : Nat), .int .i64 (n : Nat), .int .i64 (r : Nat)] ww fun e w' => e = .returned (.int .i64 (B : Nat)) ∧ Below ww.heap.size ww w') := fun ww => by
    rw [hB]; exact rball_any q n r hq hq2 hp (by omega) ww
  obtain ⟨d', hd'⟩ : ∃ d', d = d' + 1 := ⟨d - 1, by omega⟩
  obtain ⟨C, hCd⟩ : ∃ C, C = bls q n d := ⟨_, rfl⟩
  have hCp : 1 ≤ C := by rw [hCd, hd']; exact bls_pos _
  have hCb : C ≤ 34359738368 := by
    rw [hCd]
    exact Nat.le_trans (bls_le (by omega) _) (Nat.le_trans (Nat.mul_le_mul (show d ≤ 32 by omega) hp) (by omega))
  have HB2 : Hid (∀ ww : World, Calls Try.prog 38 #[.int .i64 (q : Nat), .int .i64 (n : Nat), .int .i64 (d1 : Nat)] ww fun e w' => e = .returned (.int .i64 (C : Nat)) ∧ Below ww.heap.size ww w') := fun ww => by
    rw [show d1 = d' by omega, hCd, hd']; exact rball_any q n d' hq hq2 hp (by omega) ww
  obtain ⟨S, hS⟩ : ∃ S, S = q ^ (n - d + 1) := ⟨_, rfl⟩
  have hSp : q ^ (n - d + 1) ≤ 1073741824 := Nat.le_trans (Nat.pow_le_pow_right (by omega) (by omega)) hp
  have HPs : Hid (∀ ww : World, Calls Try.prog 34 #[.int .i64 (q : Nat), .int .i64 (s1 : Nat)] ww fun e w' => e = .returned (.int .i64 (S : Nat)) ∧ Below ww.heap.size ww w') := fun ww => by
    rw [hs1, hS]
    exact (rpow_is q (n - d + 1) hq hq2 (by omega) hSp ww).mono (fun e w' h => ⟨h.1, by rw [h.2]; exact Below.refl _ _⟩)
  obtain ⟨V, hV⟩ : ∃ V, V = (P + C - 1) / C := ⟨_, rfl⟩
  have HUp : Hid (∀ ww : World, Calls Try.prog 39 #[.int .i64 (P : Nat), .int .i64 (C : Nat)] ww fun e w' => e = .returned (.int .i64 (V : Nat)) ∧ Below ww.heap.size ww w') := fun ww => by
    rw [hV]; exact (rUp_any P C hCp (by omega) (by omega) ww).mono (fun e w' h => ⟨h.1, by rw [h.2]; exact Below.refl _ _⟩)
  obtain ⟨Q, hQ⟩ : ∃ Q, Q = P / B := ⟨_, rfl⟩
  have hq3 : Int.tdiv (P : Int) (B : Int) = (Q : Int) := by rw [hQ]; rfl
  have hQb : Q ≤ 1073741824 := by rw [hQ]; exact Nat.le_trans (Nat.div_le_self _ _) hPb
  obtain ⟨X, hX⟩ : ∃ X, X = q * d := ⟨_, rfl⟩
  obtain ⟨Y, hY⟩ : ∃ Y, Y = n * (q - 1) := ⟨_, rfl⟩
  have hXb : X ≤ 64 * 30 := by rw [hX]; exact Nat.mul_le_mul hq2 (by omega)
  have hYb : Y ≤ 30 * 64 := by rw [hY]; exact Nat.mul_le_mul hn30 (by omega)
  have hw1 : IntKind.i64.wrap ((q : Int) * (d : Int)) = (X : Int) := by
    rw [show (q : Int) * (d : Int) = (X : Int) by rw [hX]; simp]
    exact wrap_ka (by omega) (by omega)
  have hw2 : IntKind.i64.wrap ((n : Int) * ((q : Int) - 1)) = (Y : Int) := by
    rw [show (q : Int) - 1 = ((q - 1 : Nat) : Int) by omega, show (n : Int) * ((q - 1 : Nat) : Int) = (Y : Int) by rw [hY]; simp]
    exact wrap_ka (by omega) (by omega)
  have HV : Hid (q ^ n / bls q n ((d - 1) / 2 + 1) = Q ∧ q ^ (n - d + 1) = S ∧ vrs q n d = V ∧ plk q n d = if Y < X then X / (X - Y) else 0) := by
    refine ⟨by rw [hQ, hP, hB, hr], hS.symm, by unfold vrs; rw [hV, hP, hCd], by unfold plk; rw [hX, hY]⟩
  clear hs1 hs0 hd1 hC hP hr hB hd' hCd hS hSp hV hQ hX hY hp
  go_enter Try.func13, Try.ntmps13
  go_wp2_with fail
  refine (HPw.out _).mono ?_
  rintro e w1 ⟨rfl, hw⟩
  have H1 : Hid (Below w.heap.size w w1) := by rw [hw]; exact (Below.refl _ _).alloc (Nat.le_refl _) _
  clear hw
  go_wp2
  refine below_tail 21 (by kernel_rfl) (by kernel_rfl) ?_
  simp only [List.take_succ_cons, List.take_zero, List.drop_succ_cons, List.drop_zero]
  iterate 18 (go_big_quiet_step (first | (go_at_call 38; exact Calls.regrown_of (HB1.out _)) | (go_at_call 34; exact Calls.regrown_of (HPs.out _))))
  repeat (go_big_quiet_step (first | (go_at_call 38; exact Calls.regrown_of (HB2.out _)) | (go_at_call 39; exact Calls.regrown_of (HUp.out _))))
  refine wpQuiet_nil ?_
  intro _ hw'
  obtain ⟨⟨ds, oss⟩, hw''⟩ := hw'
  subst hw''
  obtain ⟨wz, hwz⟩ : ∃ wz, wz = grow (redrawn w1 ds) oss := ⟨_, rfl⟩
  have HZ : Hid (Below w.heap.size w wz) := by rw [hwz]; exact bel_up' H1.out (below_regrown _ ds oss)
  (try rw [← hwz])
  clear hwz H1
  by_cases hlt : Y < X
  · have hltb : (Y : Int) < (X : Int) := by omega
    have hltc : (X : Int) > (Y : Int) := hltb
    obtain ⟨Z, hZ⟩ : ∃ Z, Z = X - Y := ⟨_, rfl⟩
    have hxy : (X : Int) - (Y : Int) = (Z : Int) := by omega
    have hZne : (Z : Int) ≠ 0 := by omega
    obtain ⟨K, hK⟩ : ∃ K, K = X / Z := ⟨_, rfl⟩
    have hdz : Int.tdiv (X : Int) (Z : Int) = (K : Int) := by rw [hK]; rfl
    have hdz2 : (X : Int) / (Z : Int) = (K : Int) := by rw [hK]; rfl
    have hKb : K ≤ 1920 := by rw [hK]; exact Nat.le_trans (Nat.div_le_self _ _) (by omega)
    have HK : Hid (plk q n d = K) := by show _ = _; rw [HV.out.2.2.2, if_pos hlt, hK, hZ]
    clear hK hZ
    have HH : Hid (∀ wx, Calls Try.prog 40 #[.int .i64 (q : Nat), .int .i64 (n : Nat), .int .i64 (d : Nat)] wx fun e w' => e = .returned (.tuple #[.int .i64 (Q : Nat), .int .i64 0]) ∧ Below wx.heap.size wx w') := fun wx => by
      have h := wH_ok q n d hq hq2 HG.out hd hdn (HC.out wx)
      rw [HV.out.1] at h; exact h
    have HSg : Hid (∀ wx, Calls Try.prog 41 #[.int .i64 (q : Nat), .int .i64 (n : Nat), .int .i64 (d : Nat)] wx fun e w' => e = .returned (.tuple #[.int .i64 (S : Nat), .int .i64 0]) ∧ Below wx.heap.size wx w') := fun wx => by
      have h := wS_ok q n d hq hq2 HG.out hd hdn (HC.out wx)
      rw [HV.out.2.1] at h; exact h
    have HPl : Hid (∀ wx, Calls Try.prog 42 #[.int .i64 (q : Nat), .int .i64 (n : Nat), .int .i64 (d : Nat)] wx fun e w' => e = .returned (.tuple #[.int .i64 (K : Nat), .int .i64 0]) ∧ Below wx.heap.size wx w') := fun wx => by
      have h := wP_ok q n d hq hq2 HG.out hd hdn (HC.out wx)
      rw [HK.out] at h; exact h
    have HVa : Hid (∀ wx, Calls Try.prog 43 #[.int .i64 (q : Nat), .int .i64 (n : Nat), .int .i64 (d : Nat)] wx fun e w' => e = .returned (.tuple #[.int .i64 (V : Nat), .int .i64 0]) ∧ Below wx.heap.size wx w') := fun wx => by
      have h := wV_ok q n d hq hq2 HG.out hd hdn (HC.out wx)
      rw [HV.out.2.2.1] at h; exact h
    obtain ⟨wf, hwf⟩ : ∃ wf, wf = wz.alloc (.cells #[.int .i64 (Q : Nat), .int .i64 (S : Nat), .int .i64 (K : Nat), .int .i64 (V : Nat)] 3) := ⟨_, rfl⟩
    have H4 : Hid (Below w.heap.size w wf ∧ Four wz.heap.size (Q : Nat) (S : Nat) (K : Nat) (V : Nat) wf) := by
      rw [hwf]; exact ⟨HZ.out.alloc HZ.out.size _, four_alloc _ _ _ _ _⟩
    clear HV HK
    go_wp2_with fail
    rw [← hwf]
    refine (HH.out _).mono ?_
    rintro e w5 ⟨rfl, hb⟩
    clear hwf
    have H5 : Hid (Below w.heap.size w w5 ∧ Four wz.heap.size (Q : Nat) (S : Nat) (K : Nat) (V : Nat) w5) := ⟨bel_up' H4.out.1 hb, H4.out.2.below hb⟩
    clear hb H4
    go_wp2_with fail
    refine (HSg.out _).mono ?_
    rintro e w6 ⟨rfl, hb⟩
    have H6 : Hid (Below w.heap.size w w6 ∧ Four wz.heap.size (Q : Nat) (S : Nat) (K : Nat) (V : Nat) w6) := ⟨bel_up' H5.out.1 hb, H5.out.2.below hb⟩
    clear hb H5
    go_wp2_with fail
    refine (HPl.out _).mono ?_
    rintro e w7 ⟨rfl, hb⟩
    have H7 : Hid (Below w.heap.size w w7 ∧ Four wz.heap.size (Q : Nat) (S : Nat) (K : Nat) (V : Nat) w7) := ⟨bel_up' H6.out.1 hb, H6.out.2.below hb⟩
    clear hb H6
    go_wp2_with fail
    refine (HVa.out _).mono ?_
    rintro e w8 ⟨rfl, hb⟩
    have H8 : Hid (Below w.heap.size w w8 ∧ Four wz.heap.size (Q : Nat) (S : Nat) (K : Nat) (V : Nat) w8) := ⟨bel_up' H7.out.1 hb, H7.out.2.below hb⟩
    clear hb H7
    have c0 := H8.out.2.c0
    have c1 := H8.out.2.c1
    have c2 := H8.out.2.c2
    have c3 := H8.out.2.c3
    go_wp2_with (go_at_call 12; refine (num_same _ _).mono ?_; rintro e w' ⟨rfl, hw⟩; have hw := hw.symm; subst hw)
    go_ret
    exact ⟨rfl, H8.out.1⟩
  · have hltb : ¬ (Y : Int) < (X : Int) := by omega
    have hltc : ¬ (X : Int) > (Y : Int) := hltb
    have HK : Hid (plk q n d = 0) := by show _ = _; rw [HV.out.2.2.2, if_neg hlt]
    have HH : Hid (∀ wx, Calls Try.prog 40 #[.int .i64 (q : Nat), .int .i64 (n : Nat), .int .i64 (d : Nat)] wx fun e w' => e = .returned (.tuple #[.int .i64 (Q : Nat), .int .i64 0]) ∧ Below wx.heap.size wx w') := fun wx => by
      have h := wH_ok q n d hq hq2 HG.out hd hdn (HC.out wx)
      rw [HV.out.1] at h; exact h
    have HSg : Hid (∀ wx, Calls Try.prog 41 #[.int .i64 (q : Nat), .int .i64 (n : Nat), .int .i64 (d : Nat)] wx fun e w' => e = .returned (.tuple #[.int .i64 (S : Nat), .int .i64 0]) ∧ Below wx.heap.size wx w') := fun wx => by
      have h := wS_ok q n d hq hq2 HG.out hd hdn (HC.out wx)
      rw [HV.out.2.1] at h; exact h
    have HPl : Hid (∀ wx, Calls Try.prog 42 #[.int .i64 (q : Nat), .int .i64 (n : Nat), .int .i64 (d : Nat)] wx fun e w' => e = .returned (.tuple #[.int .i64 0, .int .i64 0]) ∧ Below wx.heap.size wx w') := fun wx => by
      have h := wP_ok q n d hq hq2 HG.out hd hdn (HC.out wx)
      rw [HK.out] at h; exact h
    have HVa : Hid (∀ wx, Calls Try.prog 43 #[.int .i64 (q : Nat), .int .i64 (n : Nat), .int .i64 (d : Nat)] wx fun e w' => e = .returned (.tuple #[.int .i64 (V : Nat), .int .i64 0]) ∧ Below wx.heap.size wx w') := fun wx => by
      have h := wV_ok q n d hq hq2 HG.out hd hdn (HC.out wx)
      rw [HV.out.2.2.1] at h; exact h
    obtain ⟨wf, hwf⟩ : ∃ wf, wf = wz.alloc (.cells #[.int .i64 (Q : Nat), .int .i64 (S : Nat), .int .i64 0, .int .i64 (V : Nat)] 3) := ⟨_, rfl⟩
    have H4 : Hid (Below w.heap.size w wf ∧ Four wz.heap.size (Q : Nat) (S : Nat) 0 (V : Nat) wf) := by
      rw [hwf]; exact ⟨HZ.out.alloc HZ.out.size _, four_alloc _ _ _ _ _⟩
    clear HV HK
    go_wp2_with fail
    rw [← hwf]
    refine (HH.out _).mono ?_
    rintro e w5 ⟨rfl, hb⟩
    clear hwf
    have H5 : Hid (Below w.heap.size w w5 ∧ Four wz.heap.size (Q : Nat) (S : Nat) 0 (V : Nat) w5) := ⟨bel_up' H4.out.1 hb, H4.out.2.below hb⟩
    clear hb H4
    go_wp2_with fail
    refine (HSg.out _).mono ?_
    rintro e w6 ⟨rfl, hb⟩
    have H6 : Hid (Below w.heap.size w w6 ∧ Four wz.heap.size (Q : Nat) (S : Nat) 0 (V : Nat) w6) := ⟨bel_up' H5.out.1 hb, H5.out.2.below hb⟩
    clear hb H5
    go_wp2_with fail
    refine (HPl.out _).mono ?_
    rintro e w7 ⟨rfl, hb⟩
    have H7 : Hid (Below w.heap.size w w7 ∧ Four wz.heap.size (Q : Nat) (S : Nat) 0 (V : Nat) w7) := ⟨bel_up' H6.out.1 hb, H6.out.2.below hb⟩
    clear hb H6
    go_wp2_with fail
    refine (HVa.out _).mono ?_
    rintro e w8 ⟨rfl, hb⟩
    have H8 : Hid (Below w.heap.size w w8 ∧ Four wz.heap.size (Q : Nat) (S : Nat) 0 (V : Nat) w8) := ⟨bel_up' H7.out.1 hb, H7.out.2.below hb⟩
    clear hb H7
    have c0 := H8.out.2.c0
    have c1 := H8.out.2.c1
    have c2 := H8.out.2.c2
    have c3 := H8.out.2.c3
    go_wp2_with (go_at_call 12; refine (num_same _ _).mono ?_; rintro e w' ⟨rfl, hw⟩; have hw := hw.symm; subst hw)
    go_ret
    exact ⟨rfl, H8.out.1⟩
end Go.Proofs.Ytnjbnamcedfjaaa
