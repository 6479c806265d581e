/- Weights: balls, and numbers of sets of the reference (printed by make/kb2.py). -/
import Derived.Test.YtnjbnamcedfjaaaZKA3
import Derived.Test.YtnjbnamcedfjaaaZKB1
namespace Go.Proofs.Ytnjbnamcedfjaaa
open Go.RowKit

set_option maxHeartbeats 4000000 in
set_option maxRecDepth 100000 in
theorem wball_any (q n r : Nat) (hq : 2 ≤ q) (hq2 : q ≤ 64) (hp : q ^ n ≤ 1073741824) (hr : r ≤ n) (w : World) :
    Calls Try.prog 80 #[.int .i64 (q : Nat), .int .i64 (n : Nat), .int .i64 (r : Nat)] w fun e w' => e = .returned (.int .i64 (bls q n (r + 1) : Nat)) ∧ w' = w := by
  have hn30 : n ≤ 30 := pow30 hq hp
  go_enter Try.func80, Try.ntmps80
  go_wp2
  go_loopw [7, 11] (fun vs vi wr => ∃ i s : Nat, vs = .int .i64 (s : Nat) ∧ vi = .int .i64 (i : Nat) ∧ i ≤ r + 1 ∧ Hid (s = bls q n i) ∧ wr = w) (fun _ vi _ => r + 1 - (intOf vi).toNat)
  case atStart => exact ⟨0, 0, rfl, rfl, by omega, rfl, rfl⟩
  case round =>
    obtain ⟨i, s, rfl, rfl, hi, HS, hw⟩ := hrel
    have hw := hw.symm
    subst hw
    have hs : s ≤ 34359738368 := by
      rw [HS.out]
      refine Nat.le_trans (bls_le (by omega) i) (Nat.le_trans (Nat.mul_le_mul (show i ≤ 32 by omega) hp) (by omega))
    by_cases hlt : i < r + 1
    · have hib : (i : Int) < (r : Int) + 1 := by omega
      obtain ⟨pw, hpw⟩ : ∃ pw, pw = (q - 1) ^ i := ⟨_, rfl⟩
      obtain ⟨o1, ho1⟩ : ∃ o1, o1 = chs n i := ⟨_, rfl⟩
      have hpwb : pw ≤ 1073741824 := by
        rw [hpw]
        have h1 : (q - 1) ^ i ≤ q ^ i := Nat.pow_le_pow_left (by omega) i
        have h2 : q ^ i ≤ q ^ n := Nat.pow_le_pow_right (by omega) (by omega)
        omega
      obtain ⟨P, hP⟩ : ∃ P, P = pw * o1 := ⟨_, rfl⟩
      have hP2 : P ≤ 1073741824 := by rw [hP, hpw, ho1]; exact Nat.le_trans (bterm_le (by omega)) hp
      have HPw : Hid (Calls Try.prog 37 #[.int .i64 ((q : Int) - 1), .int .i64 (i : Nat)] w fun e w' => e = .returned (.int .i64 (pw : Nat)) ∧ w' = w) := by
        show Calls _ _ _ _ _
        rw [show (q : Int) - 1 = ((q - 1 : Nat) : Int) by omega, hpw]
        exact wpow_is (q - 1) i (by omega) (by omega) (by omega) (by rw [← hpw]; exact hpwb) w
      have HO1 : Hid (Calls Try.prog 77 #[.int .i64 (n : Nat), .int .i64 (i : Nat)] w fun e w' => e = .returned (.int .i64 (o1 : Nat)) ∧ w' = w) := by
        show Calls _ _ _ _ _
        rw [ho1]; exact wover_any n i (by omega) (by omega) w
      have hw1 : IntKind.i64.wrap ((pw : Int) * (o1 : Int)) = (P : Int) := by
        rw [show (pw : Int) * (o1 : Int) = (P : Int) by rw [hP]; simp]
        exact wrap_ka (by omega) (by omega)
      have HR : Hid (s + P = bls q n (i + 1)) := by
        show s + P = bls q n i + (q - 1) ^ i * chs n i
        rw [HS.out, hP, hpw, ho1]
      clear hP hpw ho1 HS
      go_wp2_with fail
      refine HPw.out.mono ?_
      rintro e w' ⟨rfl, hw⟩
      have hw := hw.symm
      subst hw
      go_wp2_with fail
      refine HO1.out.mono ?_
      rintro e w' ⟨rfl, hw⟩
      have hw := hw.symm
      subst hw
      go_wp2
      go_roundw
      case rel => exact ⟨i + 1, s + P, by first | rfl | simp [hw1] | go_num, by go_num, by omega, HR.out, by first | rfl | trivial⟩
      case measure => simp [intOf]; omega
    · have hib : ¬ (i : Int) < (r : Int) + 1 := by omega
      have hie : i = r + 1 := by omega
      subst hie
      go_wp2
      go_ret
      exact ⟨by rw [← HS.out]; rfl, rfl⟩

set_option maxHeartbeats 8000000 in
set_option maxRecDepth 100000 in
theorem rchoose_any (n k : Nat) (hn30 : n ≤ 30) (hk : k ≤ n) (w : World) :
    Calls Try.prog 79 #[.int .i64 (n : Nat), .int .i64 (k : Nat)] w fun e w' => e = .returned (.int .i64 (chs n k : Nat)) ∧ Below w.heap.size w w' := by
  have hk0a : ¬ (k : Int) < 0 := by omega
  have hk0b : ¬ (n : Int) < (k : Int) := by omega
  have hk0c : ¬ (k : Int) > (n : Int) := by omega
  rw [← kc_one]
  obtain ⟨c, hc⟩ : ∃ c : Nat → Int, c = fun _ => 1 := ⟨_, rfl⟩
  rw [← hc]
  have HB : Hid (∀ i j, i ≤ n → -1073741824 ≤ kc c i j ∧ kc c i j ≤ 1073741824) := fun i j hi => by
    have h : kc c i j = (chs i j : Nat) := by rw [hc]; exact kc_one i j
    have h2 := chs_le i j
    have h3 : 2 ^ i ≤ 2 ^ 30 := Nat.pow_le_pow_right (by omega) (by omega)
    rw [h]
    omega
  have HC : Hid (∀ i, c i = 1) := fun i => by rw [hc]
  clear hc
  obtain ⟨N1, hN1⟩ : ∃ N1, N1 = n + 1 := ⟨_, rfl⟩
  have hN : (n : Int) + 1 = (N1 : Int) := by omega
  have hin : (n : Int) < (N1 : Int) := by omega
  have hi0 : (0 : Int) < (N1 : Int) := by omega
  have HN : Hid (N1 = n + 1 ∧ (n : Int) + 1 = (N1 : Int)) := ⟨hN1, hN⟩
  have hN1b : N1 ≤ 31 := by omega
  clear hN1 hN
  go_enter Try.func79, Try.ntmps79
  go_wp2_with (first | (at_make; refine make_int rfl _ _ rfl _ N1 rfl rfl HN.out.2 (by omega) ?_; intro w1 hown1 hgrow1; have hrz := RowZ.of (row_zeros hown1); have c0 := hrz.cell 0 (by omega); have f0 := hrz.free 0))
  obtain ⟨w2, hw2⟩ : ∃ w2, w2 = w1.setCell ⟨w.heap.size, 0, none⟩ (.int .i64 1) := ⟨_, rfl⟩
  have H2 : Hid (RowZ w.heap.size N1 (fun t => kc c 0 t) w2 ∧ Below w.heap.size w w2) := by
    have hb : Below w.heap.size w w1 := below_grown hgrow1 (Nat.le_refl _) (fun k hk => by simp at hk)
    rw [hw2]
    refine ⟨?_, hb.setCell (Nat.le_refl _) _⟩
    refine hrz.store 0 1 (fun j _ => ?_)
    cases j with
    | zero => rfl
    | succ j => rfl
  rw [← hw2]
  clear hown1 hgrow1 hrz c0 f0 hw2
  go_loopw [6] (fun vi wr => ∃ i : Nat, i ≤ n ∧ vi = .int .i64 (i : Nat) ∧ Hid (RowZ w.heap.size N1 (fun t => kc c i t) wr ∧ Below w.heap.size w wr)) (fun vi _ => n - (intOf vi).toNat)
  case atStart => exact ⟨0, by omega, rfl, H2.out⟩
  case round =>
    clear H2
    obtain ⟨i, hi, rfl, HG⟩ := hrel
    rename World => wr
    by_cases hlt : i < n
    · have hib : (i : Int) < (n : Int) := by omega
      go_wp2
      go_loopw [7] (fun vj wx => ∃ J : Nat, J ≤ n ∧ vj = .int .i64 (J : Nat) ∧ Hid (RowZ w.heap.size N1 (fun t => if J < t then kc c (i + 1) t else kc c i t) wx ∧ Below w.heap.size w wx)) (fun vj _ => (intOf vj).toNat)
      case atStart =>
        refine ⟨n, Nat.le_refl _, rfl, HG.out.1.congr (fun t ht => ?_), HG.out.2⟩
        rw [if_neg (by have := HN.out.1; omega)]
      case round =>
        obtain ⟨J, hJ, rfl, HJ⟩ := hrel
        rename World => wx
        by_cases hJ0 : 0 < J
        · have hJb : (J : Int) > 0 := by omega
          have hJb2 : (0 : Int) < (J : Int) := by omega
          have hJn : (J : Int) < (N1 : Int) := by omega
          have hJp : (0 : Int) ≤ (J : Int) := by omega
          obtain ⟨t, ht⟩ : ∃ t, J = t + 1 := ⟨J - 1, by omega⟩
          have hJ1 : (J : Int) - 1 = (t : Int) := by omega
          have hJ2 : ((J : Int) - 1).toNat = t := by omega
          have hJ3 : (J : Int) - 1 < (N1 : Int) := by omega
          have hJ4 : (0 : Int) ≤ (J : Int) - 1 := by omega
          have hwt : IntKind.i64.wrap (t : Int) = (t : Int) := wrap_ka (by omega) (by omega)
          have ht0 : (0 : Int) ≤ (t : Int) := by omega
          have htN : (t : Int) < (N1 : Int) := by omega
          obtain ⟨av, hav⟩ : ∃ av, av = kc c i J := ⟨_, rfl⟩
          obtain ⟨bv, hbv⟩ : ∃ bv, bv = kc c i t := ⟨_, rfl⟩
          have hb1 := HB.out i J (by omega)
          have hb2 := HB.out i t (by omega)
          rw [← hav] at hb1
          rw [← hbv] at hb2
          have hca := HJ.out.1.cell J (by have := HN.out.1; omega)
          rw [if_neg (by omega), ← hav] at hca
          have hcb := HJ.out.1.cell t (by have := HN.out.1; omega)
          rw [if_neg (by omega), ← hbv] at hcb
          have hfr := HJ.out.1.free J
          have HR : Hid (RowZ w.heap.size N1 (fun s => if J - 1 < s then kc c (i + 1) s else kc c i s) (wx.setCell ⟨w.heap.size, J, none⟩ (.int .i64 (av + bv))) ∧ Below w.heap.size w (wx.setCell ⟨w.heap.size, J, none⟩ (.int .i64 (av + bv)))) := by
            refine ⟨HJ.out.1.store J (av + bv) (fun s _ => ?_), HJ.out.2.setCell (Nat.le_refl _) _⟩
            by_cases e : s = J
            · rw [if_pos e, if_pos (by omega), e, hav, hbv, ht]
              show kc c i (t + 1) + c i * kc c i t = _
              rw [HC.out, Int.one_mul]
            · rw [if_neg e]
              by_cases e2 : J < s
              · rw [if_pos e2, if_pos (by omega)]
              · rw [if_neg e2, if_neg (by omega)]
          have HK5 : Hid (kwS w.heap.size J t av bv wx.drew) := ⟨hca, hcb⟩
          clear hav hbv ht
          go_wp2
          have hS5 := HK5.out
          refine wp_region_noPanic ?_
          refine wp_region_X (S := kwS w.heap.size J t av bv) 13 (by kernel_rfl) ?_
          refine wpAnyX_take (i := 0) (v := ?_) (by rw [List.getElem?_toArray]; rfl) (by kernel_rfl) (by kernel_rfl) (by kernel_rfl) (by kernel_rfl) (fun _ _ _ h => h) hS5 (Or.inl ⟨by rfl, ?_⟩) ?_
          rotate_left
          · intro wz hSz; obtain ⟨z0, z1⟩ := hSz; go_simp; (try simp only [hwt]); first | done | with_reducible rfl | (simp only [ht0, htN, and_self, if_true, Int.toNat_natCast]; first | done | with_reducible rfl) | (simp [ht0, htN]; first | done | with_reducible rfl)
          try simp only [Act.put, List.setIfInBounds_toArray, List.set_cons_zero, List.set_cons_succ]
          refine wpAnyX_take (i := 1) (v := ?_) (by rw [List.getElem?_toArray]; rfl) (by kernel_rfl) (by kernel_rfl) (by kernel_rfl) (by kernel_rfl) (fun _ _ _ h => h) hS5 (Or.inl ⟨by rfl, ?_⟩) ?_
          rotate_left
          · intro wz hSz; obtain ⟨z0, z1⟩ := hSz; go_simp; (try simp only [hwt]); first | done | with_reducible rfl | (simp only [ht0, htN, and_self, if_true, Int.toNat_natCast]; first | done | with_reducible rfl) | (simp [ht0, htN]; first | done | with_reducible rfl)
          try simp only [Act.put, List.setIfInBounds_toArray, List.set_cons_zero, List.set_cons_succ]
          refine wpAnyX_take (i := 2) (v := ?_) (by rw [List.getElem?_toArray]; rfl) (by kernel_rfl) (by kernel_rfl) (by kernel_rfl) (by kernel_rfl) (fun _ _ _ h => h) hS5 (Or.inl ⟨by rfl, ?_⟩) ?_
          rotate_left
          · intro wz hSz; obtain ⟨z0, z1⟩ := hSz; go_simp; (try simp only [hwt]); first | done | with_reducible rfl | (simp only [ht0, htN, and_self, if_true, Int.toNat_natCast]; first | done | with_reducible rfl) | (simp [ht0, htN]; first | done | with_reducible rfl)
          try simp only [Act.put, List.setIfInBounds_toArray, List.set_cons_zero, List.set_cons_succ]
          refine wpAnyX_take (i := 3) (v := ?_) (by rw [List.getElem?_toArray]; rfl) (by kernel_rfl) (by kernel_rfl) (by kernel_rfl) (by kernel_rfl) (fun _ _ _ h => h) hS5 (Or.inl ⟨by rfl, ?_⟩) ?_
          rotate_left
          · intro wz hSz; obtain ⟨z0, z1⟩ := hSz; go_simp; (try simp only [hwt]); first | done | with_reducible rfl | (simp only [ht0, htN, and_self, if_true, Int.toNat_natCast]; first | done | with_reducible rfl) | (simp [ht0, htN]; first | done | with_reducible rfl)
          try simp only [Act.put, List.setIfInBounds_toArray, List.set_cons_zero, List.set_cons_succ]
          refine wpAnyX_take (i := 4) (v := ?_) (by rw [List.getElem?_toArray]; rfl) (by kernel_rfl) (by kernel_rfl) (by kernel_rfl) (by kernel_rfl) (fun _ _ _ h => h) hS5 (Or.inl ⟨by rfl, ?_⟩) ?_
          rotate_left
          · intro wz hSz; obtain ⟨z0, z1⟩ := hSz; go_simp; (try simp only [hwt]); first | done | with_reducible rfl | (simp only [ht0, htN, and_self, if_true, Int.toNat_natCast]; first | done | with_reducible rfl) | (simp [ht0, htN]; first | done | with_reducible rfl)
          try simp only [Act.put, List.setIfInBounds_toArray, List.set_cons_zero, List.set_cons_succ]
          refine wpAnyX_take (i := 5) (v := ?_) (by rw [List.getElem?_toArray]; rfl) (by kernel_rfl) (by kernel_rfl) (by kernel_rfl) (by kernel_rfl) (fun _ _ _ h => h) hS5 (Or.inl ⟨by rfl, ?_⟩) ?_
          rotate_left
          · intro wz hSz; obtain ⟨z0, z1⟩ := hSz; go_simp; (try simp only [hwt]); first | done | with_reducible rfl | (simp only [ht0, htN, and_self, if_true, Int.toNat_natCast]; first | done | with_reducible rfl) | (simp [ht0, htN]; first | done | with_reducible rfl)
          try simp only [Act.put, List.setIfInBounds_toArray, List.set_cons_zero, List.set_cons_succ]
          refine wpAnyX_take (i := 6) (v := ?_) (by rw [List.getElem?_toArray]; rfl) (by kernel_rfl) (by kernel_rfl) (by kernel_rfl) (by kernel_rfl) (fun _ _ _ h => h) hS5 (Or.inl ⟨by rfl, ?_⟩) ?_
          rotate_left
          · intro wz hSz; obtain ⟨z0, z1⟩ := hSz; go_simp; (try simp only [hwt]); first | done | with_reducible rfl | (simp only [ht0, htN, and_self, if_true, Int.toNat_natCast]; first | done | with_reducible rfl) | (simp [ht0, htN]; first | done | with_reducible rfl)
          try simp only [Act.put, List.setIfInBounds_toArray, List.set_cons_zero, List.set_cons_succ]
          refine wpAnyX_take (i := 7) (v := ?_) (by rw [List.getElem?_toArray]; rfl) (by kernel_rfl) (by kernel_rfl) (by kernel_rfl) (by kernel_rfl) (fun _ _ _ h => h) hS5 (Or.inl ⟨by rfl, ?_⟩) ?_
          rotate_left
          · intro wz hSz; obtain ⟨z0, z1⟩ := hSz; go_simp; (try simp only [hwt]); first | done | with_reducible rfl | (simp only [ht0, htN, and_self, if_true, Int.toNat_natCast]; first | done | with_reducible rfl) | (simp [ht0, htN]; first | done | with_reducible rfl)
          try simp only [Act.put, List.setIfInBounds_toArray, List.set_cons_zero, List.set_cons_succ]
          refine wpAnyX_take (i := 8) (v := ?_) (by rw [List.getElem?_toArray]; rfl) (by kernel_rfl) (by kernel_rfl) (by kernel_rfl) (by kernel_rfl) (fun _ _ _ h => h) hS5 (Or.inl ⟨by rfl, ?_⟩) ?_
          rotate_left
          · intro wz hSz; obtain ⟨z0, z1⟩ := hSz; go_simp; (try simp only [hwt]); first | done | with_reducible rfl | (simp only [ht0, htN, and_self, if_true, Int.toNat_natCast]; first | done | with_reducible rfl) | (simp [ht0, htN]; first | done | with_reducible rfl)
          try simp only [Act.put, List.setIfInBounds_toArray, List.set_cons_zero, List.set_cons_succ]
          refine wpAnyX_take (i := 9) (v := ?_) (by rw [List.getElem?_toArray]; rfl) (by kernel_rfl) (by kernel_rfl) (by kernel_rfl) (by kernel_rfl) (fun _ _ _ h => h) hS5 (Or.inl ⟨by rfl, ?_⟩) ?_
          rotate_left
          · intro wz hSz; obtain ⟨z0, z1⟩ := hSz; go_simp; (try simp only [hwt]); first | done | with_reducible rfl | (simp only [ht0, htN, and_self, if_true, Int.toNat_natCast]; first | done | with_reducible rfl) | (simp [ht0, htN]; first | done | with_reducible rfl)
          try simp only [Act.put, List.setIfInBounds_toArray, List.set_cons_zero, List.set_cons_succ]
          refine wpAnyX_take (i := 10) (v := ?_) (by rw [List.getElem?_toArray]; rfl) (by kernel_rfl) (by kernel_rfl) (by kernel_rfl) (by kernel_rfl) (fun _ _ _ h => h) hS5 (Or.inl ⟨by rfl, ?_⟩) ?_
          rotate_left
          · intro wz hSz; obtain ⟨z0, z1⟩ := hSz; go_simp; (try simp only [hwt]); first | done | with_reducible rfl | (simp only [ht0, htN, and_self, if_true, Int.toNat_natCast]; first | done | with_reducible rfl) | (simp [ht0, htN]; first | done | with_reducible rfl)
          try simp only [Act.put, List.setIfInBounds_toArray, List.set_cons_zero, List.set_cons_succ]
          refine wpAnyX_take (i := 11) (v := ?_) (by rw [List.getElem?_toArray]; rfl) (by kernel_rfl) (by kernel_rfl) (by kernel_rfl) (by kernel_rfl) (fun _ _ _ h => h) hS5 (Or.inl ⟨by rfl, ?_⟩) ?_
          rotate_left
          · intro wz hSz; obtain ⟨z0, z1⟩ := hSz; go_simp; (try simp only [hwt]); first | done | with_reducible rfl | (simp only [ht0, htN, and_self, if_true, Int.toNat_natCast]; first | done | with_reducible rfl) | (simp [ht0, htN]; first | done | with_reducible rfl)
          try simp only [Act.put, List.setIfInBounds_toArray, List.set_cons_zero, List.set_cons_succ]
          refine wpAnyX_take (i := 12) (v := ?_) (by rw [List.getElem?_toArray]; rfl) (by kernel_rfl) (by kernel_rfl) (by kernel_rfl) (by kernel_rfl) (fun _ _ _ h => h) hS5 (Or.inl ⟨by rfl, ?_⟩) ?_
          rotate_left
          · intro wz hSz; obtain ⟨z0, z1⟩ := hSz; go_simp; (try simp only [hwt]); first | done | with_reducible rfl | (simp only [ht0, htN, and_self, if_true, Int.toNat_natCast]; first | done | with_reducible rfl) | (simp [ht0, htN]; first | done | with_reducible rfl)
          try simp only [Act.put, List.setIfInBounds_toArray, List.set_cons_zero, List.set_cons_succ]
          refine wpAnyX_one (i := 13) (by kernel_rfl) (by rw [List.getElem?_toArray]; rfl) (fun K hK => ?_)
          have HK : Hid _ := hK
          clear hK
          go_simp

          refine HK.out _ _ (fun h => absurd rfl h) ?_
          clear HK K
          refine wpAnyX_done (by kernel_rfl) (NoPanic.normal ?_)
          clear hS5 HK5 hca hcb hfr
          go_wp2
          go_roundw
          case rel => exact ⟨J - 1, by omega, by go_num, ⟨HR.out.1, HR.out.2.drew⟩⟩
          case measure => simp [intOf]; omega
        · have hJb : ¬ (J : Int) > 0 := by omega
          have hJb2 : ¬ (0 : Int) < (J : Int) := by omega
          have hJe : J = 0 := by omega
          subst hJe
          have HR : Hid (RowZ w.heap.size N1 (fun t => kc c (i + 1) t) wx ∧ Below w.heap.size w wx) := by
            refine ⟨HJ.out.1.congr (fun t ht => ?_), HJ.out.2⟩
            cases t with
            | zero => rw [if_neg (by omega), kc_zero, kc_zero]
            | succ t => rw [if_pos (by omega)]
          go_wp2
          go_roundw
          case rel => exact ⟨i + 1, by omega, by go_num, HR.out⟩
          case measure => simp [intOf]; omega
    · have hib : ¬ (i : Int) < (n : Int) := by omega
      have hie : n = i := by omega
      subst hie
      have hck := HG.out.1.cell k (by have := HN.out.1; omega)
      obtain ⟨kv, hkv⟩ : ∃ kv, kv = kc c n k := ⟨_, rfl⟩
      rw [← hkv] at hck
      have hk1 : (k : Int) < (N1 : Int) := by omega
      have hk0 : (0 : Int) ≤ (k : Int) := by omega
      have HE : Hid (kv = kc c n k ∧ Below w.heap.size w wr) := ⟨hkv, HG.out.2⟩
      clear hkv
      go_wp2
      go_ret
      exact ⟨by rw [← HE.out.1]; rfl, HE.out.2⟩

set_option maxHeartbeats 4000000 in
set_option maxRecDepth 100000 in
theorem rball_any (q n r : Nat) (hq : 2 ≤ q) (hq2 : q ≤ 64) (hp : q ^ n ≤ 1073741824) (hr : r ≤ n) (w : World) :
    Calls Try.prog 38 #[.int .i64 (q : Nat), .int .i64 (n : Nat), .int .i64 (r : Nat)] w fun e w' => e = .returned (.int .i64 (bls q n (r + 1) : Nat)) ∧ Below w.heap.size w w' := by
  have hn30 : n ≤ 30 := pow30 hq hp
  go_enter Try.func38, Try.ntmps38
  go_wp2
  go_loopw [7, 8] (fun vs vi wr => ∃ i s : Nat, vs = .int .i64 (s : Nat) ∧ vi = .int .i64 (i : Nat) ∧ i ≤ r + 1 ∧ Hid (s = bls q n i) ∧ Hid (Below w.heap.size w wr)) (fun _ vi _ => r + 1 - (intOf vi).toNat)
  case atStart => exact ⟨0, 0, rfl, rfl, by omega, rfl, Below.refl _ _⟩
  case round =>
    obtain ⟨i, s, rfl, rfl, hi, HS, HW⟩ := hrel
    rename World => wr
    have hs : s ≤ 34359738368 := by
      rw [HS.out]
      refine Nat.le_trans (bls_le (by omega) i) (Nat.le_trans (Nat.mul_le_mul (show i ≤ 32 by omega) hp) (by omega))
    by_cases hlt : i < r + 1
    · have hib : (i : Int) ≤ (r : Int) := by omega
      have HO1 : Hid (Calls Try.prog 79 #[.int .i64 (n : Nat), .int .i64 (i : Nat)] wr fun e w' => e = .returned (.int .i64 (chs n i : Nat)) ∧ Below wr.heap.size wr w') := rchoose_any n i (by omega) (by omega) wr
      go_wp2_with fail
      refine HO1.out.mono ?_
      rintro e w2 ⟨rfl, hb⟩
      have H2 : Hid (Below w.heap.size w w2) := bel_up' HW.out hb
      clear hb
      go_wp2
      go_loopw [9, 10] (fun vt vk wx => ∃ k t : Nat, vt = .int .i64 (t : Nat) ∧ vk = .int .i64 (k : Nat) ∧ k ≤ i ∧ Hid (t = (q - 1) ^ k * chs n i) ∧ wx = w2) (fun _ vk _ => i - (intOf vk).toNat)
      case atStart => exact ⟨0, chs n i, rfl, rfl, by omega, by show _ = (q - 1) ^ 0 * _; simp, rfl⟩
      case round =>
        obtain ⟨k, t, rfl, rfl, hk, HT, hw⟩ := hrel
        have hw := hw.symm
        subst hw
        have htb : ∀ k', k' ≤ i → (q - 1) ^ k' * chs n i ≤ 1073741824 := fun k' hk' => by
          have h1 := bterm_le (q := q) (n := n) (r := i) (by omega)
          have h2 : (q - 1) ^ k' ≤ (q - 1) ^ i := Nat.pow_le_pow_right (by omega) hk'
          have h3 := Nat.mul_le_mul_right (chs n i) h2
          omega
        have ht : t ≤ 1073741824 := by rw [HT.out]; exact htb k hk
        by_cases hkl : k < i
        · have hkb : (k : Int) < (i : Int) := by omega
          obtain ⟨P, hP⟩ : ∃ P, P = t * (q - 1) := ⟨_, rfl⟩
          have HR : Hid (P = (q - 1) ^ (k + 1) * chs n i) := by
            show P = _
            rw [hP, HT.out, Nat.pow_succ, Nat.mul_assoc, Nat.mul_assoc, Nat.mul_comm (chs n i)]
          have hPb : P ≤ 1073741824 := by rw [HR.out]; exact htb (k + 1) (by omega)
          have hw1 : IntKind.i64.wrap ((t : Int) * ((q : Int) - 1)) = (P : Int) := by
            rw [show (q : Int) - 1 = ((q - 1 : Nat) : Int) by omega, show (t : Int) * ((q - 1 : Nat) : Int) = (P : Int) by rw [hP]; simp]
            exact wrap_ka (by omega) (by omega)
          clear hP htb
          go_wp2
          go_roundw
          case rel => exact ⟨k + 1, P, by first | rfl | simp [hw1], by go_num, by omega, HR.out, by first | rfl | trivial⟩
          case measure => simp [intOf]; omega
        · have hkb : ¬ (k : Int) < (i : Int) := by omega
          have HR : Hid (s + t = bls q n (i + 1)) := by
            show s + t = bls q n i + (q - 1) ^ i * chs n i
            rw [HS.out, HT.out, show k = i by omega]
          clear htb
          go_wp2
          go_roundw
          case rel => exact ⟨i + 1, s + t, by first | rfl | go_num, by go_num, by omega, HR.out, H2.out⟩
          case measure => simp [intOf]; omega
    · have hib : ¬ (i : Int) ≤ (r : Int) := by omega
      have hie : i = r + 1 := by omega
      subst hie
      go_wp2
      go_ret
      exact ⟨by rw [← HS.out]; rfl, HW.out⟩
end Go.Proofs.Ytnjbnamcedfjaaa
