/- Golay: numbers of sets of up to 64 places, of the reference (after KB2); how many may be gone through. -/
import Derived.Test.YtafebmhbfmdjlaaZKA1
namespace Go.Proofs.Ytafebmhbfmdjlaa
open Go.RowKit

/-- A row of Pascal's. -/
def pnx : Nat → List Nat → List Nat
  | a, [] => [a]
  | a, b :: l => (a + b) :: pnx b l
def prw : Nat → List Nat
  | 0 => [1]
  | n + 1 => pnx 0 (prw n)
theorem pnx_at : ∀ (l : List Nat) (a k : Nat), (pnx a l).getD k 0 = (if k = 0 then a else l.getD (k - 1) 0) + l.getD k 0
  | [], a, k => by
    cases k with
    | zero => rfl
    | succ k => cases k <;> rfl
  | b :: l, a, k => by
    cases k with
    | zero => rfl
    | succ k =>
      have := pnx_at l b k
      show (pnx b l).getD k 0 = (if k + 1 = 0 then a else (b :: l).getD k 0) + l.getD k 0
      rw [this, if_neg (show ¬ k + 1 = 0 by omega)]
      cases k with
      | zero => rfl
      | succ k => rw [if_neg (by omega)]; rfl
theorem chs_prw : ∀ n k, chs n k = (prw n).getD k 0
  | 0, k => by cases k <;> rfl
  | n + 1, k => by
    show _ = (pnx 0 (prw n)).getD k 0
    rw [pnx_at]
    cases k with
    | zero => rw [if_pos rfl, ← chs_prw n 0]; simp [chs]
    | succ k =>
      rw [if_neg (by omega), ← chs_prw n (k + 1), show k + 1 - 1 = k by omega, ← chs_prw n k]
      rfl
theorem prw_all : ((List.range 65).all fun n => (prw n).all fun x => Nat.ble x 2305843009213693952) = true := by decide +kernel
theorem chs64_le {n : Nat} (hn : n ≤ 64) (k : Nat) : chs n k ≤ 2305843009213693952 := by
  rw [chs_prw]
  have h := List.all_eq_true.1 prw_all n (List.mem_range.2 (by omega))
  by_cases e : k < (prw n).length
  · have hm : (prw n).getD k 0 ∈ prw n := by simp [List.getD_eq_getElem?_getD, e]
    exact Nat.le_of_ble_eq_true (List.all_eq_true.1 h _ hm)
  · rw [List.getD_eq_getElem?_getD, List.getElem?_eq_none (by omega)]
    exact Nat.zero_le _

set_option maxHeartbeats 8000000 in
set_option maxRecDepth 100000 in
theorem rchoose64_any (n k : Nat) (hn64 : n ≤ 64) (hk : k ≤ n) (w : World) :
    Calls Try.prog 8 #[.int .i64 (n : Nat), .int .i64 (k : Nat)] w fun e w' => e = .returned (.int .i64 (chs n k : Nat)) ∧ Below w.heap.size w w' := by
  have hk0a : ¬ (k : Int) < 0 := by omega
  have hk0b : ¬ (n : Int) < (k : Int) := by omega
  have hk0c : ¬ (k : Int) > (n : Int) := by omega
  rw [← kc_one]
  obtain ⟨c, hc⟩ : ∃ c : Nat → Int, c = fun _ => 1 := ⟨_, rfl⟩
  rw [← hc]
  have HB : Hid (∀ i j, i ≤ n → -2305843009213693952 ≤ kc c i j ∧ kc c i j ≤ 2305843009213693952) := fun i j hi => by
    have h : kc c i j = (chs i j : Nat) := by rw [hc]; exact kc_one i j
    have h2 := chs64_le (show i ≤ 64 by omega) j
    rw [h]
    omega
  have HC : Hid (∀ i, c i = 1) := fun i => by rw [hc]
  clear hc
  obtain ⟨N1, hN1⟩ : ∃ N1, N1 = n + 1 := ⟨_, rfl⟩
  have hN : (n : Int) + 1 = (N1 : Int) := by omega
  have hin : (n : Int) < (N1 : Int) := by omega
  have hi0 : (0 : Int) < (N1 : Int) := by omega
  have HN : Hid (N1 = n + 1 ∧ (n : Int) + 1 = (N1 : Int)) := ⟨hN1, hN⟩
  have hN1b : N1 ≤ 65 := by omega
  clear hN1 hN
  go_enter Try.func8, Try.ntmps8
  go_wp2_with (first | (at_make; refine make_int rfl _ _ rfl _ N1 rfl rfl HN.out.2 (by omega) ?_; intro w1 hown1 hgrow1; have hrz := RowZ.of (row_zeros hown1); have c0 := hrz.cell 0 (by omega); have f0 := hrz.free 0))
  obtain ⟨w2, hw2⟩ : ∃ w2, w2 = w1.setCell ⟨w.heap.size, 0, none⟩ (.int .i64 1) := ⟨_, rfl⟩
  have H2 : Hid (RowZ w.heap.size N1 (fun t => kc c 0 t) w2 ∧ Below w.heap.size w w2) := by
    have hb : Below w.heap.size w w1 := below_grown hgrow1 (Nat.le_refl _) (fun k hk => by simp at hk)
    rw [hw2]
    refine ⟨?_, hb.setCell (Nat.le_refl _) _⟩
    refine hrz.store 0 1 (fun j _ => ?_)
    cases j with
    | zero => rfl
    | succ j => rfl
  rw [← hw2]
  clear hown1 hgrow1 hrz c0 f0 hw2
  go_loopw [6] (fun vi wr => ∃ i : Nat, i ≤ n ∧ vi = .int .i64 (i : Nat) ∧ Hid (RowZ w.heap.size N1 (fun t => kc c i t) wr ∧ Below w.heap.size w wr)) (fun vi _ => n - (intOf vi).toNat)
  case atStart => exact ⟨0, by omega, rfl, H2.out⟩
  case round =>
    clear H2
    obtain ⟨i, hi, rfl, HG⟩ := hrel
    rename World => wr
    by_cases hlt : i < n
    · have hib : (i : Int) < (n : Int) := by omega
      go_wp2
      go_loopw [7] (fun vj wx => ∃ J : Nat, J ≤ n ∧ vj = .int .i64 (J : Nat) ∧ Hid (RowZ w.heap.size N1 (fun t => if J < t then kc c (i + 1) t else kc c i t) wx ∧ Below w.heap.size w wx)) (fun vj _ => (intOf vj).toNat)
      case atStart =>
        refine ⟨n, Nat.le_refl _, rfl, HG.out.1.congr (fun t ht => ?_), HG.out.2⟩
        rw [if_neg (by have := HN.out.1; omega)]
      case round =>
        obtain ⟨J, hJ, rfl, HJ⟩ := hrel
        rename World => wx
        by_cases hJ0 : 0 < J
        · have hJb : (J : Int) > 0 := by omega
          have hJb2 : (0 : Int) < (J : Int) := by omega
          have hJn : (J : Int) < (N1 : Int) := by omega
          have hJp : (0 : Int) ≤ (J : Int) := by omega
          obtain ⟨t, ht⟩ : ∃ t, J = t + 1 := ⟨J - 1, by omega⟩
          have hJ1 : (J : Int) - 1 = (t : Int) := by omega
          have hJ2 : ((J : Int) - 1).toNat = t := by omega
          have hJ3 : (J : Int) - 1 < (N1 : Int) := by omega
          have hJ4 : (0 : Int) ≤ (J : Int) - 1 := by omega
          have hwt : IntKind.i64.wrap (t : Int) = (t : Int) := wrap_ka (by omega) (by omega)
          have ht0 : (0 : Int) ≤ (t : Int) := by omega
          have htN : (t : Int) < (N1 : Int) := by omega
          obtain ⟨av, hav⟩ : ∃ av, av = kc c i J := ⟨_, rfl⟩
          obtain ⟨bv, hbv⟩ : ∃ bv, bv = kc c i t := ⟨_, rfl⟩
          have hb1 := HB.out i J (by omega)
          have hb2 := HB.out i t (by omega)
          rw [← hav] at hb1
          rw [← hbv] at hb2
          have hca := HJ.out.1.cell J (by have := HN.out.1; omega)
          rw [if_neg (by omega), ← hav] at hca
          have hcb := HJ.out.1.cell t (by have := HN.out.1; omega)
          rw [if_neg (by omega), ← hbv] at hcb
          have hfr := HJ.out.1.free J
          have HR : Hid (RowZ w.heap.size N1 (fun s => if J - 1 < s then kc c (i + 1) s else kc c i s) (wx.setCell ⟨w.heap.size, J, none⟩ (.int .i64 (av + bv))) ∧ Below w.heap.size w (wx.setCell ⟨w.heap.size, J, none⟩ (.int .i64 (av + bv)))) := by
            refine ⟨HJ.out.1.store J (av + bv) (fun s _ => ?_), HJ.out.2.setCell (Nat.le_refl _) _⟩
            by_cases e : s = J
            · rw [if_pos e, if_pos (by omega), e, hav, hbv, ht]
              show kc c i (t + 1) + c i * kc c i t = _
              rw [HC.out, Int.one_mul]
            · rw [if_neg e]
              by_cases e2 : J < s
              · rw [if_pos e2, if_pos (by omega)]
              · rw [if_neg e2, if_neg (by omega)]
          have HK5 : Hid (kwS w.heap.size J t av bv wx.drew) := ⟨hca, hcb⟩
          clear hav hbv ht
          go_wp2
          have hS5 := HK5.out
          refine wp_region_noPanic ?_
          refine wp_region_X (S := kwS w.heap.size J t av bv) 13 (by kernel_rfl) ?_
          refine wpAnyX_take (i := 0) (v := ?_) (by rw [List.getElem?_toArray]; rfl) (by kernel_rfl) (by kernel_rfl) (by kernel_rfl) (by kernel_rfl) (fun _ _ _ h => h) hS5 (Or.inl ⟨by rfl, ?_⟩) ?_
          rotate_left
          · intro wz hSz; obtain ⟨z0, z1⟩ := hSz; go_simp; (try simp only [hwt]); first | done | with_reducible rfl | (simp only [ht0, htN, and_self, if_true, Int.toNat_natCast]; first | done | with_reducible rfl) | (simp [ht0, htN]; first | done | with_reducible rfl)
          try simp only [Act.put, List.setIfInBounds_toArray, List.set_cons_zero, List.set_cons_succ]
          refine wpAnyX_take (i := 1) (v := ?_) (by rw [List.getElem?_toArray]; rfl) (by kernel_rfl) (by kernel_rfl) (by kernel_rfl) (by kernel_rfl) (fun _ _ _ h => h) hS5 (Or.inl ⟨by rfl, ?_⟩) ?_
          rotate_left
          · intro wz hSz; obtain ⟨z0, z1⟩ := hSz; go_simp; (try simp only [hwt]); first | done | with_reducible rfl | (simp only [ht0, htN, and_self, if_true, Int.toNat_natCast]; first | done | with_reducible rfl) | (simp [ht0, htN]; first | done | with_reducible rfl)
          try simp only [Act.put, List.setIfInBounds_toArray, List.set_cons_zero, List.set_cons_succ]
          refine wpAnyX_take (i := 2) (v := ?_) (by rw [List.getElem?_toArray]; rfl) (by kernel_rfl) (by kernel_rfl) (by kernel_rfl) (by kernel_rfl) (fun _ _ _ h => h) hS5 (Or.inl ⟨by rfl, ?_⟩) ?_
          rotate_left
          · intro wz hSz; obtain ⟨z0, z1⟩ := hSz; go_simp; (try simp only [hwt]); first | done | with_reducible rfl | (simp only [ht0, htN, and_self, if_true, Int.toNat_natCast]; first | done | with_reducible rfl) | (simp [ht0, htN]; first | done | with_reducible rfl)
          try simp only [Act.put, List.setIfInBounds_toArray, List.set_cons_zero, List.set_cons_succ]
          refine wpAnyX_take (i := 3) (v := ?_) (by rw [List.getElem?_toArray]; rfl) (by kernel_rfl) (by kernel_rfl) (by kernel_rfl) (by kernel_rfl) (fun _ _ _ h => h) hS5 (Or.inl ⟨by rfl, ?_⟩) ?_
          rotate_left
          · intro wz hSz; obtain ⟨z0, z1⟩ := hSz; go_simp; (try simp only [hwt]); first | done | with_reducible rfl | (simp only [ht0, htN, and_self, if_true, Int.toNat_natCast]; first | done | with_reducible rfl) | (simp [ht0, htN]; first | done | with_reducible rfl)
          try simp only [Act.put, List.setIfInBounds_toArray, List.set_cons_zero, List.set_cons_succ]
          refine wpAnyX_take (i := 4) (v := ?_) (by rw [List.getElem?_toArray]; rfl) (by kernel_rfl) (by kernel_rfl) (by kernel_rfl) (by kernel_rfl) (fun _ _ _ h => h) hS5 (Or.inl ⟨by rfl, ?_⟩) ?_
          rotate_left
          · intro wz hSz; obtain ⟨z0, z1⟩ := hSz; go_simp; (try simp only [hwt]); first | done | with_reducible rfl | (simp only [ht0, htN, and_self, if_true, Int.toNat_natCast]; first | done | with_reducible rfl) | (simp [ht0, htN]; first | done | with_reducible rfl)
          try simp only [Act.put, List.setIfInBounds_toArray, List.set_cons_zero, List.set_cons_succ]
          refine wpAnyX_take (i := 5) (v := ?_) (by rw [List.getElem?_toArray]; rfl) (by kernel_rfl) (by kernel_rfl) (by kernel_rfl) (by kernel_rfl) (fun _ _ _ h => h) hS5 (Or.inl ⟨by rfl, ?_⟩) ?_
          rotate_left
          · intro wz hSz; obtain ⟨z0, z1⟩ := hSz; go_simp; (try simp only [hwt]); first | done | with_reducible rfl | (simp only [ht0, htN, and_self, if_true, Int.toNat_natCast]; first | done | with_reducible rfl) | (simp [ht0, htN]; first | done | with_reducible rfl)
          try simp only [Act.put, List.setIfInBounds_toArray, List.set_cons_zero, List.set_cons_succ]
          refine wpAnyX_take (i := 6) (v := ?_) (by rw [List.getElem?_toArray]; rfl) (by kernel_rfl) (by kernel_rfl) (by kernel_rfl) (by kernel_rfl) (fun _ _ _ h => h) hS5 (Or.inl ⟨by rfl, ?_⟩) ?_
          rotate_left
          · intro wz hSz; obtain ⟨z0, z1⟩ := hSz; go_simp; (try simp only [hwt]); first | done | with_reducible rfl | (simp only [ht0, htN, and_self, if_true, Int.toNat_natCast]; first | done | with_reducible rfl) | (simp [ht0, htN]; first | done | with_reducible rfl)
          try simp only [Act.put, List.setIfInBounds_toArray, List.set_cons_zero, List.set_cons_succ]
          refine wpAnyX_take (i := 7) (v := ?_) (by rw [List.getElem?_toArray]; rfl) (by kernel_rfl) (by kernel_rfl) (by kernel_rfl) (by kernel_rfl) (fun _ _ _ h => h) hS5 (Or.inl ⟨by rfl, ?_⟩) ?_
          rotate_left
          · intro wz hSz; obtain ⟨z0, z1⟩ := hSz; go_simp; (try simp only [hwt]); first | done | with_reducible rfl | (simp only [ht0, htN, and_self, if_true, Int.toNat_natCast]; first | done | with_reducible rfl) | (simp [ht0, htN]; first | done | with_reducible rfl)
          try simp only [Act.put, List.setIfInBounds_toArray, List.set_cons_zero, List.set_cons_succ]
          refine wpAnyX_take (i := 8) (v := ?_) (by rw [List.getElem?_toArray]; rfl) (by kernel_rfl) (by kernel_rfl) (by kernel_rfl) (by kernel_rfl) (fun _ _ _ h => h) hS5 (Or.inl ⟨by rfl, ?_⟩) ?_
          rotate_left
          · intro wz hSz; obtain ⟨z0, z1⟩ := hSz; go_simp; (try simp only [hwt]); first | done | with_reducible rfl | (simp only [ht0, htN, and_self, if_true, Int.toNat_natCast]; first | done | with_reducible rfl) | (simp [ht0, htN]; first | done | with_reducible rfl)
          try simp only [Act.put, List.setIfInBounds_toArray, List.set_cons_zero, List.set_cons_succ]
          refine wpAnyX_take (i := 9) (v := ?_) (by rw [List.getElem?_toArray]; rfl) (by kernel_rfl) (by kernel_rfl) (by kernel_rfl) (by kernel_rfl) (fun _ _ _ h => h) hS5 (Or.inl ⟨by rfl, ?_⟩) ?_
          rotate_left
          · intro wz hSz; obtain ⟨z0, z1⟩ := hSz; go_simp; (try simp only [hwt]); first | done | with_reducible rfl | (simp only [ht0, htN, and_self, if_true, Int.toNat_natCast]; first | done | with_reducible rfl) | (simp [ht0, htN]; first | done | with_reducible rfl)
          try simp only [Act.put, List.setIfInBounds_toArray, List.set_cons_zero, List.set_cons_succ]
          refine wpAnyX_take (i := 10) (v := ?_) (by rw [List.getElem?_toArray]; rfl) (by kernel_rfl) (by kernel_rfl) (by kernel_rfl) (by kernel_rfl) (fun _ _ _ h => h) hS5 (Or.inl ⟨by rfl, ?_⟩) ?_
          rotate_left
          · intro wz hSz; obtain ⟨z0, z1⟩ := hSz; go_simp; (try simp only [hwt]); first | done | with_reducible rfl | (simp only [ht0, htN, and_self, if_true, Int.toNat_natCast]; first | done | with_reducible rfl) | (simp [ht0, htN]; first | done | with_reducible rfl)
          try simp only [Act.put, List.setIfInBounds_toArray, List.set_cons_zero, List.set_cons_succ]
          refine wpAnyX_take (i := 11) (v := ?_) (by rw [List.getElem?_toArray]; rfl) (by kernel_rfl) (by kernel_rfl) (by kernel_rfl) (by kernel_rfl) (fun _ _ _ h => h) hS5 (Or.inl ⟨by rfl, ?_⟩) ?_
          rotate_left
          · intro wz hSz; obtain ⟨z0, z1⟩ := hSz; go_simp; (try simp only [hwt]); first | done | with_reducible rfl | (simp only [ht0, htN, and_self, if_true, Int.toNat_natCast]; first | done | with_reducible rfl) | (simp [ht0, htN]; first | done | with_reducible rfl)
          try simp only [Act.put, List.setIfInBounds_toArray, List.set_cons_zero, List.set_cons_succ]
          refine wpAnyX_take (i := 12) (v := ?_) (by rw [List.getElem?_toArray]; rfl) (by kernel_rfl) (by kernel_rfl) (by kernel_rfl) (by kernel_rfl) (fun _ _ _ h => h) hS5 (Or.inl ⟨by rfl, ?_⟩) ?_
          rotate_left
          · intro wz hSz; obtain ⟨z0, z1⟩ := hSz; go_simp; (try simp only [hwt]); first | done | with_reducible rfl | (simp only [ht0, htN, and_self, if_true, Int.toNat_natCast]; first | done | with_reducible rfl) | (simp [ht0, htN]; first | done | with_reducible rfl)
          try simp only [Act.put, List.setIfInBounds_toArray, List.set_cons_zero, List.set_cons_succ]
          refine wpAnyX_one (i := 13) (by kernel_rfl) (by rw [List.getElem?_toArray]; rfl) (fun K hK => ?_)
          have HK : Hid _ := hK
          clear hK
          go_simp

          refine HK.out _ _ (fun h => absurd rfl h) ?_
          clear HK K
          refine wpAnyX_done (by kernel_rfl) (NoPanic.normal ?_)
          clear hS5 HK5 hca hcb hfr
          go_wp2
          go_roundw
          case rel => exact ⟨J - 1, by omega, by go_num, ⟨HR.out.1, HR.out.2.drew⟩⟩
          case measure => simp [intOf]; omega
        · have hJb : ¬ (J : Int) > 0 := by omega
          have hJb2 : ¬ (0 : Int) < (J : Int) := by omega
          have hJe : J = 0 := by omega
          subst hJe
          have HR : Hid (RowZ w.heap.size N1 (fun t => kc c (i + 1) t) wx ∧ Below w.heap.size w wx) := by
            refine ⟨HJ.out.1.congr (fun t ht => ?_), HJ.out.2⟩
            cases t with
            | zero => rw [if_neg (by omega), kc_zero, kc_zero]
            | succ t => rw [if_pos (by omega)]
          go_wp2
          go_roundw
          case rel => exact ⟨i + 1, by omega, by go_num, HR.out⟩
          case measure => simp [intOf]; omega
    · have hib : ¬ (i : Int) < (n : Int) := by omega
      have hie : n = i := by omega
      subst hie
      have hck := HG.out.1.cell k (by have := HN.out.1; omega)
      obtain ⟨kv, hkv⟩ : ∃ kv, kv = kc c n k := ⟨_, rfl⟩
      rw [← hkv] at hck
      have hk1 : (k : Int) < (N1 : Int) := by omega
      have hk0 : (0 : Int) ≤ (k : Int) := by omega
      have HE : Hid (kv = kc c n k ∧ Below w.heap.size w wr) := ⟨hkv, HG.out.2⟩
      clear hkv
      go_wp2
      go_ret
      exact ⟨by rw [← HE.out.1]; rfl, HE.out.2⟩
end Go.Proofs.Ytafebmhbfmdjlaa
