/- Weights: Krawtchouk's numbers (the reference's Kraw). -/
import Derived.Test.YtnjbnamcedfjaaaZKA2
import Derived.Test.YtnjbnamcedfjaaaZN3
import Derived.Test.YtnjbnamcedfjaaaZW11
import Derived.Deep.CutBlock
import Derived.Deep.DeepCutAuto
namespace Go.Proofs.Ytnjbnamcedfjaaa
open Go.RowKit

/-- Whole numbers, below 0 too, in a row of the call's own. -/
def RowZ (g N : Nat) (z : Nat → Int) (w : World) : Prop := ∃ cap f, RowF g cap 3 f w ∧ N ≤ cap ∧ ∀ k, k < N → f k = .int .i64 (z k)
theorem RowZ.of {g N : Nat} {c : Nat → Nat} {w : World} (h : Row g N c w) : RowZ g N (fun k => ((c k : Nat) : Int)) w := by
  obtain ⟨cap, f, h1, h2, h3⟩ := h
  exact ⟨cap, f, h1, h2, h3⟩
theorem RowZ.cell {g N : Nat} {z : Nat → Int} {w : World} (h : RowZ g N z w) (k : Nat) (hk : k < N) : w.cell? ⟨g, k, none⟩ = some (.int .i64 (z k)) := by
  obtain ⟨cap, f, h1, h2, h3⟩ := h
  rw [h1.cell k (by omega), h3 k hk]
theorem RowZ.free {g N : Nat} {z : Nat → Int} {w : World} (h : RowZ g N z w) (k : Nat) : w.frozen? ⟨g, k, none⟩ = false := by
  obtain ⟨cap, f, h1, h2, h3⟩ := h
  exact h1.free k
theorem RowZ.store {g N : Nat} {z y : Nat → Int} {w : World} (h : RowZ g N z w) (k : Nat) (v : Int) (hd : ∀ j, j < N → y j = if j = k then v else z j) : RowZ g N y (w.setCell ⟨g, k, none⟩ (.int .i64 v)) := by
  obtain ⟨cap, f, h1, h2, h3⟩ := h
  refine ⟨cap, _, h1.store k _, h2, fun j hj => ?_⟩
  unfold upd
  rw [hd j hj]
  by_cases e : j = k
  · rw [if_pos e, if_pos e]
  · rw [if_neg e, if_neg e, h3 j hj]
theorem RowZ.congr {g N : Nat} {z y : Nat → Int} {w : World} (h : RowZ g N z w) (e : ∀ k, k < N → z k = y k) : RowZ g N y w := by
  obtain ⟨cap, f, h1, h2, h3⟩ := h
  exact ⟨cap, f, h1, h2, fun k hk => by rw [h3 k hk, e k hk]⟩
theorem RowZ.below {g N B : Nat} {z : Nat → Int} {w w' : World} (h : RowZ g N z w) (hb : Below B w w') (hB : g < B) : RowZ g N z w' := by
  obtain ⟨cap, f, h1, h2, h3⟩ := h
  exact ⟨cap, f, h1.below hb hB, h2, h3⟩
/-- What a step of Kraw reads. -/
def kwS (G J t : Nat) (a b : Int) (wx : World) : Prop := wx.cell? ⟨G, J, none⟩ = some (.int .i64 a) ∧ wx.cell? ⟨G, t, none⟩ = some (.int .i64 b)

set_option maxHeartbeats 8000000 in
set_option maxRecDepth 100000 in
theorem rkraw_any (q n k x : Nat) (hq : 2 ≤ q) (hq2 : q ≤ 64) (hp : q ^ n ≤ 1073741824) (hk : k ≤ n) (w : World) :
    Calls Try.prog 9 #[.int .i64 (q : Nat), .int .i64 (n : Nat), .int .i64 (k : Nat), .int .i64 (x : Nat)] w fun e w' => e = .returned (.int .i64 (kc (kwc ((q : Int) - 1) x) n k)) ∧ Below w.heap.size w w' := by
  have hn30 : n ≤ 30 := pow30 hq hp
  obtain ⟨c, hc⟩ : ∃ c, c = kwc ((q : Int) - 1) x := ⟨_, rfl⟩
  rw [← hc]
  have hcb : ∀ i, -63 ≤ c i ∧ c i ≤ 63 := fun i => by
    rw [hc]
    unfold kwc
    split <;> omega
  have HB : Hid (∀ i j, i ≤ n → -1073741824 ≤ kc c i j ∧ kc c i j ≤ 1073741824) := fun i j hi => by
    have h := kc_abs (c := c) (q := q) (by omega) (fun i => by rw [hc]; unfold kwc; split <;> omega) i j
    have h2 : q ^ i ≤ q ^ n := Nat.pow_le_pow_right (by omega) hi
    omega
  have HC : Hid ((∀ i, c i = if i < x then -1 else (q : Int) - 1) ∧ ∀ i, -63 ≤ c i ∧ c i ≤ 63) := ⟨fun i => by rw [hc]; rfl, hcb⟩
  clear hc hcb hp
  obtain ⟨N1, hN1⟩ : ∃ N1, N1 = n + 1 := ⟨_, rfl⟩
  have hN : (n : Int) + 1 = (N1 : Int) := by omega
  have hin : (n : Int) < (N1 : Int) := by omega
  have hi0 : (0 : Int) < (N1 : Int) := by omega
  have HN : Hid (N1 = n + 1 ∧ (n : Int) + 1 = (N1 : Int)) := ⟨hN1, hN⟩
  have hN1b : N1 ≤ 31 := by omega
  clear hN1 hN
  go_enter Try.func9, Try.ntmps9
  go_wp2_with (first | (at_make; refine make_int rfl _ _ rfl _ N1 rfl rfl HN.out.2 (by omega) ?_; intro w1 hown1 hgrow1; have hrz := RowZ.of (row_zeros hown1); have c0 := hrz.cell 0 (by omega); have f0 := hrz.free 0))
  obtain ⟨w2, hw2⟩ : ∃ w2, w2 = w1.setCell ⟨w.heap.size, 0, none⟩ (.int .i64 1) := ⟨_, rfl⟩
  have H2 : Hid (RowZ w.heap.size N1 (fun t => kc c 0 t) w2 ∧ Below w.heap.size w w2) := by
    have hb : Below w.heap.size w w1 := below_grown hgrow1 (Nat.le_refl _) (fun k hk => by simp at hk)
    rw [hw2]
    refine ⟨?_, hb.setCell (Nat.le_refl _) _⟩
    refine hrz.store 0 1 (fun j _ => ?_)
    cases j with
    | zero => rfl
    | succ j => rfl
  rw [← hw2]
  clear hown1 hgrow1 hrz c0 f0 hw2
  go_loopw [10] (fun vi wr => ∃ i : Nat, i ≤ n ∧ vi = .int .i64 (i : Nat) ∧ Hid (RowZ w.heap.size N1 (fun t => kc c i t) wr ∧ Below w.heap.size w wr)) (fun vi _ => n - (intOf vi).toNat)
  case atStart => exact ⟨0, by omega, rfl, H2.out⟩
  case round =>
    clear H2
    obtain ⟨i, hi, rfl, HG⟩ := hrel
    rename World => wr
    by_cases hlt : i < n
    · have hib : (i : Int) < (n : Int) := by omega
      obtain ⟨ci, hci⟩ : ∃ ci, ci = c i := ⟨_, rfl⟩
      have hcib : -63 ≤ ci ∧ ci ≤ 63 := by rw [hci]; exact HC.out.2 i
      have HCi : Hid (ci = c i) := hci
      clear hci
      go_upto_if 27 with fail
      go_cut [11] (fun vc wx => vc = .int .i64 ci ∧ wx = wr)
      case first =>
        by_cases hx : i < x
        · have hxb : (i : Int) < (x : Int) := by omega
          have hv : ci = -1 := by rw [HCi.out, HC.out.1, if_pos hx]
          go_wp2
          go_meet
          case rel => exact ⟨by rw [hv], rfl⟩
        · have hxb : ¬ (i : Int) < (x : Int) := by omega
          have hv : ci = (q : Int) - 1 := by rw [HCi.out, HC.out.1, if_neg hx]
          go_wp2
          go_meet
          case rel => exact ⟨by rw [hv], rfl⟩
      case rest =>
      obtain ⟨hv, hwx⟩ := hcut
      have hwx := hwx.symm
      subst hv hwx
      go_wp2
      go_loopw [12] (fun vj wx => ∃ J : Nat, J ≤ n ∧ vj = .int .i64 (J : Nat) ∧ Hid (RowZ w.heap.size N1 (fun t => if J < t then kc c (i + 1) t else kc c i t) wx ∧ Below w.heap.size w wx)) (fun vj _ => (intOf vj).toNat)
      case atStart =>
        refine ⟨n, Nat.le_refl _, rfl, HG.out.1.congr (fun t ht => ?_), HG.out.2⟩
        rw [if_neg (by have := HN.out.1; omega)]
      case round =>
        obtain ⟨J, hJ, rfl, HJ⟩ := hrel
        rename World => wx
        by_cases hJ0 : 0 < J
        · have hJb : (J : Int) > 0 := by omega
          have hJb2 : (0 : Int) < (J : Int) := by omega
          have hJn : (J : Int) < (N1 : Int) := by omega
          have hJp : (0 : Int) ≤ (J : Int) := by omega
          obtain ⟨t, ht⟩ : ∃ t, J = t + 1 := ⟨J - 1, by omega⟩
          have hJ1 : (J : Int) - 1 = (t : Int) := by omega
          have hJ2 : ((J : Int) - 1).toNat = t := by omega
          have hJ3 : (J : Int) - 1 < (N1 : Int) := by omega
          have hJ4 : (0 : Int) ≤ (J : Int) - 1 := by omega
          have hwt : IntKind.i64.wrap (t : Int) = (t : Int) := wrap_ka (by omega) (by omega)
          have ht0 : (0 : Int) ≤ (t : Int) := by omega
          have htN : (t : Int) < (N1 : Int) := by omega
          obtain ⟨av, hav⟩ : ∃ av, av = kc c i J := ⟨_, rfl⟩
          obtain ⟨bv, hbv⟩ : ∃ bv, bv = kc c i t := ⟨_, rfl⟩
          have hb1 := HB.out i J (by omega)
          have hb2 := HB.out i t (by omega)
          rw [← hav] at hb1
          rw [← hbv] at hb2
          have hca := HJ.out.1.cell J (by have := HN.out.1; omega)
          rw [if_neg (by omega), ← hav] at hca
          have hcb := HJ.out.1.cell t (by have := HN.out.1; omega)
          rw [if_neg (by omega), ← hbv] at hcb
          have hfr := HJ.out.1.free J
          obtain ⟨m1, hm1⟩ : ∃ m1 : Int, m1 = ci * bv := ⟨_, rfl⟩
          have hm1b : -68719476736 ≤ m1 ∧ m1 ≤ 68719476736 := by
            have h : m1.natAbs ≤ 63 * 1073741824 := by rw [hm1, Int.natAbs_mul]; exact Nat.mul_le_mul (by omega) (by omega)
            omega
          have hw1 : IntKind.i64.wrap (ci * bv) = m1 := by rw [← hm1]; exact wrap_ka (by omega) (by omega)
          have HR : Hid (RowZ w.heap.size N1 (fun s => if J - 1 < s then kc c (i + 1) s else kc c i s) (wx.setCell ⟨w.heap.size, J, none⟩ (.int .i64 (av + m1))) ∧ Below w.heap.size w (wx.setCell ⟨w.heap.size, J, none⟩ (.int .i64 (av + m1)))) := by
            refine ⟨HJ.out.1.store J (av + m1) (fun s _ => ?_), HJ.out.2.setCell (Nat.le_refl _) _⟩
            by_cases e : s = J
            · rw [if_pos e, if_pos (by omega), e, hav, hm1, hbv, HCi.out, ht]
              rfl
            · rw [if_neg e]
              by_cases e2 : J < s
              · rw [if_pos e2, if_pos (by omega)]
              · rw [if_neg e2, if_neg (by omega)]
          have HK5 : Hid (kwS w.heap.size J t av bv wx.drew) := ⟨hca, hcb⟩
          clear hm1 hav hbv ht
          go_wp2
          have hS5 := HK5.out
          refine wp_region_noPanic ?_
          refine wp_region_X (S := kwS w.heap.size J t av bv) 15 (by kernel_rfl) ?_
          refine wpAnyX_take (i := 0) (v := ?_) (by rw [List.getElem?_toArray]; rfl) (by kernel_rfl) (by kernel_rfl) (by kernel_rfl) (by kernel_rfl) (fun _ _ _ h => h) hS5 (Or.inl ⟨by rfl, ?_⟩) ?_
          rotate_left
          · intro wz hSz; obtain ⟨z0, z1⟩ := hSz; go_simp; (try simp only [hwt]); first | done | with_reducible rfl | (simp only [ht0, htN, hw1, and_self, if_true, Int.toNat_natCast]; first | done | with_reducible rfl) | (simp [ht0, htN, hw1]; first | done | with_reducible rfl)
          try simp only [Act.put, List.setIfInBounds_toArray, List.set_cons_zero, List.set_cons_succ]
          refine wpAnyX_take (i := 1) (v := ?_) (by rw [List.getElem?_toArray]; rfl) (by kernel_rfl) (by kernel_rfl) (by kernel_rfl) (by kernel_rfl) (fun _ _ _ h => h) hS5 (Or.inl ⟨by rfl, ?_⟩) ?_
          rotate_left
          · intro wz hSz; obtain ⟨z0, z1⟩ := hSz; go_simp; (try simp only [hwt]); first | done | with_reducible rfl | (simp only [ht0, htN, hw1, and_self, if_true, Int.toNat_natCast]; first | done | with_reducible rfl) | (simp [ht0, htN, hw1]; first | done | with_reducible rfl)
          try simp only [Act.put, List.setIfInBounds_toArray, List.set_cons_zero, List.set_cons_succ]
          refine wpAnyX_take (i := 2) (v := ?_) (by rw [List.getElem?_toArray]; rfl) (by kernel_rfl) (by kernel_rfl) (by kernel_rfl) (by kernel_rfl) (fun _ _ _ h => h) hS5 (Or.inl ⟨by rfl, ?_⟩) ?_
          rotate_left
          · intro wz hSz; obtain ⟨z0, z1⟩ := hSz; go_simp; (try simp only [hwt]); first | done | with_reducible rfl | (simp only [ht0, htN, hw1, and_self, if_true, Int.toNat_natCast]; first | done | with_reducible rfl) | (simp [ht0, htN, hw1]; first | done | with_reducible rfl)
          try simp only [Act.put, List.setIfInBounds_toArray, List.set_cons_zero, List.set_cons_succ]
          refine wpAnyX_take (i := 3) (v := ?_) (by rw [List.getElem?_toArray]; rfl) (by kernel_rfl) (by kernel_rfl) (by kernel_rfl) (by kernel_rfl) (fun _ _ _ h => h) hS5 (Or.inl ⟨by rfl, ?_⟩) ?_
          rotate_left
          · intro wz hSz; obtain ⟨z0, z1⟩ := hSz; go_simp; (try simp only [hwt]); first | done | with_reducible rfl | (simp only [ht0, htN, hw1, and_self, if_true, Int.toNat_natCast]; first | done | with_reducible rfl) | (simp [ht0, htN, hw1]; first | done | with_reducible rfl)
          try simp only [Act.put, List.setIfInBounds_toArray, List.set_cons_zero, List.set_cons_succ]
          refine wpAnyX_take (i := 4) (v := ?_) (by rw [List.getElem?_toArray]; rfl) (by kernel_rfl) (by kernel_rfl) (by kernel_rfl) (by kernel_rfl) (fun _ _ _ h => h) hS5 (Or.inl ⟨by rfl, ?_⟩) ?_
          rotate_left
          · intro wz hSz; obtain ⟨z0, z1⟩ := hSz; go_simp; (try simp only [hwt]); first | done | with_reducible rfl | (simp only [ht0, htN, hw1, and_self, if_true, Int.toNat_natCast]; first | done | with_reducible rfl) | (simp [ht0, htN, hw1]; first | done | with_reducible rfl)
          try simp only [Act.put, List.setIfInBounds_toArray, List.set_cons_zero, List.set_cons_succ]
          refine wpAnyX_take (i := 5) (v := ?_) (by rw [List.getElem?_toArray]; rfl) (by kernel_rfl) (by kernel_rfl) (by kernel_rfl) (by kernel_rfl) (fun _ _ _ h => h) hS5 (Or.inl ⟨by rfl, ?_⟩) ?_
          rotate_left
          · intro wz hSz; obtain ⟨z0, z1⟩ := hSz; go_simp; (try simp only [hwt]); first | done | with_reducible rfl | (simp only [ht0, htN, hw1, and_self, if_true, Int.toNat_natCast]; first | done | with_reducible rfl) | (simp [ht0, htN, hw1]; first | done | with_reducible rfl)
          try simp only [Act.put, List.setIfInBounds_toArray, List.set_cons_zero, List.set_cons_succ]
          refine wpAnyX_take (i := 6) (v := ?_) (by rw [List.getElem?_toArray]; rfl) (by kernel_rfl) (by kernel_rfl) (by kernel_rfl) (by kernel_rfl) (fun _ _ _ h => h) hS5 (Or.inl ⟨by rfl, ?_⟩) ?_
          rotate_left
          · intro wz hSz; obtain ⟨z0, z1⟩ := hSz; go_simp; (try simp only [hwt]); first | done | with_reducible rfl | (simp only [ht0, htN, hw1, and_self, if_true, Int.toNat_natCast]; first | done | with_reducible rfl) | (simp [ht0, htN, hw1]; first | done | with_reducible rfl)
          try simp only [Act.put, List.setIfInBounds_toArray, List.set_cons_zero, List.set_cons_succ]
          refine wpAnyX_take (i := 7) (v := ?_) (by rw [List.getElem?_toArray]; rfl) (by kernel_rfl) (by kernel_rfl) (by kernel_rfl) (by kernel_rfl) (fun _ _ _ h => h) hS5 (Or.inl ⟨by rfl, ?_⟩) ?_
          rotate_left
          · intro wz hSz; obtain ⟨z0, z1⟩ := hSz; go_simp; (try simp only [hwt]); first | done | with_reducible rfl | (simp only [ht0, htN, hw1, and_self, if_true, Int.toNat_natCast]; first | done | with_reducible rfl) | (simp [ht0, htN, hw1]; first | done | with_reducible rfl)
          try simp only [Act.put, List.setIfInBounds_toArray, List.set_cons_zero, List.set_cons_succ]
          refine wpAnyX_take (i := 8) (v := ?_) (by rw [List.getElem?_toArray]; rfl) (by kernel_rfl) (by kernel_rfl) (by kernel_rfl) (by kernel_rfl) (fun _ _ _ h => h) hS5 (Or.inl ⟨by rfl, ?_⟩) ?_
          rotate_left
          · intro wz hSz; obtain ⟨z0, z1⟩ := hSz; go_simp; (try simp only [hwt]); first | done | with_reducible rfl | (simp only [ht0, htN, hw1, and_self, if_true, Int.toNat_natCast]; first | done | with_reducible rfl) | (simp [ht0, htN, hw1]; first | done | with_reducible rfl)
          try simp only [Act.put, List.setIfInBounds_toArray, List.set_cons_zero, List.set_cons_succ]
          refine wpAnyX_take (i := 9) (v := ?_) (by rw [List.getElem?_toArray]; rfl) (by kernel_rfl) (by kernel_rfl) (by kernel_rfl) (by kernel_rfl) (fun _ _ _ h => h) hS5 (Or.inl ⟨by rfl, ?_⟩) ?_
          rotate_left
          · intro wz hSz; obtain ⟨z0, z1⟩ := hSz; go_simp; (try simp only [hwt]); first | done | with_reducible rfl | (simp only [ht0, htN, hw1, and_self, if_true, Int.toNat_natCast]; first | done | with_reducible rfl) | (simp [ht0, htN, hw1]; first | done | with_reducible rfl)
          try simp only [Act.put, List.setIfInBounds_toArray, List.set_cons_zero, List.set_cons_succ]
          refine wpAnyX_take (i := 10) (v := ?_) (by rw [List.getElem?_toArray]; rfl) (by kernel_rfl) (by kernel_rfl) (by kernel_rfl) (by kernel_rfl) (fun _ _ _ h => h) hS5 (Or.inl ⟨by rfl, ?_⟩) ?_
          rotate_left
          · intro wz hSz; obtain ⟨z0, z1⟩ := hSz; go_simp; (try simp only [hwt]); first | done | with_reducible rfl | (simp only [ht0, htN, hw1, and_self, if_true, Int.toNat_natCast]; first | done | with_reducible rfl) | (simp [ht0, htN, hw1]; first | done | with_reducible rfl)
          try simp only [Act.put, List.setIfInBounds_toArray, List.set_cons_zero, List.set_cons_succ]
          refine wpAnyX_take (i := 11) (v := ?_) (by rw [List.getElem?_toArray]; rfl) (by kernel_rfl) (by kernel_rfl) (by kernel_rfl) (by kernel_rfl) (fun _ _ _ h => h) hS5 (Or.inl ⟨by rfl, ?_⟩) ?_
          rotate_left
          · intro wz hSz; obtain ⟨z0, z1⟩ := hSz; go_simp; (try simp only [hwt]); first | done | with_reducible rfl | (simp only [ht0, htN, hw1, and_self, if_true, Int.toNat_natCast]; first | done | with_reducible rfl) | (simp [ht0, htN, hw1]; first | done | with_reducible rfl)
          try simp only [Act.put, List.setIfInBounds_toArray, List.set_cons_zero, List.set_cons_succ]
          refine wpAnyX_take (i := 12) (v := ?_) (by rw [List.getElem?_toArray]; rfl) (by kernel_rfl) (by kernel_rfl) (by kernel_rfl) (by kernel_rfl) (fun _ _ _ h => h) hS5 (Or.inl ⟨by rfl, ?_⟩) ?_
          rotate_left
          · intro wz hSz; obtain ⟨z0, z1⟩ := hSz; go_simp; (try simp only [hwt]); first | done | with_reducible rfl | (simp only [ht0, htN, hw1, and_self, if_true, Int.toNat_natCast]; first | done | with_reducible rfl) | (simp [ht0, htN, hw1]; first | done | with_reducible rfl)
          try simp only [Act.put, List.setIfInBounds_toArray, List.set_cons_zero, List.set_cons_succ]
          refine wpAnyX_take (i := 13) (v := ?_) (by rw [List.getElem?_toArray]; rfl) (by kernel_rfl) (by kernel_rfl) (by kernel_rfl) (by kernel_rfl) (fun _ _ _ h => h) hS5 (Or.inl ⟨by rfl, ?_⟩) ?_
          rotate_left
          · intro wz hSz; obtain ⟨z0, z1⟩ := hSz; go_simp; (try simp only [hwt]); first | done | with_reducible rfl | (simp only [ht0, htN, hw1, and_self, if_true, Int.toNat_natCast]; first | done | with_reducible rfl) | (simp [ht0, htN, hw1]; first | done | with_reducible rfl)
          try simp only [Act.put, List.setIfInBounds_toArray, List.set_cons_zero, List.set_cons_succ]
          refine wpAnyX_take (i := 14) (v := ?_) (by rw [List.getElem?_toArray]; rfl) (by kernel_rfl) (by kernel_rfl) (by kernel_rfl) (by kernel_rfl) (fun _ _ _ h => h) hS5 (Or.inl ⟨by rfl, ?_⟩) ?_
          rotate_left
          · intro wz hSz; obtain ⟨z0, z1⟩ := hSz; go_simp; (try simp only [hwt]); first | done | with_reducible rfl | (simp only [ht0, htN, hw1, and_self, if_true, Int.toNat_natCast]; first | done | with_reducible rfl) | (simp [ht0, htN, hw1]; first | done | with_reducible rfl)
          try simp only [Act.put, List.setIfInBounds_toArray, List.set_cons_zero, List.set_cons_succ]
          refine wpAnyX_one (i := 15) (by kernel_rfl) (by rw [List.getElem?_toArray]; rfl) (fun K hK => ?_)
          have HK : Hid _ := hK
          clear hK
          go_simp

          refine HK.out _ _ (fun h => absurd rfl h) ?_
          clear HK K
          refine wpAnyX_done (by kernel_rfl) (NoPanic.normal ?_)
          clear hS5 HK5 hca hcb hfr
          go_wp2
          go_roundw
          case rel => exact ⟨J - 1, by omega, by go_num, ⟨HR.out.1, HR.out.2.drew⟩⟩
          case measure => simp [intOf]; omega
        · have hJb : ¬ (J : Int) > 0 := by omega
          have hJb2 : ¬ (0 : Int) < (J : Int) := by omega
          have hJe : J = 0 := by omega
          subst hJe
          have HR : Hid (RowZ w.heap.size N1 (fun t => kc c (i + 1) t) wx ∧ Below w.heap.size w wx) := by
            refine ⟨HJ.out.1.congr (fun t ht => ?_), HJ.out.2⟩
            cases t with
            | zero => rw [if_neg (by omega), kc_zero, kc_zero]
            | succ t => rw [if_pos (by omega)]
          go_wp2
          go_roundw
          case rel => exact ⟨i + 1, by omega, by go_num, HR.out⟩
          case measure => simp [intOf]; omega
    · have hib : ¬ (i : Int) < (n : Int) := by omega
      have hie : n = i := by omega
      subst hie
      have hck := HG.out.1.cell k (by have := HN.out.1; omega)
      obtain ⟨kv, hkv⟩ : ∃ kv, kv = kc c n k := ⟨_, rfl⟩
      rw [← hkv] at hck
      have hk1 : (k : Int) < (N1 : Int) := by omega
      have hk0 : (0 : Int) ≤ (k : Int) := by omega
      have HE : Hid (kv = kc c n k ∧ Below w.heap.size w wr) := ⟨hkv, HG.out.2⟩
      clear hkv
      go_wp2
      go_ret
      exact ⟨by rw [← HE.out.1]; rfl, HE.out.2⟩
end Go.Proofs.Ytnjbnamcedfjaaa
