/- Texts of ours, one behind the other: KA6 KA7 KA8 KA9 KA10 KA11 KB1 S21 KB2 S22 KB3 KB5 KB6 KB7 S23 S24 S25 S27 S28 KD1 W13 KD2 KD3 KD4 KD5 KD6 KD7 KD8 KD9 S29 KD10. -/
import Derived.Test.YtdfneklnpghhmaaGreatDoorZK9
import Derived.Laws.EntriesVeiled
import Derived.Test.YtdfneklnpghhmaaGreatDoorZL1
import Derived.Test.YtdfneklnpghhmaaGreatDoorZU2
import Derived.Test.YtdfneklnpghhmaaGreatDoorZV7
import Derived.Test.YtdfneklnpghhmaaGreatDoorZW5
import Derived.Test.YtdfneklnpghhmaaGreatDoorZO2
import Derived.Test.YtdfneklnpghhmaaGreatDoorZI22
import Derived.Test.YtdfneklnpghhmaaGreatDoorZW11
import Derived.Test.YtdfneklnpghhmaaGreatDoorZX12
import Derived.Deep.OwnRows
/- Weights: what Shows asks of its closures (outside, found, Shows$1, Shows$1$1, Shows$2, checkDistance). -/
namespace Go.Proofs.YtdfneklnpghhmaaGreatDoor
open Go.RowKit Go.Sort

def kv (q n k x : Nat) : Int := kc (kwc ((q : Int) - 1) x) n k
theorem krawv_any (q n k x : Nat) (hq : 2 ≤ q) (hq2 : q ≤ 64) (hp : q ^ n ≤ 1073741824) (hk : k ≤ n) (hx : x ≤ n) (w : World) :
    Calls Tryz.prog 85 #[.int .i64 (q : Nat), .int .i64 (n : Nat), .int .i64 (k : Nat), .int .i64 (x : Nat)] w fun e w' => e = .returned (.int .i64 (kv q n k x)) ∧ w' = w := by
  have h := kraw_any q n k x hq hq2 hp hk hx w
  rw [krw_is q n k x hx] at h
  exact h
end Go.Proofs.YtdfneklnpghhmaaGreatDoor

/- Weights: Shows of the program. -/
namespace Go.Proofs.YtdfneklnpghhmaaGreatDoor
open Go.RowKit Go.Sort

end Go.Proofs.YtdfneklnpghhmaaGreatDoor

/- Weights: Shows of the program where the lengths may be. -/
namespace Go.Proofs.YtdfneklnpghhmaaGreatDoor
open Go.RowKit Go.Sort

end Go.Proofs.YtdfneklnpghhmaaGreatDoor

/- Weights: the reference's CountMay. -/
namespace Go.Proofs.YtdfneklnpghhmaaGreatDoor
open Go.RowKit Go.Sort

set_option maxHeartbeats 2000000 in
set_option maxRecDepth 100000 in
theorem rcount_any {D : FD} (hD : D ∈ fieldsL) (n : Int) (hn : n ≤ 9223372036854775807) (w : World) :
    Calls Tryz.prog 10 #[.int .i64 D.q, .int .i64 n] w fun e w' => e = .returned (.int .i64 (D.wck n)) ∧ Below w.heap.size w w' := by
  have HD : Hid (D ∈ fieldsL) := hD
  have h2 := (fld hD).q2
  have h64 := (fld hD).q64
  clear hD
  go_enter Tryz.func10, Tryz.ntmps10
  go_wp2_with fail
  refine (rfield_sl HD.out w).mono ?_
  rintro e w1 ⟨gm, cm, rfl, _, hb1⟩
  unfold rf
  obtain ⟨wb, hwb⟩ : ∃ wb, wb = w1.alloc (.cells #[.int .i64 D.q, .int .i64 D.p, .int .i64 D.m, .int .i64 D.gen, .slice (some ⟨gm, 0, none⟩) (D.m + 1) cm] 65) := ⟨_, rfl⟩
  have hbb : Below w1.heap.size w1 wb := by rw [hwb]; exact (Below.refl _ _).alloc (Nat.le_refl _) _
  have H1 : Hid (Below w.heap.size w wb) := bel_up' hb1 hbb
  clear hb1 hbb
  by_cases h1 : n < 1
  · have HE : Hid (D.wck n = 4) := by show D.wck n = 4; unfold FD.wck; rw [if_pos h1]
    go_wp2
    rw [← hwb]
    go_ret
    exact ⟨by rw [HE.out]; rfl, H1.out⟩
  · have HP : Hid (Calls Tryz.prog 15 #[.int .i64 (D.q : Nat), .int .i64 n] wb (PwR D.q n wb)) := rpower_any D.q n h2 h64 (by omega) hn wb
    go_wp2_with fail
    rw [← hwb]
    clear hwb
    refine HP.out.mono ?_
    rintro e w' ⟨v, rfl, hw, hv⟩
    have hw := hw.symm
    subst hw
    rcases hv with ⟨hp, hv⟩ | ⟨hp, hv⟩
    · have hvb : ¬ v < 0 := by omega
      have HE : Hid (D.wck n = 0) := by show D.wck n = 0; unfold FD.wck; rw [if_neg (by omega), if_pos hp]
      clear hp hv
      go_wp2
      go_ret
      exact ⟨by rw [HE.out]; rfl, H1.out⟩
    · have hvb : v < 0 := by omega
      have HE : Hid (D.wck n = 4) := by show D.wck n = 4; unfold FD.wck; rw [if_neg (by omega), if_neg (by omega)]
      clear hp hv
      go_wp2
      go_ret
      exact ⟨by rw [HE.out]; rfl, H1.out⟩
end Go.Proofs.YtdfneklnpghhmaaGreatDoor

/- WeightsShow's walk where something is wrong (printed by make/ka10.py). -/
namespace Go.Proofs.YtdfneklnpghhmaaGreatDoor
open Go.RowKit Go.Sort

end Go.Proofs.YtdfneklnpghhmaaGreatDoor

/- WeightsShow's walk where the lengths may be (printed by make/ka11.py). -/
namespace Go.Proofs.YtdfneklnpghhmaaGreatDoor
open Go.RowKit Go.Sort
theorem SlZ.cell {b off n : Nat} {z : Nat → Int} {w : World} (h : SlZ (some ⟨b, off, none⟩) n z w) {j : Nat} (hj : j < n) : w.cell? ⟨b, off + j, none⟩ = some (.int .i64 (z j)) := by
  obtain ⟨b', off', e, hc⟩ := h j hj
  cases e
  exact hc

end Go.Proofs.YtdfneklnpghhmaaGreatDoor

/- Weights: Griesmer's bound, both sides (printed by make/kb1.py). -/
namespace Go.Proofs.YtdfneklnpghhmaaGreatDoor
open Go.RowKit Go.Sort

end Go.Proofs.YtdfneklnpghhmaaGreatDoor

/- Plain mathematics: balls; a sum split into high and low parts, and divided. No Go text here. -/
namespace Go.Proofs.YtdfneklnpghhmaaGreatDoor

theorem kc_one : ∀ i k, kc (fun _ => 1) i k = (chs i k : Nat)
  | 0, 0 => rfl
  | 0, _ + 1 => rfl
  | i + 1, 0 => by rw [kc_zero, chs_zero]; rfl
  | i + 1, k + 1 => by
    show kc (fun _ => 1) i (k + 1) + 1 * kc (fun _ => 1) i k = ((chs i k + chs i (k + 1) : Nat) : Int)
    rw [kc_one i (k + 1), kc_one i k, Int.one_mul, Int.natCast_add, Int.add_comm]

/-- How many words lie within r - 1 places. -/
def bls (q n : Nat) : Nat → Nat
  | 0 => 0
  | r + 1 => bls q n r + (q - 1) ^ r * chs n r
theorem bterm_le {q n r : Nat} (hq : 1 ≤ q) : (q - 1) ^ r * chs n r ≤ q ^ n := by
  have h := chs_pw (q - 1) n r
  rw [show q - 1 + 1 = q by omega] at h
  exact h
theorem bls_le {q n : Nat} (hq : 1 ≤ q) : ∀ r, bls q n r ≤ r * q ^ n
  | 0 => by show 0 ≤ _; omega
  | r + 1 => by
    have h1 := bls_le (n := n) hq r
    have h2 := bterm_le (n := n) (r := r) hq
    show bls q n r + (q - 1) ^ r * chs n r ≤ _
    rw [Nat.add_mul]
    omega
end Go.Proofs.YtdfneklnpghhmaaGreatDoor

/- Weights: balls, and numbers of sets of the reference (printed by make/kb2.py). -/
namespace Go.Proofs.YtdfneklnpghhmaaGreatDoor
open Go.RowKit

set_option maxHeartbeats 8000000 in
set_option maxRecDepth 100000 in
theorem rchoose_any (n k : Nat) (hn30 : n ≤ 30) (hk : k ≤ n) (w : World) :
    Calls Tryz.prog 39 #[.int .i64 (n : Nat), .int .i64 (k : Nat)] w fun e w' => e = .returned (.int .i64 (chs n k : Nat)) ∧ Below w.heap.size w w' := by
  have hk0a : ¬ (k : Int) < 0 := by omega
  have hk0b : ¬ (n : Int) < (k : Int) := by omega
  have hk0c : ¬ (k : Int) > (n : Int) := by omega
  rw [← kc_one]
  obtain ⟨c, hc⟩ : ∃ c : Nat → Int, c = fun _ => 1 := ⟨_, rfl⟩
  rw [← hc]
  have HB : Hid (∀ i j, i ≤ n → -1073741824 ≤ kc c i j ∧ kc c i j ≤ 1073741824) := fun i j hi => by
    have h : kc c i j = (chs i j : Nat) := by rw [hc]; exact kc_one i j
    have h2 := chs_le i j
    have h3 : 2 ^ i ≤ 2 ^ 30 := Nat.pow_le_pow_right (by omega) (by omega)
    rw [h]
    omega
  have HC : Hid (∀ i, c i = 1) := fun i => by rw [hc]
  clear hc
  obtain ⟨N1, hN1⟩ : ∃ N1, N1 = n + 1 := ⟨_, rfl⟩
  have hN : (n : Int) + 1 = (N1 : Int) := by omega
  have hin : (n : Int) < (N1 : Int) := by omega
  have hi0 : (0 : Int) < (N1 : Int) := by omega
  have HN : Hid (N1 = n + 1 ∧ (n : Int) + 1 = (N1 : Int)) := ⟨hN1, hN⟩
  have hN1b : N1 ≤ 31 := by omega
  clear hN1 hN
  go_enter Tryz.func39, Tryz.ntmps39
  go_wp2_with (first | (at_make; refine make_int rfl _ _ rfl _ N1 rfl rfl HN.out.2 (by omega) ?_; intro w1 hown1 hgrow1; have hrz := RowZ.of (row_zeros hown1); have c0 := hrz.cell 0 (by omega); have f0 := hrz.free 0))
  obtain ⟨w2, hw2⟩ : ∃ w2, w2 = w1.setCell ⟨w.heap.size, 0, none⟩ (.int .i64 1) := ⟨_, rfl⟩
  have H2 : Hid (RowZ w.heap.size N1 (fun t => kc c 0 t) w2 ∧ Below w.heap.size w w2) := by
    have hb : Below w.heap.size w w1 := below_grown hgrow1 (Nat.le_refl _) (fun k hk => by simp at hk)
    rw [hw2]
    refine ⟨?_, hb.setCell (Nat.le_refl _) _⟩
    refine hrz.store 0 1 (fun j _ => ?_)
    cases j with
    | zero => rfl
    | succ j => rfl
  rw [← hw2]
  clear hown1 hgrow1 hrz c0 f0 hw2
  go_loopw [6] (fun vi wr => ∃ i : Nat, i ≤ n ∧ vi = .int .i64 (i : Nat) ∧ Hid (RowZ w.heap.size N1 (fun t => kc c i t) wr ∧ Below w.heap.size w wr)) (fun vi _ => n - (intOf vi).toNat)
  case atStart => exact ⟨0, by omega, rfl, H2.out⟩
  case round =>
    clear H2
    obtain ⟨i, hi, rfl, HG⟩ := hrel
    rename World => wr
    by_cases hlt : i < n
    · have hib : (i : Int) < (n : Int) := by omega
      go_wp2
      go_loopw [7] (fun vj wx => ∃ J : Nat, J ≤ n ∧ vj = .int .i64 (J : Nat) ∧ Hid (RowZ w.heap.size N1 (fun t => if J < t then kc c (i + 1) t else kc c i t) wx ∧ Below w.heap.size w wx)) (fun vj _ => (intOf vj).toNat)
      case atStart =>
        refine ⟨n, Nat.le_refl _, rfl, HG.out.1.congr (fun t ht => ?_), HG.out.2⟩
        rw [if_neg (by have := HN.out.1; omega)]
      case round =>
        obtain ⟨J, hJ, rfl, HJ⟩ := hrel
        rename World => wx
        by_cases hJ0 : 0 < J
        · have hJb : (J : Int) > 0 := by omega
          have hJb2 : (0 : Int) < (J : Int) := by omega
          have hJn : (J : Int) < (N1 : Int) := by omega
          have hJp : (0 : Int) ≤ (J : Int) := by omega
          obtain ⟨t, ht⟩ : ∃ t, J = t + 1 := ⟨J - 1, by omega⟩
          have hJ1 : (J : Int) - 1 = (t : Int) := by omega
          have hJ2 : ((J : Int) - 1).toNat = t := by omega
          have hJ3 : (J : Int) - 1 < (N1 : Int) := by omega
          have hJ4 : (0 : Int) ≤ (J : Int) - 1 := by omega
          have hwt : IntKind.i64.wrap (t : Int) = (t : Int) := wrap_ka (by omega) (by omega)
          have ht0 : (0 : Int) ≤ (t : Int) := by omega
          have htN : (t : Int) < (N1 : Int) := by omega
          obtain ⟨av, hav⟩ : ∃ av, av = kc c i J := ⟨_, rfl⟩
          obtain ⟨bv, hbv⟩ : ∃ bv, bv = kc c i t := ⟨_, rfl⟩
          have hb1 := HB.out i J (by omega)
          have hb2 := HB.out i t (by omega)
          rw [← hav] at hb1
          rw [← hbv] at hb2
          have hca := HJ.out.1.cell J (by have := HN.out.1; omega)
          rw [if_neg (by omega), ← hav] at hca
          have hcb := HJ.out.1.cell t (by have := HN.out.1; omega)
          rw [if_neg (by omega), ← hbv] at hcb
          have hfr := HJ.out.1.free J
          have HR : Hid (RowZ w.heap.size N1 (fun s => if J - 1 < s then kc c (i + 1) s else kc c i s) (wx.setCell ⟨w.heap.size, J, none⟩ (.int .i64 (av + bv))) ∧ Below w.heap.size w (wx.setCell ⟨w.heap.size, J, none⟩ (.int .i64 (av + bv)))) := by
            refine ⟨HJ.out.1.store J (av + bv) (fun s _ => ?_), HJ.out.2.setCell (Nat.le_refl _) _⟩
            by_cases e : s = J
            · rw [if_pos e, if_pos (by omega), e, hav, hbv, ht]
              show kc c i (t + 1) + c i * kc c i t = _
              rw [HC.out, Int.one_mul]
            · rw [if_neg e]
              by_cases e2 : J < s
              · rw [if_pos e2, if_pos (by omega)]
              · rw [if_neg e2, if_neg (by omega)]
          have HK5 : Hid (kwS w.heap.size J t av bv wx.drew) := ⟨hca, hcb⟩
          clear hav hbv ht
          go_wp2
          have hS5 := HK5.out
          refine wp_region_noPanic ?_
          refine wp_region_X (S := kwS w.heap.size J t av bv) 13 (by kernel_rfl) ?_
          refine wpAnyX_take (i := 0) (v := ?_) (by rw [List.getElem?_toArray]; rfl) (by kernel_rfl) (by kernel_rfl) (by kernel_rfl) (by kernel_rfl) (fun _ _ _ h => h) hS5 (Or.inl ⟨by rfl, ?_⟩) ?_
          rotate_left
          · intro wz hSz; obtain ⟨z0, z1⟩ := hSz; go_simp; (try simp only [hwt]); first | done | with_reducible rfl | (simp only [ht0, htN, and_self, if_true, Int.toNat_natCast]; first | done | with_reducible rfl) | (simp [ht0, htN]; first | done | with_reducible rfl)
          try simp only [Act.put, List.setIfInBounds_toArray, List.set_cons_zero, List.set_cons_succ]
          refine wpAnyX_take (i := 1) (v := ?_) (by rw [List.getElem?_toArray]; rfl) (by kernel_rfl) (by kernel_rfl) (by kernel_rfl) (by kernel_rfl) (fun _ _ _ h => h) hS5 (Or.inl ⟨by rfl, ?_⟩) ?_
          rotate_left
          · intro wz hSz; obtain ⟨z0, z1⟩ := hSz; go_simp; (try simp only [hwt]); first | done | with_reducible rfl | (simp only [ht0, htN, and_self, if_true, Int.toNat_natCast]; first | done | with_reducible rfl) | (simp [ht0, htN]; first | done | with_reducible rfl)
          try simp only [Act.put, List.setIfInBounds_toArray, List.set_cons_zero, List.set_cons_succ]
          refine wpAnyX_take (i := 2) (v := ?_) (by rw [List.getElem?_toArray]; rfl) (by kernel_rfl) (by kernel_rfl) (by kernel_rfl) (by kernel_rfl) (fun _ _ _ h => h) hS5 (Or.inl ⟨by rfl, ?_⟩) ?_
          rotate_left
          · intro wz hSz; obtain ⟨z0, z1⟩ := hSz; go_simp; (try simp only [hwt]); first | done | with_reducible rfl | (simp only [ht0, htN, and_self, if_true, Int.toNat_natCast]; first | done | with_reducible rfl) | (simp [ht0, htN]; first | done | with_reducible rfl)
          try simp only [Act.put, List.setIfInBounds_toArray, List.set_cons_zero, List.set_cons_succ]
          refine wpAnyX_take (i := 3) (v := ?_) (by rw [List.getElem?_toArray]; rfl) (by kernel_rfl) (by kernel_rfl) (by kernel_rfl) (by kernel_rfl) (fun _ _ _ h => h) hS5 (Or.inl ⟨by rfl, ?_⟩) ?_
          rotate_left
          · intro wz hSz; obtain ⟨z0, z1⟩ := hSz; go_simp; (try simp only [hwt]); first | done | with_reducible rfl | (simp only [ht0, htN, and_self, if_true, Int.toNat_natCast]; first | done | with_reducible rfl) | (simp [ht0, htN]; first | done | with_reducible rfl)
          try simp only [Act.put, List.setIfInBounds_toArray, List.set_cons_zero, List.set_cons_succ]
          refine wpAnyX_take (i := 4) (v := ?_) (by rw [List.getElem?_toArray]; rfl) (by kernel_rfl) (by kernel_rfl) (by kernel_rfl) (by kernel_rfl) (fun _ _ _ h => h) hS5 (Or.inl ⟨by rfl, ?_⟩) ?_
          rotate_left
          · intro wz hSz; obtain ⟨z0, z1⟩ := hSz; go_simp; (try simp only [hwt]); first | done | with_reducible rfl | (simp only [ht0, htN, and_self, if_true, Int.toNat_natCast]; first | done | with_reducible rfl) | (simp [ht0, htN]; first | done | with_reducible rfl)
          try simp only [Act.put, List.setIfInBounds_toArray, List.set_cons_zero, List.set_cons_succ]
          refine wpAnyX_take (i := 5) (v := ?_) (by rw [List.getElem?_toArray]; rfl) (by kernel_rfl) (by kernel_rfl) (by kernel_rfl) (by kernel_rfl) (fun _ _ _ h => h) hS5 (Or.inl ⟨by rfl, ?_⟩) ?_
          rotate_left
          · intro wz hSz; obtain ⟨z0, z1⟩ := hSz; go_simp; (try simp only [hwt]); first | done | with_reducible rfl | (simp only [ht0, htN, and_self, if_true, Int.toNat_natCast]; first | done | with_reducible rfl) | (simp [ht0, htN]; first | done | with_reducible rfl)
          try simp only [Act.put, List.setIfInBounds_toArray, List.set_cons_zero, List.set_cons_succ]
          refine wpAnyX_take (i := 6) (v := ?_) (by rw [List.getElem?_toArray]; rfl) (by kernel_rfl) (by kernel_rfl) (by kernel_rfl) (by kernel_rfl) (fun _ _ _ h => h) hS5 (Or.inl ⟨by rfl, ?_⟩) ?_
          rotate_left
          · intro wz hSz; obtain ⟨z0, z1⟩ := hSz; go_simp; (try simp only [hwt]); first | done | with_reducible rfl | (simp only [ht0, htN, and_self, if_true, Int.toNat_natCast]; first | done | with_reducible rfl) | (simp [ht0, htN]; first | done | with_reducible rfl)
          try simp only [Act.put, List.setIfInBounds_toArray, List.set_cons_zero, List.set_cons_succ]
          refine wpAnyX_take (i := 7) (v := ?_) (by rw [List.getElem?_toArray]; rfl) (by kernel_rfl) (by kernel_rfl) (by kernel_rfl) (by kernel_rfl) (fun _ _ _ h => h) hS5 (Or.inl ⟨by rfl, ?_⟩) ?_
          rotate_left
          · intro wz hSz; obtain ⟨z0, z1⟩ := hSz; go_simp; (try simp only [hwt]); first | done | with_reducible rfl | (simp only [ht0, htN, and_self, if_true, Int.toNat_natCast]; first | done | with_reducible rfl) | (simp [ht0, htN]; first | done | with_reducible rfl)
          try simp only [Act.put, List.setIfInBounds_toArray, List.set_cons_zero, List.set_cons_succ]
          refine wpAnyX_take (i := 8) (v := ?_) (by rw [List.getElem?_toArray]; rfl) (by kernel_rfl) (by kernel_rfl) (by kernel_rfl) (by kernel_rfl) (fun _ _ _ h => h) hS5 (Or.inl ⟨by rfl, ?_⟩) ?_
          rotate_left
          · intro wz hSz; obtain ⟨z0, z1⟩ := hSz; go_simp; (try simp only [hwt]); first | done | with_reducible rfl | (simp only [ht0, htN, and_self, if_true, Int.toNat_natCast]; first | done | with_reducible rfl) | (simp [ht0, htN]; first | done | with_reducible rfl)
          try simp only [Act.put, List.setIfInBounds_toArray, List.set_cons_zero, List.set_cons_succ]
          refine wpAnyX_take (i := 9) (v := ?_) (by rw [List.getElem?_toArray]; rfl) (by kernel_rfl) (by kernel_rfl) (by kernel_rfl) (by kernel_rfl) (fun _ _ _ h => h) hS5 (Or.inl ⟨by rfl, ?_⟩) ?_
          rotate_left
          · intro wz hSz; obtain ⟨z0, z1⟩ := hSz; go_simp; (try simp only [hwt]); first | done | with_reducible rfl | (simp only [ht0, htN, and_self, if_true, Int.toNat_natCast]; first | done | with_reducible rfl) | (simp [ht0, htN]; first | done | with_reducible rfl)
          try simp only [Act.put, List.setIfInBounds_toArray, List.set_cons_zero, List.set_cons_succ]
          refine wpAnyX_take (i := 10) (v := ?_) (by rw [List.getElem?_toArray]; rfl) (by kernel_rfl) (by kernel_rfl) (by kernel_rfl) (by kernel_rfl) (fun _ _ _ h => h) hS5 (Or.inl ⟨by rfl, ?_⟩) ?_
          rotate_left
          · intro wz hSz; obtain ⟨z0, z1⟩ := hSz; go_simp; (try simp only [hwt]); first | done | with_reducible rfl | (simp only [ht0, htN, and_self, if_true, Int.toNat_natCast]; first | done | with_reducible rfl) | (simp [ht0, htN]; first | done | with_reducible rfl)
          try simp only [Act.put, List.setIfInBounds_toArray, List.set_cons_zero, List.set_cons_succ]
          refine wpAnyX_take (i := 11) (v := ?_) (by rw [List.getElem?_toArray]; rfl) (by kernel_rfl) (by kernel_rfl) (by kernel_rfl) (by kernel_rfl) (fun _ _ _ h => h) hS5 (Or.inl ⟨by rfl, ?_⟩) ?_
          rotate_left
          · intro wz hSz; obtain ⟨z0, z1⟩ := hSz; go_simp; (try simp only [hwt]); first | done | with_reducible rfl | (simp only [ht0, htN, and_self, if_true, Int.toNat_natCast]; first | done | with_reducible rfl) | (simp [ht0, htN]; first | done | with_reducible rfl)
          try simp only [Act.put, List.setIfInBounds_toArray, List.set_cons_zero, List.set_cons_succ]
          refine wpAnyX_take (i := 12) (v := ?_) (by rw [List.getElem?_toArray]; rfl) (by kernel_rfl) (by kernel_rfl) (by kernel_rfl) (by kernel_rfl) (fun _ _ _ h => h) hS5 (Or.inl ⟨by rfl, ?_⟩) ?_
          rotate_left
          · intro wz hSz; obtain ⟨z0, z1⟩ := hSz; go_simp; (try simp only [hwt]); first | done | with_reducible rfl | (simp only [ht0, htN, and_self, if_true, Int.toNat_natCast]; first | done | with_reducible rfl) | (simp [ht0, htN]; first | done | with_reducible rfl)
          try simp only [Act.put, List.setIfInBounds_toArray, List.set_cons_zero, List.set_cons_succ]
          refine wpAnyX_one (i := 13) (by kernel_rfl) (by rw [List.getElem?_toArray]; rfl) (fun K hK => ?_)
          have HK : Hid _ := hK
          clear hK
          go_simp

          refine HK.out _ _ (fun h => absurd rfl h) ?_
          clear HK K
          refine wpAnyX_done (by kernel_rfl) (NoPanic.normal ?_)
          clear hS5 HK5 hca hcb hfr
          go_wp2
          go_roundw
          case rel => exact ⟨J - 1, by omega, by go_num, ⟨HR.out.1, HR.out.2.drew⟩⟩
          case measure => simp [intOf]; omega
        · have hJb : ¬ (J : Int) > 0 := by omega
          have hJb2 : ¬ (0 : Int) < (J : Int) := by omega
          have hJe : J = 0 := by omega
          subst hJe
          have HR : Hid (RowZ w.heap.size N1 (fun t => kc c (i + 1) t) wx ∧ Below w.heap.size w wx) := by
            refine ⟨HJ.out.1.congr (fun t ht => ?_), HJ.out.2⟩
            cases t with
            | zero => rw [if_neg (by omega), kc_zero, kc_zero]
            | succ t => rw [if_pos (by omega)]
          go_wp2
          go_roundw
          case rel => exact ⟨i + 1, by omega, by go_num, HR.out⟩
          case measure => simp [intOf]; omega
    · have hib : ¬ (i : Int) < (n : Int) := by omega
      have hie : n = i := by omega
      subst hie
      have hck := HG.out.1.cell k (by have := HN.out.1; omega)
      obtain ⟨kv, hkv⟩ : ∃ kv, kv = kc c n k := ⟨_, rfl⟩
      rw [← hkv] at hck
      have hk1 : (k : Int) < (N1 : Int) := by omega
      have hk0 : (0 : Int) ≤ (k : Int) := by omega
      have HE : Hid (kv = kc c n k ∧ Below w.heap.size w wr) := ⟨hkv, HG.out.2⟩
      clear hkv
      go_wp2
      go_ret
      exact ⟨by rw [← HE.out.1]; rfl, HE.out.2⟩

set_option maxHeartbeats 4000000 in
set_option maxRecDepth 100000 in
theorem rball_any (q n r : Nat) (hq : 2 ≤ q) (hq2 : q ≤ 64) (hp : q ^ n ≤ 1073741824) (hr : r ≤ n) (w : World) :
    Calls Tryz.prog 16 #[.int .i64 (q : Nat), .int .i64 (n : Nat), .int .i64 (r : Nat)] w fun e w' => e = .returned (.int .i64 (bls q n (r + 1) : Nat)) ∧ Below w.heap.size w w' := by
  have hn30 : n ≤ 30 := pow30 hq hp
  go_enter Tryz.func16, Tryz.ntmps16
  go_wp2
  go_loopw [7, 8] (fun vs vi wr => ∃ i s : Nat, vs = .int .i64 (s : Nat) ∧ vi = .int .i64 (i : Nat) ∧ i ≤ r + 1 ∧ Hid (s = bls q n i) ∧ Hid (Below w.heap.size w wr)) (fun _ vi _ => r + 1 - (intOf vi).toNat)
  case atStart => exact ⟨0, 0, rfl, rfl, by omega, rfl, Below.refl _ _⟩
  case round =>
    obtain ⟨i, s, rfl, rfl, hi, HS, HW⟩ := hrel
    rename World => wr
    have hs : s ≤ 34359738368 := by
      rw [HS.out]
      refine Nat.le_trans (bls_le (by omega) i) (Nat.le_trans (Nat.mul_le_mul (show i ≤ 32 by omega) hp) (by omega))
    by_cases hlt : i < r + 1
    · have hib : (i : Int) ≤ (r : Int) := by omega
      have HO1 : Hid (Calls Tryz.prog 39 #[.int .i64 (n : Nat), .int .i64 (i : Nat)] wr fun e w' => e = .returned (.int .i64 (chs n i : Nat)) ∧ Below wr.heap.size wr w') := rchoose_any n i (by omega) (by omega) wr
      go_wp2_with fail
      refine HO1.out.mono ?_
      rintro e w2 ⟨rfl, hb⟩
      have H2 : Hid (Below w.heap.size w w2) := bel_up' HW.out hb
      clear hb
      go_wp2
      go_loopw [9, 10] (fun vt vk wx => ∃ k t : Nat, vt = .int .i64 (t : Nat) ∧ vk = .int .i64 (k : Nat) ∧ k ≤ i ∧ Hid (t = (q - 1) ^ k * chs n i) ∧ wx = w2) (fun _ vk _ => i - (intOf vk).toNat)
      case atStart => exact ⟨0, chs n i, rfl, rfl, by omega, by show _ = (q - 1) ^ 0 * _; simp, rfl⟩
      case round =>
        obtain ⟨k, t, rfl, rfl, hk, HT, hw⟩ := hrel
        have hw := hw.symm
        subst hw
        have htb : ∀ k', k' ≤ i → (q - 1) ^ k' * chs n i ≤ 1073741824 := fun k' hk' => by
          have h1 := bterm_le (q := q) (n := n) (r := i) (by omega)
          have h2 : (q - 1) ^ k' ≤ (q - 1) ^ i := Nat.pow_le_pow_right (by omega) hk'
          have h3 := Nat.mul_le_mul_right (chs n i) h2
          omega
        have ht : t ≤ 1073741824 := by rw [HT.out]; exact htb k hk
        by_cases hkl : k < i
        · have hkb : (k : Int) < (i : Int) := by omega
          obtain ⟨P, hP⟩ : ∃ P, P = t * (q - 1) := ⟨_, rfl⟩
          have HR : Hid (P = (q - 1) ^ (k + 1) * chs n i) := by
            show P = _
            rw [hP, HT.out, Nat.pow_succ, Nat.mul_assoc, Nat.mul_assoc, Nat.mul_comm (chs n i)]
          have hPb : P ≤ 1073741824 := by rw [HR.out]; exact htb (k + 1) (by omega)
          have hw1 : IntKind.i64.wrap ((t : Int) * ((q : Int) - 1)) = (P : Int) := by
            rw [show (q : Int) - 1 = ((q - 1 : Nat) : Int) by omega, show (t : Int) * ((q - 1 : Nat) : Int) = (P : Int) by rw [hP]; simp]
            exact wrap_ka (by omega) (by omega)
          clear hP htb
          go_wp2
          go_roundw
          case rel => exact ⟨k + 1, P, by first | rfl | simp [hw1], by go_num, by omega, HR.out, by first | rfl | trivial⟩
          case measure => simp [intOf]; omega
        · have hkb : ¬ (k : Int) < (i : Int) := by omega
          have HR : Hid (s + t = bls q n (i + 1)) := by
            show s + t = bls q n i + (q - 1) ^ i * chs n i
            rw [HS.out, HT.out, show k = i by omega]
          clear htb
          go_wp2
          go_roundw
          case rel => exact ⟨i + 1, s + t, by first | rfl | go_num, by go_num, by omega, HR.out, H2.out⟩
          case measure => simp [intOf]; omega
    · have hib : ¬ (i : Int) ≤ (r : Int) := by omega
      have hie : i = r + 1 := by omega
      subst hie
      go_wp2
      go_ret
      exact ⟨by rw [← HS.out]; rfl, HW.out⟩
end Go.Proofs.YtdfneklnpghhmaaGreatDoor

/- Plain mathematics: sums of products, bounded by the sum of the numbers; split into two parts. No Go text here. -/
namespace Go.Proofs.YtdfneklnpghhmaaGreatDoor

/-- The sum of numbers. -/
def tsm (f : Nat → Int) (r : Nat) : Int := vsm f (fun _ => 1) r
theorem tsm_succ (f : Nat → Int) (r : Nat) : tsm f (r + 1) = tsm f r + f r := by
  show vsm f (fun _ => 1) r + f r * 1 = _
  rw [Int.mul_one]; rfl
theorem tsm_nn {f : Nat → Int} {N : Nat} (hf : ∀ j, j < N → 0 ≤ f j) : ∀ r, r ≤ N → 0 ≤ tsm f r
  | 0, _ => Int.le_refl _
  | r + 1, h => by
    have h1 := tsm_nn hf r (by omega)
    have h2 := hf r (by omega)
    rw [tsm_succ]
    omega
end Go.Proofs.YtdfneklnpghhmaaGreatDoor

/- Weights: Krawtchouk and the bounds of the program (printed by make/kb3.py). -/
namespace Go.Proofs.YtdfneklnpghhmaaGreatDoor
open Go.RowKit Go.Sort

set_option maxHeartbeats 2000000 in
set_option maxRecDepth 100000 in
theorem wK_ok (q n k x : Nat) (hq : 2 ≤ q) (hq2 : q ≤ 64) (hp : q ^ n ≤ 1073741824) (hk : k ≤ n) (hx : x ≤ n) {w : World} (hC : Calls Tryz.prog 35 #[.int .i64 (q : Nat), .int .i64 (n : Nat)] w fun e w' => e = .returned (.int .i64 0) ∧ Below w.heap.size w w') :
    Calls Tryz.prog 61 #[.int .i64 (q : Nat), .int .i64 (n : Nat), .int .i64 (k : Nat), .int .i64 (x : Nat)] w fun e w' => e = .returned (.tuple #[.int .i64 (kv q n k x), .int .i64 0]) ∧ Below w.heap.size w w' := by
  have HP : Hid (q ^ n ≤ 1073741824) := hp
  clear hp
  have h1 : ¬ (k : Int) < 0 := by omega
  have h2 : ¬ (n : Int) < (k : Int) := by omega
  have h2b : ¬ (k : Int) > (n : Int) := by omega
  have h3 : ¬ (x : Int) < 0 := by omega
  have h4 : ¬ (n : Int) < (x : Int) := by omega
  have h4b : ¬ (x : Int) > (n : Int) := by omega
  have HC : Hid (Calls Tryz.prog 35 #[.int .i64 (q : Nat), .int .i64 (n : Nat)] w fun e w' => e = .returned (.int .i64 0) ∧ Below w.heap.size w w') := hC
  clear hC
  go_enter Tryz.func61, Tryz.ntmps61
  go_wp2_with fail
  refine HC.out.mono ?_
  rintro e w1 ⟨rfl, hb⟩
  have H1 : Hid (Below w.heap.size w w1) := hb
  clear hb
  go_wp2_with fail
  refine (krawv_any q n k x hq hq2 HP.out hk hx _).mono ?_
  rintro e w2 ⟨rfl, hw⟩
  have hw := hw.symm
  subst hw
  go_wp2
  go_ret2
  exact ⟨rfl, H1.out⟩

end Go.Proofs.YtdfneklnpghhmaaGreatDoor

/- Weights: the program's together and Dual (printed by make/kb5.py). -/
namespace Go.Proofs.YtdfneklnpghhmaaGreatDoor
open Go.RowKit Go.Sort

theorem RowZ.lt {g N : Nat} {z : Nat → Int} {w : World} (h : RowZ g N z w) : g < w.heap.size := by
  obtain ⟨cap, f, h1, h2, h3⟩ := h
  exact h1.lt

theorem RowZ.drewN {g N : Nat} {z : Nat → Int} {w : World} (h : RowZ g N z w) (k : Nat) : RowZ g N z (w.drewN k) := by
  obtain ⟨cap, f, h1, h2, h3⟩ := h
  exact ⟨cap, f, h1.drewN k, h2, h3⟩
end Go.Proofs.YtdfneklnpghhmaaGreatDoor

/- Weights: the reference's Turned (printed by make/kb6.py). -/
namespace Go.Proofs.YtdfneklnpghhmaaGreatDoor
open Go.RowKit Go.Sort

end Go.Proofs.YtdfneklnpghhmaaGreatDoor

/- Weights: the law's walk of MacWilliams' transform (printed by make/kb7.py). -/
namespace Go.Proofs.YtdfneklnpghhmaaGreatDoor
open Go.RowKit Go.Sort

end Go.Proofs.YtdfneklnpghhmaaGreatDoor

/- Plain mathematics: sets that are great and meet little are few (Johnson). No Go text here. -/
namespace Go.Proofs.YtdfneklnpghhmaaGreatDoor

end Go.Proofs.YtdfneklnpghhmaaGreatDoor

/- Plain mathematics of Sudan's sum: a message that agrees at many places makes it nought. No Go text here. -/
namespace Go.Proofs.YtdfneklnpghhmaaGreatDoor
open Go.RowKit Go.Sort

end Go.Proofs.YtdfneklnpghhmaaGreatDoor

/- Plain mathematics of Sudan's sum, second part: the curve of a message that agrees at t places is nought. No Go text here. -/
namespace Go.Proofs.YtdfneklnpghhmaaGreatDoor
open Go.RowKit Go.Sort

end Go.Proofs.YtdfneklnpghhmaaGreatDoor

/- Plain mathematics of words that are mended: one near message; what meets the equations; the error locator. No Go text here. -/
namespace Go.Proofs.YtdfneklnpghhmaaGreatDoor
open Go.RowKit Go.Sort

end Go.Proofs.YtdfneklnpghhmaaGreatDoor

/- Plain mathematics of Euclid's way to mend a word: what stays as it goes on; what stands at its end. No Go text here. -/
namespace Go.Proofs.YtdfneklnpghhmaaGreatDoor
open Go.RowKit Go.Sort

end Go.Proofs.YtdfneklnpghhmaaGreatDoor

/- The program's reed: quotient, spare. -/
namespace Go.Proofs.YtdfneklnpghhmaaGreatDoor
open Go.RowKit Go.Sort

end Go.Proofs.YtdfneklnpghhmaaGreatDoor

/- A region that draws its order and whose late operations, which wait for all that read, write what others read. No Go text here. -/
namespace Go.Proofs.YtdfneklnpghhmaaGreatDoor
open Go

end Go.Proofs.YtdfneklnpghhmaaGreatDoor

/- The program's reed: hear (printed by make/kd2.py). -/
namespace Go.Proofs.YtdfneklnpghhmaaGreatDoor
open Go.RowKit Go.Sort

end Go.Proofs.YtdfneklnpghhmaaGreatDoor

/- The program's reed: noughtAt. -/
namespace Go.Proofs.YtdfneklnpghhmaaGreatDoor
open Go.RowKit Go.Sort

end Go.Proofs.YtdfneklnpghhmaaGreatDoor

/- The program's reed: byDivisors. -/
namespace Go.Proofs.YtdfneklnpghhmaaGreatDoor
open Go.RowKit Go.Sort

end Go.Proofs.YtdfneklnpghhmaaGreatDoor

/- The program's reed: the walk of byDivisors. -/
namespace Go.Proofs.YtdfneklnpghhmaaGreatDoor
open Go.RowKit Go.Sort

end Go.Proofs.YtdfneklnpghhmaaGreatDoor

/- The program's reed: equation (the row of one place). -/
namespace Go.Proofs.YtdfneklnpghhmaaGreatDoor
open Go.RowKit Go.Sort

end Go.Proofs.YtdfneklnpghhmaaGreatDoor

/- What was heard of a word: numbers and places, as functions. -/
namespace Go.Proofs.YtdfneklnpghhmaaGreatDoor
open Go.RowKit Go.Sort

end Go.Proofs.YtdfneklnpghhmaaGreatDoor

/- The program's reed: mend (printed by make/kd8.py). -/
namespace Go.Proofs.YtdfneklnpghhmaaGreatDoor
open Go.RowKit Go.Sort

end Go.Proofs.YtdfneklnpghhmaaGreatDoor

/- The program's reed: Euclid. -/
namespace Go.Proofs.YtdfneklnpghhmaaGreatDoor
open Go.RowKit Go.Sort

end Go.Proofs.YtdfneklnpghhmaaGreatDoor

/- Plain mathematics of words that are mended by equations: there is a solution where a near message is, and each solution tells it. No Go text here. -/
namespace Go.Proofs.YtdfneklnpghhmaaGreatDoor
open Go.RowKit Go.Sort

end Go.Proofs.YtdfneklnpghhmaaGreatDoor

/- Steps of a region that draws its order: rows that are made; an append that makes a new block, since none of the old one is left. -/
namespace Go.Proofs.YtdfneklnpghhmaaGreatDoor
open Go.RowKit Go.Sort

end Go.Proofs.YtdfneklnpghhmaaGreatDoor
