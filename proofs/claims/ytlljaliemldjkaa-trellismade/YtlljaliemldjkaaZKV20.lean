/- Trellises: what shares come to. -/
import Derived.Test.YtlljaliemldjkaaZKV19
import Derived.Test.YtlljaliemldjkaaZS85
namespace Go.Proofs.Ytlljaliemldjkaa

/-- Where all begin. -/
def sh1 : Nat → Nat := fun j => if j = 0 then 1 else 0
theorem chW_over (z : Nat → Nat) (R : Nat) (y : Nat → Int) (a b k x : Nat) (s t : Nat → Nat) : chW z R y a b k x (shB s t) = shB (chW z R y a b k x s) (chW z R y a b k x t) := by
  funext j
  unfold chW shB
  show _ = (if x % 2 = 1 ∧ j = 1 + k then s 0 * cpw z R y a b k x else s j * cpw z R y a b k x) + (if x % 2 = 1 ∧ j = 1 + k then t 0 * cpw z R y a b k x else t j * cpw z R y a b k x)
  by_cases h : x % 2 = 1 ∧ j = 1 + k
  · rw [if_pos h, if_pos h, if_pos h, Nat.add_mul]
  · rw [if_neg h, if_neg h, if_neg h, Nat.add_mul]
/-- How much a message counts, behind k steps. -/
def cpp (z : Nat → Nat) (R : Nat) (y : Nat → Int) (a b : Nat) (m : Nat → Nat) (n : Nat) : Nat → Nat
  | 0 => 1
  | k + 1 => cpp z R y a b m n k * cpw z R y a b k (snm m n (k + 1))
/-- Its bits, as far as they are seen. -/
def shm (m : Nat → Nat) (n k j : Nat) : Nat := if j = 0 then 1 else if j - 1 < k ∧ j - 1 < n then m (j - 1) else 0
theorem cpw_low {z : Nat → Nat} {R : Nat} {y : Nat → Int} {a b k M : Nat} (hz : ∀ j, j < R → z j < 2 ^ (M + 1)) (x : Nat) : cpw z R y a b k (x % 2 ^ (M + 1)) = cpw z R y a b k x := by
  unfold cpw; rw [trn_low hz]
theorem sh_val {z : Nat → Nat} {R : Nat} {y : Nat → Int} {a b : Nat} {m : Nat → Nat} {n M : Nat} (hm : ∀ i, i < n → m i ≤ 1) (hz : ∀ j, j < R → z j < 2 ^ (M + 1)) : ∀ k, vlu' M (chW z R y a b) sh1 k (snm m n k) = fun j => cpp z R y a b m n k * shm m n k j
  | 0 => by
    funext j
    show sh1 j = 1 * shm m n 0 j
    unfold sh1 shm
    by_cases h : j = 0
    · rw [if_pos h, if_pos h]
    · rw [if_neg h, if_neg h, if_neg (fun c => absurd c.1 (by omega))]
  | k + 1 => by
    funext j
    show chW z R y a b k (snm m n (k + 1) % 2 ^ (M + 1)) (vlu' M (chW z R y a b) sh1 k (snm m n (k + 1) / 2)) j = _
    have hh := snm_half hm k
    rw [hh.1, sh_val hm hz k]
    have e : snm m n (k + 1) % 2 ^ (M + 1) % 2 = snm m n (k + 1) % 2 := Nat.mod_mod_of_dvd _ ⟨2 ^ M, by rw [Nat.pow_succ, Nat.mul_comm]⟩
    unfold chW
    rw [cpw_low hz, e, hh.2]
    show (if (if k < n then m k else 0) = 1 ∧ j = 1 + k then cpp z R y a b m n k * shm m n k 0 * cpw z R y a b k (snm m n (k + 1)) else cpp z R y a b m n k * shm m n k j * cpw z R y a b k (snm m n (k + 1))) = cpp z R y a b m n k * cpw z R y a b k (snm m n (k + 1)) * shm m n (k + 1) j
    have sw : ∀ p q r : Nat, p * r * q = p * q * r := fun p q r => Nat.mul_right_comm p r q
    by_cases hj : j = 1 + k
    · subst hj
      have e0 : shm m n k 0 = 1 := rfl
      have e1 : shm m n k (1 + k) = 0 := by unfold shm; rw [if_neg (by omega), if_neg (fun c => absurd c.1 (by omega))]
      have e2 : shm m n (k + 1) (1 + k) = if k < n then m k else 0 := by
        unfold shm
        rw [if_neg (by omega), show 1 + k - 1 = k by omega]
        by_cases h : k < n
        · rw [if_pos h, if_pos ⟨by omega, h⟩]
        · rw [if_neg h, if_neg (fun c => h c.2)]
      rw [e0, e1, e2]
      by_cases h : (if k < n then m k else 0) = 1
      · rw [if_pos ⟨h, rfl⟩, h, sw]
      · have h0 : (if k < n then m k else 0) = 0 := by
          by_cases hk : k < n
          · rw [if_pos hk] at h ⊢; have := hm k hk; omega
          · rw [if_neg hk]
        rw [if_neg (fun c => h c.1), h0, Nat.mul_zero, Nat.zero_mul, Nat.mul_zero]
    · have e1 : shm m n (k + 1) j = shm m n k j := by
        unfold shm
        by_cases h0 : j = 0
        · rw [if_pos h0, if_pos h0]
        · rw [if_neg h0, if_neg h0]
          by_cases h1 : j - 1 < k ∧ j - 1 < n
          · rw [if_pos h1, if_pos ⟨by omega, h1.2⟩]
          · rw [if_neg h1, if_neg (fun c => h1 ⟨by omega, c.2⟩)]
      rw [if_neg (fun c => hj c.2), e1, sw]
/-- Sums of numbers. -/
def smN (f : Nat → Nat) : Nat → Nat
  | 0 => 0
  | k + 1 => smN f k + f k
theorem gat_smN (f : Nat → Nat → Nat) : ∀ N, gat shB (fun u => some (f u)) (List.range (N + 1)) = some (fun j => smN (fun u => f u j) (N + 1))
  | 0 => by
    show gat shB (fun u => some (f u)) [0] = _
    rw [gat_cons sh_mts, gat_nil, opm_none]
    congr 1
    funext j
    show f 0 j = 0 + f 0 j
    omega
  | N + 1 => by
    rw [List.range_succ, gat_snoc, gat_smN f N]
    rfl
/-- How much the message with a number counts. -/
def cpt (z : Nat → Nat) (R : Nat) (y : Nat → Int) (a b n M u : Nat) : Nat := cpp z R y a b (dgs 2 n u) n (n + M)
theorem smN_congr {f g : Nat → Nat} : ∀ N, (∀ u, u < N → f u = g u) → smN f N = smN g N
  | 0, _ => rfl
  | N + 1, h => by show smN f N + f N = smN g N + g N; rw [smN_congr N (fun u hu => h u (by omega)), h N (by omega)]
/-- What all ways come to. -/
def shE (z : Nat → Nat) (R : Nat) (y : Nat → Int) (a b n M : Nat) : Nat → Nat := fun j => smN (fun u => cpt z R y a b n M u * shm (dgs 2 n u) n (n + M) j) (2 ^ n)
theorem sh_end {z : Nat → Nat} {R : Nat} {y : Nat → Int} {a b n M : Nat} (hz : ∀ j, j < R → z j < 2 ^ (M + 1)) : thF shB M n (chW z R y a b) sh1 (n + M) 0 = some (shE z R y a b n M) := by
  rw [thF_end sh_mts (chW_over z R y a b)]
  have hN : 0 < 2 ^ n := Nat.pow_pos (by omega)
  obtain ⟨N, hNe⟩ : ∃ N, 2 ^ n = N + 1 := ⟨2 ^ n - 1, by omega⟩
  have e : gat shB (fun u => some (vlu' M (chW z R y a b) sh1 (n + M) (u * 2 ^ M))) (List.range (2 ^ n)) = gat shB (fun u => some (fun j => cpt z R y a b n M u * shm (dgs 2 n u) n (n + M) j)) (List.range (2 ^ n)) := by
    refine gat_congr fun u hu => ?_
    have h := sh_val (y := y) (a := a) (b := b) (m := dgs 2 n u) (n := n) (fun i _ => dgs_le1 n u i) hz (n + M)
    rw [snm_end, dnum_dgs (by omega) (List.mem_range.1 hu)] at h
    rw [h]; rfl
  rw [e, hNe, gat_smN]
  unfold shE
  rw [hNe]
/-- What a share counts at a place; 0 where there is none. -/
def omu (i : Nat) : Option (Nat → Nat) → Nat
  | none => 0
  | some s => s i
theorem omu_opm (i : Nat) (a b : Option (Nat → Nat)) : omu i (opm shB a b) = omu i a + omu i b := by
  cases a <;> cases b <;> first | rfl | (show _ = 0 + _; rw [Nat.zero_add]; rfl)
theorem omu_gat {β : Type} (i C : Nat) (f : β → Option (Nat → Nat)) : ∀ L : List β, (∀ b ∈ L, omu i (f b) ≤ C) → omu i (gat shB f L) ≤ L.length * C
  | [], _ => by show 0 ≤ _; omega
  | b :: L, h => by
    rw [gat_cons sh_mts, omu_opm, List.length_cons, Nat.add_mul, Nat.one_mul]
    have h1 := h b (List.mem_cons_self ..)
    have h2 := omu_gat i C f L fun c hc => h c (List.mem_cons_of_mem _ hc)
    omega
theorem chW_le {z : Nat → Nat} {R : Nat} {y : Nat → Int} {a b k x C : Nat} {s : Nat → Nat} (hab : a ≤ b) (hb : b ≤ 4) (h : ∀ i, s i ≤ C) (i : Nat) : chW z R y a b k x s i ≤ C * 4 ^ R := by
  have hc := cpw_le (z := z) (R := R) (y := y) hab hb k x
  unfold chW
  split
  · exact Nat.mul_le_mul (h 0) hc
  · exact Nat.mul_le_mul (h i) hc
theorem vlu_le {z : Nat → Nat} {R : Nat} {y : Nat → Int} {a b M : Nat} (hab : a ≤ b) (hb : b ≤ 4) : ∀ k x i, vlu' M (chW z R y a b) sh1 k x i ≤ 4 ^ (R * k)
  | 0, x, i => by
    show sh1 i ≤ 1
    unfold sh1; split <;> omega
  | k + 1, x, i => by
    rw [Nat.mul_add, Nat.mul_one, Nat.pow_add]
    exact chW_le hab hb (fun j => vlu_le hab hb k _ j) i
theorem VL_len (n k : Nat) : (VL n k).length ≤ 2 ^ n := by
  by_cases h : k ≤ n
  · rw [VL_low n k h, List.length_range]; exact Nat.pow_le_pow_right (by omega) h
  · obtain ⟨d, rfl⟩ : ∃ d, k = n + d := ⟨k - n, by omega⟩
    rw [VL_high, List.length_map, List.length_range]
    exact Nat.le_refl _
/-- What stands by a state is at most so much. -/
theorem thF_le {z : Nat → Nat} {R : Nat} {y : Nat → Int} {a b M n : Nat} (hab : a ≤ b) (hb : b ≤ 4) (k s : Nat) (p : Nat → Nat) (h : thF shB M n (chW z R y a b) sh1 k s = some p) (i : Nat) : p i ≤ 2 ^ n * 4 ^ (R * k) := by
  rw [thF_is sh_mts (chW_over z R y a b)] at h
  have h1 := omu_gat i (4 ^ (R * k)) (fun x => if x % 2 ^ M = s then some (vlu' M (chW z R y a b) sh1 k x) else none) (VL n k) (fun x _ => by
    split
    · exact vlu_le hab hb k x i
    · exact Nat.zero_le _)
  rw [h] at h1
  exact Nat.le_trans h1 (Nat.mul_le_mul_right _ (VL_len n k))
/-- Nor is a part of the sums. -/
theorem pbF_le {z : Nat → Nat} {R : Nat} {y : Nat → Int} {a b M n : Nat} (hab : a ≤ b) (hb : b ≤ 4) (k : Nat) (V : List Nat) (s bb ts : Nat) (p : Nat → Nat) (hV : V.length ≤ 2 ^ M) (hbb : bb < chc n k) (h : pbF shB M (chc n k) (chW z R y a b k) (thF shB M n (chW z R y a b) sh1 k) V s (bb + 1) ts = some p) (i : Nat) : p i ≤ (2 * 2 ^ M + 2) * (2 ^ n * 4 ^ (R * (k + 1))) := by
  have hc2 := chc_le n k
  have hcn : ∀ s b', omu i (cnF M (chW z R y a b k) (thF shB M n (chW z R y a b) sh1 k) ts s b') ≤ 2 ^ n * 4 ^ (R * (k + 1)) := fun s b' => by
    unfold cnF
    split
    · cases e : thF shB M n (chW z R y a b) sh1 k s with
      | none => exact Nat.zero_le _
      | some q =>
        rw [Nat.mul_add, Nat.mul_one, Nat.pow_add, ← Nat.mul_assoc]
        exact chW_le hab hb (fun j => thF_le hab hb k s q e j) i
    · exact Nat.zero_le _
  generalize 2 ^ n * 4 ^ (R * (k + 1)) = C at *
  have h1 : omu i (pvF shB M (chc n k) (chW z R y a b k) (thF shB M n (chW z R y a b) sh1 k) V ts) ≤ V.length * (2 * C) := by
    refine omu_gat i (2 * C) _ V fun s _ => ?_
    refine Nat.le_trans (omu_gat i C _ (List.range (chc n k)) fun b' _ => hcn s b') ?_
    rw [List.length_range]
    exact Nat.mul_le_mul_right _ hc2
  have h2 : omu i (gat shB (cnF M (chW z R y a b k) (thF shB M n (chW z R y a b) sh1 k) ts s) (List.range (bb + 1))) ≤ 2 * C := by
    refine Nat.le_trans (omu_gat i C _ (List.range (bb + 1)) fun b' _ => hcn s b') ?_
    rw [List.length_range]
    exact Nat.mul_le_mul_right _ (by omega)
  have h3 := omu_opm i (pvF shB M (chc n k) (chW z R y a b k) (thF shB M n (chW z R y a b) sh1 k) V ts) (gat shB (cnF M (chW z R y a b k) (thF shB M n (chW z R y a b) sh1 k) ts s) (List.range (bb + 1)))
  unfold pbF at h
  rw [h] at h3
  have h4 : V.length * (2 * C) ≤ 2 ^ M * (2 * C) := Nat.mul_le_mul_right _ hV
  have h5 : (2 * 2 ^ M + 2) * C = 2 ^ M * (2 * C) + 2 * C := by
    rw [Nat.add_mul, Nat.mul_comm 2 (2 ^ M), Nat.mul_assoc]
  rw [h5]
  show omu i (some p) ≤ _
  omega
theorem sh_few : ∀ R, R < 4 → ∀ n, n < 12 → ∀ M, M < 5 → R * (n + M) ≤ 24 → (2 * 2 ^ M + 2) * (2 ^ n * 4 ^ (R * (n + M))) < 4611686018427387904 := by decide +kernel
end Go.Proofs.Ytlljaliemldjkaa
