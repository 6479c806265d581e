/- PolySays: where both may be. -/
import Derived.Test.YtpccbiinfdppnabZL1
namespace Go.Proofs.Ytpccbiinfdppnab
open Go.RowKit Go.Sort

/-- How long a product is. -/
theorem pmul_len {D : FD} (hD : D ∈ fieldsL) {a b : Nat → Nat} {n m : Nat} (ha : El D a) (hb : El D b) (hn : Bd n a) (hm : Bd m b) :
    dgn (pmul D n a b) (n + m) = if dgn a n = 0 ∨ dgn b m = 0 then 0 else dgn a n + dgn b m - 1 := by
  have F := fld hD
  have na := dgn_le a n
  have nb := dgn_le b m
  by_cases h1 : dgn a n = 0
  · rw [if_pos (Or.inl h1)]
    have h0 : Bd 0 a := by have := dgn_bd hn; rwa [h1] at this
    rw [pmul_zeros F b h0 n, dgn_from (c := pnil) (n := 0) (fun _ _ => rfl) (Nat.zero_le _)]; rfl
  · by_cases h2 : dgn b m = 0
    · rw [if_pos (Or.inr h2)]
      have h0 : Bd 0 b := by have := dgn_bd hm; rwa [h2] at this
      rw [pmul_comm F ha hb hn hm, pmul_zeros F a h0 m, dgn_from (c := pnil) (n := 0) (fun _ _ => rfl) (Nat.zero_le _)]; rfl
    · rw [if_neg (by omega)]
      obtain ⟨s, hs⟩ : ∃ s, dgn a n = s + 1 := ⟨dgn a n - 1, by omega⟩
      obtain ⟨t, ht⟩ : ∃ t, dgn b m = t + 1 := ⟨dgn b m - 1, by omega⟩
      have hsb : Bd (s + 1) a := by have := dgn_bd hn; rwa [hs] at this
      have htb : Bd (t + 1) b := by have := dgn_bd hm; rwa [ht] at this
      have hst : a s ≠ 0 := by have := dgn_top a n h1; rwa [hs, Nat.add_sub_cancel] at this
      have htt : b t ≠ 0 := by have := dgn_top b m h2; rwa [ht, Nat.add_sub_cancel] at this
      rw [pmul_to F b hsb (by omega), hs, ht]
      refine Trd.dgn (n := s + 1 + (t + 1) - 1) ⟨pmul_bd F htb (s + 1), fun _ => ?_⟩ (by omega)
      rw [show s + 1 + (t + 1) - 1 - 1 = s + t from by omega, pmul_top F htb]
      exact mul_ne hD (ha s) (hb t) hst htt
theorem pmul_dgn {D : FD} (hD : D ∈ fieldsL) {a b : Nat → Nat} {n m : Nat} (hn : Bd n a) (hm : Bd m b) : dgn (pmul D n a b) (dgn a n + dgn b m) = dgn (pmul D n a b) (n + m) := by
  have F := fld hD
  have na := dgn_le a n
  have nb := dgn_le b m
  refine (dgn_from ?_ (by omega)).symm
  rw [pmul_to F b (dgn_bd hn) na]
  exact (pmul_bd F (dgn_bd hm) (dgn a n)).mono (by omega)

theorem gcd_len (D : FD) (N : Nat) : ∀ (k : Nat) (a : Nat → Nat) (n : Nat) (b : Nat → Nat) (m : Nat), n ≤ N → m ≤ N → (D.gcd k a n b m).2 ≤ N
  | 0, a, n, b, m, h, _ => h
  | k + 1, a, n, b, m, h, hm => by
    rw [FD.gcd]
    split
    · exact h
    · exact gcd_len D N k _ _ _ _ hm (Nat.le_trans (dgn_le _ _) h)
theorem gcdL_len {D : FD} (_hD : D ∈ fieldsL) (n : Nat) (z : Nat → Int) (m : Nat) (y : Nat → Int) (hn : n ≤ 128) (hm : m ≤ 128) : (D.gcdL n z m y).2 ≤ 1000000 := by
  have h1 := dgn_le (zc n z) n
  have h2 := dgn_le (zc m y) m
  exact Nat.le_trans (gcd_len D 128 m _ _ _ _ (by omega) (by omega)) (by omega)

end Go.Proofs.Ytpccbiinfdppnab
