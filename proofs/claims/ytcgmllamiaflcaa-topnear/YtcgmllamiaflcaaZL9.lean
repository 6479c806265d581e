/- PolySays: where both may be. -/
import Derived.Test.YtcgmllamiaflcaaZL1
namespace Go.Proofs.Ytcgmllamiaflcaa
open Go.RowKit Go.Sort

/-- How long a product is. -/
theorem pmul_len {D : FD} (hD : D ∈ fieldsL) {a b : Nat → Nat} {n m : Nat} (ha : El D a) (hb : El D b) (hn : Bd n a) (hm : Bd m b) :
    dgn (pmul D n a b) (n + m) = if dgn a n = 0 ∨ dgn b m = 0 then 0 else dgn a n + dgn b m - 1 := by
  have F := fld hD
  have na := dgn_le a n
  have nb := dgn_le b m
  by_cases h1 : dgn a n = 0
  · rw [if_pos (Or.inl h1)]
    have h0 : Bd 0 a := by have := dgn_bd hn; rwa [h1] at this
    rw [pmul_zeros F b h0 n, dgn_from (c := pnil) (n := 0) (fun _ _ => rfl) (Nat.zero_le _)]; rfl
  · by_cases h2 : dgn b m = 0
    · rw [if_pos (Or.inr h2)]
      have h0 : Bd 0 b := by have := dgn_bd hm; rwa [h2] at this
      rw [pmul_comm F ha hb hn hm, pmul_zeros F a h0 m, dgn_from (c := pnil) (n := 0) (fun _ _ => rfl) (Nat.zero_le _)]; rfl
    · rw [if_neg (by omega)]
      obtain ⟨s, hs⟩ : ∃ s, dgn a n = s + 1 := ⟨dgn a n - 1, by omega⟩
      obtain ⟨t, ht⟩ : ∃ t, dgn b m = t + 1 := ⟨dgn b m - 1, by omega⟩
      have hsb : Bd (s + 1) a := by have := dgn_bd hn; rwa [hs] at this
      have htb : Bd (t + 1) b := by have := dgn_bd hm; rwa [ht] at this
      have hst : a s ≠ 0 := by have := dgn_top a n h1; rwa [hs, Nat.add_sub_cancel] at this
      have htt : b t ≠ 0 := by have := dgn_top b m h2; rwa [ht, Nat.add_sub_cancel] at this
      rw [pmul_to F b hsb (by omega), hs, ht]
      refine Trd.dgn (n := s + 1 + (t + 1) - 1) ⟨pmul_bd F htb (s + 1), fun _ => ?_⟩ (by omega)
      rw [show s + 1 + (t + 1) - 1 - 1 = s + t from by omega, pmul_top F htb]
      exact mul_ne hD (ha s) (hb t) hst htt
end Go.Proofs.Ytcgmllamiaflcaa
