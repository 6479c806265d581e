/- The reference: digits of a number, and the number of digits. -/
import Derived.Test.YtaihjfpenbjdiaiA1
import Derived.Test.YtaihjfpenbjdiaiW2
import Derived.Test.YtaihjfpenbjdiaiA2
namespace Go.Proofs.Ytaihjfpenbjdiai
open Go.RowKit

/-- Digit j of a to the base p. -/
def dg (p a j : Nat) : Nat := a / p ^ j % p
def digL (p a m : Nat) : List Int := (List.range m).map fun j => ((dg p a j : Nat) : Int)
theorem digL_succ (p a m : Nat) : digL p a (m + 1) = digL p a m ++ [((dg p a m : Nat) : Int)] := by
  unfold digL; rw [List.range_succ, List.map_append]; rfl
theorem digL_len (p a m : Nat) : (digL p a m).length = m := by simp [digL]
theorem digL_get (p a m j : Nat) (h : j < m) : (digL p a m).getD j 0 = ((dg p a j : Nat) : Int) := by
  rw [List.getD_eq_getElem?_getD, List.getElem?_eq_getElem (by rw [digL_len]; exact h)]
  simp [digL]

/-- The number of n digits, from the highest one down, k of them. -/
def horner (p : Nat) (f : Nat → Nat) (n : Nat) : Nat → Nat
  | 0 => 0
  | k + 1 => horner p f n k * p + f (n - 1 - k)
theorem horner_lt (p : Nat) (f : Nat → Nat) (n : Nat) (hp : p ≤ 64) (hf : ∀ j, f j < 64) : ∀ k, horner p f n k < 64 ^ k
  | 0 => by simp [horner]
  | k + 1 => by
    have h1 := horner_lt p f n hp hf k
    have h2 := hf (n - 1 - k)
    rw [horner, Nat.pow_succ]
    have h3 : horner p f n k * p ≤ horner p f n k * 64 := Nat.mul_le_mul_left _ hp
    have : (horner p f n k + 1) * 64 ≤ 64 ^ k * 64 := Nat.mul_le_mul_right 64 h1
    rw [Nat.add_mul, Nat.one_mul] at this
    omega

end Go.Proofs.Ytaihjfpenbjdiai
