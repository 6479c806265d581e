/- Plain mathematics of codes of few checks: which bits stand in the most odd checks; rounds of turning. No Go text here. -/
import Derived.Test.YtjkncdmbcckcdaaZS32
namespace Go.Proofs.Ytjkncdmbcckcdaa
open Go.RowKit Go.Sort

/-- The greatest of the first numbers. -/
def mxv (f : Nat → Nat) : Nat → Nat
  | 0 => 0
  | n + 1 => max (mxv f n) (f n)
theorem mxv_le (f : Nat → Nat) : ∀ n p, p < n → f p ≤ mxv f n
  | 0, p, h => absurd h (by omega)
  | n + 1, p, h => by
    show f p ≤ max (mxv f n) (f n)
    by_cases e : p = n
    · rw [e]; omega
    · have := mxv_le f n p (by omega); omega
theorem mxv_at (f : Nat → Nat) : ∀ n, 0 < n → ∃ p, p < n ∧ f p = mxv f n
  | 0, h => absurd h (by omega)
  | n + 1, _ => by
    show ∃ p, p < n + 1 ∧ f p = max (mxv f n) (f n)
    by_cases h0 : n = 0
    · subst h0
      exact ⟨0, by omega, by show f 0 = max 0 (f 0); omega⟩
    · obtain ⟨p, hp, e⟩ := mxv_at f n (by omega)
      by_cases h : mxv f n ≤ f n
      · exact ⟨n, by omega, by omega⟩
      · exact ⟨p, by omega, by omega⟩
theorem mxv_is {f : Nat → Nat} {n t : Nat} (hn : 0 < n) (h1 : ∀ p, p < n → f p ≤ t) (h2 : t = 0 ∨ ∃ p, p < n ∧ f p = t) : t = mxv f n := by
  obtain ⟨p, hp, e⟩ := mxv_at f n hn
  have a := h1 p hp
  rcases h2 with h2 | ⟨p', hp', e'⟩
  · omega
  · have := mxv_le f n p' hp'; omega
/-- How often a place stands among the first numbers of a check. -/
def ofc (z : Nat → Int) (m p : Nat) : Nat := ct (fun j => decide ((z j).toNat = p)) m
/-- .. of the first checks that are odd. -/
def oft (N : Nat → Nat) (Z : Nat → Nat → Int) (y : Nat → Int) (p : Nat) : Nat → Nat
  | 0 => 0
  | i + 1 => oft N Z y p i + if par y (Z i) (N i) = 1 then ofc (Z i) (N i) p else 0
/-- Which checks are odd. -/
def odds (N : Nat → Nat) (Z : Nat → Nat → Int) (y : Nat → Int) : Nat → List Nat
  | 0 => []
  | i + 1 => if par y (Z i) (N i) = 1 then odds N Z y i ++ [i] else odds N Z y i
theorem odds_lt {N : Nat → Nat} {Z : Nat → Nat → Int} {y : Nat → Int} : ∀ m i, i ∈ odds N Z y m → i < m ∧ par y (Z i) (N i) = 1
  | 0, i, h => by cases h
  | m + 1, i, h => by
    have h : i ∈ (if par y (Z m) (N m) = 1 then odds N Z y m ++ [m] else odds N Z y m) := h
    by_cases e : par y (Z m) (N m) = 1
    · rw [if_pos e] at h
      rcases List.mem_append.1 h with h | h
      · have := odds_lt m i h; exact ⟨by omega, this.2⟩
      · rw [List.mem_singleton.1 h]; exact ⟨by omega, e⟩
    · rw [if_neg e] at h
      have := odds_lt m i h; exact ⟨by omega, this.2⟩
theorem odds_len (N : Nat → Nat) (Z : Nat → Nat → Int) (y : Nat → Int) : ∀ m, (odds N Z y m).length ≤ m
  | 0 => Nat.le_refl _
  | m + 1 => by
    have := odds_len N Z y m
    show (if par y (Z m) (N m) = 1 then odds N Z y m ++ [m] else odds N Z y m).length ≤ m + 1
    split
    · rw [List.length_append]; show _ + 1 ≤ _; omega
    · omega
/-- How often a place stands in the first of some checks. -/
def ofl (N : Nat → Nat) (Z : Nat → Nat → Int) (p : Nat) : List Nat → Nat
  | [] => 0
  | i :: l => ofc (Z i) (N i) p + ofl N Z p l
theorem ofl_app (N : Nat → Nat) (Z : Nat → Nat → Int) (p : Nat) : ∀ l l', ofl N Z p (l ++ l') = ofl N Z p l + ofl N Z p l'
  | [], l' => (Nat.zero_add _).symm
  | i :: l, l' => by
    show ofc (Z i) (N i) p + ofl N Z p (l ++ l') = ofc (Z i) (N i) p + ofl N Z p l + ofl N Z p l'
    rw [ofl_app N Z p l l']; omega
theorem oft_ofl (N : Nat → Nat) (Z : Nat → Nat → Int) (y : Nat → Int) (p : Nat) : ∀ m, oft N Z y p m = ofl N Z p (odds N Z y m)
  | 0 => rfl
  | m + 1 => by
    have ih := oft_ofl N Z y p m
    show oft N Z y p m + (if par y (Z m) (N m) = 1 then ofc (Z m) (N m) p else 0) = ofl N Z p (if par y (Z m) (N m) = 1 then odds N Z y m ++ [m] else odds N Z y m)
    by_cases e : par y (Z m) (N m) = 1
    · rw [if_pos e, if_pos e, ofl_app, ih]; show _ = _ + (_ + 0); omega
    · rw [if_neg e, if_neg e, ih]; rfl
/-- A round of turning. -/
def tround (n m : Nat) (N : Nat → Nat) (Z : Nat → Nat → Int) (y : Nat → Int) : Nat → Int := fun p => if p < n ∧ oft N Z y p m = mxv (fun p => oft N Z y p m) n then 1 - y p else y p
def trounds (n m : Nat) (N : Nat → Nat) (Z : Nat → Nat → Int) (y : Nat → Int) : Nat → Nat → Int
  | 0 => y
  | r + 1 => tround n m N Z (trounds n m N Z y r)
theorem tround_bits {n m : Nat} {N : Nat → Nat} {Z : Nat → Nat → Int} {y : Nat → Int} (h : ∀ p, p < n → y p = 0 ∨ y p = 1) : ∀ p, p < n → tround n m N Z y p = 0 ∨ tround n m N Z y p = 1 := fun p hp => by
  unfold tround
  have := h p hp
  split <;> omega
theorem trounds_bits {n m : Nat} {N : Nat → Nat} {Z : Nat → Nat → Int} {y : Nat → Int} (h : ∀ p, p < n → y p = 0 ∨ y p = 1) : ∀ r p, p < n → trounds n m N Z y r p = 0 ∨ trounds n m N Z y r p = 1
  | 0 => h
  | r + 1 => tround_bits (trounds_bits h r)
/-- Where it ends: after r rounds. -/
def Tend (n m : Nat) (N : Nat → Nat) (Z : Nat → Nat → Int) (y : Nat → Int) (most r : Nat) : Prop := r ≤ most ∧ (∀ j, j < r → odds N Z (trounds n m N Z y j) m ≠ []) ∧ (odds N Z (trounds n m N Z y r) m = [] ∨ r = most)
theorem tend_one {n m : Nat} {N : Nat → Nat} {Z : Nat → Nat → Int} {y : Nat → Int} {most r r' : Nat} (h : Tend n m N Z y most r) (h' : Tend n m N Z y most r') : r = r' := by
  obtain ⟨a1, a2, a3⟩ := h
  obtain ⟨b1, b2, b3⟩ := h'
  rcases Nat.lt_trichotomy r r' with e | e | e
  · rcases a3 with a3 | a3
    · exact absurd a3 (b2 r e)
    · omega
  · exact e
  · rcases b3 with b3 | b3
    · exact absurd b3 (a2 r' e)
    · omega
end Go.Proofs.Ytjkncdmbcckcdaa
