/- Plain mathematics of codes of few checks: which checks may be; which places of a check are lost; sums modulo 2; which bits stand in the most odd checks. No Go text here. -/
import Derived.Test.YtjkncdmbcckcdaaZS31
import Derived.Test.YtjkncdmbcckcdaaZW7
namespace Go.Proofs.Ytjkncdmbcckcdaa
open Go.RowKit Go.Sort

/-- Those of the first numbers for which something holds. -/
def selZ (p : Int → Bool) (z : Nat → Int) : Nat → List Int
  | 0 => []
  | m + 1 => if p (z m) = true then selZ p z m ++ [z m] else selZ p z m
theorem selZ_len (p : Int → Bool) (z : Nat → Int) : ∀ m, (selZ p z m).length ≤ m
  | 0 => Nat.le_refl _
  | m + 1 => by
    have := selZ_len p z m
    show (if p (z m) = true then selZ p z m ++ [z m] else selZ p z m).length ≤ m + 1
    split
    · rw [List.length_append]; show _ + 1 ≤ _; omega
    · omega
theorem selZ_mem {p : Int → Bool} {z : Nat → Int} {x : Int} : ∀ m, x ∈ selZ p z m → p x = true ∧ ∃ j, j < m ∧ z j = x
  | 0, h => by cases h
  | m + 1, h => by
    have h : x ∈ (if p (z m) = true then selZ p z m ++ [z m] else selZ p z m) := h
    by_cases e : p (z m) = true
    · rw [if_pos e] at h
      rcases List.mem_append.1 h with h | h
      · obtain ⟨h1, j, hj, e2⟩ := selZ_mem m h
        exact ⟨h1, j, by omega, e2⟩
      · rw [List.mem_singleton.1 h]
        exact ⟨e, m, by omega, rfl⟩
    · rw [if_neg e] at h
      obtain ⟨h1, j, hj, e2⟩ := selZ_mem m h
      exact ⟨h1, j, by omega, e2⟩
/-- What is said of the first places of one check. -/
def crow (n : Int) (z : Nat → Int) : Nat → Int
  | 0 => 0
  | m + 1 => if crow n z m ≠ 0 then crow n z m else if z m < 0 ∨ n ≤ z m then 10 else if 0 < m ∧ z m ≤ z (m - 1) then 3 else 0
theorem crow_stays {n : Int} {z : Nat → Int} {m : Nat} (h : crow n z m ≠ 0) : ∀ d, crow n z (m + d) = crow n z m
  | 0 => rfl
  | d + 1 => by
    have ih := crow_stays h d
    show (if crow n z (m + d) ≠ 0 then crow n z (m + d) else _) = _
    rw [ih, if_pos h]
theorem crow_to {n : Int} {z : Nat → Int} {m k : Nat} (h : crow n z m ≠ 0) (hk : m ≤ k) : crow n z k = crow n z m := by
  have := crow_stays h (k - m)
  rwa [show m + (k - m) = k by omega] at this
/-- What is said of the first checks. -/
def crows (n : Int) (N : Nat → Nat) (Z : Nat → Nat → Int) : Nat → Int
  | 0 => 0
  | k + 1 => if crows n N Z k ≠ 0 then crows n N Z k else crow n (Z k) (N k)
theorem crows_stays {n : Int} {N : Nat → Nat} {Z : Nat → Nat → Int} {m : Nat} (h : crows n N Z m ≠ 0) : ∀ d, crows n N Z (m + d) = crows n N Z m
  | 0 => rfl
  | d + 1 => by
    have ih := crows_stays h d
    show (if crows n N Z (m + d) ≠ 0 then crows n N Z (m + d) else _) = _
    rw [ih, if_pos h]
theorem crows_to {n : Int} {N : Nat → Nat} {Z : Nat → Nat → Int} {m k : Nat} (h : crows n N Z m ≠ 0) (hk : m ≤ k) : crows n N Z k = crows n N Z m := by
  have := crows_stays h (k - m)
  rwa [show m + (k - m) = k by omega] at this
/-- What is said of checks. -/
def schk (n : Int) (m : Nat) (N : Nat → Nat) (Z : Nat → Nat → Int) : Int := if n < 1 ∨ 64 < n ∨ 64 < m then 4 else crows n N Z m
theorem crow_ok {n : Int} {z : Nat → Int} : ∀ m, crow n z m = 0 → ∀ j, j < m → 0 ≤ z j ∧ z j < n
  | 0, _, j, hj => absurd hj (by omega)
  | m + 1, h, j, hj => by
    have h : (if crow n z m ≠ 0 then crow n z m else if z m < 0 ∨ n ≤ z m then 10 else if 0 < m ∧ z m ≤ z (m - 1) then 3 else 0) = 0 := h
    by_cases h0 : crow n z m = 0
    · rw [if_neg (fun x => x h0)] at h
      by_cases h1 : z m < 0 ∨ n ≤ z m
      · rw [if_pos h1] at h; cases h
      · by_cases e : j = m
        · rw [e]; omega
        · exact crow_ok m h0 j (by omega)
    · rw [if_pos h0] at h; exact absurd h h0
theorem crows_ok {n : Int} {N : Nat → Nat} {Z : Nat → Nat → Int} : ∀ m, crows n N Z m = 0 → ∀ i, i < m → crow n (Z i) (N i) = 0
  | 0, _, i, hi => absurd hi (by omega)
  | m + 1, h, i, hi => by
    have h : (if crows n N Z m ≠ 0 then crows n N Z m else crow n (Z m) (N m)) = 0 := h
    by_cases h0 : crows n N Z m = 0
    · rw [if_neg (fun x => x h0)] at h
      by_cases e : i = m
      · rw [e]; exact h
      · exact crows_ok m h0 i (by omega)
    · rw [if_pos h0] at h; exact absurd h h0
theorem schk_ok {n : Int} {m : Nat} {N : Nat → Nat} {Z : Nat → Nat → Int} (h : schk n m N Z = 0) : 1 ≤ n ∧ n ≤ 64 ∧ m ≤ 64 ∧ ∀ i, i < m → ∀ j, j < N i → 0 ≤ Z i j ∧ Z i j < n := by
  unfold schk at h
  by_cases h1 : n < 1 ∨ 64 < n ∨ 64 < m
  · rw [if_pos h1] at h; cases h
  · rw [if_neg h1] at h
    exact ⟨by omega, by omega, by omega, fun i hi => crow_ok _ (crows_ok m h i hi)⟩
/-- Which places of a check are lost. -/
def losts (y z : Nat → Int) (m : Nat) : List Int := selZ (fun x => decide (y x.toNat = -1)) z m
/-- The sum of a check's bits, modulo 2. -/
def par (y z : Nat → Int) (m : Nat) : Nat := (selZ (fun x => decide (y x.toNat = 1)) z m).length % 2
theorem par_lt (y z : Nat → Int) (m : Nat) : par y z m < 2 := Nat.mod_lt _ (by omega)
theorem par_one {y z : Nat → Int} {m : Nat} (h : y (z m).toNat = 1) : par y z (m + 1) = (par y z m + 1) % 2 := by
  unfold par
  have e : selZ (fun x => decide (y x.toNat = 1)) z (m + 1) = selZ (fun x => decide (y x.toNat = 1)) z m ++ [z m] := if_pos (decide_eq_true h)
  rw [e, List.length_append]
  show (_ + 1) % 2 = _
  omega
theorem par_not {y z : Nat → Int} {m : Nat} (h : y (z m).toNat ≠ 1) : par y z (m + 1) = par y z m := by
  unfold par
  have e : selZ (fun x => decide (y x.toNat = 1)) z (m + 1) = selZ (fun x => decide (y x.toNat = 1)) z m := if_neg (show ¬ decide (y (z m).toNat = 1) = true from fun x => h (of_decide_eq_true x))
  rw [e]
/-- What a check fills in. -/
def pfil (N : Nat → Nat) (Z : Nat → Nat → Int) (y : Nat → Int) : Fil := fun i => match losts y (Z i) (N i) with
  | [x] => some (x.toNat, ((par y (Z i) (N i) : Nat) : Int))
  | _ => none
theorem pfil_lost {N : Nat → Nat} {Z : Nat → Nat → Int} {y : Nat → Int} (i : Nat) (x : Nat × Int) (h : pfil N Z y i = some x) : y x.1 = -1 ∧ x.2 ≠ -1 ∧ (x.2 = 0 ∨ x.2 = 1) ∧ ∃ j, j < N i ∧ (Z i j).toNat = x.1 := by
  unfold pfil at h
  have hp := par_lt y (Z i) (N i)
  cases hl : losts y (Z i) (N i) with
  | nil => rw [hl] at h; cases h
  | cons a l =>
    cases l with
    | cons b l => rw [hl] at h; cases h
    | nil =>
      rw [hl] at h
      have h : some (a.toNat, ((par y (Z i) (N i) : Nat) : Int)) = some x := h
      cases h
      have hm : a ∈ losts y (Z i) (N i) := by rw [hl]; exact List.mem_singleton.2 rfl
      obtain ⟨h1, j, hj, e⟩ := selZ_mem _ hm
      refine ⟨of_decide_eq_true h1, ?_, ?_, j, hj, by rw [e]⟩
      · show ((par y (Z i) (N i) : Nat) : Int) ≠ -1
        omega
      · show ((par y (Z i) (N i) : Nat) : Int) = 0 ∨ ((par y (Z i) (N i) : Nat) : Int) = 1
        omega
/-- A round of peeling. -/
def pround (m : Nat) (N : Nat → Nat) (Z : Nat → Nat → Int) (y : Nat → Int) : Nat → Int := flP (pfil N Z y) y m
def prounds (m : Nat) (N : Nat → Nat) (Z : Nat → Nat → Int) (y : Nat → Int) : Nat → Nat → Int
  | 0 => y
  | k + 1 => pround m N Z (prounds m N Z y k)
theorem pround_stay {m : Nat} {N : Nat → Nat} {Z : Nat → Nat → Int} {y : Nat → Int} {k : Nat} (h : pround m N Z (prounds m N Z y k) = prounds m N Z y k) : ∀ d, prounds m N Z y (k + d) = prounds m N Z y k
  | 0 => rfl
  | d + 1 => by
    show pround m N Z (prounds m N Z y (k + d)) = _
    rw [pround_stay h d, h]
/-- Wherever it stands still, it is the same. -/
theorem prounds_end {m : Nat} {N : Nat → Nat} {Z : Nat → Nat → Int} {y : Nat → Int} {k k' : Nat} (h : pround m N Z (prounds m N Z y k) = prounds m N Z y k) (h' : pround m N Z (prounds m N Z y k') = prounds m N Z y k') : prounds m N Z y k = prounds m N Z y k' := by
  rcases Nat.le_total k k' with e | e
  · have := pround_stay h (k' - k)
    rw [show k + (k' - k) = k' by omega] at this
    exact this.symm
  · have := pround_stay h' (k - k')
    rwa [show k' + (k - k') = k by omega] at this
/-- Bits stay bits, or lost. -/
def Bts (n : Nat) (y : Nat → Int) : Prop := ∀ p, p < n → y p = -1 ∨ y p = 0 ∨ y p = 1
theorem pround_bits {m n : Nat} {N : Nat → Nat} {Z : Nat → Nat → Int} {y : Nat → Int} (h : Bts n y) : Bts n (pround m N Z y) := fun p hp => by
  unfold pround
  rw [flP_is (M := m) (fun i x _ hx => ⟨(pfil_lost i x hx).1, (pfil_lost i x hx).2.1⟩) m (Nat.le_refl _)]
  cases hf : ffst (pfil N Z y) p m with
  | none => exact h p hp
  | some v =>
    obtain ⟨j, x, hj, hx, _, h2⟩ := ffst_is m hf
    have := (pfil_lost j x hx).2.2.1
    rw [h2] at this
    exact Or.inr this
theorem pround_out {m n : Nat} {N : Nat → Nat} {Z : Nat → Nat → Int} {y : Nat → Int} (hZ : ∀ i, i < m → ∀ j, j < N i → 0 ≤ Z i j ∧ Z i j < (n : Int)) (p : Nat) (hp : n ≤ p) : pround m N Z y p = y p := by
  unfold pround
  rw [flP_is (M := m) (fun i x _ hx => ⟨(pfil_lost i x hx).1, (pfil_lost i x hx).2.1⟩) m (Nat.le_refl _)]
  cases hf : ffst (pfil N Z y) p m with
  | none => rfl
  | some v =>
    obtain ⟨j, x, hj, hx, h1, _⟩ := ffst_is m hf
    obtain ⟨_, _, _, t, ht, e⟩ := pfil_lost j x hx
    have := hZ j hj t ht
    omega
/-- Where a round brings nothing below n, it brings nothing at all; else fewer are lost. -/
theorem pround_next {m n : Nat} {N : Nat → Nat} {Z : Nat → Nat → Int} {y : Nat → Int} (hZ : ∀ i, i < m → ∀ j, j < N i → 0 ≤ Z i j ∧ Z i j < (n : Int)) : (∀ p, p < n → pround m N Z y p = y p) ∧ pround m N Z y = y ∨ lct n (pround m N Z y) < lct n y := by
  by_cases h : ∃ p, p < n ∧ pround m N Z y p ≠ y p
  · exact Or.inr (fill_less (fun i x _ hx => ⟨(pfil_lost i x hx).1, (pfil_lost i x hx).2.1⟩) h)
  · have h1 : ∀ p, p < n → pround m N Z y p = y p := fun p hp => Classical.byContradiction fun e => h ⟨p, hp, e⟩
    refine Or.inl ⟨h1, ?_⟩
    funext p
    by_cases e : p < n
    · exact h1 p e
    · exact pround_out hZ p (by omega)
end Go.Proofs.Ytjkncdmbcckcdaa
