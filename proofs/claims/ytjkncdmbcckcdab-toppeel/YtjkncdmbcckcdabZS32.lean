/- Texts of ours, one behind the other: S32 S33. -/
import Derived.Test.YtjkncdmbcckcdabZS23
import Derived.Test.YtjkncdmbcckcdabZV7
/- Plain mathematics of codes of few checks: which checks may be; which places of a check are lost; sums modulo 2; which bits stand in the most odd checks. No Go text here. -/
namespace Go.Proofs.Ytjkncdmbcckcdab
open Go.RowKit Go.Sort

/-- Those of the first numbers for which something holds. -/
def selZ (p : Int → Bool) (z : Nat → Int) : Nat → List Int
  | 0 => []
  | m + 1 => if p (z m) = true then selZ p z m ++ [z m] else selZ p z m
theorem selZ_len (p : Int → Bool) (z : Nat → Int) : ∀ m, (selZ p z m).length ≤ m
  | 0 => Nat.le_refl _
  | m + 1 => by
    have := selZ_len p z m
    show (if p (z m) = true then selZ p z m ++ [z m] else selZ p z m).length ≤ m + 1
    split
    · rw [List.length_append]; show _ + 1 ≤ _; omega
    · omega
theorem selZ_mem {p : Int → Bool} {z : Nat → Int} {x : Int} : ∀ m, x ∈ selZ p z m → p x = true ∧ ∃ j, j < m ∧ z j = x
  | 0, h => by cases h
  | m + 1, h => by
    have h : x ∈ (if p (z m) = true then selZ p z m ++ [z m] else selZ p z m) := h
    by_cases e : p (z m) = true
    · rw [if_pos e] at h
      rcases List.mem_append.1 h with h | h
      · obtain ⟨h1, j, hj, e2⟩ := selZ_mem m h
        exact ⟨h1, j, by omega, e2⟩
      · rw [List.mem_singleton.1 h]
        exact ⟨e, m, by omega, rfl⟩
    · rw [if_neg e] at h
      obtain ⟨h1, j, hj, e2⟩ := selZ_mem m h
      exact ⟨h1, j, by omega, e2⟩
theorem selZ_same {p q : Int → Bool} {z : Nat → Int} : ∀ m, (∀ j, j < m → p (z j) = q (z j)) → selZ p z m = selZ q z m
  | 0, _ => rfl
  | m + 1, h => by
    show (if p (z m) = true then selZ p z m ++ [z m] else selZ p z m) = if q (z m) = true then selZ q z m ++ [z m] else selZ q z m
    rw [selZ_same m (fun j hj => h j (by omega)), h m (by omega)]
/-- What is said of the first places of one check. -/
def crow (n : Int) (z : Nat → Int) : Nat → Int
  | 0 => 0
  | m + 1 => if crow n z m ≠ 0 then crow n z m else if z m < 0 ∨ n ≤ z m then 10 else if 0 < m ∧ z m ≤ z (m - 1) then 3 else 0
theorem crow_stays {n : Int} {z : Nat → Int} {m : Nat} (h : crow n z m ≠ 0) : ∀ d, crow n z (m + d) = crow n z m
  | 0 => rfl
  | d + 1 => by
    have ih := crow_stays h d
    show (if crow n z (m + d) ≠ 0 then crow n z (m + d) else _) = _
    rw [ih, if_pos h]
theorem crow_to {n : Int} {z : Nat → Int} {m k : Nat} (h : crow n z m ≠ 0) (hk : m ≤ k) : crow n z k = crow n z m := by
  have := crow_stays h (k - m)
  rwa [show m + (k - m) = k by omega] at this
/-- What is said of the first checks. -/
def crows (n : Int) (N : Nat → Nat) (Z : Nat → Nat → Int) : Nat → Int
  | 0 => 0
  | k + 1 => if crows n N Z k ≠ 0 then crows n N Z k else crow n (Z k) (N k)
theorem crows_stays {n : Int} {N : Nat → Nat} {Z : Nat → Nat → Int} {m : Nat} (h : crows n N Z m ≠ 0) : ∀ d, crows n N Z (m + d) = crows n N Z m
  | 0 => rfl
  | d + 1 => by
    have ih := crows_stays h d
    show (if crows n N Z (m + d) ≠ 0 then crows n N Z (m + d) else _) = _
    rw [ih, if_pos h]
theorem crows_to {n : Int} {N : Nat → Nat} {Z : Nat → Nat → Int} {m k : Nat} (h : crows n N Z m ≠ 0) (hk : m ≤ k) : crows n N Z k = crows n N Z m := by
  have := crows_stays h (k - m)
  rwa [show m + (k - m) = k by omega] at this
/-- What is said of checks. -/
def schk (n : Int) (m : Nat) (N : Nat → Nat) (Z : Nat → Nat → Int) : Int := if n < 1 ∨ 64 < n ∨ 64 < m then 4 else crows n N Z m
theorem crow_ok {n : Int} {z : Nat → Int} : ∀ m, crow n z m = 0 → ∀ j, j < m → 0 ≤ z j ∧ z j < n
  | 0, _, j, hj => absurd hj (by omega)
  | m + 1, h, j, hj => by
    have h : (if crow n z m ≠ 0 then crow n z m else if z m < 0 ∨ n ≤ z m then 10 else if 0 < m ∧ z m ≤ z (m - 1) then 3 else 0) = 0 := h
    by_cases h0 : crow n z m = 0
    · rw [if_neg (fun x => x h0)] at h
      by_cases h1 : z m < 0 ∨ n ≤ z m
      · rw [if_pos h1] at h; cases h
      · by_cases e : j = m
        · rw [e]; omega
        · exact crow_ok m h0 j (by omega)
    · rw [if_pos h0] at h; exact absurd h h0
theorem crows_ok {n : Int} {N : Nat → Nat} {Z : Nat → Nat → Int} : ∀ m, crows n N Z m = 0 → ∀ i, i < m → crow n (Z i) (N i) = 0
  | 0, _, i, hi => absurd hi (by omega)
  | m + 1, h, i, hi => by
    have h : (if crows n N Z m ≠ 0 then crows n N Z m else crow n (Z m) (N m)) = 0 := h
    by_cases h0 : crows n N Z m = 0
    · rw [if_neg (fun x => x h0)] at h
      by_cases e : i = m
      · rw [e]; exact h
      · exact crows_ok m h0 i (by omega)
    · rw [if_pos h0] at h; exact absurd h h0
theorem schk_ok {n : Int} {m : Nat} {N : Nat → Nat} {Z : Nat → Nat → Int} (h : schk n m N Z = 0) : 1 ≤ n ∧ n ≤ 64 ∧ m ≤ 64 ∧ ∀ i, i < m → ∀ j, j < N i → 0 ≤ Z i j ∧ Z i j < n := by
  unfold schk at h
  by_cases h1 : n < 1 ∨ 64 < n ∨ 64 < m
  · rw [if_pos h1] at h; cases h
  · rw [if_neg h1] at h
    exact ⟨by omega, by omega, by omega, fun i hi => crow_ok _ (crows_ok m h i hi)⟩
/-- Which places of a check are lost. -/
def losts (y z : Nat → Int) (m : Nat) : List Int := selZ (fun x => decide (y x.toNat = -1)) z m
/-- The sum of a check's bits, modulo 2. -/
def par (y z : Nat → Int) (m : Nat) : Nat := (selZ (fun x => decide (y x.toNat = 1)) z m).length % 2
theorem par_lt (y z : Nat → Int) (m : Nat) : par y z m < 2 := Nat.mod_lt _ (by omega)
theorem par_one {y z : Nat → Int} {m : Nat} (h : y (z m).toNat = 1) : par y z (m + 1) = (par y z m + 1) % 2 := by
  unfold par
  have e : selZ (fun x => decide (y x.toNat = 1)) z (m + 1) = selZ (fun x => decide (y x.toNat = 1)) z m ++ [z m] := if_pos (decide_eq_true h)
  rw [e, List.length_append]
  show (_ + 1) % 2 = _
  omega
theorem par_not {y z : Nat → Int} {m : Nat} (h : y (z m).toNat ≠ 1) : par y z (m + 1) = par y z m := by
  unfold par
  have e : selZ (fun x => decide (y x.toNat = 1)) z (m + 1) = selZ (fun x => decide (y x.toNat = 1)) z m := if_neg (show ¬ decide (y (z m).toNat = 1) = true from fun x => h (of_decide_eq_true x))
  rw [e]
/-- What a check fills in. -/
def pfil (N : Nat → Nat) (Z : Nat → Nat → Int) (y : Nat → Int) : Fil := fun i => match losts y (Z i) (N i) with
  | [x] => some (x.toNat, ((par y (Z i) (N i) : Nat) : Int))
  | _ => none
theorem pfil_lost {N : Nat → Nat} {Z : Nat → Nat → Int} {y : Nat → Int} (i : Nat) (x : Nat × Int) (h : pfil N Z y i = some x) : y x.1 = -1 ∧ x.2 ≠ -1 ∧ (x.2 = 0 ∨ x.2 = 1) ∧ ∃ j, j < N i ∧ (Z i j).toNat = x.1 := by
  unfold pfil at h
  have hp := par_lt y (Z i) (N i)
  cases hl : losts y (Z i) (N i) with
  | nil => rw [hl] at h; cases h
  | cons a l =>
    cases l with
    | cons b l => rw [hl] at h; cases h
    | nil =>
      rw [hl] at h
      have h : some (a.toNat, ((par y (Z i) (N i) : Nat) : Int)) = some x := h
      cases h
      have hm : a ∈ losts y (Z i) (N i) := by rw [hl]; exact List.mem_singleton.2 rfl
      obtain ⟨h1, j, hj, e⟩ := selZ_mem _ hm
      refine ⟨of_decide_eq_true h1, ?_, ?_, j, hj, by rw [e]⟩
      · show ((par y (Z i) (N i) : Nat) : Int) ≠ -1
        omega
      · show ((par y (Z i) (N i) : Nat) : Int) = 0 ∨ ((par y (Z i) (N i) : Nat) : Int) = 1
        omega
/-- A round of peeling. -/
def pround (m : Nat) (N : Nat → Nat) (Z : Nat → Nat → Int) (y : Nat → Int) : Nat → Int := flP (pfil N Z y) y m
def prounds (m : Nat) (N : Nat → Nat) (Z : Nat → Nat → Int) (y : Nat → Int) : Nat → Nat → Int
  | 0 => y
  | k + 1 => pround m N Z (prounds m N Z y k)
theorem pround_out {m n : Nat} {N : Nat → Nat} {Z : Nat → Nat → Int} {y : Nat → Int} (hZ : ∀ i, i < m → ∀ j, j < N i → 0 ≤ Z i j ∧ Z i j < (n : Int)) (p : Nat) (hp : n ≤ p) : pround m N Z y p = y p := by
  unfold pround
  rw [flP_is (M := m) (fun i x _ hx => ⟨(pfil_lost i x hx).1, (pfil_lost i x hx).2.1⟩) m (Nat.le_refl _)]
  cases hf : ffst (pfil N Z y) p m with
  | none => rfl
  | some v =>
    obtain ⟨j, x, hj, hx, h1, _⟩ := ffst_is m hf
    obtain ⟨_, _, _, t, ht, e⟩ := pfil_lost j x hx
    have := hZ j hj t ht
    omega
/-- Where a round brings nothing below n, it brings nothing at all; else fewer are lost. -/
theorem pround_next {m n : Nat} {N : Nat → Nat} {Z : Nat → Nat → Int} {y : Nat → Int} (hZ : ∀ i, i < m → ∀ j, j < N i → 0 ≤ Z i j ∧ Z i j < (n : Int)) : (∀ p, p < n → pround m N Z y p = y p) ∧ pround m N Z y = y ∨ lct n (pround m N Z y) < lct n y := by
  by_cases h : ∃ p, p < n ∧ pround m N Z y p ≠ y p
  · exact Or.inr (fill_less (fun i x _ hx => ⟨(pfil_lost i x hx).1, (pfil_lost i x hx).2.1⟩) h)
  · have h1 : ∀ p, p < n → pround m N Z y p = y p := fun p hp => Classical.byContradiction fun e => h ⟨p, hp, e⟩
    refine Or.inl ⟨h1, ?_⟩
    funext p
    by_cases e : p < n
    · exact h1 p e
    · exact pround_out hZ p (by omega)
end Go.Proofs.Ytjkncdmbcckcdab

/- Plain mathematics of codes of few checks: which bits stand in the most odd checks; rounds of turning. No Go text here. -/
namespace Go.Proofs.Ytjkncdmbcckcdab
open Go.RowKit Go.Sort

/-- The greatest of the first numbers. -/
def mxv (f : Nat → Nat) : Nat → Nat
  | 0 => 0
  | n + 1 => max (mxv f n) (f n)
/-- How often a place stands among the first numbers of a check. -/
def ofc (z : Nat → Int) (m p : Nat) : Nat := ct (fun j => decide ((z j).toNat = p)) m
/-- .. of the first checks that are odd. -/
def oft (N : Nat → Nat) (Z : Nat → Nat → Int) (y : Nat → Int) (p : Nat) : Nat → Nat
  | 0 => 0
  | i + 1 => oft N Z y p i + if par y (Z i) (N i) = 1 then ofc (Z i) (N i) p else 0
/-- Which checks are odd. -/
def odds (N : Nat → Nat) (Z : Nat → Nat → Int) (y : Nat → Int) : Nat → List Nat
  | 0 => []
  | i + 1 => if par y (Z i) (N i) = 1 then odds N Z y i ++ [i] else odds N Z y i
theorem odds_lt {N : Nat → Nat} {Z : Nat → Nat → Int} {y : Nat → Int} : ∀ m i, i ∈ odds N Z y m → i < m ∧ par y (Z i) (N i) = 1
  | 0, i, h => by cases h
  | m + 1, i, h => by
    have h : i ∈ (if par y (Z m) (N m) = 1 then odds N Z y m ++ [m] else odds N Z y m) := h
    by_cases e : par y (Z m) (N m) = 1
    · rw [if_pos e] at h
      rcases List.mem_append.1 h with h | h
      · have := odds_lt m i h; exact ⟨by omega, this.2⟩
      · rw [List.mem_singleton.1 h]; exact ⟨by omega, e⟩
    · rw [if_neg e] at h
      have := odds_lt m i h; exact ⟨by omega, this.2⟩
theorem odds_len (N : Nat → Nat) (Z : Nat → Nat → Int) (y : Nat → Int) : ∀ m, (odds N Z y m).length ≤ m
  | 0 => Nat.le_refl _
  | m + 1 => by
    have := odds_len N Z y m
    show (if par y (Z m) (N m) = 1 then odds N Z y m ++ [m] else odds N Z y m).length ≤ m + 1
    split
    · rw [List.length_append]; show _ + 1 ≤ _; omega
    · omega
/-- How often a place stands in the first of some checks. -/
def ofl (N : Nat → Nat) (Z : Nat → Nat → Int) (p : Nat) : List Nat → Nat
  | [] => 0
  | i :: l => ofc (Z i) (N i) p + ofl N Z p l
theorem ofl_app (N : Nat → Nat) (Z : Nat → Nat → Int) (p : Nat) : ∀ l l', ofl N Z p (l ++ l') = ofl N Z p l + ofl N Z p l'
  | [], l' => (Nat.zero_add _).symm
  | i :: l, l' => by
    show ofc (Z i) (N i) p + ofl N Z p (l ++ l') = ofc (Z i) (N i) p + ofl N Z p l + ofl N Z p l'
    rw [ofl_app N Z p l l']; omega
theorem oft_ofl (N : Nat → Nat) (Z : Nat → Nat → Int) (y : Nat → Int) (p : Nat) : ∀ m, oft N Z y p m = ofl N Z p (odds N Z y m)
  | 0 => rfl
  | m + 1 => by
    have ih := oft_ofl N Z y p m
    show oft N Z y p m + (if par y (Z m) (N m) = 1 then ofc (Z m) (N m) p else 0) = ofl N Z p (if par y (Z m) (N m) = 1 then odds N Z y m ++ [m] else odds N Z y m)
    by_cases e : par y (Z m) (N m) = 1
    · rw [if_pos e, if_pos e, ofl_app, ih]; show _ = _ + (_ + 0); omega
    · rw [if_neg e, if_neg e, ih]; rfl
/-- A round of turning. -/
def tround (n m : Nat) (N : Nat → Nat) (Z : Nat → Nat → Int) (y : Nat → Int) : Nat → Int := fun p => if p < n ∧ oft N Z y p m = mxv (fun p => oft N Z y p m) n then 1 - y p else y p
def trounds (n m : Nat) (N : Nat → Nat) (Z : Nat → Nat → Int) (y : Nat → Int) : Nat → Nat → Int
  | 0 => y
  | r + 1 => tround n m N Z (trounds n m N Z y r)
theorem tround_bits {n m : Nat} {N : Nat → Nat} {Z : Nat → Nat → Int} {y : Nat → Int} (h : ∀ p, p < n → y p = 0 ∨ y p = 1) : ∀ p, p < n → tround n m N Z y p = 0 ∨ tround n m N Z y p = 1 := fun p hp => by
  unfold tround
  have := h p hp
  split <;> omega
theorem trounds_bits {n m : Nat} {N : Nat → Nat} {Z : Nat → Nat → Int} {y : Nat → Int} (h : ∀ p, p < n → y p = 0 ∨ y p = 1) : ∀ r p, p < n → trounds n m N Z y r p = 0 ∨ trounds n m N Z y r p = 1
  | 0 => h
  | r + 1 => tround_bits (trounds_bits h r)
/-- Where it ends: after r rounds. -/
def Tend (n m : Nat) (N : Nat → Nat) (Z : Nat → Nat → Int) (y : Nat → Int) (most r : Nat) : Prop := r ≤ most ∧ (∀ j, j < r → odds N Z (trounds n m N Z y j) m ≠ []) ∧ (odds N Z (trounds n m N Z y r) m = [] ∨ r = most)
theorem tend_one {n m : Nat} {N : Nat → Nat} {Z : Nat → Nat → Int} {y : Nat → Int} {most r r' : Nat} (h : Tend n m N Z y most r) (h' : Tend n m N Z y most r') : r = r' := by
  obtain ⟨a1, a2, a3⟩ := h
  obtain ⟨b1, b2, b3⟩ := h'
  rcases Nat.lt_trichotomy r r' with e | e | e
  · rcases a3 with a3 | a3
    · exact absurd a3 (b2 r e)
    · omega
  · exact e
  · rcases b3 with b3 | b3
    · exact absurd b3 (a2 r' e)
    · omega
end Go.Proofs.Ytjkncdmbcckcdab
