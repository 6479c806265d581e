/- What was heard of a word: numbers and places, as functions. -/
import Derived.Test.YtcgmllamiaflcaaZKD6
namespace Go.Proofs.Ytcgmllamiaflcaa
open Go.RowKit Go.Sort

/-- The places where nothing is lost. -/
def hix (y : Nat → Int) : Nat → List Nat
  | 0 => []
  | r + 1 => if y r = -1 then hix y r else hix y r ++ [r]
theorem hrL_map (z y : Nat → Int) : ∀ r, hrL z y r = (hix y r).map z
  | 0 => rfl
  | r + 1 => by
    show (if y r = -1 then hrL z y r else hrL z y r ++ [z r]) = (if y r = -1 then hix y r else hix y r ++ [r]).map z
    by_cases h : y r = -1
    · rw [if_pos h, if_pos h]; exact hrL_map z y r
    · rw [if_neg h, if_neg h, List.map_append, hrL_map z y r]; rfl
theorem hix_mem {y : Nat → Int} : ∀ r i, i ∈ hix y r → i < r ∧ y i ≠ -1
  | 0, i, h => by simp [hix] at h
  | r + 1, i, h => by
    have h : i ∈ (if y r = -1 then hix y r else hix y r ++ [r]) := h
    by_cases e : y r = -1
    · rw [if_pos e] at h
      have := hix_mem r i h
      exact ⟨by omega, this.2⟩
    · rw [if_neg e] at h
      rcases List.mem_append.1 h with h | h
      · have := hix_mem r i h
        exact ⟨by omega, this.2⟩
      · rw [List.mem_singleton.1 h]
        exact ⟨by omega, e⟩
theorem hix_pw (y : Nat → Int) : ∀ r, (hix y r).Pairwise (· < ·)
  | 0 => List.Pairwise.nil
  | r + 1 => by
    show (if y r = -1 then hix y r else hix y r ++ [r]).Pairwise (· < ·)
    by_cases e : y r = -1
    · rw [if_pos e]; exact hix_pw y r
    · rw [if_neg e, List.pairwise_append]
      refine ⟨hix_pw y r, by simp, fun a ha b hb => ?_⟩
      rw [List.mem_singleton.1 hb]
      exact (hix_mem r a ha).1
theorem hix_len (y : Nat → Int) : ∀ r, (hix y r).length ≤ r
  | 0 => Nat.le_refl _
  | r + 1 => by
    have := hix_len y r
    show (if y r = -1 then hix y r else hix y r ++ [r]).length ≤ r + 1
    split
    · omega
    · rw [List.length_append]; show _ + 1 ≤ _; omega
theorem map_zl {l : List Nat} {z : Nat → Int} : l.map z = zl l.length fun j => z (l.getD j 0) := by
  refine List.ext_getElem? fun j => ?_
  by_cases h : j < l.length
  · rw [zl_get _ _ _ h, List.getElem?_map, List.getElem?_eq_getElem h, List.getD_eq_getElem?_getD, List.getElem?_eq_getElem h]; rfl
  · rw [List.getElem?_map, List.getElem?_eq_none (by omega), List.getElem?_eq_none (by rw [zl_len]; omega)]; rfl
/-- At how many of the heard places. -/
theorem hix_ct (y : Nat → Int) (p : Nat → Bool) : ∀ r, ct (fun j => p ((hix y r).getD j 0)) (hix y r).length = ct (fun i => !decide (y i = -1) && p i) r
  | 0 => rfl
  | r + 1 => by
    have ih := hix_ct y p r
    have e0 : hix y (r + 1) = if y r = -1 then hix y r else hix y r ++ [r] := rfl
    show _ = ct (fun i => !decide (y i = -1) && p i) r + if (!decide (y r = -1) && p r) = true then 1 else 0
    rw [e0, ← ih]
    by_cases e : y r = -1
    · rw [if_pos e, if_neg (by simp [e])]; rfl
    · rw [if_neg e, List.length_append]
      show ct _ (hix y r).length + (if p ((hix y r ++ [r]).getD (hix y r).length 0) = true then 1 else 0) = _
      have e1 : (hix y r ++ [r]).getD (hix y r).length 0 = r := by
        rw [List.getD_eq_getElem?_getD, List.getElem?_append_right (Nat.le_refl _), Nat.sub_self]; rfl
      have e2 : ct (fun j => p ((hix y r ++ [r]).getD j 0)) (hix y r).length = ct (fun j => p ((hix y r).getD j 0)) (hix y r).length := ct_same _ fun j hj => by
        rw [List.getD_eq_getElem?_getD, List.getElem?_append_left hj, ← List.getD_eq_getElem?_getD]
      rw [e1, e2]
      congr 1
      simp [e]
/-- What hear tells, as functions. -/
structure Heard (D : FD) (n : Nat) (c : Nat → Nat) (y : Nat → Int) (m : Nat) (c' y' : Nat → Nat) : Prop where
  lx : hrL (fun i => ((c i : Nat) : Int)) y n = zl m fun j => ((c' j : Nat) : Int)
  ly : hrL y y n = zl m fun j => ((y' j : Nat) : Int)
  le : m ≤ n
  cq : ∀ j, j < m → c' j < D.q
  ne : ∀ i j, i < m → j < m → i ≠ j → c' i ≠ c' j
  yq : ∀ j, j < m → y' j < D.q
  many : m = ct (fun i => !decide (y i = -1)) n
  ofs : ∀ k a, ofs D k m c' y' a = ct (fun i => !decide (y i = -1) && !decide (((D.ev a (c i) k : Nat) : Int) = y i)) n
theorem heard_ex {D : FD} {n : Nat} {c : Nat → Nat} {y : Nat → Int} (hc : ∀ i, i < n → c i < D.q) (hne : ∀ i j, i < n → j < n → i ≠ j → c i ≠ c j) (hy : ∀ i, i < n → y i = -1 ∨ D.has (y i) = true) : ∃ m c' y', Heard D n c y m c' y' := by
  obtain ⟨l, hl⟩ : ∃ l, l = hix y n := ⟨_, rfl⟩
  have hmem : ∀ j, j < l.length → l.getD j 0 < n ∧ y (l.getD j 0) ≠ -1 := fun j hj => by
    have h : l.getD j 0 ∈ hix y n := by rw [← hl, List.getD_eq_getElem?_getD, List.getElem?_eq_getElem hj]; exact List.getElem_mem hj
    exact hix_mem n _ h
  have hnat : ∀ j, j < l.length → ∃ x : Nat, y (l.getD j 0) = (x : Int) ∧ x < D.q := fun j hj => by
    rcases hy _ (hmem j hj).1 with h | h
    · exact absurd h (hmem j hj).2
    · exact has_nat h
  refine ⟨l.length, fun j => c (l.getD j 0), fun j => (y (l.getD j 0)).toNat, ⟨?_, ?_, by rw [hl]; exact hix_len y n, fun j hj => hc _ (hmem j hj).1, fun i j hi hj hij => ?_, fun j hj => ?_, ?_, fun k a => ?_⟩⟩
  · rw [hrL_map, ← hl]; exact map_zl
  · rw [hrL_map, ← hl, map_zl]
    refine zl_congr fun j hj => ?_
    obtain ⟨x, hx, _⟩ := hnat j hj
    show y (l.getD j 0) = ((y (l.getD j 0)).toNat : Int)
    rw [hx]; simp
  · have hpw : l.Pairwise (· < ·) := by rw [hl]; exact hix_pw y n
    have g : ∀ a (ha : a < l.length), l.getD a 0 = l[a] := fun a ha => by rw [List.getD_eq_getElem?_getD, List.getElem?_eq_getElem ha]; rfl
    refine hne _ _ (hmem i hi).1 (hmem j hj).1 (fun e => ?_)
    rw [g i hi, g j hj] at e
    have h1 := List.pairwise_iff_getElem.1 hpw
    rcases Nat.lt_or_ge i j with h | h
    · have := h1 i j hi hj h; omega
    · have := h1 j i hj hi (by omega); omega
  · obtain ⟨x, hx, hq⟩ := hnat j hj
    show (y (l.getD j 0)).toNat < D.q
    rw [hx]; simpa using hq
  · have h := hix_ct y (fun _ => true) n
    rw [ct_true, ← hl] at h
    rw [h]
    exact ct_same n fun i _ => by simp
  · have h := hix_ct y (fun i => !decide (((D.ev a (c i) k : Nat) : Int) = y i)) n
    rw [← h, ← hl]
    unfold Go.Proofs.Ytcgmllamiaflcaa.ofs
    refine ct_same _ fun j hj => ?_
    obtain ⟨x, hx, _⟩ := hnat j hj
    show (!decide (D.ev a (c (l.getD j 0)) k = (y (l.getD j 0)).toNat)) = !decide (((D.ev a (c (l.getD j 0)) k : Nat) : Int) = y (l.getD j 0))
    rw [hx]
    congr 1
    refine decide_eq_decide.2 (Iff.intro (fun e => ?_) (fun e => ?_))
    · rw [e]; simp
    · have e2 : D.ev a (c (l.getD j 0)) k = x := by omega
      rw [e2]; simp
end Go.Proofs.Ytcgmllamiaflcaa
