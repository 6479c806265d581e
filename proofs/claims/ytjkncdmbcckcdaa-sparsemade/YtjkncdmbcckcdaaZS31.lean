/- Plain mathematics of codes of few checks: what a round of peeling fills in, check by check from the first on or from the last on; rounds come to an end. No Go text here. -/
import Derived.Test.YtjkncdmbcckcdaaZKA3
namespace Go.Proofs.Ytjkncdmbcckcdaa
open Go.RowKit Go.Sort

/-- What one check fills in: a place and its bit, or nothing. -/
abbrev Fil := Nat → Option (Nat × Int)
/-- From the first check on: a place that is lost still is filled in. -/
def flP (pr : Fil) (y : Nat → Int) : Nat → Nat → Int
  | 0 => y
  | i + 1 => match pr i with
    | some x => if flP pr y i x.1 = -1 then fun p => if p = x.1 then x.2 else flP pr y i p else flP pr y i
    | none => flP pr y i
/-- From the last check on: a later one is heard first. -/
def flR (pr : Fil) (y : Nat → Int) (M : Nat) : Nat → Nat → Int
  | 0 => y
  | d + 1 => match pr (M - 1 - d) with
    | some x => fun p => if p = x.1 then x.2 else flR pr y M d p
    | none => flR pr y M d
/-- What check i says of a place. -/
def fhit (pr : Fil) (p i : Nat) : Option Int := match pr i with
  | some x => if x.1 = p then some x.2 else none
  | none => none
/-- What the first of the checks below i says of a place. -/
def ffst (pr : Fil) (p : Nat) : Nat → Option Int
  | 0 => none
  | i + 1 => (ffst pr p i).or (fhit pr p i)
def flst (pr : Fil) (p M : Nat) : Nat → Option Int
  | 0 => none
  | d + 1 => (fhit pr p (M - 1 - d)).or (flst pr p M d)
theorem fhit_is {pr : Fil} {p i : Nat} {v : Int} (h : fhit pr p i = some v) : ∃ x, pr i = some x ∧ x.1 = p ∧ x.2 = v := by
  unfold fhit at h
  cases hp : pr i with
  | none => rw [hp] at h; cases h
  | some x =>
    rw [hp] at h
    have h : (if x.1 = p then some x.2 else none) = some v := h
    by_cases e : x.1 = p
    · rw [if_pos e] at h; exact ⟨x, rfl, e, by simpa using h⟩
    · rw [if_neg e] at h; cases h
theorem ffst_is {pr : Fil} {p : Nat} {v : Int} : ∀ i, ffst pr p i = some v → ∃ j x, j < i ∧ pr j = some x ∧ x.1 = p ∧ x.2 = v
  | 0, h => by cases h
  | i + 1, h => by
    have h : (ffst pr p i).or (fhit pr p i) = some v := h
    cases hf : ffst pr p i with
    | some u =>
      rw [hf] at h
      obtain ⟨j, x, hj, r⟩ := ffst_is i hf
      have h : some u = some v := h
      cases h
      exact ⟨j, x, by omega, r⟩
    | none =>
      rw [hf] at h
      obtain ⟨x, r⟩ := fhit_is (v := v) h
      exact ⟨i, x, by omega, r⟩
theorem flP_is {pr : Fil} {y : Nat → Int} {M : Nat} (hp : ∀ i x, i < M → pr i = some x → y x.1 = -1 ∧ x.2 ≠ -1) : ∀ i, i ≤ M → ∀ p, flP pr y i p = (ffst pr p i).getD (y p)
  | 0, _, p => rfl
  | i + 1, h, p => by
    have ih := flP_is hp i (by omega)
    show (match pr i with
      | some x => if flP pr y i x.1 = -1 then fun p => if p = x.1 then x.2 else flP pr y i p else flP pr y i
      | none => flP pr y i) p = ((ffst pr p i).or (fhit pr p i)).getD (y p)
    cases hx : pr i with
    | none =>
      have e : fhit pr p i = none := by unfold fhit; rw [hx]
      rw [e, Option.or_none]
      exact ih p
    | some x =>
      have hpx := hp i x (by omega) hx
      have e : fhit pr p i = if x.1 = p then some x.2 else none := by unfold fhit; rw [hx]
      rw [e]
      show (if flP pr y i x.1 = -1 then fun p => if p = x.1 then x.2 else flP pr y i p else flP pr y i) p = _
      by_cases h1 : flP pr y i x.1 = -1
      · rw [if_pos h1]
        have h2 : ffst pr x.1 i = none := by
          cases hf : ffst pr x.1 i with
          | none => rfl
          | some v =>
            rw [ih, hf] at h1
            obtain ⟨j, x', hj, hx', _, hv⟩ := ffst_is i hf
            have h3 := (hp j x' (by omega) hx').2
            have h1 : v = -1 := h1
            exact absurd (hv.trans h1) h3
        by_cases h3 : p = x.1
        · show (if p = x.1 then x.2 else flP pr y i p) = _
          rw [if_pos h3, h3, h2, if_pos rfl]; rfl
        · show (if p = x.1 then x.2 else flP pr y i p) = _
          rw [if_neg h3, if_neg (show ¬ x.1 = p from fun e => h3 e.symm), Option.or_none]
          exact ih p
      · rw [if_neg h1]
        by_cases h3 : p = x.1
        · subst h3
          cases hf : ffst pr x.1 i with
          | none =>
            rw [ih, hf] at h1
            exact absurd hpx.1 h1
          | some v =>
            have := ih x.1
            rw [hf] at this
            rw [this]; rfl
        · rw [if_neg (fun e => h3 e.symm), Option.or_none]
          exact ih p
theorem flR_is (pr : Fil) (y : Nat → Int) (M : Nat) : ∀ d p, flR pr y M d p = (flst pr p M d).getD (y p)
  | 0, p => rfl
  | d + 1, p => by
    have ih := flR_is pr y M d p
    show (match pr (M - 1 - d) with
      | some x => fun p => if p = x.1 then x.2 else flR pr y M d p
      | none => flR pr y M d) p = ((fhit pr p (M - 1 - d)).or (flst pr p M d)).getD (y p)
    cases hx : pr (M - 1 - d) with
    | none =>
      have e : fhit pr p (M - 1 - d) = none := by unfold fhit; rw [hx]
      rw [e]
      exact ih
    | some x =>
      have e : fhit pr p (M - 1 - d) = if x.1 = p then some x.2 else none := by unfold fhit; rw [hx]
      rw [e]
      show (if p = x.1 then x.2 else flR pr y M d p) = _
      by_cases h : p = x.1
      · rw [if_pos h, if_pos h.symm]; rfl
      · rw [if_neg h, if_neg (fun e => h e.symm)]; exact ih
theorem first_last (pr : Fil) (p M : Nat) : ∀ d, d ≤ M → (ffst pr p (M - d)).or (flst pr p M d) = ffst pr p M
  | 0, _ => by
    show (ffst pr p (M - 0)).or none = _
    rw [Option.or_none]; rfl
  | d + 1, h => by
    rw [← first_last pr p M d (by omega)]
    show (ffst pr p (M - (d + 1))).or ((fhit pr p (M - 1 - d)).or (flst pr p M d)) = _
    rw [← Option.or_assoc, show M - d = (M - (d + 1)) + 1 by omega, show M - 1 - d = M - (d + 1) by omega]
    rfl
/-- Both ways fill in the same. -/
theorem fill_same {pr : Fil} {y : Nat → Int} {M : Nat} (hp : ∀ i x, i < M → pr i = some x → y x.1 = -1 ∧ x.2 ≠ -1) : flP pr y M = flR pr y M M := by
  funext p
  rw [flP_is hp M (Nat.le_refl _), flR_is, ← first_last pr p M M (Nat.le_refl _), Nat.sub_self]
  rfl
/-- What is not lost stays; what is filled in is not lost. -/
theorem flP_stays {pr : Fil} {y : Nat → Int} {M : Nat} (hp : ∀ i x, i < M → pr i = some x → y x.1 = -1 ∧ x.2 ≠ -1) (p : Nat) : (y p ≠ -1 → flP pr y M p = y p) ∧ (flP pr y M p = y p ∨ flP pr y M p ≠ -1) := by
  rw [flP_is hp M (Nat.le_refl _)]
  cases hf : ffst pr p M with
  | none => exact ⟨fun _ => rfl, Or.inl rfl⟩
  | some v =>
    obtain ⟨j, x, hj, hx, h1, h2⟩ := ffst_is M hf
    have h3 := hp j x hj hx
    refine ⟨fun h => absurd (by rw [← h1]; exact h3.1) h, Or.inr ?_⟩
    show v ≠ -1
    rw [← h2]; exact h3.2
/-- How many places are lost. -/
def lct (n : Nat) (y : Nat → Int) : Nat := ct (fun p => decide (y p = -1)) n
theorem ct_less {p q : Nat → Bool} {i : Nat} (hq : q i = true) (hp : p i = false) : ∀ n, i < n → (∀ j, j < n → p j = true → q j = true) → ct p n < ct q n
  | 0, h, _ => absurd h (by omega)
  | n + 1, h, hpq => by
    show ct p n + (if p n = true then 1 else 0) < ct q n + if q n = true then 1 else 0
    by_cases e : i = n
    · subst e
      have := ct_mono i (fun j hj hx => hpq j (by omega) hx)
      rw [hq, hp]
      simp
      omega
    · have ih := ct_less hq hp n (by omega) (fun j hj => hpq j (by omega))
      have := hpq n (by omega)
      cases hx : p n with
      | false => simp; split <;> omega
      | true => rw [this hx]; simp; omega
/-- A round that brings something leaves fewer lost. -/
theorem fill_less {pr : Fil} {y : Nat → Int} {M n : Nat} (hp : ∀ i x, i < M → pr i = some x → y x.1 = -1 ∧ x.2 ≠ -1) (hne : ∃ p, p < n ∧ flP pr y M p ≠ y p) : lct n (flP pr y M) < lct n y := by
  obtain ⟨p, hpn, h⟩ := hne
  have h1 := flP_stays hp p
  refine ct_less (i := p) ?_ ?_ n hpn (fun j _ hj => ?_)
  · exact decide_eq_true (Classical.byContradiction fun e => h (h1.1 e))
  · rcases h1.2 with e | e
    · exact absurd e h
    · exact decide_eq_false e
  · have hj : flP pr y M j = -1 := of_decide_eq_true hj
    refine decide_eq_true (Classical.byContradiction fun e => ?_)
    exact e (((flP_stays hp j).1 e).symm.trans hj)
end Go.Proofs.Ytjkncdmbcckcdaa
