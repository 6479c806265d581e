/- Words that lose a bit or get one: the sum of places tells them apart (Varshamov, Tenengolts, Levenshtein). No Go text here. -/
import Derived.Test.YtillljojdnofgaaZI22
import Derived.Test.YtillljojdnofgaaZKH7
namespace Go.Proofs.Ytillljojdnofgaa

/-- How many ones stand ahead of i. -/
def ons (c : Nat → Nat) : Nat → Nat
  | 0 => 0
  | i + 1 => ons c i + c i
/-- A word with b put in at place a. -/
def wib (a b : Nat) (u : Nat → Nat) : Nat → Nat := fun j => if j < a then u j else if j = a then b else u (j - 1)
theorem psm_congr {c d : Nat → Nat} : ∀ n, (∀ j, j < n → c j = d j) → psm c n = psm d n
  | 0, _ => rfl
  | n + 1, h => by
    show psm c n + (n + 1) * c n = psm d n + (n + 1) * d n
    rw [psm_congr n fun j hj => h j (by omega), h n (by omega)]
theorem ons_congr {c d : Nat → Nat} : ∀ n, (∀ j, j < n → c j = d j) → ons c n = ons d n
  | 0, _ => rfl
  | n + 1, h => by
    show ons c n + c n = ons d n + d n
    rw [ons_congr n fun j hj => h j (by omega), h n (by omega)]
theorem ons_mono (c : Nat → Nat) (i : Nat) : ∀ k, ons c i ≤ ons c (i + k)
  | 0 => Nat.le_refl _
  | k + 1 => Nat.le_trans (ons_mono c i k) (Nat.le_add_right _ _)
theorem ons_le (c : Nat → Nat) {i j : Nat} (h : i ≤ j) : ons c i ≤ ons c j := by
  have := ons_mono c i (j - i)
  rw [show i + (j - i) = j by omega] at this
  exact this
/-- No more ones than places. -/
theorem ons_few {c : Nat → Nat} (hc : ∀ j, c j ≤ 1) {i j : Nat} (h : i ≤ j) : ons c j + i ≤ ons c i + j := by
  obtain ⟨k, rfl⟩ : ∃ k, j = i + k := ⟨j - i, by omega⟩
  clear h
  have key : ∀ k, ons c (i + k) ≤ ons c i + k := fun k => by
    refine Nat.rec (Nat.le_refl _) (fun k ih => ?_) k
    show ons c (i + k) + c (i + k) ≤ ons c i + (k + 1)
    have := hc (i + k)
    omega
  have := key k
  omega
theorem wib_lo {a b : Nat} {u : Nat → Nat} {j : Nat} (h : j < a) : wib a b u j = u j := by unfold wib; rw [if_pos h]
theorem wib_at (a b : Nat) (u : Nat → Nat) : wib a b u a = b := by unfold wib; rw [if_neg (Nat.lt_irrefl _), if_pos rfl]
theorem wib_hi {a b : Nat} {u : Nat → Nat} {j : Nat} (h : a ≤ j) : wib a b u (j + 1) = u j := by unfold wib; rw [if_neg (by omega), if_neg (by omega), Nat.add_sub_cancel]
theorem wib_wo (a : Nat) (v : Nat → Nat) : wib a (v a) (wo a v) = v := by
  funext j
  by_cases h : j < a
  · rw [wib_lo h]; unfold wo; rw [if_pos h]
  · by_cases e : j = a
    · rw [e, wib_at]
    · obtain ⟨i, rfl⟩ : ∃ i, j = i + 1 := ⟨j - 1, by omega⟩
      rw [wib_hi (by omega)]; unfold wo; rw [if_neg (by omega)]
theorem wo_wib (a b : Nat) (u : Nat → Nat) : wo a (wib a b u) = u := by
  funext j
  unfold wo
  by_cases h : j < a
  · rw [if_pos h, wib_lo h]
  · rw [if_neg h, wib_hi (by omega)]
/-- The sum of a word that got a bit. -/
theorem psm_wib (a b : Nat) (u : Nat → Nat) : ∀ k, psm (wib a b u) (a + k + 1) + ons u a = psm u (a + k) + ons u (a + k) + (a + 1) * b
  | 0 => by
    show psm (wib a b u) a + (a + 1) * wib a b u a + ons u a = psm u a + ons u a + (a + 1) * b
    rw [wib_at, psm_congr (d := u) a fun j hj => wib_lo hj]
    omega
  | k + 1 => by
    have h := psm_wib a b u k
    show psm (wib a b u) (a + k + 1) + (a + k + 1 + 1) * wib a b u (a + k + 1) + ons u a = (psm u (a + k) + (a + k + 1) * u (a + k)) + (ons u (a + k) + u (a + k)) + (a + 1) * b
    rw [wib_hi (by omega), Nat.add_mul (a + k + 1) 1, Nat.one_mul]
    omega
theorem psm_put {a m : Nat} (h : a ≤ m) (b : Nat) (u : Nat → Nat) : psm (wib a b u) (m + 1) + ons u a = psm u m + ons u m + (a + 1) * b := by
  have := psm_wib a b u (m - a)
  rw [show a + (m - a) = m by omega] at this
  exact this
/-- As many ones: just noughts between. -/
theorem ons_same {c : Nat → Nat} {i j : Nat} (h : ons c i = ons c j) {t : Nat} (h1 : i ≤ t) (h2 : t < j) : c t = 0 := by
  have e1 := ons_le c h1
  have e2 := ons_le c (show t + 1 ≤ j by omega)
  have e3 : ons c (t + 1) = ons c t + c t := rfl
  omega
/-- As many noughts: just ones between. -/
theorem ons_full {c : Nat → Nat} (hc : ∀ j, c j ≤ 1) {i j : Nat} (h : ons c j + i = ons c i + j) {t : Nat} (h1 : i ≤ t) (h2 : t < j) : c t = 1 := by
  have e1 := ons_few hc h1
  have e2 := ons_few hc (show t + 1 ≤ j by omega)
  have e3 : ons c (t + 1) = ons c t + c t := rfl
  have e4 := hc t
  omega
/-- Put into a row of its like it is all the same where. -/
theorem wib_same {a a' b : Nat} {u : Nat → Nat} (h : a ≤ a') (hu : ∀ t, a ≤ t → t < a' → u t = b) : wib a b u = wib a' b u := by
  funext j
  by_cases h1 : j < a
  · rw [wib_lo h1, wib_lo (by omega)]
  by_cases h2 : j = a
  · rw [h2, wib_at]
    by_cases e : a = a'
    · rw [← e, wib_at]
    · rw [wib_lo (by omega)]; exact (hu a (Nat.le_refl _) (by omega)).symm
  obtain ⟨i, rfl⟩ : ∃ i, j = i + 1 := ⟨j - 1, by omega⟩
  rw [wib_hi (by omega)]
  by_cases h3 : i + 1 < a'
  · rw [wib_lo h3, hu i (by omega) (by omega), hu (i + 1) (by omega) h3]
  by_cases h4 : i + 1 = a'
  · rw [h4, wib_at]; exact hu i (by omega) (by omega)
  · rw [wib_hi (by omega)]
theorem wo_same {a a' : Nat} {u : Nat → Nat} (h : a ≤ a') (hu : ∀ t, a ≤ t → t ≤ a' → u t = u a) : wo a u = wo a' u := by
  funext j
  unfold wo
  by_cases h1 : j < a
  · rw [if_pos h1, if_pos (by omega)]
  · rw [if_neg h1]
    by_cases h2 : j < a'
    · rw [if_pos h2, hu (j + 1) (by omega) (by omega), hu j (by omega) (by omega)]
    · rw [if_neg h2]
theorem mod_near {a b m : Nat} (hb : b < a + m) (h : a ≤ b) (e : a % m = b % m) : a = b := by
  have h1 := Nat.div_add_mod a m
  have h2 := Nat.div_add_mod b m
  have h3 : a / m ≤ b / m := Nat.div_le_div_right h
  by_cases h4 : a / m = b / m
  · rw [h4] at h1; omega
  · have h5 : m * (a / m + 1) ≤ m * (b / m) := Nat.mul_le_mul_left m (by omega)
    rw [Nat.mul_add, Nat.mul_one] at h5
    omega
/-- A word that got a bit is told by its sum: where b is put in at a, how much greater the sum is. -/
theorem ins_one {m : Nat} {u : Nat → Nat} (hu : ∀ j, u j ≤ 1) {a a' b b' : Nat} (ha : a ≤ m) (ha' : a' ≤ m) (hb : b ≤ 1) (hb' : b' ≤ 1) (h : psm (wib a b u) (m + 1) % (m + 2) = psm (wib a' b' u) (m + 1) % (m + 2)) : wib a b u = wib a' b' u := by
  have key : ∀ {a a' b b' : Nat}, a ≤ m → a' ≤ m → b ≤ 1 → b' ≤ 1 → a ≤ a' → psm (wib a b u) (m + 1) % (m + 2) = psm (wib a' b' u) (m + 1) % (m + 2) → wib a b u = wib a' b' u := by
    intro a a' b b' ha ha' hb hb' haa h
    have p := psm_put ha b u
    have p' := psm_put ha' b' u
    have o1 := ons_le u ha
    have o2 := ons_le u ha'
    have o3 := ons_le u haa
    have f1 := ons_few hu ha
    have f2 := ons_few hu ha'
    have f3 := ons_few hu haa
    obtain ⟨X, hX⟩ : ∃ X, X = psm (wib a b u) (m + 1) := ⟨_, rfl⟩
    obtain ⟨Y, hY⟩ : ∃ Y, Y = psm (wib a' b' u) (m + 1) := ⟨_, rfl⟩
    rw [← hX] at p h
    rw [← hY] at p' h
    clear hX hY
    have eq : X = Y := by
      rcases Nat.le_total (X) (Y) with hl | hl
      · refine mod_near ?_ hl h
        rcases Nat.lt_or_ge b 1 with x | x <;> rcases Nat.lt_or_ge b' 1 with y | y
        · rw [show b = 0 by omega] at p; rw [show b' = 0 by omega] at p'; omega
        · rw [show b = 0 by omega] at p; rw [show b' = 1 by omega] at p'; omega
        · rw [show b = 1 by omega] at p; rw [show b' = 0 by omega] at p'; omega
        · rw [show b = 1 by omega] at p; rw [show b' = 1 by omega] at p'; omega
      · refine (mod_near ?_ hl h.symm).symm
        rcases Nat.lt_or_ge b 1 with x | x <;> rcases Nat.lt_or_ge b' 1 with y | y
        · rw [show b = 0 by omega] at p; rw [show b' = 0 by omega] at p'; omega
        · rw [show b = 0 by omega] at p; rw [show b' = 1 by omega] at p'; omega
        · rw [show b = 1 by omega] at p; rw [show b' = 0 by omega] at p'; omega
        · rw [show b = 1 by omega] at p; rw [show b' = 1 by omega] at p'; omega
    rw [eq] at p
    rcases Nat.lt_or_ge b 1 with x | x <;> rcases Nat.lt_or_ge b' 1 with y | y
    · have e : b = 0 := by omega
      have e' : b' = 0 := by omega
      subst e; subst e'
      exact wib_same haa fun t h1 h2 => ons_same (by omega) h1 h2
    · rw [show b = 0 by omega] at p; rw [show b' = 1 by omega] at p'; omega
    · rw [show b = 1 by omega] at p; rw [show b' = 0 by omega] at p'; omega
    · have e : b = 1 := by omega
      have e' : b' = 1 := by omega
      subst e; subst e'
      exact wib_same haa fun t h1 h2 => ons_full hu (by omega) h1 h2
  rcases Nat.le_total a a' with x | x
  · exact key ha ha' hb hb' x h
  · exact (key ha' ha hb' hb x h.symm).symm
/-- The sum of a word that lost a bit. -/
theorem psm_wo {a n : Nat} (h : a ≤ n) (u : Nat → Nat) : psm u (n + 1) + ons u a + u a = psm (wo a u) n + ons u (n + 1) + (a + 1) * u a := by
  have p := psm_put h (u a) (wo a u)
  rw [wib_wo] at p
  have e1 : ons (wo a u) a = ons u a := ons_congr a fun j hj => by unfold wo; rw [if_pos hj]
  have e2 : ∀ k, ons (wo a u) (a + k) + u a = ons u (a + k + 1) := fun k => by
    refine Nat.rec ?_ (fun k ih => ?_) k
    · show ons (wo a u) a + u a = ons u a + u a
      rw [e1]
    · show ons (wo a u) (a + k) + wo a u (a + k) + u a = ons u (a + k + 1) + u (a + k + 1)
      rw [← ih, show wo a u (a + k) = u (a + k + 1) by unfold wo; rw [if_neg (by omega)]]
      omega
  have e3 := e2 (n - a)
  rw [show a + (n - a) = n by omega] at e3
  omega
/-- A word that comes of one by losing a bit is told by its sum. -/
theorem del_one {n : Nat} {u : Nat → Nat} (hu : ∀ j, u j ≤ 1) {a a' : Nat} (ha : a ≤ n) (ha' : a' ≤ n) (h : psm (wo a u) n % (n + 1) = psm (wo a' u) n % (n + 1)) : wo a u = wo a' u := by
  have key : ∀ {a a' : Nat}, a ≤ n → a' ≤ n → a ≤ a' → psm (wo a u) n % (n + 1) = psm (wo a' u) n % (n + 1) → wo a u = wo a' u := by
    intro a a' ha ha' haa h
    by_cases hs : a = a'
    · rw [hs]
    have p := psm_wo ha u
    have p' := psm_wo ha' u
    have o0 : ons u (a + 1) = ons u a + u a := rfl
    have o0' : ons u (a' + 1) = ons u a' + u a' := rfl
    have o1 := ons_le u (show a + 1 ≤ a' by omega)
    have o2 := ons_le u (show a' + 1 ≤ n + 1 by omega)
    have f1 := ons_few hu (show a + 1 ≤ a' by omega)
    have f2 := ons_few hu (show a' + 1 ≤ n + 1 by omega)
    have f0 := ons_few hu (show 0 ≤ a by omega)
    have f00 : ons u 0 = 0 := rfl
    have ua := hu a
    have ua' := hu a'
    have eq : psm (wo a u) n = psm (wo a' u) n := by
      rcases Nat.le_total (psm (wo a u) n) (psm (wo a' u) n) with hl | hl
      · refine mod_near ?_ hl h
        rcases Nat.lt_or_ge (u a) 1 with x | x <;> rcases Nat.lt_or_ge (u a') 1 with y | y
        · rw [show u a = 0 by omega] at p o0; rw [show u a' = 0 by omega] at p' o0'; omega
        · rw [show u a = 0 by omega] at p o0; rw [show u a' = 1 by omega] at p' o0'; omega
        · rw [show u a = 1 by omega] at p o0; rw [show u a' = 0 by omega] at p' o0'; omega
        · rw [show u a = 1 by omega] at p o0; rw [show u a' = 1 by omega] at p' o0'; omega
      · refine (mod_near ?_ hl h.symm).symm
        rcases Nat.lt_or_ge (u a) 1 with x | x <;> rcases Nat.lt_or_ge (u a') 1 with y | y
        · rw [show u a = 0 by omega] at p o0; rw [show u a' = 0 by omega] at p' o0'; omega
        · rw [show u a = 0 by omega] at p o0; rw [show u a' = 1 by omega] at p' o0'; omega
        · rw [show u a = 1 by omega] at p o0; rw [show u a' = 0 by omega] at p' o0'; omega
        · rw [show u a = 1 by omega] at p o0; rw [show u a' = 1 by omega] at p' o0'; omega
    rw [eq] at p
    rcases Nat.lt_or_ge (u a) 1 with x | x <;> rcases Nat.lt_or_ge (u a') 1 with y | y
    · have e : u a = 0 := by omega
      have e' : u a' = 0 := by omega
      rw [e] at p o0; rw [e'] at p' o0'
      refine wo_same haa fun t h1 h2 => ?_
      rw [e]
      by_cases h3 : t = a'
      · rw [h3]; exact e'
      · exact ons_same (i := a) (j := a') (by omega) h1 (by omega)
    · rw [show u a = 0 by omega] at p o0; rw [show u a' = 1 by omega] at p' o0'; omega
    · rw [show u a = 1 by omega] at p o0; rw [show u a' = 0 by omega] at p' o0'; omega
    · have e : u a = 1 := by omega
      have e' : u a' = 1 := by omega
      rw [e] at p o0; rw [e'] at p' o0'
      refine wo_same haa fun t h1 h2 => ?_
      rw [e]
      by_cases h3 : t = a'
      · rw [h3]; exact e'
      · exact ons_full hu (i := a) (j := a') (by omega) h1 (by omega)
  rcases Nat.le_total a a' with x | x
  · exact key ha ha' x h
  · exact (key ha' ha x h.symm).symm
end Go.Proofs.Ytillljojdnofgaa
