/- Texts of ours, one behind the other: KE22 KE23. -/
import Derived.Test.YtjkncdmbcckcdabZKE21
import Derived.Test.YtjkncdmbcckcdabZS13
/- SparseMade: the walk of the statement, whatever raw numbers it is given. -/
namespace Go.Proofs.Ytjkncdmbcckcdab
open Go.RowKit Go.Sort

end Go.Proofs.Ytjkncdmbcckcdab

/- Codes of few checks: what peeling fills in is right; what it leaves is the greatest stopping set; a code's words are not turned. No Go text here. -/
namespace Go.Proofs.Ytjkncdmbcckcdab
open Go.RowKit Go.Sort

theorem cnt_split {y b z : Nat → Int} : ∀ l, (∀ j, j < l → b (z j).toNat = -1 ∨ (b (z j).toNat = y (z j).toNat ∧ b (z j).toNat ≠ -1)) →
    (selZ (fun x => decide (y x.toNat = 1)) z l).length = (selZ (fun x => decide (b x.toNat = 1)) z l).length + ((losts b z l).filter (fun x => decide (y x.toNat = 1))).length
  | 0, _ => rfl
  | l + 1, h => by
    have ih := cnt_split l (fun j hj => h j (by omega))
    have e1 : ∀ c : Nat → Int, selZ (fun x => decide (c x.toNat = 1)) z (l + 1) = if decide (c (z l).toNat = 1) = true then selZ (fun x => decide (c x.toNat = 1)) z l ++ [z l] else selZ (fun x => decide (c x.toNat = 1)) z l := fun _ => rfl
    have e2 : losts b z (l + 1) = if decide (b (z l).toNat = -1) = true then losts b z l ++ [z l] else losts b z l := rfl
    rw [e1 y, e1 b, e2]
    rcases h l (by omega) with hb | ⟨hb, hb2⟩
    · rw [if_pos (decide_eq_true hb), if_neg (c := decide (b (z l).toNat = 1) = true) (by rw [decide_eq_true_eq, hb]; omega), List.filter_append, List.length_append]
      by_cases hy : y (z l).toNat = 1
      · rw [if_pos (decide_eq_true hy), List.length_append, ih]
        have : ([z l].filter fun x => decide (y x.toNat = 1)) = [z l] := by
          rw [List.filter_cons_of_pos (by rw [decide_eq_true_eq]; exact hy)]; rfl
        rw [this]
        show _ + 1 = _ + (_ + 1)
        omega
      · rw [if_neg (by rw [decide_eq_true_eq]; exact hy), ih]
        have : ([z l].filter fun x => decide (y x.toNat = 1)) = [] := by
          rw [List.filter_cons_of_neg (by rw [decide_eq_true_eq]; exact hy)]; rfl
        rw [this]
        rfl
    · rw [if_neg (c := decide (b (z l).toNat = -1) = true) (by rw [decide_eq_true_eq]; exact hb2), hb]
      by_cases hy : y (z l).toNat = 1
      · rw [if_pos (decide_eq_true hy), if_pos (decide_eq_true hy), List.length_append, List.length_append, ih]
        show _ + _ + 1 = _ + 1 + _
        omega
      · rw [if_neg (by rw [decide_eq_true_eq]; exact hy), if_neg (by rw [decide_eq_true_eq]; exact hy), ih]
/-- A word that is right where it is not lost. -/
def Agr (n : Nat) (y b : Nat → Int) : Prop := ∀ p, p < n → b p = -1 ∨ b p = y p
theorem pfil_one {N : Nat → Nat} {Z : Nat → Nat → Int} {y : Nat → Int} {i : Nat} {x : Nat × Int} (h : pfil N Z y i = some x) : ∃ a, losts y (Z i) (N i) = [a] ∧ x = (a.toNat, ((par y (Z i) (N i) : Nat) : Int)) := by
  unfold pfil at h
  cases hl : losts y (Z i) (N i) with
  | nil => rw [hl] at h; cases h
  | cons a l =>
    cases l with
    | cons b l => rw [hl] at h; cases h
    | nil =>
      rw [hl] at h
      have h : some (a.toNat, ((par y (Z i) (N i) : Nat) : Int)) = some x := h
      exact ⟨a, rfl, (Option.some.inj h).symm⟩
theorem pround_at {m : Nat} {N : Nat → Nat} {Z : Nat → Nat → Int} {b : Nat → Int} (p : Nat) : pround m N Z b p = b p ∨ ∃ i a, i < m ∧ losts b (Z i) (N i) = [a] ∧ a.toNat = p ∧ pround m N Z b p = ((par b (Z i) (N i) : Nat) : Int) := by
  have e : pround m N Z b p = (ffst (pfil N Z b) p m).getD (b p) := flP_is (M := m) (fun i x _ hx => ⟨(pfil_lost i x hx).1, (pfil_lost i x hx).2.1⟩) m (Nat.le_refl _) p
  cases hf : ffst (pfil N Z b) p m with
  | none => rw [hf] at e; exact Or.inl e
  | some v =>
    rw [hf] at e
    obtain ⟨i, x, hi, hx, h1, h2⟩ := ffst_is m hf
    obtain ⟨a, ha, hxa⟩ := pfil_one hx
    refine Or.inr ⟨i, a, hi, ha, by rw [← h1, hxa], ?_⟩
    rw [e, ← h2, hxa]; rfl
theorem pround_agr {n m : Nat} {N : Nat → Nat} {Z : Nat → Nat → Int} {y b : Nat → Int} (hZ : ∀ i, i < m → ∀ j, j < N i → 0 ≤ Z i j ∧ Z i j < (n : Int)) (hy : ∀ p, p < n → y p = 0 ∨ y p = 1) (hc : ∀ i, i < m → par y (Z i) (N i) = 0) (h : Agr n y b) : Agr n y (pround m N Z b) := fun p hp => by
  rcases pround_at (m := m) (N := N) (Z := Z) (b := b) p with e | ⟨i, a, hi, ha, hap, e⟩
  · rw [e]; exact h p hp
  · right
    rw [e]
    have hs := cnt_split (y := y) (b := b) (z := Z i) (N i) (fun j hj => by
      have hz := hZ i hi j hj
      have hj2 : (Z i j).toNat < n := by omega
      rcases h _ hj2 with h1 | h1
      · exact Or.inl h1
      · refine Or.inr ⟨h1, ?_⟩
        rw [h1]
        rcases hy _ hj2 with h2 | h2 <;> rw [h2] <;> decide)
    rw [ha] at hs
    have hpy := hc i hi
    unfold par at hpy ⊢
    rw [hs] at hpy
    rcases hy p hp with h0 | h1
    · have : ([a].filter fun x => decide (y x.toNat = 1)) = [] := by
        rw [List.filter_cons_of_neg (by rw [decide_eq_true_eq, hap, h0]; decide)]; rfl
      rw [this] at hpy
      rw [h0]
      have hpy : (_ + 0) % 2 = 0 := hpy
      omega
    · have : ([a].filter fun x => decide (y x.toNat = 1)) = [a] := by
        rw [List.filter_cons_of_pos (by rw [decide_eq_true_eq, hap, h1])]; rfl
      rw [this] at hpy
      rw [h1]
      have hpy : (_ + 1) % 2 = 0 := hpy
      omega
theorem prounds_agr {n m : Nat} {N : Nat → Nat} {Z : Nat → Nat → Int} {y b : Nat → Int} (hZ : ∀ i, i < m → ∀ j, j < N i → 0 ≤ Z i j ∧ Z i j < (n : Int)) (hy : ∀ p, p < n → y p = 0 ∨ y p = 1) (hc : ∀ i, i < m → par y (Z i) (N i) = 0) (h : Agr n y b) : ∀ k, Agr n y (prounds m N Z b k)
  | 0 => h
  | k + 1 => pround_agr hZ hy hc (prounds_agr hZ hy hc h k)
theorem prounds_less {m : Nat} {N : Nat → Nat} {Z : Nat → Nat → Int} {b : Nat → Int} {p : Nat} : ∀ k, prounds m N Z b k p = -1 → b p = -1
  | 0, h => h
  | k + 1, h => by
    refine prounds_less (m := m) (N := N) (Z := Z) k ?_
    refine Classical.byContradiction fun e => ?_
    have h1 := (flP_stays (M := m) (pr := pfil N Z (prounds m N Z b k)) (y := prounds m N Z b k) (fun i x _ hx => ⟨(pfil_lost i x hx).1, (pfil_lost i x hx).2.1⟩) p).1 e
    have h2 : flP (pfil N Z (prounds m N Z b k)) (prounds m N Z b k) m p = -1 := h
    rw [h1] at h2
    exact e h2
theorem ffst_some {pr : Fil} {p : Nat} {x : Nat × Int} {i : Nat} (hx : pr i = some x) (h1 : x.1 = p) : ∀ m, i < m → ∃ v, ffst pr p m = some v
  | 0, h => absurd h (by omega)
  | m + 1, h => by
    have e0 : ffst pr p (m + 1) = (ffst pr p m).or (fhit pr p m) := rfl
    rw [e0]
    cases hf : ffst pr p m with
    | some v => exact ⟨v, rfl⟩
    | none =>
      by_cases e : i = m
      · subst e
        refine ⟨x.2, ?_⟩
        show (match pr i with
          | some x => if x.1 = p then some x.2 else none
          | none => none) = _
        rw [hx]; exact if_pos h1
      · obtain ⟨v, hv⟩ := ffst_some hx h1 m (by omega)
        rw [hv] at hf; cases hf
/-- Where a round brings nothing, no check has just one lost place. -/
theorem fix_none {m : Nat} {N : Nat → Nat} {Z : Nat → Nat → Int} {b : Nat → Int} (h : pround m N Z b = b) (i : Nat) (hi : i < m) : (losts b (Z i) (N i)).length ≠ 1 := fun hl => by
  obtain ⟨a, ha⟩ := List.length_eq_one_iff.1 hl
  have hx : pfil N Z b i = some (a.toNat, ((par b (Z i) (N i) : Nat) : Int)) := by
    unfold pfil; rw [ha]
  obtain ⟨v, hv⟩ := ffst_some hx (p := a.toNat) rfl m hi
  have e : pround m N Z b a.toNat = (ffst (pfil N Z b) a.toNat m).getD (b a.toNat) := flP_is (M := m) (fun i x _ hx => ⟨(pfil_lost i x hx).1, (pfil_lost i x hx).2.1⟩) m (Nat.le_refl _) _
  rw [hv, h] at e
  obtain ⟨j, x, hj, hx2, h1, h2⟩ := ffst_is m hv
  have h3 := pfil_lost j x hx2
  have h4 := (pfil_lost i _ hx).1
  have e : b a.toNat = v := e
  rw [h2] at h3
  have h4 : b a.toNat = -1 := h4
  rw [h4] at e
  exact h3.2.1 e.symm
theorem lefts_mem {y : Nat → Int} {x : Int} : ∀ n, x ∈ lefts y n ↔ 0 ≤ x ∧ x < (n : Int) ∧ y x.toNat = -1
  | 0 => ⟨(fun h => by cases h), (fun h => by omega)⟩
  | n + 1 => by
    have ih := lefts_mem (y := y) (x := x) n
    show x ∈ (if y n = -1 then lefts y n ++ [(n : Int)] else lefts y n) ↔ _
    by_cases e : y n = -1
    · rw [if_pos e, List.mem_append, List.mem_singleton, ih]
      constructor
      · rintro (h | h)
        · exact ⟨h.1, by omega, h.2.2⟩
        · subst h
          exact ⟨by omega, by omega, by rw [Int.toNat_natCast]; exact e⟩
      · rintro ⟨h1, h2, h3⟩
        by_cases e2 : x = (n : Int)
        · exact Or.inr e2
        · exact Or.inl ⟨h1, by omega, h3⟩
    · rw [if_neg e, ih]
      constructor
      · exact fun h => ⟨h.1, by omega, h.2.2⟩
      · rintro ⟨h1, h2, h3⟩
        refine ⟨h1, ?_, h3⟩
        have : x ≠ (n : Int) := fun e2 => e (by rw [e2, Int.toNat_natCast] at h3; exact h3)
        omega
theorem stopB_iff {l : List Int} {N : Nat → Nat} {Z : Nat → Nat → Int} : ∀ m, stopB l N Z m = true ↔ ∀ i, i < m → inN l (Z i) (N i) ≠ 1
  | 0 => ⟨fun _ i hi => absurd hi (by omega), fun _ => rfl⟩
  | m + 1 => by
    show (stopB l N Z m && !decide (inN l (Z m) (N m) = 1)) = true ↔ _
    rw [Bool.and_eq_true, stopB_iff m, Bool.not_eq_true', decide_eq_false_iff_not]
    constructor
    · rintro ⟨h1, h2⟩ i hi
      by_cases e : i = m
      · rw [e]; exact h2
      · exact h1 i (by omega)
    · exact fun h => ⟨fun i hi => h i (by omega), h m (by omega)⟩
theorem selZ_filter {p q : Int → Bool} {z : Nat → Int} : ∀ l, (∀ j, j < l → p (z j) = true → q (z j) = true) → selZ p z l = (selZ q z l).filter p
  | 0, _ => rfl
  | l + 1, h => by
    have ih := selZ_filter (p := p) (q := q) (z := z) l (fun j hj => h j (by omega))
    show (if p (z l) = true then selZ p z l ++ [z l] else selZ p z l) = (if q (z l) = true then selZ q z l ++ [z l] else selZ q z l).filter p
    by_cases hp : p (z l) = true
    · rw [if_pos hp, if_pos (h l (by omega) hp), List.filter_append, ih, List.filter_cons_of_pos hp]; rfl
    · rw [if_neg hp]
      by_cases hq : q (z l) = true
      · rw [if_pos hq, List.filter_append, ih, List.filter_cons_of_neg hp, List.filter_nil, List.append_nil]
      · rw [if_neg hq]; exact ih
/-- What peeling leaves stops. -/
theorem left_stops {n m : Nat} {N : Nat → Nat} {Z : Nat → Nat → Int} {b : Nat → Int} (hZ : ∀ i, i < m → ∀ j, j < N i → 0 ≤ Z i j ∧ Z i j < (n : Int)) (h : pround m N Z b = b) : stopB (lefts b n) N Z m = true := by
  rw [stopB_iff]
  intro i hi
  have e : selZ (fun x => decide (x ∈ lefts b n)) (Z i) (N i) = losts b (Z i) (N i) := selZ_same _ (fun j hj => by
    have hz := hZ i hi j hj
    exact decide_eq_decide.2 ((lefts_mem n).trans ⟨fun h => h.2.2, fun h => ⟨hz.1, hz.2, h⟩⟩))
  unfold inN
  rw [e]
  exact fix_none h i hi
/-- A stopping set of lost places stays lost. -/
theorem stop_keeps {n m : Nat} {N : Nat → Nat} {Z : Nat → Nat → Int} {b : Nat → Int} {l : List Int} (hZ : ∀ i, i < m → ∀ j, j < N i → 0 ≤ Z i j ∧ Z i j < (n : Int)) (hs : stopB l N Z m = true) (hl : ∀ x ∈ l, 0 ≤ x ∧ b x.toNat = -1) : ∀ x ∈ l, 0 ≤ x ∧ pround m N Z b x.toNat = -1 := fun x hx => by
  refine ⟨(hl x hx).1, ?_⟩
  rcases pround_at (m := m) (N := N) (Z := Z) (b := b) x.toNat with e | ⟨i, a, hi, ha, hap, _⟩
  · rw [e]; exact (hl x hx).2
  · exfalso
    have ham : a ∈ losts b (Z i) (N i) := by rw [ha]; exact List.mem_singleton.2 rfl
    obtain ⟨_, j, hj, hja⟩ := selZ_mem _ ham
    have hz := hZ i hi j hj
    have hax : a = x := by have := (hl x hx).1; omega
    refine (stopB_iff m).1 hs i hi ?_
    unfold inN
    rw [selZ_filter (p := fun x => decide (x ∈ l)) (q := fun x => decide (b x.toNat = -1)) (N i) (fun j _ hp => decide_eq_true (hl _ (of_decide_eq_true hp)).2)]
    have e : selZ (fun x => decide (b x.toNat = -1)) (Z i) (N i) = [a] := ha
    rw [e, List.filter_cons_of_pos (by rw [decide_eq_true_eq, hax]; exact hx)]
    rfl
theorem stop_keepss {n m : Nat} {N : Nat → Nat} {Z : Nat → Nat → Int} {b : Nat → Int} {l : List Int} (hZ : ∀ i, i < m → ∀ j, j < N i → 0 ≤ Z i j ∧ Z i j < (n : Int)) (hs : stopB l N Z m = true) (hl : ∀ x ∈ l, 0 ≤ x ∧ b x.toNat = -1) : ∀ k, ∀ x ∈ l, 0 ≤ x ∧ prounds m N Z b k x.toNat = -1
  | 0 => hl
  | k + 1 => stop_keeps hZ hs (stop_keepss hZ hs hl k)
theorem odds_none {m : Nat} {N : Nat → Nat} {Z : Nat → Nat → Int} {y : Nat → Int} (hc : ∀ i, i < m → par y (Z i) (N i) = 0) : odds N Z y m = [] := by
  refine List.eq_nil_iff_forall_not_mem.2 fun i hi => ?_
  obtain ⟨h1, h2⟩ := odds_lt m i hi
  rw [hc i h1] at h2
  cases h2
theorem crow_inc {n : Int} {z : Nat → Int} : ∀ m, crow n z m = 0 → ∀ i j, i < j → j < m → z i < z j
  | 0, _, i, j, _, hj => absurd hj (by omega)
  | m + 1, h, i, j, hij, hj => by
    have h' : (if crow n z m ≠ 0 then crow n z m else if z m < 0 ∨ n ≤ z m then 10 else if 0 < m ∧ z m ≤ z (m - 1) then 3 else 0) = 0 := h
    by_cases e0 : crow n z m ≠ 0
    · rw [if_pos e0] at h'; exact absurd h' e0
    · rw [if_neg e0] at h'
      have e0 := Classical.not_not.1 e0
      by_cases e : j = m
      · subst e
        by_cases e1 : z j < 0 ∨ n ≤ z j
        · rw [if_pos e1] at h'; cases h'
        · rw [if_neg e1] at h'
          by_cases e2 : 0 < j ∧ z j ≤ z (j - 1)
          · rw [if_pos e2] at h'; cases h'
          · have e3 : z (j - 1) < z j := by omega
            by_cases e4 : i = j - 1
            · rw [e4]; exact e3
            · have := crow_inc j e0 i (j - 1) (by omega) (by omega)
              omega
      · exact crow_inc m e0 i j hij (by omega)
/-- The field of 2. -/
def FB : FD := ⟨2, 2, 1, 0, 1⟩
theorem FB_in : FB ∈ fieldsL := List.Mem.head _
theorem FB_ad : ∀ a b, a < 2 → b < 2 → FB.ad a b = (a + b) % 2 := fun a b ha hb => by
  have h : (List.range 2).all (fun a => (List.range 2).all fun b => FB.ad a b == (a + b) % 2) = true := by decide +kernel
  exact eq_of_beq (List.all_eq_true.1 (List.all_eq_true.1 h a (List.mem_range.2 ha)) b (List.mem_range.2 hb))
theorem FB_mul : ∀ a, a < 2 → FB.mul a 1 = a := fun a ha => by
  have h : (List.range 2).all (fun a => FB.mul a 1 == a) = true := by decide +kernel
  exact eq_of_beq (List.all_eq_true.1 h a (List.mem_range.2 ha))
/-- A check as a row. -/
def rowI (z : Nat → Int) : Nat → Nat → Nat
  | 0 => pnil
  | l + 1 => fun t => if t = (z l).toNat then 1 else rowI z l t
theorem rowI_no {z : Nat → Int} {p : Nat} : ∀ l, (∀ j, j < l → (z j).toNat ≠ p) → rowI z l p = 0
  | 0, _ => rfl
  | l + 1, h => by
    show (if p = (z l).toNat then 1 else rowI z l p) = 0
    rw [if_neg (fun e => h l (by omega) e.symm)]
    exact rowI_no l (fun j hj => h j (by omega))
theorem rowI_el {z : Nat → Int} : ∀ l, El FB (rowI z l)
  | 0 => fun _ => by show 0 < 2; omega
  | l + 1 => fun t => by
    show (if t = (z l).toNat then 1 else rowI z l t) < 2
    split
    · omega
    · exact rowI_el l t
theorem rowI_bd {n : Nat} {z : Nat → Int} : ∀ l, (∀ j, j < l → 0 ≤ z j ∧ z j < (n : Int)) → Bd n (rowI z l)
  | 0, _ => fun _ _ => rfl
  | l + 1, h => fun t ht => by
    show (if t = (z l).toNat then 1 else rowI z l t) = 0
    have := h l (by omega)
    rw [if_neg (by omega)]
    exact rowI_bd l (fun j hj => h j (by omega)) t ht
theorem dot_row {n : Nat} {z : Nat → Int} {v : Nat → Nat} (hv : El FB v) : ∀ l, crow (n : Int) z l = 0 → (∀ j, j < l → 0 ≤ z j ∧ z j < (n : Int)) → dot FB (rowI z l) v n = par (fun p => ((v p : Nat) : Int)) z l
  | 0, _, _ => dot_nil (fld FB_in) v n
  | l + 1, h, hz => by
    have h0 : crow (n : Int) z l = 0 := Classical.byContradiction fun e => e (by rw [← crow_to e (show l ≤ l + 1 by omega)]; exact h)
    have ih := dot_row hv l h0 (fun j hj => hz j (by omega))
    have hzl := hz l (by omega)
    have hno : rowI z l (z l).toNat = 0 := rowI_no l (fun j hj e => by
      have h1 := crow_inc (l + 1) h j l hj (by omega)
      have h2 := hz j (by omega)
      omega)
    have hq : v (z l).toNat < 2 := hv _
    have hp := par_lt (fun p => ((v p : Nat) : Int)) z l
    rw [dot_comm (fld FB_in)]
    have e := dot_put (fld FB_in) (a := v) (b := rowI z l) (j := (z l).toNat) (v := 1) hno n (by omega)
    show dot FB v (fun t => if t = (z l).toNat then 1 else rowI z l t) n = _
    rw [e, dot_comm (fld FB_in), ih, FB_mul _ hq, FB_ad _ _ hp hq]
    by_cases hv1 : v (z l).toNat = 1
    · rw [par_one (by show ((v (z l).toNat : Nat) : Int) = 1; rw [hv1]; rfl), hv1]
    · rw [par_not (by show ((v (z l).toNat : Nat) : Int) ≠ 1; omega)]
      have : v (z l).toNat = 0 := by omega
      rw [this]
      omega
end Go.Proofs.Ytjkncdmbcckcdab
