/- Texts of ours, one behind the other: S17 S18 I32 I33. -/
import Derived.Test.YtbpeahhhkcljeaaZI29
/- Plain mathematics: words without a place; the dual of the punctured dual. No Go text here. -/
namespace Go.Proofs.Ytbpeahhhkcljeaa

/-- A word without place a. -/
def wo (a : Nat) (v : Nat → Nat) : Nat → Nat := fun j => if j < a then v j else v (j + 1)
/-- A word with 0 put in at place a. -/
def wi (a : Nat) (u : Nat → Nat) : Nat → Nat := fun j => if j < a then u j else if j = a then 0 else u (j - 1)
theorem wo_wi (a : Nat) (u : Nat → Nat) : wo a (wi a u) = u := by
  funext j
  unfold wo wi
  by_cases h : j < a
  · rw [if_pos h, if_pos h]
  · rw [if_neg h, if_neg (by omega), if_neg (by omega), Nat.add_sub_cancel]
theorem wi_wo {a : Nat} {v : Nat → Nat} (h : v a = 0) : wi a (wo a v) = v := by
  funext j
  show (if j < a then (if j < a then v j else v (j + 1)) else if j = a then 0 else (if j - 1 < a then v (j - 1) else v (j - 1 + 1))) = v j
  by_cases h1 : j < a
  · rw [if_pos h1, if_pos h1]
  · rw [if_neg h1]
    by_cases h2 : j = a
    · rw [if_pos h2, h2, h]
    · rw [if_neg h2, if_neg (by omega), Nat.sub_add_cancel (by omega)]
theorem wo_el {D : FD} {a : Nat} {v : Nat → Nat} (h : El D v) : El D (wo a v) := fun j => by unfold wo; split <;> exact h _
theorem wi_el {D : FD} (F : Fld D) {a : Nat} {u : Nat → Nat} (h : El D u) : El D (wi a u) := fun j => by
  unfold wi
  split
  · exact h _
  · split
    · exact zero_lt' F
    · exact h _
theorem wo_bd {a n : Nat} {v : Nat → Nat} (ha : a < n) (h : Bd n v) : Bd (n - 1) (wo a v) := fun j hj => by
  unfold wo
  rw [if_neg (by omega)]; exact h _ (by omega)
theorem wi_bd {a n : Nat} {u : Nat → Nat} (ha : a < n) (h : Bd (n - 1) u) : Bd n (wi a u) := fun j hj => by
  unfold wi
  rw [if_neg (by omega), if_neg (by omega)]; exact h _ (by omega)
theorem wo_add (D : FD) (a : Nat) (u v : Nat → Nat) : wo a (padd D u v) = padd D (wo a u) (wo a v) := by
  funext j
  show (if j < a then D.ad (u j) (v j) else D.ad (u (j + 1)) (v (j + 1))) = D.ad (if j < a then u j else u (j + 1)) (if j < a then v j else v (j + 1))
  split <;> rfl
theorem wo_scale (D : FD) (a s : Nat) (v : Nat → Nat) : wo a (pscale D s v) = pscale D s (wo a v) := by
  funext j
  show (if j < a then D.mul s (v j) else D.mul s (v (j + 1))) = D.mul s (if j < a then v j else v (j + 1))
  split <;> rfl
theorem wo_nil (a : Nat) : wo a pnil = pnil := by
  funext j
  show (if j < a then 0 else 0) = 0
  split <;> rfl
/-- What is spanned without a place is what is spanned, without it. -/
theorem spn_wo {D : FD} (F : Fld D) {a k : Nat} {R : Nat → Nat → Nat} (hR : ∀ i, i < k → El D (R i)) (u : Nat → Nat) : Spn D (RowsOf k fun i => wo a (R i)) u ↔ ∃ v, Spn D (RowsOf k R) v ∧ u = wo a v := by
  constructor
  · intro h
    refine spn_ind (Q := fun u => ∃ v, Spn D (RowsOf k R) v ∧ u = wo a v) ⟨pnil, spn_nil D _, (wo_nil a).symm⟩ ?_ ?_ ?_ h
    · rintro u w ⟨v, hv, rfl⟩ ⟨v', hv', rfl⟩
      exact ⟨_, spn_add F hv hv', (wo_add D a v v').symm⟩
    · rintro s u ⟨v, hv, rfl⟩
      exact ⟨_, spn_scale F s hv, (wo_scale D a s v).symm⟩
    · rintro u ⟨i, hi, e⟩
      exact ⟨R i, spn_mem F (hR i hi) ⟨i, hi, rfl⟩, e⟩
  · rintro ⟨v, hv, rfl⟩
    refine spn_ind (Q := fun v => Spn D (RowsOf k fun i => wo a (R i)) (wo a v)) (by rw [wo_nil]; exact spn_nil D _) (fun u w hu hw => by rw [wo_add]; exact spn_add F hu hw) (fun s u hu => by rw [wo_scale]; exact spn_scale F s hu) (fun u ⟨i, hi, e⟩ => by rw [e]; exact spn_mem F (wo_el (hR i hi)) ⟨i, hi, rfl⟩) hv
theorem dot_lo {D : FD} (v u : Nat → Nat) (a : Nat) : ∀ m, m ≤ a → dot D v (wi a u) m = dot D (wo a v) u m := fun m hm =>
  dot_congr m (fun j hj => ⟨by unfold wo; rw [if_pos (by omega)], by unfold wi; rw [if_pos (by omega)]⟩)
theorem dot_hi {D : FD} (F : Fld D) (v u : Nat → Nat) (a : Nat) : ∀ d, dot D v (wi a u) (a + d + 1) = dot D (wo a v) u (a + d)
  | 0 => by
    show D.ad (dot D v (wi a u) a) (D.mul (v a) (wi a u a)) = _
    have e : wi a u a = 0 := by unfold wi; rw [if_neg (by omega), if_pos rfl]
    rw [e, mul0 F, ad_zero F (dot_lt F _ _ _)]
    exact dot_lo v u a a (Nat.le_refl _)
  | d + 1 => by
    show D.ad (dot D v (wi a u) (a + d + 1)) (D.mul (v (a + d + 1)) (wi a u (a + d + 1))) = D.ad (dot D (wo a v) u (a + d)) (D.mul (wo a v (a + d)) (u (a + d)))
    have e1 : wi a u (a + d + 1) = u (a + d) := by unfold wi; rw [if_neg (by omega), if_neg (by omega), Nat.add_sub_cancel]
    have e2 : wo a v (a + d) = v (a + d + 1) := by unfold wo; rw [if_neg (by omega)]
    rw [dot_hi F v u a d, e1, e2]
theorem dot_without {D : FD} (F : Fld D) (v u : Nat → Nat) {a n : Nat} (ha : a < n) : dot D v (wi a u) n = dot D (wo a v) u (n - 1) := by
  obtain ⟨d, hd⟩ : ∃ d, n = a + d + 1 := ⟨n - a - 1, by omega⟩
  subst hd
  exact dot_hi F v u a d
/-- The dual of the punctured dual: the words of the code that are 0 there, without the place. -/
theorem dul_wo {D : FD} (F : Fld D) {n m k2 k3 k4 a : Nat} {M R2 R3 R4 : Nat → Nat → Nat} (ha : a < n) (hM : ∀ i, i < m → El D (M i) ∧ Bd n (M i)) (h : Dul D n m M k2 R2) (hr : Red D (n - 1) k2 (fun i => wo a (R2 i)) k3 R3) (hd : Dul D (n - 1) k3 R3 k4 R4) (u : Nat → Nat) : Spn D (RowsOf k4 R4) u ↔ El D u ∧ Bd (n - 1) u ∧ Spn D (RowsOf m M) (wi a u) := by
  have hR2 := h.rows
  have hR3 := hr.rows
  rw [hd.iff F hR3.1 u, h.back F hM (wi a u)]
  obtain ⟨p, _, hs⟩ := hr
  constructor
  · rintro ⟨e1, e2, e3⟩
    refine ⟨e1, e2, wi_el F e1, wi_bd ha e2, fun i hi => ?_⟩
    rw [dot_without F _ _ ha]
    have h1 := (hs (wo a (R2 i))).2 (spn_mem F (wo_el (hR2.1 i hi)) ⟨i, hi, rfl⟩)
    exact dot_spn F h1 (fun x ⟨j, hj, e⟩ => by rw [e]; exact e3 j hj)
  · rintro ⟨e1, e2, _, _, e3⟩
    refine ⟨e1, e2, fun i hi => ?_⟩
    have h1 := (hs (R3 i)).1 (spn_mem F (hR3.1 i hi) ⟨i, hi, rfl⟩)
    exact dot_spn F h1 (fun x ⟨j, hj, e⟩ => by
      have e' : x = wo a (R2 j) := e
      rw [e', ← dot_without F _ _ ha]; exact e3 j hj)
end Go.Proofs.Ytbpeahhhkcljeaa

/- Plain mathematics: the rows that are left where one place is 0. No Go text here. -/
namespace Go.Proofs.Ytbpeahhhkcljeaa

/-- The first of i rows that is not 0 at place a. -/
def shF (M : Nat → Nat → Nat) (a : Nat) : Nat → Option Nat
  | 0 => none
  | i + 1 => match shF M a i with
    | some f => some f
    | none => if M i a = 0 then none else some i
/-- The others, that one taken from them so often that they are 0 there. -/
def shL (D : FD) (M : Nat → Nat → Nat) (a : Nat) : Nat → List (Nat → Nat)
  | 0 => []
  | i + 1 => match shF M a i with
    | none => if M i a = 0 then shL D M a i ++ [M i] else shL D M a i
    | some f => if M i a = 0 then shL D M a i ++ [M i] else shL D M a i ++ [plss D (M i) (M f) (D.mul (M i a) (D.pw (M f a) (D.q - 2)))]
def InL (l : List (Nat → Nat)) (v : Nat → Nat) : Prop := v ∈ l
theorem inL_more {D : FD} {l m : List (Nat → Nat)} {v : Nat → Nat} (h : Spn D (InL l) v) : Spn D (InL (l ++ m)) v := by
  obtain ⟨s, h1, h2⟩ := h
  exact ⟨s, fun x hx => List.mem_append.2 (Or.inl (h1 x hx)), h2⟩
theorem shF_lt {M : Nat → Nat → Nat} {a : Nat} : ∀ {i f : Nat}, shF M a i = some f → f < i ∧ M f a ≠ 0
  | 0, f, h => by cases h
  | i + 1, f, h => by
    unfold shF at h
    cases e : shF M a i with
    | some g =>
      rw [e] at h
      cases h
      have := shF_lt e
      exact ⟨by omega, this.2⟩
    | none =>
      rw [e] at h
      by_cases h0 : M i a = 0
      · rw [if_pos h0] at h; cases h
      · rw [if_neg h0] at h; cases h; exact ⟨by omega, h0⟩
/-- Each of them is one of the code's words, and 0 there. -/
theorem shL_ok {D : FD} (hD : D ∈ fieldsL) {M : Nat → Nat → Nat} {a m n : Nat} (hM : ∀ i, i < m → El D (M i) ∧ Bd n (M i)) : ∀ i, i ≤ m → ∀ x, x ∈ shL D M a i → (El D x ∧ Bd n x) ∧ x a = 0 ∧ Spn D (RowsOf m M) x
  | 0, _, x, hx => by cases hx
  | i + 1, hi, x, hx => by
    have F := fld hD
    have ih := shL_ok (a := a) hD hM i (by omega)
    have hrow : Spn D (RowsOf m M) (M i) := spn_mem F (hM i (by omega)).1 ⟨i, by omega, rfl⟩
    have hz : M i a = 0 → x ∈ shL D M a i ++ [M i] → (El D x ∧ Bd n x) ∧ x a = 0 ∧ Spn D (RowsOf m M) x := fun h0 h => by
      rcases List.mem_append.1 h with h | h
      · exact ih x h
      · rw [List.mem_singleton.1 h]; exact ⟨hM i (by omega), h0, hrow⟩
    unfold shL at hx
    cases e : shF M a i with
    | none =>
      rw [e] at hx
      by_cases h0 : M i a = 0
      · rw [if_pos h0] at hx; exact hz h0 hx
      · rw [if_neg h0] at hx; exact ih x hx
    | some f =>
      rw [e] at hx
      replace hx : x ∈ (if M i a = 0 then shL D M a i ++ [M i] else shL D M a i ++ [plss D (M i) (M f) (D.mul (M i a) (D.pw (M f a) (D.q - 2)))]) := hx
      obtain ⟨hf, hfa⟩ := shF_lt e
      by_cases h0 : M i a = 0
      · rw [if_pos h0] at hx; exact hz h0 hx
      · rw [if_neg h0] at hx
        rcases List.mem_append.1 hx with h | h
        · exact ih x h
        · rw [List.mem_singleton.1 h]
          have ef := hM f (by omega)
          have ei := hM i (by omega)
          refine ⟨⟨plss_el F _ _ ei.1, plss_bd F _ ei.2 ef.2⟩, ?_, plss_spn F _ hrow (spn_mem F ef.1 ⟨f, by omega, rfl⟩)⟩
          show D.sb (M i a) (D.mul (D.mul (M i a) (D.pw (M f a) (D.q - 2))) (M f a)) = 0
          rw [F.mul_assoc, F.mul_comm (D.pw (M f a) (D.q - 2)), inv_is hD (ef.1 a) hfa, mul1 F (ei.1 a), sb_self F (ei.1 a)]
/-- They and the one span it all. -/
theorem shL_all {D : FD} (hD : D ∈ fieldsL) {M : Nat → Nat → Nat} {a m n : Nat} (hM : ∀ i, i < m → El D (M i) ∧ Bd n (M i)) : ∀ i, i ≤ m → (shF M a i = none → ∀ v, Spn D (RowsOf i M) v → Spn D (InL (shL D M a i)) v) ∧ (∀ f, shF M a i = some f → ∀ v, Spn D (RowsOf i M) v → Spn D (Wth (InL (shL D M a i)) (M f)) v)
  | 0, _ => ⟨fun _ v hv => spn_le (fld hD) (fun u ⟨j, hj, _⟩ => absurd hj (by omega)) hv, fun f h => by cases h⟩
  | i + 1, hi => by
    have F := fld hD
    obtain ⟨ih1, ih2⟩ := shL_all (a := a) hD hM i (by omega)
    have ei := hM i (by omega)
    have hmem : ∀ (l : List (Nat → Nat)) (x : Nat → Nat), x ∈ l ++ [x] := fun l x => List.mem_append.2 (Or.inr (List.mem_singleton.2 rfl))
    have hup : ∀ (l m : List (Nat → Nat)) (r u : Nat → Nat), Spn D (Wth (InL l) r) u → Spn D (Wth (InL (l ++ m)) r) u := fun l m r u ⟨s, h1, h2⟩ => ⟨s, fun x hx => (h1 x hx).elim (fun h => Or.inl (List.mem_append.2 (Or.inl h))) Or.inr, h2⟩
    have hold : ∀ u j, j < i + 1 → u = M j → j ≠ i → Spn D (RowsOf i M) u := fun u j hj eu ej => spn_mem F (by rw [eu]; exact (hM j (by omega)).1) ⟨j, by omega, eu⟩
    cases e : shF M a i with
    | none =>
      by_cases h0 : M i a = 0
      · have e1 : shF M a (i + 1) = none := by unfold shF; rw [e]; exact if_pos h0
        have e2 : shL D M a (i + 1) = shL D M a i ++ [M i] := by rw [shL, e]; exact if_pos h0
        refine ⟨fun _ v hv => ?_, fun f h => by rw [e1] at h; cases h⟩
        rw [e2]
        refine spn_le F (fun u ⟨j, hj, eu⟩ => ?_) hv
        by_cases ej : j = i
        · rw [eu, ej]; exact spn_mem F ei.1 (hmem _ _)
        · exact inL_more (ih1 e u (hold u j hj eu ej))
      · have e1 : shF M a (i + 1) = some i := by unfold shF; rw [e]; exact if_neg h0
        have e2 : shL D M a (i + 1) = shL D M a i := by rw [shL, e]; exact if_neg h0
        refine ⟨fun h => (by rw [e1] at h; cases h), fun f h v hv => ?_⟩
        rw [e1] at h
        cases h
        rw [e2]
        refine spn_le F (fun u ⟨j, hj, eu⟩ => ?_) hv
        by_cases ej : j = i
        · rw [eu, ej]; exact spn_mem F ei.1 (Or.inr rfl)
        · exact spn_in (ih1 e u (hold u j hj eu ej))
    | some g =>
      have e1 : shF M a (i + 1) = some g := by unfold shF; rw [e]
      obtain ⟨hg, hga⟩ := shF_lt e
      have eg := hM g (by omega)
      refine ⟨fun h => (by rw [e1] at h; cases h), fun f h v hv => ?_⟩
      rw [e1] at h
      cases h
      by_cases h0 : M i a = 0
      · have e2 : shL D M a (i + 1) = shL D M a i ++ [M i] := by rw [shL, e]; exact if_pos h0
        rw [e2]
        refine spn_le F (fun u ⟨j, hj, eu⟩ => ?_) hv
        by_cases ej : j = i
        · rw [eu, ej]; exact spn_mem F ei.1 (Or.inl (hmem _ _))
        · exact hup _ _ _ _ (ih2 g e u (hold u j hj eu ej))
      · have e2 : shL D M a (i + 1) = shL D M a i ++ [plss D (M i) (M g) (D.mul (M i a) (D.pw (M g a) (D.q - 2)))] := by rw [shL, e]; exact if_neg h0
        rw [e2]
        refine spn_le F (fun u ⟨j, hj, eu⟩ => ?_) hv
        by_cases ej : j = i
        · rw [eu, ej, ← plss_add F (M g) (D.mul (M i a) (D.pw (M g a) (D.q - 2))) ei.1]
          exact spn_add F (spn_scale F _ (spn_mem F eg.1 (Or.inr rfl))) (spn_mem F (plss_el F _ _ ei.1) (Or.inl (by rw [plss_add F (M g) _ ei.1]; exact hmem _ _)))
        · exact hup _ _ _ _ (ih2 g e u (hold u j hj eu ej))
theorem one_row {D : FD} (hD : D ∈ fieldsL) {r y : Nat → Nat} {a : Nat} (er : El D r) (hr : r a ≠ 0) (h : Spn D (fun v => v = r) y) : y = pscale D (D.mul (y a) (D.pw (r a) (D.q - 2))) r := by
  have F := fld hD
  refine (spn_ind (Q := fun y => El D y ∧ y = pscale D (D.mul (y a) (D.pw (r a) (D.q - 2))) r) ⟨el_nil F, ?_⟩ ?_ ?_ ?_ h).2
  · funext c
    show 0 = D.mul (D.mul 0 _) (r c)
    rw [zmul F, zmul F]
  · rintro u w ⟨eu, hu⟩ ⟨ew, hw⟩
    refine ⟨el_add F eu ew, ?_⟩
    funext c
    show D.ad (u c) (w c) = D.mul (D.mul (D.ad (u a) (w a)) (D.pw (r a) (D.q - 2))) (r c)
    rw [ad_mul F (eu a) (ew a), ad_mul F (F.mul_lt _ _) (F.mul_lt _ _)]
    exact congr (congrArg D.ad (congrFun hu c)) (congrFun hw c)
  · rintro s u ⟨eu, hu⟩
    refine ⟨el_scale F _ _, ?_⟩
    funext c
    show D.mul s (u c) = D.mul (D.mul (D.mul s (u a)) (D.pw (r a) (D.q - 2))) (r c)
    rw [F.mul_assoc, F.mul_assoc, ← F.mul_assoc (u a)]
    exact congrArg (D.mul s) (congrFun hu c)
  · rintro u rfl
    refine ⟨er, ?_⟩
    rw [inv_is hD (er a) hr, pscale_one F er]
/-- What the rows that are left span, without the place: the words that are 0 there. -/
theorem shL_spn {D : FD} (hD : D ∈ fieldsL) {M : Nat → Nat → Nat} {a m n : Nat} (hM : ∀ i, i < m → El D (M i) ∧ Bd n (M i)) (v : Nat → Nat) : Spn D (InL (shL D M a m)) v ↔ Spn D (RowsOf m M) v ∧ v a = 0 := by
  have F := fld hD
  have hok := shL_ok (a := a) hD hM m (Nat.le_refl _)
  have hza : ∀ b, Spn D (InL (shL D M a m)) b → b a = 0 := fun b hb => spn_ind (Q := fun b => b a = 0) rfl (fun u w hu hw => by show D.ad (u a) (w a) = 0; rw [hu, hw, ad_zero F (zero_lt' F)]) (fun s u hu => by show D.mul s (u a) = 0; rw [hu, mul0 F]) (fun u hu => (hok u hu).2.1) hb
  constructor
  · intro h
    exact ⟨spn_le F (fun u hu => (hok u hu).2.2) h, hza v h⟩
  · rintro ⟨h, h0⟩
    obtain ⟨a1, a2⟩ := shL_all (a := a) hD hM m (Nat.le_refl _)
    cases e : shF M a m with
    | none => exact a1 e v h
    | some f =>
      obtain ⟨hf, hfa⟩ := shF_lt e
      have ef := hM f hf
      have h1 := a2 f e v h
      obtain ⟨b, y, hb, hy, ev⟩ := spn_eth F (U := InL (shL D M a m)) (V := fun v => v = M f) (fun u hu => (hok u hu).1.1) (fun u hu => by rw [hu]; exact ef.1) (v := v) h1
      have hy0 : y a = 0 := by
        have := congrFun ev a
        rw [h0] at this
        have h2 : 0 = D.ad (b a) (y a) := this
        rw [hza b hb, zero_ad F (hy.el F a)] at h2
        exact h2.symm
      have h3 := one_row hD ef.1 hfa hy
      rw [hy0, zmul F] at h3
      have h4 : y = pnil := by rw [h3]; funext c; exact zmul F _
      rw [ev, h4, padd_nil F (hb.el F)]
      exact hb
end Go.Proofs.Ytbpeahhhkcljeaa

/- A word without a place (the reference's Without). -/
namespace Go.Proofs.Ytbpeahhhkcljeaa
open Go.RowKit Go.Sort

theorem zl_wo (a n : Nat) (f : Nat → Nat) (ha : a < n) : zl a (fun j => ((f j : Nat) : Int)) ++ zl (n - (a + 1)) (fun j => ((f (a + 1 + j) : Nat) : Int)) = zl (n - 1) fun j => ((wo a f j : Nat) : Int) := by
  apply List.ext_getElem?
  intro i
  unfold zl
  by_cases h1 : i < a
  · rw [List.getElem?_append_left (by simpa using h1)]
    simp only [List.getElem?_map]
    rw [List.getElem?_range h1, List.getElem?_range (by omega)]
    show some ((f i : Nat) : Int) = some ((if i < a then f i else f (i + 1) : Nat) : Int)
    rw [if_pos h1]
  · rw [List.getElem?_append_right (by simpa using h1)]
    simp only [List.getElem?_map, List.length_map, List.length_range]
    by_cases h2 : i < n - 1
    · rw [List.getElem?_range (by omega), List.getElem?_range h2]
      show some ((f (a + 1 + (i - a)) : Nat) : Int) = some ((if i < a then f i else f (i + 1) : Nat) : Int)
      rw [if_neg h1, show a + 1 + (i - a) = i + 1 by omega]
    · rw [List.getElem?_eq_none (by simp; omega), List.getElem?_eq_none (by simp; omega)]
      rfl

set_option maxHeartbeats 4000000 in
set_option maxRecDepth 100000 in
theorem without_any {b off n cx a : Nat} {f : Nat → Nat} {w : World} (ha : a < n) (hn : n ≤ 1000) (hcx : n ≤ cx) (hc : cx ≤ 9223372036854775807) (hS : Sl (some ⟨b, off, none⟩) n f w) (hl : b < w.heap.size) :
    Calls Try.prog 101 #[.slice (some ⟨b, off, none⟩) n cx, .int .i64 (a : Nat)] w fun e w' => ∃ v, e = .returned v ∧ OwnI w.heap.size v (zl (n - 1) fun j => ((wo a f j : Nat) : Int)) w' ∧ Below w.heap.size w w' := by
  have HS : Hid (Sl (some ⟨b, off, none⟩) n f w) := hS
  clear hS
  have h0 : (0 : Int) ≤ (a : Int) := by omega
  have h1 : (a : Int) ≤ (cx : Int) := by omega
  go_enter Try.func101, Try.ntmps101
  go_wp2_with fail
  refine (copyI_any (n := a) (z := fun j => ((f j : Nat) : Int)) (fun j hj => HS.out j (by omega)) (by omega) (fun h => by cases h) (fun x hx => by cases hx; exact hl)).mono ?_
  rintro e w1 ⟨v1, rfl, ho1, hb1⟩
  have H1 : Hid (OwnI w.heap.size v1 (zl a fun j => ((f j : Nat) : Int)) w1 ∧ Below w.heap.size w w1) := ⟨ho1, hb1⟩
  clear ho1 hb1
  have h2 : (0 : Int) ≤ (a : Int) + 1 := by omega
  have h3 : (a : Int) + 1 ≤ (n : Int) := by omega
  have h4 : (n : Int) ≤ (cx : Int) := by omega
  have hsz := H1.out.2.size
  have HS1 : Hid (SlZ (some ⟨b, off + (a + 1), none⟩) (n - (a + 1)) (fun j => ((f (a + 1 + j) : Nat) : Int)) w1) := fun j hj => by
    obtain ⟨b', off', e, hcell⟩ := HS.out (a + 1 + j) (by omega)
    cases e
    refine ⟨b, off + (a + 1), rfl, ?_⟩
    rw [show off + (a + 1) + j = off + (a + 1 + j) by omega]
    exact ((bcell H1.out.2).1 b (off + (a + 1 + j)) hl).trans hcell
  by_cases hca : cx = a + 1
  · have hna : n = a + 1 := by omega
    subst hna
    have e0 : a + 1 - (a + 1) = 0 := by omega
    go_wp2_with (at_builtin; refine append_ints rfl _ _ rfl w.heap.size _ (zl a fun j => ((f j : Nat) : Int)) rfl H1.out.1 _ 0 _ (fun _ => 0) rfl (fun j hj => absurd hj (by omega)) (fun h => by cases h) (by rw [zl_len]; omega) hsz ?_; intro v5 w5 hown5 hgrow5)
    have HR : Hid (OwnI w.heap.size v5 (zl (a + 1 - 1) fun j => ((wo a f j : Nat) : Int)) w5 ∧ Below w.heap.size w w5) := by
      refine ⟨?_, H1.out.2.grown hgrow5 hsz (fun k hk => (H1.out.1.lt k hk).1)⟩
      have h := zl_wo a (a + 1) f (by omega)
      rw [e0] at h
      rw [← h]; exact hown5
    clear hown5 hgrow5
    go_ret
    exact ⟨_, rfl, HR.out⟩
  · go_wp2_with (at_builtin; refine append_ints rfl _ _ rfl w.heap.size _ (zl a fun j => ((f j : Nat) : Int)) rfl H1.out.1 _ (n - (a + 1)) _ (fun j => ((f (a + 1 + j) : Nat) : Int)) rfl HS1.out (fun h => by cases h) (by rw [zl_len]; omega) hsz ?_; intro v5 w5 hown5 hgrow5)
    have HR : Hid (OwnI w.heap.size v5 (zl (n - 1) fun j => ((wo a f j : Nat) : Int)) w5 ∧ Below w.heap.size w w5) := by
      refine ⟨?_, H1.out.2.grown hgrow5 hsz (fun k hk => (H1.out.1.lt k hk).1)⟩
      rw [← zl_wo a n f ha]; exact hown5
    clear hown5 hgrow5
    go_ret
    exact ⟨_, rfl, HR.out⟩
end Go.Proofs.Ytbpeahhhkcljeaa

/- A code without a place (the reference's Punctured). -/
namespace Go.Proofs.Ytbpeahhhkcljeaa
open Go.RowKit Go.Sort

theorem zl_cast_getD (n : Nat) (c : Nat → Nat) (k : Nat) (hk : k < (zl n fun j => ((c j : Nat) : Int)).length) : (zl n fun j => ((c j : Nat) : Int)).getD k 0 = (c k : Nat) := by
  rw [zl_len] at hk
  exact zl_getD _ _ _ hk
theorem own_elm {base n2 : Nat} {v : Value} {c : Nat → Nat} {w : World} (h : OwnI base v (zl (n2 + 1) fun j => ((c j : Nat) : Int)) w) : Elm v (n2, c) w := by
  have h1 := h.ownC c (fun k hk => zl_cast_getD _ _ _ hk)
  rw [zl_len] at h1
  exact h1.elm

set_option maxHeartbeats 8000000 in
set_option maxRecDepth 100000 in
theorem rpunct_any {D : FD} (hD : D ∈ fieldsL) {ao : Option Addr} {m n n2 ca a : Nat} {M : Nat → Nat → Nat} {w : World} (hm : m ≤ 900) (hn : n ≤ 64) (hnn : n = n2 + 2) (ha : a < n) (hel : ∀ i, i < m → El D (M i) ∧ Bd n (M i)) (hA : MatR ao m (n2 + 1) M w) :
    Calls Try.prog 73 #[.agg #[.int .i64 D.q, .int .i64 (n : Nat), .slice ao m ca], .int .i64 (a : Nat)] w fun e w' => ∃ k R ro rc, e = .returned (.agg #[.int .i64 D.q, .int .i64 (n2 + 1 : Nat), .slice ro k rc]) ∧ LLs w.heap.size (.slice ro k rc) (rl k n2 R) w' ∧ Red D (n2 + 1) m (fun i => wo a (M i)) k R ∧ Below w.heap.size w w' := by
  obtain ⟨w0, hw0⟩ : ∃ w0, w0 = (w.alloc (.cells #[.int .i64 D.q, .int .i64 (n : Nat), .slice ao m ca] 43)).alloc (.cells #[.int .i64 0, .int .i64 0, .slice none 0 0] 43) := ⟨_, rfl⟩
  have HW : Hid (Below w.heap.size w w0 ∧ CB w.heap.size D.q n (.slice ao m ca) w0 ∧ RB (w.heap.size + 1) w0 ∧ RBt (w.heap.size + 1) w0 ∧ w0.heap.size = w.heap.size + 2) := by
    obtain ⟨h1, h2, h3, h4⟩ := two_boxes D.q n 0 0 (.slice ao m ca) (.slice none 0 0) w
    have h6 := RBt.new #[.int .i64 0, .int .i64 0, .slice none 0 0] (w.alloc (.cells #[.int .i64 D.q, .int .i64 (n : Nat), .slice ao m ca] 43))
    rw [show (w.alloc (.cells #[.int .i64 D.q, .int .i64 (n : Nat), .slice ao m ca] 43)).heap.size = w.heap.size + 1 by simp] at h6
    rw [hw0]; exact ⟨h1, h2, RB.of h3 h6, h6, h4⟩
  have HA : Hid (D ∈ fieldsL ∧ (∀ i, i < m → El D (M i) ∧ Bd n (M i)) ∧ MatR ao m (n2 + 1) M w ∧ n = n2 + 2 ∧ a < n) := ⟨hD, hel, hA, hnn, ha⟩
  obtain ⟨N1, hN1⟩ : ∃ N1, N1 = n2 + 1 := ⟨_, rfl⟩
  rw [← hN1]
  have hsub : ((n : Nat) : Int) - 1 = ((N1 : Nat) : Int) := by omega
  have HSub : Hid (((n : Nat) : Int) - 1 = ((N1 : Nat) : Int) ∧ N1 = n2 + 1) := ⟨hsub, hN1⟩
  have hn2 : n2 ≤ 62 := by omega
  clear hD hel hA hnn ha hsub hN1
  go_enter Try.func73, Try.ntmps73
  go_wp2
  rw [← hw0]
  clear hw0
  go_loopw [5, 6] (fun vl vi wr => ∃ i : Nat, i ≤ m ∧ vi = .int .i64 i ∧ Hid (LLs w0.heap.size vl (rl i n2 fun i => wo a (M i)) wr ∧ Below w0.heap.size w0 wr)) (fun _ vi _ => m - (intOf vi).toNat)
  case atStart => exact ⟨0, by omega, rfl, LLs.nil _ _, Below.refl _ _⟩
  case round =>
    obtain ⟨i, hi, rfl, HG⟩ := hrel
    rename World => wA
    obtain ⟨p0, p1, p2⟩ := HW.out.2.1.keep HG.out.2
    by_cases hlt : i < m
    · have hib : (i : Int) < (m : Int) := by omega
      have hib0 : (0 : Int) ≤ (i : Int) := by omega
      have hbw : Below w.heap.size w wA := bel_up' HW.out.1 HG.out.2
      obtain ⟨bR, oR, u, hao, hcr, hrw⟩ := (HA.out.2.2.1.below hbw) i hlt
      subst hao
      obtain ⟨xr, cx, hu, hsx, hlx, hnx, hle, hcap⟩ := hrw
      subst hu
      obtain ⟨bx, ox, hx, _⟩ := hsx 0 (by omega)
      subst hx
      have HP : Hid (Calls Try.prog 101 #[.slice (some ⟨bx, ox, none⟩) (n2 + 1 + 1) cx, .int .i64 (a : Nat)] wA fun e w' => ∃ v, e = .returned v ∧ OwnI wA.heap.size v (zl (n2 + 1) fun j => ((wo a (M i) j : Nat) : Int)) w' ∧ Below wA.heap.size wA w') :=
        without_any (by have := HA.out.2.2.2; omega) (by omega) hle hcap hsx (hlx _ rfl)
      clear hsx hlx hnx hle hcap hbw
      go_wp2_with fail
      refine HP.out.mono ?_
      rintro e wB ⟨v1, rfl, ho1, hb1⟩
      obtain ⟨lst, hov, hels⟩ := HG.out.1
      have hll : lst.length ≤ 1000000 := by rw [hels.1, rl_len]; omega
      have hel1 := own_elm ho1
      obtain ⟨g1, cg, ev1, _⟩ := hel1
      have HV : Hid (OwnV w0.heap.size u5 lst wB ∧ Elms lst (rl i n2 fun i => wo a (M i)) wB ∧ Elm v1 (n2, wo a (M i)) wB ∧ Below w0.heap.size w0 wB) := ⟨hov.below hb1 (Nat.le_refl _), hels.below hb1 (Nat.le_refl _), own_elm ho1, bel_up' HG.out.2 hb1⟩
      have hsB := HV.out.2.2.2.size
      subst ev1
      clear hov hels ho1 hb1 p0 p1 p2 hcr
      go_wp2_with (at_builtin; refine append_sl rfl _ _ rfl w0.heap.size u5 lst rfl (HV.out.1.below ((Below.refl _ _).alloc (Nat.le_refl _) _) (Nat.le_refl _)) ⟨wB.heap.size, 0, none⟩ 1 (.slice (some ⟨g1, 0, none⟩) (n2 + 1) cg) rfl rfl (by rw [cell_of_row _ _ _ _ _ (0, 0) (two_new _)]; rfl) hll (by simp; omega) ?_; intro v' w6 hown6 hg6)
      have hal : Below wB.heap.size wB (wB.alloc (.cells #[.slice (some ⟨g1, 0, none⟩) (n2 + 1) cg] 23)) := (Below.refl _ _).alloc (Nat.le_refl _) _
      have ho := HV.out.1.below hal (Nat.le_refl _)
      have HR : Hid (LLs w0.heap.size v' (rl (i + 1) n2 fun i => wo a (M i)) w6 ∧ Below w0.heap.size w0 w6) := by
        refine ⟨⟨_, hown6, ?_⟩, (bel_up' HV.out.2.2.2 hal).grown hg6 (by simp; omega) (fun k hk => ho.open_ge k hk)⟩
        have h := ((HV.out.2.1.below hal (Nat.le_refl _)).snoc (HV.out.2.2.1.below hal (Nat.le_refl _))).grown ho hg6
        rw [rl_succ]; exact h
      clear hown6 hg6 ho hal
      go_roundw
      case rel => exact ⟨i + 1, by omega, by go_num, HR.out⟩
      case measure => simp [intOf]; omega
    · have hib : ¬ (i : Int) < (m : Int) := by omega
      have hie : m = i := by omega
      subst hie
      obtain ⟨lo, lc, hv⟩ := HG.out.1.slc
      rw [rl_len] at hv
      subst hv
      go_wp2_with fail
      rw [HSub.out.1]
      have hrows : ∀ i, i < m → El D (wo a (M i)) ∧ Bd (n2 + 1) (wo a (M i)) := fun i hi => by
        have h := HA.out.2.1 i hi
        have e : n - 1 = n2 + 1 := by have := HA.out.2.2.2.1; omega
        exact ⟨wo_el h.1, by have h2 := wo_bd HA.out.2.2.2.2 h.2; rw [e] at h2; exact h2⟩
      refine (made_any HA.out.1 (n1 := n2) (by omega) (by have := HSub.out.2; omega) HSub.out.2 hrows HG.out.1.matR'.1).mono ?_
      rintro e w2 ⟨k, R, ro, rc, rfl, hl2, hr2, hb2⟩
      have H2 : Hid (LLs wA.heap.size (.slice ro k rc) (rl k n2 R) w2 ∧ Red D N1 m (fun i => wo a (M i)) k R ∧ Below w.heap.size w w2 ∧ RB (w.heap.size + 1) w2 ∧ RBt (w.heap.size + 1) w2 ∧ w.heap.size ≤ wA.heap.size) := by
        have hbb := bel_up' HG.out.2 hb2
        exact ⟨hl2, hr2, bel_up' HW.out.1 hbb, HW.out.2.2.1.keep hbb, HW.out.2.2.2.1.keep hbb, by have := HG.out.2.size; have := HW.out.1.size; omega⟩
      clear hl2 hr2 hb2 hrows p0 p1 p2
      obtain ⟨⟨x0, c0⟩, ⟨x1, c1⟩, ⟨x2, c2⟩, f0, f1, f2⟩ := H2.out.2.2.2.1
      go_wp2
      obtain ⟨w3, hw3⟩ : ∃ w3, w3 = laid w2 (w.heap.size + 1) D.q (N1 : Nat) (.slice ro k rc) := ⟨_, rfl⟩
      have H3 : Hid (CB (w.heap.size + 1) D.q (N1 : Nat) (.slice ro k rc) w3 ∧ LLs w.heap.size (.slice ro k rc) (rl k n2 R) w3 ∧ Below w.heap.size w w3) := by
        rw [hw3]; exact ⟨laid_cb H2.out.2.2.2.1 _ _ _, (H2.out.1.laid H2.out.2.2.2.2.1 _ _ _).mono H2.out.2.2.2.2.2, laid_below H2.out.2.2.1 (by omega) _ _ _⟩
      unfold laid at hw3
      rw [← hw3]
      clear hw3 c0 c1 c2 f0 f1 f2
      obtain ⟨c0, c1, c2⟩ := H3.out.1
      refine bodyPost_ret (v := .agg #[.int .i64 D.q, .int .i64 (N1 : Nat), .slice ro k rc]) (by simp [results, Try.results73, go_sem, c0, c1, c2]) rfl ?_
      exact ⟨_, R, _, _, rfl, H3.out.2.1, H2.out.2.1, H3.out.2.2⟩
end Go.Proofs.Ytbpeahhhkcljeaa
