/- Plain mathematics of polynomials, gone on: those that end with 1, in order; the least one that divides; parting by it, again and again. No Go text here. -/
import Derived.Test.YtillljojdnofgaaZV7
namespace Go.Proofs.Ytillljojdnofgaa

/-- A polynomial of degree d that ends with 1. -/
structure Mn (D : FD) (d : Nat) (c : Nat → Nat) : Prop where
  el : El D c
  bd : Bd (d + 1) c
  top : c d = 1
theorem Mn.trd {D : FD} {d : Nat} {c : Nat → Nat} (h : Mn D d c) : Trd (d + 1) c := ⟨h.bd, fun _ => by rw [Nat.add_sub_cancel, h.top]; omega⟩

/-- The first d coefficients as one number to the base q, the first one the greatest. -/
def dnum (q : Nat) (c : Nat → Nat) : Nat → Nat
  | 0 => 0
  | i + 1 => dnum q c i * q + c i
theorem dnum_lt {q : Nat} {c : Nat → Nat} : ∀ d, (∀ i, i < d → c i < q) → dnum q c d < q ^ d
  | 0, _ => by simp [dnum]
  | i + 1, h => by
    have h1 := dnum_lt i (fun j hj => h j (by omega))
    have h2 := h i (by omega)
    have h3 : (dnum q c i + 1) * q ≤ q ^ i * q := Nat.mul_le_mul_right q h1
    rw [Nat.add_mul, Nat.one_mul] at h3
    rw [dnum, Nat.pow_succ]
    omega
theorem dnum_congr {q : Nat} {c e : Nat → Nat} : ∀ d, (∀ i, i < d → c i = e i) → dnum q c d = dnum q e d
  | 0, _ => rfl
  | i + 1, h => by rw [dnum, dnum, dnum_congr i (fun j hj => h j (by omega)), h i (by omega)]
theorem dnum_inj {q : Nat} {c e : Nat → Nat} : ∀ d, (∀ i, i < d → c i < q) → (∀ i, i < d → e i < q) → dnum q c d = dnum q e d → ∀ i, i < d → c i = e i
  | 0, _, _, _, i, hi => by omega
  | n + 1, hc, he, h, i, hi => by
    have h1 := hc n (by omega)
    have h2 := he n (by omega)
    rw [dnum, dnum] at h
    have h3 : c n = e n := by
      have := congrArg (· % q) h
      simp only [Nat.mul_add_mod'] at this
      rwa [Nat.mod_eq_of_lt h1, Nat.mod_eq_of_lt h2] at this
    by_cases hin : i = n
    · rw [hin]; exact h3
    · refine dnum_inj n (fun j hj => hc j (by omega)) (fun j hj => he j (by omega)) ?_ i (by omega)
      exact Nat.eq_of_mul_eq_mul_right (show 0 < q by omega) (by omega)
/-- One counted up: nines behind place i turn to noughts. -/
theorem dnum_up {q : Nat} {c e : Nat → Nat} {i : Nat} (hq : 1 ≤ q) (he : ∀ j, j < i → e j = c j) (hi : e i = c i + 1) : ∀ k, (∀ j, i < j → j < i + 1 + k → c j = q - 1 ∧ e j = 0) → dnum q e (i + 1 + k) = dnum q c (i + 1 + k) + 1
  | 0, _ => by
    show dnum q e i * q + e i = dnum q c i * q + c i + 1
    rw [dnum_congr i he, hi]; omega
  | k + 1, h => by
    have h1 := dnum_up hq he hi k (fun j h1 h2 => h j h1 (by omega))
    have h2 := h (i + 1 + k) (by omega) (by omega)
    show dnum q e (i + 1 + k) * q + e (i + 1 + k) = dnum q c (i + 1 + k) * q + c (i + 1 + k) + 1
    rw [h1, h2.1, h2.2, Nat.add_mul, Nat.one_mul]; omega
theorem dnum_nines {q : Nat} {c : Nat → Nat} (hq : 1 ≤ q) : ∀ d, (∀ j, j < d → c j = q - 1) → dnum q c d + 1 = q ^ d
  | 0, _ => by simp [dnum]
  | d + 1, h => by
    have h1 := dnum_nines hq d (fun j hj => h j (by omega))
    rw [dnum, h d (by omega), Nat.pow_succ, ← h1, Nat.add_mul, Nat.one_mul]; omega
theorem dnum_zero (q : Nat) {c : Nat → Nat} : ∀ d, (∀ j, j < d → c j = 0) → dnum q c d = 0
  | 0, _ => rfl
  | d + 1, h => by rw [dnum, dnum_zero q d (fun j hj => h j (by omega)), h d (by omega)]; omega

theorem mn_ext {D : FD} {d : Nat} {x y : Nat → Nat} (hx : Mn D d x) (hy : Mn D d y) (h : dnum D.q x d = dnum D.q y d) : x = y := by
  funext k
  rcases Nat.lt_trichotomy k d with h1 | h1 | h1
  · exact dnum_inj d (fun i _ => hx.el i) (fun i _ => hy.el i) h k h1
  · rw [h1, hx.top, hy.top]
  · rw [hx.bd k (by omega), hy.bd k (by omega)]

/-- y (of degree e) is ahead of x (of degree d). -/
def Bef (D : FD) (e : Nat) (y : Nat → Nat) (d : Nat) (x : Nat → Nat) : Prop := e < d ∨ (e = d ∧ dnum D.q y e < dnum D.q x d)
/-- x' comes next behind x. -/
def Aft (D : FD) (d : Nat) (x : Nat → Nat) (d' : Nat) (x' : Nat → Nat) : Prop := (d' = d ∧ dnum D.q x' d' = dnum D.q x d + 1) ∨ (d' = d + 1 ∧ dnum D.q x d + 1 = D.q ^ d ∧ dnum D.q x' d' = 0)
theorem bef_irr {D : FD} {d : Nat} {x : Nat → Nat} : ¬ Bef D d x d x := by rintro (h | ⟨_, h⟩) <;> omega
theorem bef_aft {D : FD} {d d' e : Nat} {x x' y : Nat → Nat} (h : Aft D d x d' x') (hx : Mn D d x) (hy : Mn D e y) (hb : Bef D e y d' x') : Bef D e y d x ∨ (e = d ∧ y = x) := by
  have key : e = d → dnum D.q y e < dnum D.q x d + 1 → Bef D e y d x ∨ (e = d ∧ y = x) := by
    intro he hl
    by_cases h1 : dnum D.q y e = dnum D.q x d
    · subst he; exact Or.inr ⟨rfl, mn_ext hy hx h1⟩
    · exact Or.inl (Or.inr ⟨he, by omega⟩)
  rcases h with ⟨rfl, h2⟩ | ⟨rfl, h2, h3⟩
  · rcases hb with hb | ⟨he, hb⟩
    · exact Or.inl (Or.inl hb)
    · exact key he (by omega)
  · rcases hb with hb | ⟨he, hb⟩
    · by_cases he : e = d
      · refine key he ?_
        have := dnum_lt (q := D.q) (c := y) e (fun i _ => hy.el i)
        rw [h2, ← he]; exact this
      · exact Or.inl (Or.inl (by omega))
    · omega
theorem bef_tri {D : FD} {d e : Nat} {x y : Nat → Nat} (hx : Mn D d x) (hy : Mn D e y) (h1 : ¬ Bef D e y d x) (h2 : ¬ Bef D d x e y) : d = e ∧ x = y := by
  have hde : d = e := by
    rcases Nat.lt_trichotomy d e with h | h | h
    · exact absurd (Or.inl h) h2
    · exact h
    · exact absurd (Or.inl h) h1
  subst hde
  refine ⟨rfl, mn_ext hx hy ?_⟩
  rcases Nat.lt_trichotomy (dnum D.q x d) (dnum D.q y d) with h | h | h
  · exact absurd (Or.inr ⟨rfl, h⟩) h2
  · exact h
  · exact absurd (Or.inr ⟨rfl, h⟩) h1

theorem pone_bd : Bd 1 pone := fun k hk => by unfold pone; rw [if_neg (by omega)]
theorem mn_zero {D : FD} {c : Nat → Nat} (h : Mn D 0 c) : c = pone := by
  funext k
  unfold pone
  by_cases e : k = 0
  · rw [if_pos e, e, h.top]
  · rw [if_neg e, h.bd k (by omega)]
/-- A factor of one that ends with 1, by another that ends with 1, ends with 1. -/
theorem mn_quot {D : FD} (hD : D ∈ fieldsL) {da dx m : Nat} {a x b : Nat → Nat} (ha : Mn D da a) (hx : Mn D dx x) (hb : El D b) (hm : Bd m b) (h : a = pmul D m b x) : ∃ db, Mn D db b ∧ da = db + dx := by
  have F := fld hD
  by_cases h0 : dgn b m = 0
  · have hb0 : Bd 0 b := by have := dgn_bd hm; rwa [h0] at this
    have e : a da = 0 := by rw [h, pmul_zeros F x hb0]; rfl
    rw [ha.top] at e; cases e
  · obtain ⟨db, hdb⟩ : ∃ db, dgn b m = db + 1 := ⟨dgn b m - 1, by omega⟩
    have hbd : Bd (db + 1) b := by have := dgn_bd hm; rwa [hdb] at this
    have htop : b db ≠ 0 := by have := dgn_top b m h0; rwa [hdb, Nat.add_sub_cancel] at this
    have e1 : a = pmul D (db + 1) b x := by
      rw [h]
      have := dgn_le b m
      exact pmul_to F x hbd (by omega)
    have e2 : a (db + dx) = b db := by rw [e1, pmul_top F (a := b) hx.bd, hx.top, mul1 F (hb db)]
    have e3 : Bd (db + dx + 1) a := by
      rw [e1]
      have := pmul_bd F (a := b) hx.bd (db + 1)
      exact this.mono (by omega)
    have e4 : da ≤ db + dx := Nat.le_of_not_lt fun hl => by
      have := e3 da (by omega)
      rw [ha.top] at this; cases this
    have e5 : db + dx ≤ da := Nat.le_of_not_lt fun hl => htop (by rw [← e2]; exact ha.bd _ (by omega))
    have e6 : da = db + dx := by omega
    exact ⟨db, ⟨hb, hbd, by rw [← e2, ← e6, ha.top]⟩, e6⟩
theorem pd_other {D : FD} (F : Fld D) {m d : Nat} {a b x : Nat → Nat} (hb : El D b) (hm : Bd m b) (hx : El D x) (hd : Bd d x) (h : a = pmul D m b x) : PD D b a :=
  ⟨d, x, hx, hd, by rw [h]; exact pmul_comm F hb hx hm hd⟩

/-- x, of degree d, is the first of all that divide a, but for 1. -/
structure Lst (D : FD) (a : Nat → Nat) (d : Nat) (x : Nat → Nat) : Prop where
  mn : Mn D d x
  pos : 1 ≤ d
  dv : PD D x a
  least : ∀ e y, 1 ≤ e → Mn D e y → PD D y a → ¬ Bef D e y d x
theorem lst_uniq {D : FD} {a : Nat → Nat} {d e : Nat} {x y : Nat → Nat} (h1 : Lst D a d x) (h2 : Lst D a e y) : d = e ∧ x = y :=
  bef_tri h1.mn h2.mn (h1.least e y h2.pos h2.mn h2.dv) (h2.least d x h1.pos h1.mn h1.dv)
/-- What none of half its degree divides can't be parted. -/
theorem lst_last {D : FD} (hD : D ∈ fieldsL) {da : Nat} {a : Nat → Nat} (ha : Mn D da a) (h1 : 1 ≤ da) (h : ∀ e y, 1 ≤ e → Mn D e y → 2 * e ≤ da → ¬ PD D y a) : Lst D a da a := by
  have F := fld hD
  refine ⟨ha, h1, PD.refl F ha.el, fun e y he hy hd hb => ?_⟩
  by_cases h2 : 2 * e ≤ da
  · exact h e y he hy h2 hd
  · obtain ⟨m, b, eb, hm, e1⟩ := hd
    obtain ⟨db, hdb, e2⟩ := mn_quot hD ha hy eb hm e1
    by_cases h3 : 1 ≤ db
    · exact h db b h3 hdb (by omega) (pd_other F eb hm hy.el hy.bd e1)
    · have e3 : db = 0 := by omega
      subst e3
      have e4 := mn_zero hdb
      subst e4
      have e5 : a = y := by
        rw [e1, pmul_comm F eb hy.el hm hy.bd, pmul_one F hy.el hy.bd]
      subst e5
      rw [show e = da from by omega] at hb
      exact bef_irr hb

/-- The parts of a0 found so far, each the first that divides what was left; what is left now. -/
def Pre (D : FD) : List (Nat × (Nat → Nat)) → (Nat → Nat) → (Nat → Nat) → Prop
  | [], a0, a => a0 = a
  | p :: L, a0, a => Lst D a0 p.1 p.2 ∧ ∃ m b, El D b ∧ Bd m b ∧ a0 = pmul D m b p.2 ∧ Pre D L b a
theorem pre_snoc {D : FD} {a b x : Nat → Nat} {d m : Nat} (hl : Lst D a d x) (hb : El D b) (hm : Bd m b) (h : a = pmul D m b x) : ∀ L a0, Pre D L a0 a → Pre D (L ++ [(d, x)]) a0 b
  | [], a0, e => by
    have e : a0 = a := e
    subst e
    exact ⟨hl, m, b, hb, hm, h, rfl⟩
  | p :: L, a0, ⟨h1, m', b', h2, h3, h4, h5⟩ => ⟨h1, m', b', h2, h3, h4, pre_snoc hl hb hm h L b' h5⟩
theorem pre_whole {D : FD} (F : Fld D) {a : Nat → Nat} {d : Nat} (hl : Lst D a d a) {L : List (Nat × (Nat → Nat))} {a0 : Nat → Nat} (h : Pre D L a0 a) : Pre D (L ++ [(d, a)]) a0 pone := by
  refine pre_snoc hl (el_one F) pone_bd ?_ L a0 h
  rw [pmul_comm F (el_one F) hl.mn.el pone_bd hl.mn.bd, pmul_one F hl.mn.el hl.mn.bd]
theorem not_pd_one {D : FD} (F : Fld D) {d : Nat} {x : Nat → Nat} (hx : Mn D d x) (h : 1 ≤ d) : ¬ PD D x pone := by
  rintro ⟨m, b, eb, hm, e⟩
  have h1 : b = pnil := pmul_zero_of F hx.bd (by rw [hx.top]; omega) m hm (by rw [← e]; exact pone_bd.mono h)
  have h2 : pone 0 = 0 := by
    rw [e, h1, pmul_zeros F (a := pnil) x (fun _ _ => rfl)]; rfl
  cases h2
theorem pre_uniq {D : FD} (F : Fld D) : ∀ (L L' : List (Nat × (Nat → Nat))) (a0 : Nat → Nat), Pre D L a0 pone → Pre D L' a0 pone → L = L'
  | [], [], _, _, _ => rfl
  | [], p :: L', a0, h, h' => by
    have e : a0 = pone := h
    subst e
    exact absurd h'.1.dv (not_pd_one F h'.1.mn h'.1.pos)
  | p :: L, [], a0, h, h' => by
    have e : a0 = pone := h'
    subst e
    exact absurd h.1.dv (not_pd_one F h.1.mn h.1.pos)
  | p :: L, p' :: L', a0, ⟨h1, m, b, h2, h3, h4, h5⟩, ⟨k1, m', b', k2, k3, k4, k5⟩ => by
    obtain ⟨e1, e2⟩ := lst_uniq h1 k1
    have ep : p = p' := Prod.ext e1 e2
    subst ep
    have eb : b = b' := by
      have hN : pmul D (m + m') b p.2 = pmul D (m + m') b' p.2 := by rw [pmul_to F p.2 h3 (by omega), pmul_to F p.2 k3 (by omega), ← h4, ← k4]
      have := div_uniq F h1.mn.bd (by rw [h1.mn.top]; omega) h2 k2 (el_nil F) (el_nil F) (h3.mono (by omega : m ≤ m + m')) (k3.mono (by omega : m' ≤ m + m')) (fun _ _ => rfl) (fun _ _ => rfl) (by rw [hN])
      exact this.1
    subst eb
    rw [pre_uniq F L L' b h5 k5]
end Go.Proofs.Ytillljojdnofgaa
