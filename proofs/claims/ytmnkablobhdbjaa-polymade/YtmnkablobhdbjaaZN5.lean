/- Texts of ours, one behind the other: N5 N6. -/
import Derived.Test.YtmnkablobhdbjaaZN4
/- Plain mathematics of polynomials, gone on: through given places, step by step. No Go text here. -/
namespace Go.Proofs.Ytmnkablobhdbjaa

/-- The value of a polynomial of at most 1,000 coefficients. -/
def FD.vl (D : FD) (c : Nat → Nat) (x : Nat) : Nat := D.ev c x 1000
theorem vl_lt {D : FD} (F : Fld D) (c : Nat → Nat) (x : Nat) : D.vl c x < D.q := ev_lt F c x 1000
theorem vl_val {D : FD} (F : Fld D) {c : Nat → Nat} {n x : Nat} (hc : El D c) (hn : Bd n c) (hx : x < D.q) (h : n ≤ 1000) : D.val c n x n = D.vl c x := by
  rw [val_is F x n hc hx]; exact (ev_from F x hn h).symm
theorem vl_add {D : FD} (F : Fld D) {a b : Nat → Nat} (x : Nat) (ha : El D a) (hb : El D b) : D.vl (padd D a b) x = D.ad (D.vl a x) (D.vl b x) := ev_add F x ha hb 1000
theorem vl_scale {D : FD} (F : Fld D) (s x : Nat) (b : Nat → Nat) : D.vl (pscale D s b) x = D.mul s (D.vl b x) := ev_scale F s x b 1000
theorem vl_mul {D : FD} (F : Fld D) {a b : Nat → Nat} {n m : Nat} (x : Nat) (hn : Bd n a) (hm : Bd m b) (hb : El D b) (h : n + m ≤ 1000) : D.vl (pmul D n a b) x = D.mul (D.vl a x) (D.vl b x) := by
  unfold FD.vl
  rw [ev_mul F x hm hb n 1000 h, ev_from F x hn (by omega : n ≤ 1000), ev_from F x hm (by omega : m ≤ 1000)]
/-- x0 + x. -/
def lin (x0 : Nat) : Nat → Nat := fun k => if k = 0 then x0 else if k = 1 then 1 else 0
theorem lin_bd (x0 : Nat) : Bd 2 (lin x0) := fun k hk => by unfold lin; rw [if_neg (by omega), if_neg (by omega)]
theorem lin_el {D : FD} (F : Fld D) {x0 : Nat} (h : x0 < D.q) : El D (lin x0) := fun k => by
  unfold lin
  split
  · exact h
  · split
    · exact one_lt' F
    · exact zero_lt' F
theorem vl_lin {D : FD} (F : Fld D) {x0 y : Nat} (h : x0 < D.q) (hy : y < D.q) : D.vl (lin x0) y = D.ad x0 y := by
  unfold FD.vl
  rw [ev_from F y (lin_bd x0) (by omega : 2 ≤ 1000)]
  show D.ad (D.ad 0 (D.mul x0 1)) (D.mul 1 (D.mul 1 y)) = _
  rw [mul1 F h, zero_ad F h, omul F hy, omul F hy]
theorem vl_one {D : FD} (F : Fld D) (y : Nat) : D.vl pone y = 1 := by
  unfold FD.vl
  rw [ev_from F y (show Bd 1 pone from fun k hk => by unfold pone; rw [if_neg (by omega)]) (by omega : 1 ≤ 1000)]
  show D.ad 0 (D.mul 1 1) = 1
  rw [mul1 F (one_lt' F), zero_ad F (one_lt' F)]

/-- After i places: co has the values so far; cz is 0 just there. -/
structure Thr (D : FD) (xs ys : Nat → Nat) (i lo : Nat) (co cz : Nat → Nat) : Prop where
  elo : El D co
  elz : El D cz
  tro : Trd lo co
  le : lo ≤ i
  trz : Trd (i + 1) cz
  at' : ∀ j, j < i → D.vl co (xs j) = ys j
  zero : ∀ j, j < i → D.vl cz (xs j) = 0
  none : ∀ y, y < D.q → (∀ j, j < i → y ≠ xs j) → D.vl cz y ≠ 0

theorem thr_zero {D : FD} (F : Fld D) (xs ys : Nat → Nat) : Thr D xs ys 0 0 pnil pone :=
  ⟨el_nil F, el_one F, ⟨fun _ _ => rfl, fun h => absurd rfl h⟩, Nat.le_refl _, ⟨fun k hk => by unfold pone; rw [if_neg (by omega)], fun _ => by unfold pone; simp⟩, fun j hj => by omega, fun j hj => by omega, fun y _ _ => by rw [vl_one F]; omega⟩

theorem mul_ne {D : FD} (hD : D ∈ fieldsL) {a b : Nat} (_ha : a < D.q) (hb : b < D.q) (h1 : a ≠ 0) (h2 : b ≠ 0) : D.mul a b ≠ 0 := by
  have F := fld hD
  intro e
  rw [← mul0 F a] at e
  exact h2 (mul_cancel F h1 hb (zero_lt' F) e)

theorem thr_step {D : FD} (hD : D ∈ fieldsL) {xs ys : Nat → Nat} {i lo N : Nat} {co cz : Nat → Nat} (h : Thr D xs ys i lo co cz) (hx : xs i < D.q) (hy : ys i < D.q) (hne : ∀ j, j < i → xs i ≠ xs j) (hxs : ∀ j, j < i → xs j < D.q) (hi : i + 3 ≤ 1000)
    {s : Nat} (hs : s = D.mul (D.sb (ys i) (D.vl co (xs i))) (D.iv (D.vl cz (xs i)))) (hN : lo ≤ N) (hN2 : dgn (pscale D s cz) (i + 1 + 1) ≤ N) (hN3 : N ≤ i + 1) :
    Thr D xs ys (i + 1) (dgn (padd D co (pscale D s cz)) N) (padd D co (pscale D s cz)) (pmul D (i + 1) cz (lin (D.ng (xs i)))) := by
  have F := fld hD
  have hz : D.vl cz (xs i) ≠ 0 := h.none _ hx hne
  have hzl := vl_lt F cz (xs i)
  have hol := vl_lt F co (xs i)
  have hng := ng_lt F hx
  have e1 : El D (pscale D s cz) := el_scale F s cz
  have bd1 : Bd (i + 1) (pscale D s cz) := fun k hk => by unfold pscale; rw [h.trz.1 k hk]; exact mul0 F s
  have bdN : Bd N (padd D co (pscale D s cz)) := fun k hk => by
    unfold padd
    rw [h.tro.1 k (by omega), dgn_bd (bd1.mono (show i + 1 ≤ i + 1 + 1 by omega)) k (by omega)]
    exact ad_zero F (zero_lt' F)
  refine ⟨el_add F h.elo e1, el_mul F _ _ _, trd_dgn bdN, Nat.le_trans (dgn_le _ _) hN3, ⟨?_, fun _ => ?_⟩, fun j hj => ?_, fun j hj => ?_, fun y hyq hyn => ?_⟩
  · have := pmul_bd F (a := cz) (lin_bd (D.ng (xs i))) (i + 1)
    exact this
  · show pmul D (i + 1) cz (lin (D.ng (xs i))) (i + 1 + 1 - 1) ≠ 0
    rw [show i + 1 + 1 - 1 = i + 1 from by omega, pmul_top F (a := cz) (n := i) (m := 1) (lin_bd _)]
    show D.mul (cz i) 1 ≠ 0
    rw [mul1 F (h.elz i)]
    exact h.trz.2 (by omega)
  · rw [vl_add F _ h.elo e1, vl_scale F]
    by_cases e : j = i
    · subst e
      have h1 : D.mul s (D.vl cz (xs j)) = D.sb (ys j) (D.vl co (xs j)) := by
        rw [hs, F.mul_assoc, F.mul_comm (D.iv _), iv_is hD hzl hz, mul1 F (sb_lt F hy hol)]
      rw [h1]
      exact ad_sb F hy hol
    · rw [h.at' j (by omega), h.zero j (by omega), mul0 F]
      exact ad_zero F (by rw [← h.at' j (by omega)]; exact vl_lt F _ _)
  · rw [vl_mul F _ h.trz.1 (lin_bd _) (lin_el F hng) (by omega)]
    by_cases e : j = i
    · subst e
      rw [vl_lin F hng hx, ad_comm F, ad_ng F hx, mul0 F]
    · rw [h.zero j (by omega), zmul F]
  · rw [vl_mul F _ h.trz.1 (lin_bd _) (lin_el F hng) (by omega), vl_lin F hng hyq]
    refine mul_ne hD (vl_lt F _ _) (ad_lt F hng hyq) (h.none y hyq (fun j hj => hyn j (by omega))) (fun e => ?_)
    rw [ad_comm F] at e
    exact hyn i (by omega) (sb_eq_zero F hyq hx e)
end Go.Proofs.Ytmnkablobhdbjaa

/- Plain mathematics of polynomials, gone on: those that end with 1, in order; the least one that divides; parting by it, again and again. No Go text here. -/
namespace Go.Proofs.Ytmnkablobhdbjaa

/-- A polynomial of degree d that ends with 1. -/
structure Mn (D : FD) (d : Nat) (c : Nat → Nat) : Prop where
  el : El D c
  bd : Bd (d + 1) c
  top : c d = 1
theorem Mn.trd {D : FD} {d : Nat} {c : Nat → Nat} (h : Mn D d c) : Trd (d + 1) c := ⟨h.bd, fun _ => by rw [Nat.add_sub_cancel, h.top]; omega⟩

/-- The first d coefficients as one number to the base q, the first one the greatest. -/
def dnum (q : Nat) (c : Nat → Nat) : Nat → Nat
  | 0 => 0
  | i + 1 => dnum q c i * q + c i
theorem dnum_lt {q : Nat} {c : Nat → Nat} : ∀ d, (∀ i, i < d → c i < q) → dnum q c d < q ^ d
  | 0, _ => by simp [dnum]
  | i + 1, h => by
    have h1 := dnum_lt i (fun j hj => h j (by omega))
    have h2 := h i (by omega)
    have h3 : (dnum q c i + 1) * q ≤ q ^ i * q := Nat.mul_le_mul_right q h1
    rw [Nat.add_mul, Nat.one_mul] at h3
    rw [dnum, Nat.pow_succ]
    omega
theorem dnum_congr {q : Nat} {c e : Nat → Nat} : ∀ d, (∀ i, i < d → c i = e i) → dnum q c d = dnum q e d
  | 0, _ => rfl
  | i + 1, h => by rw [dnum, dnum, dnum_congr i (fun j hj => h j (by omega)), h i (by omega)]
theorem dnum_inj {q : Nat} {c e : Nat → Nat} : ∀ d, (∀ i, i < d → c i < q) → (∀ i, i < d → e i < q) → dnum q c d = dnum q e d → ∀ i, i < d → c i = e i
  | 0, _, _, _, i, hi => by omega
  | n + 1, hc, he, h, i, hi => by
    have h1 := hc n (by omega)
    have h2 := he n (by omega)
    rw [dnum, dnum] at h
    have h3 : c n = e n := by
      have := congrArg (· % q) h
      simp only [Nat.mul_add_mod'] at this
      rwa [Nat.mod_eq_of_lt h1, Nat.mod_eq_of_lt h2] at this
    by_cases hin : i = n
    · rw [hin]; exact h3
    · refine dnum_inj n (fun j hj => hc j (by omega)) (fun j hj => he j (by omega)) ?_ i (by omega)
      exact Nat.eq_of_mul_eq_mul_right (show 0 < q by omega) (by omega)
theorem dnum_step {q : Nat} {c e : Nat → Nat} {k : Nat} (hc : c k < q) (h : dnum q c k < dnum q e k) : dnum q c (k + 1) < dnum q e (k + 1) := by
  have h3 : (dnum q c k + 1) * q ≤ dnum q e k * q := Nat.mul_le_mul_right q h
  rw [Nat.add_mul, Nat.one_mul] at h3
  rw [dnum, dnum]
  omega
/-- Lists are compared from the first place on. -/
theorem dnum_lex {q : Nat} {c e : Nat → Nat} {j : Nat} (he : ∀ i, i < j → c i = e i) (hj : c j < e j) : ∀ k, (∀ i, i < j + 1 + k → c i < q) → dnum q c (j + 1 + k) < dnum q e (j + 1 + k)
  | 0, _ => by
    show dnum q c j * q + c j < dnum q e j * q + e j
    rw [dnum_congr j he]; omega
  | k + 1, hc => dnum_step (k := j + 1 + k) (hc (j + 1 + k) (by omega)) (dnum_lex he hj k (fun i hi => hc i (by omega)))
/-- One counted up: nines behind place i turn to noughts. -/
theorem dnum_up {q : Nat} {c e : Nat → Nat} {i : Nat} (hq : 1 ≤ q) (he : ∀ j, j < i → e j = c j) (hi : e i = c i + 1) : ∀ k, (∀ j, i < j → j < i + 1 + k → c j = q - 1 ∧ e j = 0) → dnum q e (i + 1 + k) = dnum q c (i + 1 + k) + 1
  | 0, _ => by
    show dnum q e i * q + e i = dnum q c i * q + c i + 1
    rw [dnum_congr i he, hi]; omega
  | k + 1, h => by
    have h1 := dnum_up hq he hi k (fun j h1 h2 => h j h1 (by omega))
    have h2 := h (i + 1 + k) (by omega) (by omega)
    show dnum q e (i + 1 + k) * q + e (i + 1 + k) = dnum q c (i + 1 + k) * q + c (i + 1 + k) + 1
    rw [h1, h2.1, h2.2, Nat.add_mul, Nat.one_mul]; omega
theorem dnum_nines {q : Nat} {c : Nat → Nat} (hq : 1 ≤ q) : ∀ d, (∀ j, j < d → c j = q - 1) → dnum q c d + 1 = q ^ d
  | 0, _ => by simp [dnum]
  | d + 1, h => by
    have h1 := dnum_nines hq d (fun j hj => h j (by omega))
    rw [dnum, h d (by omega), Nat.pow_succ, ← h1, Nat.add_mul, Nat.one_mul]; omega
theorem dnum_zero (q : Nat) {c : Nat → Nat} : ∀ d, (∀ j, j < d → c j = 0) → dnum q c d = 0
  | 0, _ => rfl
  | d + 1, h => by rw [dnum, dnum_zero q d (fun j hj => h j (by omega)), h d (by omega)]; omega

theorem mn_ext {D : FD} {d : Nat} {x y : Nat → Nat} (hx : Mn D d x) (hy : Mn D d y) (h : dnum D.q x d = dnum D.q y d) : x = y := by
  funext k
  rcases Nat.lt_trichotomy k d with h1 | h1 | h1
  · exact dnum_inj d (fun i _ => hx.el i) (fun i _ => hy.el i) h k h1
  · rw [h1, hx.top, hy.top]
  · rw [hx.bd k (by omega), hy.bd k (by omega)]

/-- y (of degree e) is ahead of x (of degree d). -/
def Bef (D : FD) (e : Nat) (y : Nat → Nat) (d : Nat) (x : Nat → Nat) : Prop := e < d ∨ (e = d ∧ dnum D.q y e < dnum D.q x d)
/-- x' comes next behind x. -/
def Aft (D : FD) (d : Nat) (x : Nat → Nat) (d' : Nat) (x' : Nat → Nat) : Prop := (d' = d ∧ dnum D.q x' d' = dnum D.q x d + 1) ∨ (d' = d + 1 ∧ dnum D.q x d + 1 = D.q ^ d ∧ dnum D.q x' d' = 0)
theorem bef_irr {D : FD} {d : Nat} {x : Nat → Nat} : ¬ Bef D d x d x := by rintro (h | ⟨_, h⟩) <;> omega
theorem bef_aft {D : FD} {d d' e : Nat} {x x' y : Nat → Nat} (h : Aft D d x d' x') (hx : Mn D d x) (hy : Mn D e y) (hb : Bef D e y d' x') : Bef D e y d x ∨ (e = d ∧ y = x) := by
  have key : e = d → dnum D.q y e < dnum D.q x d + 1 → Bef D e y d x ∨ (e = d ∧ y = x) := by
    intro he hl
    by_cases h1 : dnum D.q y e = dnum D.q x d
    · subst he; exact Or.inr ⟨rfl, mn_ext hy hx h1⟩
    · exact Or.inl (Or.inr ⟨he, by omega⟩)
  rcases h with ⟨rfl, h2⟩ | ⟨rfl, h2, h3⟩
  · rcases hb with hb | ⟨he, hb⟩
    · exact Or.inl (Or.inl hb)
    · exact key he (by omega)
  · rcases hb with hb | ⟨he, hb⟩
    · by_cases he : e = d
      · refine key he ?_
        have := dnum_lt (q := D.q) (c := y) e (fun i _ => hy.el i)
        rw [h2, ← he]; exact this
      · exact Or.inl (Or.inl (by omega))
    · omega
theorem bef_tri {D : FD} {d e : Nat} {x y : Nat → Nat} (hx : Mn D d x) (hy : Mn D e y) (h1 : ¬ Bef D e y d x) (h2 : ¬ Bef D d x e y) : d = e ∧ x = y := by
  have hde : d = e := by
    rcases Nat.lt_trichotomy d e with h | h | h
    · exact absurd (Or.inl h) h2
    · exact h
    · exact absurd (Or.inl h) h1
  subst hde
  refine ⟨rfl, mn_ext hx hy ?_⟩
  rcases Nat.lt_trichotomy (dnum D.q x d) (dnum D.q y d) with h | h | h
  · exact absurd (Or.inr ⟨rfl, h⟩) h2
  · exact h
  · exact absurd (Or.inr ⟨rfl, h⟩) h1

theorem pone_bd : Bd 1 pone := fun k hk => by unfold pone; rw [if_neg (by omega)]
theorem mn_zero {D : FD} {c : Nat → Nat} (h : Mn D 0 c) : c = pone := by
  funext k
  unfold pone
  by_cases e : k = 0
  · rw [if_pos e, e, h.top]
  · rw [if_neg e, h.bd k (by omega)]
/-- A factor of one that ends with 1, by another that ends with 1, ends with 1. -/
theorem mn_quot {D : FD} (hD : D ∈ fieldsL) {da dx m : Nat} {a x b : Nat → Nat} (ha : Mn D da a) (hx : Mn D dx x) (hb : El D b) (hm : Bd m b) (h : a = pmul D m b x) : ∃ db, Mn D db b ∧ da = db + dx := by
  have F := fld hD
  by_cases h0 : dgn b m = 0
  · have hb0 : Bd 0 b := by have := dgn_bd hm; rwa [h0] at this
    have e : a da = 0 := by rw [h, pmul_zeros F x hb0]; rfl
    rw [ha.top] at e; cases e
  · obtain ⟨db, hdb⟩ : ∃ db, dgn b m = db + 1 := ⟨dgn b m - 1, by omega⟩
    have hbd : Bd (db + 1) b := by have := dgn_bd hm; rwa [hdb] at this
    have htop : b db ≠ 0 := by have := dgn_top b m h0; rwa [hdb, Nat.add_sub_cancel] at this
    have e1 : a = pmul D (db + 1) b x := by
      rw [h]
      have := dgn_le b m
      exact pmul_to F x hbd (by omega)
    have e2 : a (db + dx) = b db := by rw [e1, pmul_top F (a := b) hx.bd, hx.top, mul1 F (hb db)]
    have e3 : Bd (db + dx + 1) a := by
      rw [e1]
      have := pmul_bd F (a := b) hx.bd (db + 1)
      exact this.mono (by omega)
    have e4 : da ≤ db + dx := Nat.le_of_not_lt fun hl => by
      have := e3 da (by omega)
      rw [ha.top] at this; cases this
    have e5 : db + dx ≤ da := Nat.le_of_not_lt fun hl => htop (by rw [← e2]; exact ha.bd _ (by omega))
    have e6 : da = db + dx := by omega
    exact ⟨db, ⟨hb, hbd, by rw [← e2, ← e6, ha.top]⟩, e6⟩
theorem pd_other {D : FD} (F : Fld D) {m d : Nat} {a b x : Nat → Nat} (hb : El D b) (hm : Bd m b) (hx : El D x) (hd : Bd d x) (h : a = pmul D m b x) : PD D b a :=
  ⟨d, x, hx, hd, by rw [h]; exact pmul_comm F hb hx hm hd⟩

/-- x, of degree d, is the first of all that divide a, but for 1. -/
structure Lst (D : FD) (a : Nat → Nat) (d : Nat) (x : Nat → Nat) : Prop where
  mn : Mn D d x
  pos : 1 ≤ d
  dv : PD D x a
  least : ∀ e y, 1 ≤ e → Mn D e y → PD D y a → ¬ Bef D e y d x
theorem lst_uniq {D : FD} {a : Nat → Nat} {d e : Nat} {x y : Nat → Nat} (h1 : Lst D a d x) (h2 : Lst D a e y) : d = e ∧ x = y :=
  bef_tri h1.mn h2.mn (h1.least e y h2.pos h2.mn h2.dv) (h2.least d x h1.pos h1.mn h1.dv)
/-- What none of half its degree divides can't be parted. -/
theorem lst_last {D : FD} (hD : D ∈ fieldsL) {da : Nat} {a : Nat → Nat} (ha : Mn D da a) (h1 : 1 ≤ da) (h : ∀ e y, 1 ≤ e → Mn D e y → 2 * e ≤ da → ¬ PD D y a) : Lst D a da a := by
  have F := fld hD
  refine ⟨ha, h1, PD.refl F ha.el, fun e y he hy hd hb => ?_⟩
  by_cases h2 : 2 * e ≤ da
  · exact h e y he hy h2 hd
  · obtain ⟨m, b, eb, hm, e1⟩ := hd
    obtain ⟨db, hdb, e2⟩ := mn_quot hD ha hy eb hm e1
    by_cases h3 : 1 ≤ db
    · exact h db b h3 hdb (by omega) (pd_other F eb hm hy.el hy.bd e1)
    · have e3 : db = 0 := by omega
      subst e3
      have e4 := mn_zero hdb
      subst e4
      have e5 : a = y := by
        rw [e1, pmul_comm F eb hy.el hm hy.bd, pmul_one F hy.el hy.bd]
      subst e5
      rw [show e = da from by omega] at hb
      exact bef_irr hb

/-- The parts of a0 found so far, each the first that divides what was left; what is left now. -/
def Pre (D : FD) : List (Nat × (Nat → Nat)) → (Nat → Nat) → (Nat → Nat) → Prop
  | [], a0, a => a0 = a
  | p :: L, a0, a => Lst D a0 p.1 p.2 ∧ ∃ m b, El D b ∧ Bd m b ∧ a0 = pmul D m b p.2 ∧ Pre D L b a
theorem pre_snoc {D : FD} {a b x : Nat → Nat} {d m : Nat} (hl : Lst D a d x) (hb : El D b) (hm : Bd m b) (h : a = pmul D m b x) : ∀ L a0, Pre D L a0 a → Pre D (L ++ [(d, x)]) a0 b
  | [], a0, e => by
    have e : a0 = a := e
    subst e
    exact ⟨hl, m, b, hb, hm, h, rfl⟩
  | p :: L, a0, ⟨h1, m', b', h2, h3, h4, h5⟩ => ⟨h1, m', b', h2, h3, h4, pre_snoc hl hb hm h L b' h5⟩
theorem pre_whole {D : FD} (F : Fld D) {a : Nat → Nat} {d : Nat} (hl : Lst D a d a) {L : List (Nat × (Nat → Nat))} {a0 : Nat → Nat} (h : Pre D L a0 a) : Pre D (L ++ [(d, a)]) a0 pone := by
  refine pre_snoc hl (el_one F) pone_bd ?_ L a0 h
  rw [pmul_comm F (el_one F) hl.mn.el pone_bd hl.mn.bd, pmul_one F hl.mn.el hl.mn.bd]
theorem not_pd_one {D : FD} (F : Fld D) {d : Nat} {x : Nat → Nat} (hx : Mn D d x) (h : 1 ≤ d) : ¬ PD D x pone := by
  rintro ⟨m, b, eb, hm, e⟩
  have h1 : b = pnil := pmul_zero_of F hx.bd (by rw [hx.top]; omega) m hm (by rw [← e]; exact pone_bd.mono h)
  have h2 : pone 0 = 0 := by
    rw [e, h1, pmul_zeros F (a := pnil) x (fun _ _ => rfl)]; rfl
  cases h2
theorem pre_uniq {D : FD} (F : Fld D) : ∀ (L L' : List (Nat × (Nat → Nat))) (a0 : Nat → Nat), Pre D L a0 pone → Pre D L' a0 pone → L = L'
  | [], [], _, _, _ => rfl
  | [], p :: L', a0, h, h' => by
    have e : a0 = pone := h
    subst e
    exact absurd h'.1.dv (not_pd_one F h'.1.mn h'.1.pos)
  | p :: L, [], a0, h, h' => by
    have e : a0 = pone := h'
    subst e
    exact absurd h.1.dv (not_pd_one F h.1.mn h.1.pos)
  | p :: L, p' :: L', a0, ⟨h1, m, b, h2, h3, h4, h5⟩, ⟨k1, m', b', k2, k3, k4, k5⟩ => by
    obtain ⟨e1, e2⟩ := lst_uniq h1 k1
    have ep : p = p' := Prod.ext e1 e2
    subst ep
    have eb : b = b' := by
      have hN : pmul D (m + m') b p.2 = pmul D (m + m') b' p.2 := by rw [pmul_to F p.2 h3 (by omega), pmul_to F p.2 k3 (by omega), ← h4, ← k4]
      have := div_uniq F h1.mn.bd (by rw [h1.mn.top]; omega) h2 k2 (el_nil F) (el_nil F) (h3.mono (by omega : m ≤ m + m')) (k3.mono (by omega : m' ≤ m + m')) (fun _ _ => rfl) (fun _ _ => rfl) (by rw [hN])
      exact this.1
    subst eb
    rw [pre_uniq F L L' b h5 k5]
theorem pre_sorted {D : FD} (F : Fld D) : ∀ (L : List (Nat × (Nat → Nat))) (a0 a : Nat → Nat), Pre D L a0 a → ∀ i (p p' : Nat × (Nat → Nat)), L[i]? = some p → L[i + 1]? = some p' → ¬ Bef D p'.1 p'.2 p.1 p.2
  | [], _, _, _, i, p, p', h, _ => by simp at h
  | r :: L, a0, a, ⟨h1, m, b, h2, h3, h4, h5⟩, i, p, p', hp, hp' => by
    cases i with
    | succ i => exact pre_sorted F L b a h5 i p p' (by simpa using hp) (by simpa using hp')
    | zero =>
      cases L with
      | nil => simp at hp'
      | cons s L =>
        simp at hp hp'
        subst hp; subst hp'
        obtain ⟨k1, _⟩ := h5
        exact h1.least _ _ k1.pos k1.mn (PD.trans F (pd_other F h2 h3 h1.mn.el h1.mn.bd h4) k1.dv)
/-- All parts end with 1, and are no numbers. -/
theorem pre_mn {D : FD} : ∀ (L : List (Nat × (Nat → Nat))) (a0 a : Nat → Nat), Pre D L a0 a → ∀ p, p ∈ L → Mn D p.1 p.2 ∧ 1 ≤ p.1
  | [], _, _, _, p, h => by simp at h
  | r :: L, a0, a, ⟨h1, m, b, h2, h3, h4, h5⟩, p, hp => by
    rcases List.mem_cons.1 hp with rfl | hp
    · exact ⟨h1.mn, h1.pos⟩
    · exact pre_mn L b a h5 p hp
end Go.Proofs.Ytmnkablobhdbjaa
