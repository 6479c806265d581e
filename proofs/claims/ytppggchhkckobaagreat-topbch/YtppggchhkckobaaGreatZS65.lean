/- Texts of ours, one behind the other: S65 S66 S67 S68. -/
import Derived.Test.YtppggchhkckobaaGreatZA1
import Derived.Test.YtppggchhkckobaaGreatZN2
import Derived.Test.YtppggchhkckobaaGreatZM9
import Derived.Test.YtppggchhkckobaaGreatZS11
import Derived.Test.YtppggchhkckobaaGreatZS24
import Derived.Test.YtppggchhkckobaaGreatZG2
import Derived.Test.YtppggchhkckobaaGreatZR5
/- Numbers below n that come of each other times q: the lists of them (plain mathematics). -/
namespace Go.Proofs.YtppggchhkckobaaGreat

/-- What comes of z, times q so often. -/
def orb (q n z j : Nat) : Nat := z * q ^ j % n
theorem orb_zero {q n z : Nat} (hz : z < n) : orb q n z 0 = z := by
  unfold orb
  rw [Nat.pow_zero, Nat.mul_one, Nat.mod_eq_of_lt hz]
theorem orb_succ (q n z j : Nat) : orb q n z (j + 1) = orb q n z j * q % n := by
  unfold orb
  rw [Nat.pow_succ, ← Nat.mul_assoc, Nat.mod_mul_mod]
theorem orb_lt {q n z j : Nat} (hn : 0 < n) : orb q n z j < n := Nat.mod_lt _ hn
theorem orb_orb (q n z i j : Nat) : orb q n (orb q n z i) j = orb q n z (i + j) := by
  unfold orb
  rw [Nat.mod_mul_mod, Nat.mul_assoc, Nat.pow_add]
/-- A list that has what comes of each of its numbers, times q. -/
def Clq (q n : Nat) (L : List Nat) : Prop := ∀ k ∈ L, k * q % n ∈ L
theorem Clq.orb {q n : Nat} {L : List Nat} (h : Clq q n L) {k : Nat} (hk : k ∈ L) (hl : k < n) : ∀ j, orb q n k j ∈ L
  | 0 => by rw [orb_zero hl]; exact hk
  | j + 1 => by rw [orb_succ]; exact h _ (Clq.orb h hk hl j)
/-- The walk from z ends where it comes to a number that was seen: then all that comes of z was seen. -/
theorem walk_end {q n z s : Nat} {L L' : List Nat} (hn : 0 < n) (hL : Clq q n L) (hm : ∀ k, k ∈ L' ↔ k ∈ L ∨ ∃ j, j < s ∧ orb q n z j = k) (he : orb q n z s ∈ L') :
    Clq q n L' ∧ ∀ j, orb q n z j ∈ L' := by
  have hall : ∀ j, orb q n z j ∈ L' := by
    rcases (hm _).1 he with h | ⟨s', hs', h⟩
    · intro j
      by_cases c : j < s
      · exact (hm _).2 (Or.inr ⟨j, c, rfl⟩)
      · obtain ⟨d, rfl⟩ : ∃ d, j = s + d := ⟨j - s, by omega⟩
        rw [← orb_orb]
        exact (hm _).2 (Or.inl (hL.orb h (orb_lt hn) d))
    · intro j
      induction j with
      | zero =>
        by_cases c : 0 < s
        · exact (hm _).2 (Or.inr ⟨0, c, rfl⟩)
        · omega
      | succ j ih =>
        rcases (hm _).1 ih with k | ⟨i, hi, k⟩
        · have := hL _ k
          rw [orb_succ]
          exact (hm _).2 (Or.inl this)
        · rw [orb_succ, ← k, ← orb_succ]
          by_cases c : i + 1 < s
          · exact (hm _).2 (Or.inr ⟨i + 1, c, rfl⟩)
          · have : i + 1 = s := by omega
            rw [this]
            exact he
  refine ⟨fun k hk => ?_, hall⟩
  rcases (hm k).1 hk with h | ⟨j, _, rfl⟩
  · exact (hm _).2 (Or.inl (hL k h))
  · rw [← orb_succ]; exact hall (j + 1)
/-- What comes of one of some numbers. -/
def Clo (q n : Nat) (z : Nat → Nat) (m : Nat) (k : Nat) : Prop := ∃ i, i < m ∧ ∃ j, orb q n (z i) j = k
/-- Some power of q is 1, modulo n. -/
def Ord (q n : Nat) : Prop := ∃ t, 0 < t ∧ q ^ t % n = 1 % n
theorem Ord.back {q n x j : Nat} (h : Ord q n) (hx : x < n) : ∃ i, orb q n (orb q n x j) i = x := by
  obtain ⟨t, ht, e⟩ := h
  have hp : ∀ d, (q ^ t) ^ d % n = 1 % n := fun d => by
    induction d with
    | zero => rw [Nat.pow_zero]
    | succ d ih => rw [Nat.pow_succ, Nat.mul_mod, ih, e, ← Nat.mul_mod, Nat.mul_one]
  refine ⟨t * j - j, ?_⟩
  have hle : j ≤ t * j := Nat.le_mul_of_pos_left j ht
  rw [orb_orb, Nat.add_sub_cancel' hle]
  unfold orb
  rw [Nat.pow_mul, Nat.mul_mod, hp j, ← Nat.mul_mod, Nat.mul_one, Nat.mod_eq_of_lt hx]
/-- A list of numbers below n, each once, sorted: those of 0, 1, .. that are in it. -/
theorem sort_range {n : Nat} {L : List Nat} (hd : L.Nodup) (hl : ∀ k ∈ L, k < n) : ((L.map fun j => ((j : Nat) : Int)).mergeSort fun x y => decide (x ≤ y)) = ((List.range n).filter fun j => L.contains j).map fun j => ((j : Nat) : Int) := by
  have hp : ((List.range n).filter fun j => L.contains j).Perm L := by
    refine (List.perm_ext_iff_of_nodup (List.nodup_range.filter _) hd).2 (fun a => ?_)
    rw [List.mem_filter, List.contains_iff_mem]
    exact ⟨fun h => h.2, fun h => ⟨List.mem_range.2 (hl a h), h⟩⟩
  refine List.Perm.eq_of_pairwise (le := fun a b : Int => a ≤ b) (fun a b _ _ x y => Int.le_antisymm x y) ?_ ?_ ?_
  · exact (List.pairwise_mergeSort (le := fun x y : Int => decide (x ≤ y)) (fun a b c h1 h2 => by simp only [decide_eq_true_eq] at *; omega) (fun a b => by simp only [Bool.or_eq_true, decide_eq_true_eq]; omega) _).imp (fun h => by simpa using h)
  · rw [List.pairwise_map]
    exact (List.Pairwise.filter _ List.pairwise_lt_range).imp (fun {a b} h => by omega)
  · exact (List.mergeSort_perm _ _).trans (hp.map _).symm
end Go.Proofs.YtppggchhkckobaaGreat

/- Products of x less a root, over a list of roots: in any order; what a ring's map makes of them (plain mathematics). -/
namespace Go.Proofs.YtppggchhkckobaaGreat

/-- x less r. -/
def lnf (D : FD) (r : Nat) : Nat → Nat := fun k => if k = 0 then D.ng r else if k = 1 then 1 else 0
theorem lnf_el {D : FD} (F : Fld D) {r : Nat} (hr : r < D.q) : El D (lnf D r) := fun k => by
  unfold lnf
  split
  · exact ng_lt F hr
  · split
    · exact one_lt' F
    · exact zero_lt' F
theorem lnf_bd (D : FD) (r : Nat) : Bd 2 (lnf D r) := fun k hk => by
  unfold lnf
  rw [if_neg (by omega), if_neg (by omega)]
/-- The product over a list; the first is the last that was multiplied. -/
def prL (D : FD) : List Nat → Nat → Nat
  | [] => pone
  | r :: l => pmul D (l.length + 1) (prL D l) (lnf D r)
theorem prL_el {D : FD} (F : Fld D) : ∀ l, El D (prL D l)
  | [] => el_one F
  | _ :: _ => el_mul F _ _ _
theorem prL_bd {D : FD} (F : Fld D) : ∀ l, Bd (l.length + 1) (prL D l)
  | [] => fun k hk => by
    show (if k = 0 then 1 else 0) = 0
    rw [if_neg (by simp at hk; omega)]
  | r :: l => by
    have := pmul_bd F (a := prL D l) (lnf_bd D r) (l.length + 1)
    exact this
theorem prL_top {D : FD} (F : Fld D) : ∀ l, prL D l l.length = 1
  | [] => rfl
  | r :: l => by
    show pmul D (l.length + 1) (prL D l) (lnf D r) (l.length + 1) = 1
    rw [pmul_top F (lnf_bd D r), prL_top F l]
    show D.mul 1 (if 1 = 0 then _ else if 1 = 1 then 1 else 0) = 1
    rw [if_neg (by omega), if_pos rfl]
    exact mul1 F (one_lt' F)
theorem lnf_swap {D : FD} (F : Fld D) {P : Nat → Nat} {n a b : Nat} (ha : a < D.q) (hb : b < D.q) : pmul D (n + 1) (pmul D n P (lnf D a)) (lnf D b) = pmul D (n + 1) (pmul D n P (lnf D b)) (lnf D a) := by
  have h1 : Bd (n + 1) (pmul D n P (lnf D a)) := by have := pmul_bd F (a := P) (lnf_bd D a) n; exact this
  have h2 : Bd (n + 1) (pmul D n P (lnf D b)) := by have := pmul_bd F (a := P) (lnf_bd D b) n; exact this
  rw [← pmul_to F (lnf D b) h1 (show n + 1 ≤ n + 2 by omega), ← pmul_to F (lnf D a) h2 (show n + 1 ≤ n + 2 by omega), pmul_assoc F (lnf_bd D a) n (n + 2) (Nat.le_refl _), pmul_assoc F (lnf_bd D b) n (n + 2) (Nat.le_refl _), pmul_comm F (lnf_el F ha) (lnf_el F hb) (lnf_bd D a) (lnf_bd D b)]
theorem prL_perm {D : FD} (F : Fld D) {l l' : List Nat} (h : l.Perm l') : (∀ r ∈ l, r < D.q) → prL D l = prL D l' := by
  induction h with
  | nil => intro _; rfl
  | cons x h ih =>
    intro hq
    show pmul D _ (prL D _) _ = pmul D _ (prL D _) _
    rw [ih (fun r hr => hq r (List.mem_cons_of_mem _ hr)), h.length_eq]
  | swap x y l =>
    intro hq
    show pmul D (l.length + 1 + 1) (pmul D (l.length + 1) (prL D l) (lnf D x)) (lnf D y) = pmul D (l.length + 1 + 1) (pmul D (l.length + 1) (prL D l) (lnf D y)) (lnf D x)
    exact lnf_swap F (hq x (by simp)) (hq y (by simp))
  | trans h1 h2 ih1 ih2 =>
    intro hq
    rw [ih1 hq, ih2 (fun r hr => hq r (h1.symm.subset hr))]
/-- A ring's map of a field's elements. -/
structure Rng (D : FD) (E : FD) (φ : Nat → Nat) : Prop where
  lt : ∀ a, a < D.q → φ a < E.q
  zero : φ 0 = 0
  one : φ 1 = 1
  ad : ∀ a b, a < D.q → b < D.q → φ (D.ad a b) = E.ad (φ a) (φ b)
  mul : ∀ a b, a < D.q → b < D.q → φ (D.mul a b) = E.mul (φ a) (φ b)
theorem Rng.ng {D E : FD} {φ : Nat → Nat} (FD' : Fld D) (FE : Fld E) (h : Rng D E φ) {a : Nat} (ha : a < D.q) : φ (D.ng a) = E.ng (φ a) := by
  have h1 : E.ad (φ a) (φ (D.ng a)) = 0 := by rw [← h.ad a _ ha (ng_lt FD' ha), ad_ng FD' ha, h.zero]
  have h2 : E.ad (φ a) (E.ng (φ a)) = 0 := ad_ng FE (h.lt a ha)
  exact ad_cancel FE (h.lt a ha) (h.lt _ (ng_lt FD' ha)) (ng_lt FE (h.lt a ha)) (h1.trans h2.symm)
theorem Rng.pmul {D E : FD} {φ : Nat → Nat} (FD' : Fld D) (FE : Fld E) (h : Rng D E φ) {a b : Nat → Nat} (ha : El D a) (hb : El D b) : ∀ n k, φ (pmul D n a b k) = pmul E n (fun i => φ (a i)) (fun i => φ (b i)) k
  | 0, k => h.zero
  | n + 1, k => by
    show φ (D.ad (Go.Proofs.YtppggchhkckobaaGreat.pmul D n a b k) (psh n (pscale D (a n) b) k)) = E.ad (Go.Proofs.YtppggchhkckobaaGreat.pmul E n (fun i => φ (a i)) (fun i => φ (b i)) k) (psh n (pscale E (φ (a n)) (fun i => φ (b i))) k)
    rw [h.ad _ _ (el_mul FD' a b n k) (el_sh FD' n (el_scale FD' _ _) k), h.pmul FD' FE ha hb n k]
    congr 1
    unfold psh pscale
    by_cases c : n ≤ k
    · rw [if_pos c, if_pos c]; exact h.mul _ _ (ha n) (hb _)
    · rw [if_neg c, if_neg c]; exact h.zero
theorem Rng.lnf {D E : FD} {φ : Nat → Nat} (FD' : Fld D) (FE : Fld E) (h : Rng D E φ) {r : Nat} (hr : r < D.q) : (fun k => φ (lnf D r k)) = lnf E (φ r) := by
  funext k
  unfold Go.Proofs.YtppggchhkckobaaGreat.lnf
  by_cases c : k = 0
  · rw [if_pos c, if_pos c]; exact h.ng FD' FE hr
  · rw [if_neg c, if_neg c]
    by_cases c2 : k = 1
    · rw [if_pos c2]; exact h.one
    · rw [if_neg c2]; exact h.zero
theorem Rng.prL {D E : FD} {φ : Nat → Nat} (FD' : Fld D) (FE : Fld E) (h : Rng D E φ) : ∀ l : List Nat, (∀ r ∈ l, r < D.q) → (fun k => φ (prL D l k)) = prL E (l.map φ)
  | [], _ => by
    funext k
    show φ (if k = 0 then 1 else 0) = if k = 0 then 1 else 0
    by_cases c : k = 0
    · rw [if_pos c]; exact h.one
    · rw [if_neg c]; exact h.zero
  | r :: l, hq => by
    have ih := h.prL FD' FE l (fun x hx => hq x (List.mem_cons_of_mem _ hx))
    have hr := hq r (by simp)
    funext k
    show φ (Go.Proofs.YtppggchhkckobaaGreat.pmul D (l.length + 1) (Go.Proofs.YtppggchhkckobaaGreat.prL D l) (Go.Proofs.YtppggchhkckobaaGreat.lnf D r) k) = Go.Proofs.YtppggchhkckobaaGreat.pmul E ((l.map φ).length + 1) (Go.Proofs.YtppggchhkckobaaGreat.prL E (l.map φ)) (Go.Proofs.YtppggchhkckobaaGreat.lnf E (φ r)) k
    rw [h.pmul FD' FE (prL_el FD' l) (lnf_el FD' hr), ih, h.lnf FD' FE hr, List.length_map]
/-- Values: a product is nought where one of its roots is. -/
theorem ev_lnf {D : FD} (F : Fld D) {r x : Nat} (hr : r < D.q) (hx : x < D.q) : D.ev (lnf D r) x 2 = D.sb x r := by
  show D.ad (D.ad 0 (D.mul (lnf D r 0) 1)) (D.mul (lnf D r 1) (D.mul 1 x)) = D.sb x r
  have e0 : lnf D r 0 = D.ng r := if_pos rfl
  have e1 : lnf D r 1 = 1 := by show (if 1 = 0 then _ else if 1 = 1 then 1 else 0) = 1; rw [if_neg (by omega), if_pos rfl]
  rw [e0, e1, mul1 F (ng_lt F hr), zero_ad F (ng_lt F hr), omul F hx, omul F hx, ad_comm F]
  rfl
theorem ev_prL {D : FD} (F : Fld D) {r x : Nat} {l : List Nat} (hr : r < D.q) (hx : x < D.q) : D.ev (prL D (r :: l)) x (l.length + 2) = D.mul (D.ev (prL D l) x (l.length + 1)) (D.sb x r) := by
  rw [← ev_lnf F hr hx, ← ev_mul F x (lnf_bd D r) (lnf_el F hr) (l.length + 1) (l.length + 3) (by omega)]
  exact (ev_from F x (n := l.length + 2) (N := l.length + 3) (prL_bd F (r :: l)) (by omega)).symm
theorem prL_root {D : FD} (F : Fld D) {x : Nat} (hx : x < D.q) : ∀ l : List Nat, (∀ r ∈ l, r < D.q) → x ∈ l → D.ev (prL D l) x (l.length + 1) = 0
  | r :: l, hq, h => by
    show D.ev (prL D (r :: l)) x (l.length + 2) = 0
    rw [ev_prL F (hq r (by simp)) hx]
    rcases List.mem_cons.1 h with e | h
    · rw [e, sb_self F (hq r (by simp)), mul0 F]
    · rw [prL_root F hx l (fun y hy => hq y (List.mem_cons_of_mem _ hy)) h, zmul F]
end Go.Proofs.YtppggchhkckobaaGreat

/- x^n - 1 is the product over all powers of a root; a product over powers that come of each other times q lies over the field of q (plain mathematics). -/
namespace Go.Proofs.YtppggchhkckobaaGreat

theorem one_pmul {D : FD} (F : Fld D) {b : Nat → Nat} (hb : El D b) : pmul D 1 pone b = b := by
  show padd D pnil (psh 0 (pscale D 1 b)) = b
  rw [psh_zero, pscale_one F hb, nil_padd F hb]
theorem prL_app {D : FD} (F : Fld D) : ∀ l1 l2 : List Nat, (∀ r ∈ l1, r < D.q) → prL D (l1 ++ l2) = pmul D (l1.length + 1) (prL D l1) (prL D l2)
  | [], l2, _ => (one_pmul F (prL_el F l2)).symm
  | r :: l1, l2, hq => by
    have hr := hq r (by simp)
    show pmul D ((l1 ++ l2).length + 1) (prL D (l1 ++ l2)) (lnf D r) = pmul D (l1.length + 1 + 1) (pmul D (l1.length + 1) (prL D l1) (lnf D r)) (prL D l2)
    rw [prL_app F l1 l2 (fun x hx => hq x (List.mem_cons_of_mem _ hx)), List.length_append]
    have b1 : Bd (l1.length + l2.length + 1) (pmul D (l1.length + 1) (prL D l1) (prL D l2)) := by
      have := pmul_bd F (a := prL D l1) (prL_bd F l2) (l1.length + 1)
      rwa [show l1.length + 1 + (l2.length + 1) - 1 = l1.length + l2.length + 1 by omega] at this
    have b2 : Bd (l1.length + 1 + 1) (pmul D (l1.length + 1) (prL D l1) (lnf D r)) := by
      have := pmul_bd F (a := prL D l1) (lnf_bd D r) (l1.length + 1)
      exact this
    rw [← pmul_to F (lnf D r) b1 (show l1.length + l2.length + 1 ≤ l1.length + 1 + (l2.length + 1) + 1 by omega), pmul_assoc F (prL_bd F l2) (l1.length + 1) _ (by omega), pmul_comm F (prL_el F l2) (lnf_el F hr) (prL_bd F l2) (lnf_bd D r),
      ← pmul_to F (prL D l2) b2 (show l1.length + 1 + 1 ≤ l1.length + 1 + 2 by omega), pmul_assoc F (lnf_bd D r) (l1.length + 1) _ (Nat.le_refl _)]
theorem ev_whl {D : FD} (F : Fld D) {x n : Nat} (hn : 1 ≤ n) : D.ev (whl D n) x (n + 1) = D.sb (D.xp x n) 1 := by
  have h : ∀ k, 1 ≤ k → k ≤ n → D.ev (whl D n) x k = D.ng 1 := fun k => by
    induction k with
    | zero => intro h; omega
    | succ k ih =>
      intro _ hk
      show D.ad (D.ev (whl D n) x k) (D.mul (whl D n k) (D.xp x k)) = D.ng 1
      by_cases c : k = 0
      · subst c
        have e : whl D n 0 = D.ng 1 := by unfold whl; rw [if_neg (by omega), if_pos rfl]
        rw [e]
        show D.ad 0 (D.mul (D.ng 1) 1) = D.ng 1
        rw [mul1 F (ng_lt F (one_lt' F)), zero_ad F (ng_lt F (one_lt' F))]
      · have e : whl D n k = 0 := by unfold whl; rw [if_neg (by omega), if_neg c]
        rw [e, zmul F, ih (by omega) (by omega), ad_zero F (ng_lt F (one_lt' F))]
  show D.ad (D.ev (whl D n) x n) (D.mul (whl D n n) (D.xp x n)) = D.sb (D.xp x n) 1
  have e : whl D n n = 1 := by unfold whl; rw [if_pos rfl]
  rw [h n hn (Nat.le_refl _), e, omul F (xp_lt F x n), ad_comm F]
  rfl
theorem ct_full {p : Nat → Bool} (n : Nat) (h : ∀ i, i < n → p i = true) : ct p n = n := by
  have h1 := ct_not p n
  have h2 : ct (fun i => !p i) n = 0 := ct_none n (fun i hi => by show (!p i) = false; rw [h i hi]; rfl)
  omega
theorem xp_xp {D : FD} (hD : D ∈ fieldsL) {b : Nat} (h0 : b ≠ 0) (i n : Nat) : D.xp (D.xp b i) n = D.xp b (i * n) := by
  rw [← pw_xp hD h0, ← pw_xp hD (pw_ne hD b i).1, pw_pw hD, pw_xp hD h0]
theorem one_xp {D : FD} (F : Fld D) : ∀ k, D.xp 1 k = 1
  | 0 => rfl
  | k + 1 => by show D.mul (D.xp 1 k) 1 = 1; rw [one_xp F k, mul1 F (one_lt' F)]
/-- A root of order n. -/
structure Rt (D : FD) (b n : Nat) : Prop where
  lt : b < D.q
  ne : b ≠ 0
  one : D.xp b n = 1
  inj : ∀ i j, i < n → j < n → i ≠ j → D.xp b i ≠ D.xp b j
theorem Rt.md {D : FD} (hD : D ∈ fieldsL) {b n : Nat} (h : Rt D b n) (k : Nat) : D.xp b (k % n) = D.xp b k := by
  have e := Nat.div_add_mod k n
  have F := fld hD
  rw [← e, xp_add F, ← xp_xp hD h.ne, h.one, one_xp F, omul F (xp_lt F b _), Nat.mul_add_mod, Nat.mod_mod]
theorem whl_all {D : FD} (hD : D ∈ fieldsL) {b n : Nat} (hn : 1 ≤ n) (h : Rt D b n) : whl D n = prL D ((List.range n).map (D.xp b)) := by
  have F := fld hD
  have hq : ∀ r ∈ (List.range n).map (D.xp b), r < D.q := fun r hr => by
    obtain ⟨k, _, rfl⟩ := List.mem_map.1 hr
    exact xp_lt F b k
  have hlen : ((List.range n).map (D.xp b)).length = n := by rw [List.length_map, List.length_range]
  have eP := prL_el F ((List.range n).map (D.xp b))
  have bP := prL_bd F ((List.range n).map (D.xp b))
  have tP := prL_top F ((List.range n).map (D.xp b))
  rw [hlen] at bP tP
  have hrt : ∀ x ∈ (List.range n).map (D.xp b), D.ev (prL D ((List.range n).map (D.xp b))) x (n + 1) = 0 := fun x hx => by
    have := prL_root F (hq x hx) _ hq hx
    rwa [hlen] at this
  obtain ⟨P, hP⟩ : ∃ P, P = prL D ((List.range n).map (D.xp b)) := ⟨_, rfl⟩
  rw [← hP] at eP bP tP hrt ⊢
  have eW := whl_el F n
  refine psub_eq_nil F eW eP ?_
  have eS := el_sub F eW eP
  have bS : Bd n (psub D (whl D n) P) := fun k hk => by
    show D.sb (whl D n k) (P k) = 0
    by_cases c : k = n
    · have e : whl D n n = 1 := by unfold whl; rw [if_pos rfl]
      rw [c, e, tP]; exact sb_self F (one_lt' F)
    · rw [whl_bd k (by omega), bP k (by omega)]; exact sb_self F (zero_lt' F)
  refine Classical.byContradiction fun hne => ?_
  have hlt := few_roots F (xs := D.xp b) (n := n) (fun i _ => xp_lt F b i) (fun i j hi hj c => h.inj i j hi hj c) n eS bS hne
  rw [ct_full n (fun i hi => ?_)] at hlt
  · omega
  · refine decide_eq_true ?_
    have hmem : D.xp b i ∈ (List.range n).map (D.xp b) := List.mem_map.2 ⟨i, List.mem_range.2 hi, rfl⟩
    have e1 : D.ev (whl D n) (D.xp b i) (n + 1) = 0 := by
      rw [ev_whl F hn, xp_xp hD h.ne, Nat.mul_comm, ← xp_xp hD h.ne, h.one, one_xp F]
      exact sb_self F (one_lt' F)
    have e2 := hrt _ hmem
    have e3 : D.ev (padd D P (psub D (whl D n) P)) (D.xp b i) (n + 1) = D.ev (whl D n) (D.xp b i) (n + 1) := by rw [psub_add F eW eP]
    rw [ev_add F _ eP eS, e2, e1, zero_ad F (ev_lt F _ _ _)] at e3
    rw [ev_from F _ bS (show n ≤ n + 1 by omega)] at e3
    exact e3
end Go.Proofs.YtppggchhkckobaaGreat

/- A product over powers of a root that come of each other times q is over the field of q, and divides x^n - 1 (plain mathematics). -/
namespace Go.Proofs.YtppggchhkckobaaGreat

theorem q_pow : (fieldsL.all fun D => D.q == D.p ^ D.m) = true := by decide +kernel
theorem fld_pow {D : FD} (hD : D ∈ fieldsL) : D.q = D.p ^ D.m := by simpa using List.all_eq_true.1 q_pow D hD
theorem img_all : (fieldsL.all fun D => fieldsL.all fun E => !(D.holdsB E) || (List.range D.q).all fun x => !(again D.frob1 E.m x == x) || (List.range E.q).any fun a => D.emb E (D.root E) a == x) = true := by decide +kernel
theorem img_of {D E : FD} (hD : D ∈ fieldsL) (hE : E ∈ fieldsL) (h : E.p = D.p ∧ D.m % E.m = 0) {x : Nat} (hx : x < D.q) (hs : again D.frob1 E.m x = x) : ∃ a, a < E.q ∧ D.emb E (D.root E) a = x := by
  have k := List.all_eq_true.1 (List.all_eq_true.1 img_all D hD) E hE
  have hb : D.holdsB E = true := by simp [FD.holdsB, h.1, h.2]
  rw [hb] at k
  simp only [Bool.not_true, Bool.false_or] at k
  have k := List.all_eq_true.1 k x (List.mem_range.2 hx)
  rw [hs] at k
  simp only [beq_self_eq_true, Bool.not_true, Bool.false_or] at k
  obtain ⟨a, ha, e⟩ := List.any_eq_true.1 k
  exact ⟨a, List.mem_range.1 ha, by simpa using e⟩
theorem Ord.inv {q n : Nat} (h : Ord q n) : ∃ i, ∀ x, x < n → orb q n (x * q % n) i = x ∧ orb q n x i * q % n = x := by
  obtain ⟨t, ht, e⟩ := h
  obtain ⟨i, rfl⟩ : ∃ i, t = i + 1 := ⟨t - 1, by omega⟩
  refine ⟨i, fun x hx => ?_⟩
  have e2 : orb q n x (i + 1) = x := by
    unfold orb
    rw [Nat.mul_mod, e, ← Nat.mul_mod, Nat.mul_one, Nat.mod_eq_of_lt hx]
  have e1 : x * q % n = orb q n x 1 := by unfold orb; rw [Nat.pow_one]
  exact ⟨by rw [e1, orb_orb, Nat.add_comm]; exact e2, by rw [← orb_succ]; exact e2⟩
theorem cl_perm {q n : Nat} {S : List Nat} (ho : Ord q n) (hd : S.Nodup) (hl : ∀ k ∈ S, k < n) (hc : Clq q n S) : (S.map fun k => k * q % n).Perm S := by
  obtain ⟨i, hi⟩ := ho.inv
  refine (List.perm_ext_iff_of_nodup ?_ hd).2 (fun a => ?_)
  · refine List.pairwise_map.2 (hd.imp_of_mem (fun {a b} ha hb hne e => hne ?_))
    have h1 := (hi a (hl a ha)).1
    have h2 := (hi b (hl b hb)).1
    rw [← h1, ← h2, e]
  · rw [List.mem_map]
    constructor
    · rintro ⟨k, hk, rfl⟩; exact hc k hk
    · intro ha
      exact ⟨orb q n a i, hc.orb ha (hl a ha) i, (hi a (hl a ha)).2⟩
theorem frob_rng {D : FD} (hD : D ∈ fieldsL) (m : Nat) : Rng D D (again D.frob1 m) := by
  refine ⟨fun a ha => frob_lt hD a ha m, frob_zero m, ?_, fun _ _ ha hb => frobK_add hD ha hb m, fun a b _ _ => frobK_mul hD a b m⟩
  rw [frob_pw hD 1 (one_lt' (fld hD)) (by omega), pw_xp hD (by omega), one_xp (fld hD)]
theorem prod_fix {D E : FD} (hD : D ∈ fieldsL) (hE : E ∈ fieldsL) (h : E.p = D.p ∧ D.m % E.m = 0) {b n : Nat} (hr : Rt D b n) {S : List Nat} (ho : Ord E.q n) (hd : S.Nodup) (hl : ∀ k ∈ S, k < n) (hc : Clq E.q n S) (k : Nat) :
    again D.frob1 E.m (prL D (S.map (D.xp b)) k) = prL D (S.map (D.xp b)) k := by
  have F := fld hD
  have hq : ∀ l : List Nat, ∀ r ∈ l.map (D.xp b), r < D.q := fun l r hr => by
    obtain ⟨j, _, rfl⟩ := List.mem_map.1 hr
    exact xp_lt F b j
  have h1 := congrFun ((frob_rng hD E.m).prL F F (S.map (D.xp b)) (hq S)) k
  refine h1.trans ?_
  have e : (S.map (D.xp b)).map (again D.frob1 E.m) = (S.map fun k => k * E.q % n).map (D.xp b) := by
    rw [List.map_map, List.map_map]
    refine List.map_congr_left (fun j _ => ?_)
    show again D.frob1 E.m (D.xp b j) = D.xp b (j * E.q % n)
    rw [hr.md hD, ← pw_xp hD hr.ne, frob_pw hD _ (pw_lt hD b j) (pw_ne hD b j).1, pw_pw hD, pw_xp hD hr.ne, fld_pow hE, h.1]
  rw [e]
  exact congrFun (prL_perm F ((cl_perm ho hd hl hc).map _) (hq _)) k
/-- An element of a greater field, told over a smaller one. -/
def gtl (D E : FD) (c : Nat) : Nat := ((List.range E.q).find? fun a => D.emb E (D.root E) a == c).getD 0
theorem gtl_is {D E : FD} (hD : D ∈ fieldsL) (hE : E ∈ fieldsL) (h : E.p = D.p ∧ D.m % E.m = 0) {c : Nat} (hc : c < D.q) (hs : again D.frob1 E.m c = c) : gtl D E c < E.q ∧ D.emb E (D.root E) (gtl D E c) = c := by
  obtain ⟨a, ha, e⟩ := img_of hD hE h hc hs
  unfold gtl
  cases hf : (List.range E.q).find? fun a => D.emb E (D.root E) a == c with
  | none =>
    have := List.find?_eq_none.1 hf a (List.mem_range.2 ha)
    rw [e] at this
    simp at this
  | some a' =>
    have h1 := List.find?_some hf
    have h2 := List.mem_of_find?_eq_some hf
    exact ⟨List.mem_range.1 h2, by simpa using h1⟩
theorem emb_rng {D E : FD} (hD : D ∈ fieldsL) (hE : E ∈ fieldsL) (h : E.p = D.p ∧ D.m % E.m = 0) : Rng E D (D.emb E (D.root E)) :=
  ⟨fun a _ => emb_lt hD hE h a, (chk_emb hD hE h).2.1, (chk_emb hD hE h).1, fun _ _ ha hb => emb_add hD hE h ha hb, fun _ _ ha hb => emb_mul hD hE h ha hb⟩
/-- The generator of a closed set of powers, over the smaller field. -/
def gnr (D E : FD) (b : Nat) (S : List Nat) : Nat → Nat := fun k => gtl D E (prL D (S.map (D.xp b)) k)
structure Gnr (D E : FD) (b n : Nat) (S : List Nat) : Prop where
  el : El E (gnr D E b S)
  bd : Bd (S.length + 1) (gnr D E b S)
  top : gnr D E b S S.length = 1
  emb : ∀ k, D.emb E (D.root E) (gnr D E b S k) = prL D (S.map (D.xp b)) k
theorem gnr_is {D E : FD} (hD : D ∈ fieldsL) (hE : E ∈ fieldsL) (h : E.p = D.p ∧ D.m % E.m = 0) {b n : Nat} (hr : Rt D b n) {S : List Nat} (ho : Ord E.q n) (hd : S.Nodup) (hl : ∀ k ∈ S, k < n) (hc : Clq E.q n S) : Gnr D E b n S := by
  have F := fld hD
  have FE := fld hE
  have hk := fun k => gtl_is hD hE h (prL_el F (S.map (D.xp b)) k) (prod_fix hD hE h hr ho hd hl hc k)
  have hz := chk_emb hD hE h
  refine ⟨fun k => (hk k).1, fun k hk' => ?_, ?_, fun k => (hk k).2⟩
  · refine emb_inj hD hE h (hk k).1 (zero_lt' FE) ?_
    have e := (hk k).2
    rw [hz.2.1]
    refine e.trans (prL_bd F _ k (by rw [List.length_map]; exact hk'))
  · refine emb_inj hD hE h (hk _).1 (one_lt' FE) ?_
    have e := (hk S.length).2
    rw [hz.1]
    refine e.trans ?_
    have t := prL_top F (S.map (D.xp b))
    rwa [List.length_map] at t
theorem gnr_div {D E : FD} (hD : D ∈ fieldsL) (hE : E ∈ fieldsL) (h : E.p = D.p ∧ D.m % E.m = 0) {b n : Nat} (hn : 1 ≤ n) (hr : Rt D b n) {S T : List Nat} (gS : Gnr D E b n S) (gT : Gnr D E b n T) (hp : (T ++ S).Perm (List.range n)) :
    pmul E (T.length + 1) (gnr D E b T) (gnr D E b S) = whl E n := by
  have F := fld hD
  have FE := fld hE
  have R := emb_rng hD hE h
  have hq : ∀ l : List Nat, ∀ r ∈ l.map (D.xp b), r < D.q := fun l r hr => by
    obtain ⟨j, _, rfl⟩ := List.mem_map.1 hr
    exact xp_lt F b j
  funext k
  refine emb_inj hD hE h (el_mul FE _ _ _ k) (whl_el FE n k) ?_
  rw [R.pmul FE F gT.el gS.el, funext gT.emb, funext gS.emb]
  have e1 : pmul D (T.length + 1) (prL D (T.map (D.xp b))) (prL D (S.map (D.xp b))) = whl D n := by
    have := prL_app F (T.map (D.xp b)) (S.map (D.xp b)) (hq T)
    rw [List.length_map] at this
    rw [← this, ← List.map_append, whl_all hD hn hr]
    exact prL_perm F (hp.map _) (hq _)
  rw [e1]
  unfold whl
  by_cases c : k = n
  · rw [if_pos c, if_pos c]; exact R.one.symm
  · rw [if_neg c, if_neg c]
    by_cases c2 : k = 0
    · rw [if_pos c2, if_pos c2, R.ng FE F (one_lt' FE), R.one]
    · rw [if_neg c2, if_neg c2]; exact R.zero.symm
end Go.Proofs.YtppggchhkckobaaGreat
