/- Texts of ours, one behind the other: V7 V8 N5 N6 U18 U19. -/
import Derived.Test.YtabkomelnhnoiaaZV6
import Derived.Test.YtabkomelnhnoiaaZN1
import Derived.Test.YtabkomelnhnoiaaZU3
/- The reference's polynomials: with 1 at the end (Monic); common divisors (PGcd). -/
namespace Go.Proofs.Ytabkomelnhnoiaa
open Go.RowKit Go.Sort

end Go.Proofs.Ytabkomelnhnoiaa

/- The reference's polynomials: common divisors (PGcd). -/
namespace Go.Proofs.Ytabkomelnhnoiaa
open Go.RowKit Go.Sort

/-- A polynomial's slice as PA tells it, with its bounds. -/
structure PB (D : FD) (ao : Option Addr) (n cap : Nat) (c : Nat → Nat) (w : World) : Prop where
  pa : PA D ao n cap c w
  le : n ≤ cap
  cap : cap ≤ 9223372036854775807
theorem PB.below {D : FD} {ao : Option Addr} {n cap : Nat} {c : Nat → Nat} {w w' : World} (h : PB D ao n cap c w) (hb : Below w.heap.size w w') : PB D ao n cap c w' := ⟨h.pa.below hb, h.le, h.cap⟩
theorem OwnP.pb {D : FD} {base n : Nat} {v : Value} {c : Nat → Nat} {w : World} (h : OwnP base v n c w) (he : El D c) (ht : Trd n c) : ∃ ao cap, v = .slice ao n cap ∧ PB D ao n cap c w := by
  obtain ⟨ao, cap, hv, h1, h2, _, hl, hz, hs⟩ := h.open
  exact ⟨ao, cap, hv, ⟨hs, hl, hz, he, ht⟩, h1, h2⟩

end Go.Proofs.Ytabkomelnhnoiaa

/- Plain mathematics of polynomials, gone on: through given places, step by step. No Go text here. -/
namespace Go.Proofs.Ytabkomelnhnoiaa

/-- The value of a polynomial of at most 1,000 coefficients. -/
def FD.vl (D : FD) (c : Nat → Nat) (x : Nat) : Nat := D.ev c x 1000
/-- After i places: co has the values so far; cz is 0 just there. -/
structure Thr (D : FD) (xs ys : Nat → Nat) (i lo : Nat) (co cz : Nat → Nat) : Prop where
  elo : El D co
  elz : El D cz
  tro : Trd lo co
  le : lo ≤ i
  trz : Trd (i + 1) cz
  at' : ∀ j, j < i → D.vl co (xs j) = ys j
  zero : ∀ j, j < i → D.vl cz (xs j) = 0
  none : ∀ y, y < D.q → (∀ j, j < i → y ≠ xs j) → D.vl cz y ≠ 0

theorem mul_ne {D : FD} (hD : D ∈ fieldsL) {a b : Nat} (_ha : a < D.q) (hb : b < D.q) (h1 : a ≠ 0) (h2 : b ≠ 0) : D.mul a b ≠ 0 := by
  have F := fld hD
  intro e
  rw [← mul0 F a] at e
  exact h2 (mul_cancel F h1 hb (zero_lt' F) e)

end Go.Proofs.Ytabkomelnhnoiaa

/- Plain mathematics of polynomials, gone on: those that end with 1, in order; the least one that divides; parting by it, again and again. No Go text here. -/
namespace Go.Proofs.Ytabkomelnhnoiaa

/-- A polynomial of degree d that ends with 1. -/
structure Mn (D : FD) (d : Nat) (c : Nat → Nat) : Prop where
  el : El D c
  bd : Bd (d + 1) c
  top : c d = 1
theorem Mn.trd {D : FD} {d : Nat} {c : Nat → Nat} (h : Mn D d c) : Trd (d + 1) c := ⟨h.bd, fun _ => by rw [Nat.add_sub_cancel, h.top]; omega⟩

/-- The first d coefficients as one number to the base q, the first one the greatest. -/
def dnum (q : Nat) (c : Nat → Nat) : Nat → Nat
  | 0 => 0
  | i + 1 => dnum q c i * q + c i
theorem dnum_lt {q : Nat} {c : Nat → Nat} : ∀ d, (∀ i, i < d → c i < q) → dnum q c d < q ^ d
  | 0, _ => by simp [dnum]
  | i + 1, h => by
    have h1 := dnum_lt i (fun j hj => h j (by omega))
    have h2 := h i (by omega)
    have h3 : (dnum q c i + 1) * q ≤ q ^ i * q := Nat.mul_le_mul_right q h1
    rw [Nat.add_mul, Nat.one_mul] at h3
    rw [dnum, Nat.pow_succ]
    omega
theorem dnum_congr {q : Nat} {c e : Nat → Nat} : ∀ d, (∀ i, i < d → c i = e i) → dnum q c d = dnum q e d
  | 0, _ => rfl
  | i + 1, h => by rw [dnum, dnum, dnum_congr i (fun j hj => h j (by omega)), h i (by omega)]
theorem dnum_inj {q : Nat} {c e : Nat → Nat} : ∀ d, (∀ i, i < d → c i < q) → (∀ i, i < d → e i < q) → dnum q c d = dnum q e d → ∀ i, i < d → c i = e i
  | 0, _, _, _, i, hi => by omega
  | n + 1, hc, he, h, i, hi => by
    have h1 := hc n (by omega)
    have h2 := he n (by omega)
    rw [dnum, dnum] at h
    have h3 : c n = e n := by
      have := congrArg (· % q) h
      simp only [Nat.mul_add_mod'] at this
      rwa [Nat.mod_eq_of_lt h1, Nat.mod_eq_of_lt h2] at this
    by_cases hin : i = n
    · rw [hin]; exact h3
    · refine dnum_inj n (fun j hj => hc j (by omega)) (fun j hj => he j (by omega)) ?_ i (by omega)
      exact Nat.eq_of_mul_eq_mul_right (show 0 < q by omega) (by omega)
theorem dnum_step {q : Nat} {c e : Nat → Nat} {k : Nat} (hc : c k < q) (h : dnum q c k < dnum q e k) : dnum q c (k + 1) < dnum q e (k + 1) := by
  have h3 : (dnum q c k + 1) * q ≤ dnum q e k * q := Nat.mul_le_mul_right q h
  rw [Nat.add_mul, Nat.one_mul] at h3
  rw [dnum, dnum]
  omega
/-- Lists are compared from the first place on. -/
theorem dnum_lex {q : Nat} {c e : Nat → Nat} {j : Nat} (he : ∀ i, i < j → c i = e i) (hj : c j < e j) : ∀ k, (∀ i, i < j + 1 + k → c i < q) → dnum q c (j + 1 + k) < dnum q e (j + 1 + k)
  | 0, _ => by
    show dnum q c j * q + c j < dnum q e j * q + e j
    rw [dnum_congr j he]; omega
  | k + 1, hc => dnum_step (k := j + 1 + k) (hc (j + 1 + k) (by omega)) (dnum_lex he hj k (fun i hi => hc i (by omega)))
/-- One counted up: nines behind place i turn to noughts. -/
theorem dnum_up {q : Nat} {c e : Nat → Nat} {i : Nat} (hq : 1 ≤ q) (he : ∀ j, j < i → e j = c j) (hi : e i = c i + 1) : ∀ k, (∀ j, i < j → j < i + 1 + k → c j = q - 1 ∧ e j = 0) → dnum q e (i + 1 + k) = dnum q c (i + 1 + k) + 1
  | 0, _ => by
    show dnum q e i * q + e i = dnum q c i * q + c i + 1
    rw [dnum_congr i he, hi]; omega
  | k + 1, h => by
    have h1 := dnum_up hq he hi k (fun j h1 h2 => h j h1 (by omega))
    have h2 := h (i + 1 + k) (by omega) (by omega)
    show dnum q e (i + 1 + k) * q + e (i + 1 + k) = dnum q c (i + 1 + k) * q + c (i + 1 + k) + 1
    rw [h1, h2.1, h2.2, Nat.add_mul, Nat.one_mul]; omega
/-- y (of degree e) is ahead of x (of degree d). -/
def Bef (D : FD) (e : Nat) (y : Nat → Nat) (d : Nat) (x : Nat → Nat) : Prop := e < d ∨ (e = d ∧ dnum D.q y e < dnum D.q x d)
/-- x' comes next behind x. -/
def Aft (D : FD) (d : Nat) (x : Nat → Nat) (d' : Nat) (x' : Nat → Nat) : Prop := (d' = d ∧ dnum D.q x' d' = dnum D.q x d + 1) ∨ (d' = d + 1 ∧ dnum D.q x d + 1 = D.q ^ d ∧ dnum D.q x' d' = 0)
/-- x, of degree d, is the first of all that divide a, but for 1. -/
structure Lst (D : FD) (a : Nat → Nat) (d : Nat) (x : Nat → Nat) : Prop where
  mn : Mn D d x
  pos : 1 ≤ d
  dv : PD D x a
  least : ∀ e y, 1 ≤ e → Mn D e y → PD D y a → ¬ Bef D e y d x
/-- The parts of a0 found so far, each the first that divides what was left; what is left now. -/
def Pre (D : FD) : List (Nat × (Nat → Nat)) → (Nat → Nat) → (Nat → Nat) → Prop
  | [], a0, a => a0 = a
  | p :: L, a0, a => Lst D a0 p.1 p.2 ∧ ∃ m b, El D b ∧ Bd m b ∧ a0 = pmul D m b p.2 ∧ Pre D L b a
end Go.Proofs.Ytabkomelnhnoiaa

/- The program's polynomials through given places (through). -/
namespace Go.Proofs.Ytabkomelnhnoiaa
open Go.RowKit

end Go.Proofs.Ytabkomelnhnoiaa

/- The next polynomial that ends with 1 (after). -/
namespace Go.Proofs.Ytabkomelnhnoiaa
open Go.RowKit

/-- Polynomial c of degree d, while it is counted up: all places from s on were nines. -/
def cnt (c : Nat → Nat) (d s : Nat) : Nat → Nat := fun k => if s ≤ k ∧ k < d then 0 else c k
/-- The place s is counted up. -/
def cup (c : Nat → Nat) (d s : Nat) : Nat → Nat := fun k => if k = s then c s + 1 else cnt c d (s + 1) k
theorem cnt_all (c : Nat → Nat) (d : Nat) : cnt c d d = c := by funext k; unfold cnt; rw [if_neg (by omega)]
theorem cnt_at (c : Nat → Nat) (d s : Nat) : cnt c d (s + 1) s = c s := by unfold cnt; rw [if_neg (by omega)]
theorem cnt_step (c : Nat → Nat) {d s : Nat} (hs : s < d) (k : Nat) : cnt c d s k = if k = s then 0 else cup c d s k := by
  unfold cup cnt
  by_cases e : k = s
  · rw [if_pos e, if_pos (by omega)]
  · rw [if_neg e, if_neg e]
    by_cases h : s ≤ k ∧ k < d
    · rw [if_pos h, if_pos (by omega)]
    · rw [if_neg h, if_neg (by omega)]
theorem cup_aft {D : FD} (F : Fld D) {c : Nat → Nat} {d s : Nat} (hc : Mn D d c) (hs : s < d) (hl : c s + 1 < D.q) (h9 : ∀ k, s + 1 ≤ k → k < d → c k = D.q - 1) : Mn D d (cup c d s) ∧ Aft D d c d (cup c d s) := by
  have h2 := F.q2
  refine ⟨⟨fun k => ?_, fun k hk => ?_, ?_⟩, Or.inl ⟨rfl, ?_⟩⟩
  · unfold cup cnt
    split
    · exact hl
    · split
      · exact zero_lt' F
      · exact hc.el k
  · unfold cup cnt
    rw [if_neg (by omega), if_neg (by omega)]
    exact hc.bd k hk
  · unfold cup cnt
    rw [if_neg (by omega), if_neg (by omega)]
    exact hc.top
  · have h := dnum_up (q := D.q) (c := c) (e := cup c d s) (i := s) (by omega) (fun j hj => by unfold cup cnt; rw [if_neg (by omega), if_neg (by omega)]) (by unfold cup; rw [if_pos rfl]) (d - (s + 1)) (fun j h1 h3 => ⟨h9 j (by omega) (by omega), by unfold cup cnt; rw [if_neg (by omega), if_pos (by omega)]⟩)
    rw [show s + 1 + (d - (s + 1)) = d from by omega] at h
    exact h
end Go.Proofs.Ytabkomelnhnoiaa
