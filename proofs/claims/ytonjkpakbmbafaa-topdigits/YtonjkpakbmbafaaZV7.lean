/- Texts of ours, one behind the other: V7 V8 N5 N6 U18 U19. -/
import Derived.Test.YtonjkpakbmbafaaZV6
import Derived.Test.YtonjkpakbmbafaaZN2
import Derived.Test.YtonjkpakbmbafaaZU7
/- The reference's polynomials: with 1 at the end (Monic); common divisors (PGcd). -/
namespace Go.Proofs.Ytonjkpakbmbafaa
open Go.RowKit Go.Sort

end Go.Proofs.Ytonjkpakbmbafaa

/- The reference's polynomials: common divisors (PGcd). -/
namespace Go.Proofs.Ytonjkpakbmbafaa
open Go.RowKit Go.Sort

/-- A polynomial's slice as PA tells it, with its bounds. -/
structure PB (D : FD) (ao : Option Addr) (n cap : Nat) (c : Nat → Nat) (w : World) : Prop where
  pa : PA D ao n cap c w
  le : n ≤ cap
  cap : cap ≤ 9223372036854775807
theorem PB.below {D : FD} {ao : Option Addr} {n cap : Nat} {c : Nat → Nat} {w w' : World} (h : PB D ao n cap c w) (hb : Below w.heap.size w w') : PB D ao n cap c w' := ⟨h.pa.below hb, h.le, h.cap⟩
end Go.Proofs.Ytonjkpakbmbafaa

/- Plain mathematics of polynomials, gone on: through given places, step by step. No Go text here. -/
namespace Go.Proofs.Ytonjkpakbmbafaa

/-- The value of a polynomial of at most 1,000 coefficients. -/
def FD.vl (D : FD) (c : Nat → Nat) (x : Nat) : Nat := D.ev c x 1000
/-- After i places: co has the values so far; cz is 0 just there. -/
structure Thr (D : FD) (xs ys : Nat → Nat) (i lo : Nat) (co cz : Nat → Nat) : Prop where
  elo : El D co
  elz : El D cz
  tro : Trd lo co
  le : lo ≤ i
  trz : Trd (i + 1) cz
  at' : ∀ j, j < i → D.vl co (xs j) = ys j
  zero : ∀ j, j < i → D.vl cz (xs j) = 0
  none : ∀ y, y < D.q → (∀ j, j < i → y ≠ xs j) → D.vl cz y ≠ 0

theorem mul_ne {D : FD} (hD : D ∈ fieldsL) {a b : Nat} (_ha : a < D.q) (hb : b < D.q) (h1 : a ≠ 0) (h2 : b ≠ 0) : D.mul a b ≠ 0 := by
  have F := fld hD
  intro e
  rw [← mul0 F a] at e
  exact h2 (mul_cancel F h1 hb (zero_lt' F) e)

end Go.Proofs.Ytonjkpakbmbafaa

/- Plain mathematics of polynomials, gone on: those that end with 1, in order; the least one that divides; parting by it, again and again. No Go text here. -/
namespace Go.Proofs.Ytonjkpakbmbafaa

/-- A polynomial of degree d that ends with 1. -/
structure Mn (D : FD) (d : Nat) (c : Nat → Nat) : Prop where
  el : El D c
  bd : Bd (d + 1) c
  top : c d = 1
theorem Mn.trd {D : FD} {d : Nat} {c : Nat → Nat} (h : Mn D d c) : Trd (d + 1) c := ⟨h.bd, fun _ => by rw [Nat.add_sub_cancel, h.top]; omega⟩

/-- The first d coefficients as one number to the base q, the first one the greatest. -/
def dnum (q : Nat) (c : Nat → Nat) : Nat → Nat
  | 0 => 0
  | i + 1 => dnum q c i * q + c i
/-- y (of degree e) is ahead of x (of degree d). -/
def Bef (D : FD) (e : Nat) (y : Nat → Nat) (d : Nat) (x : Nat → Nat) : Prop := e < d ∨ (e = d ∧ dnum D.q y e < dnum D.q x d)
/-- x, of degree d, is the first of all that divide a, but for 1. -/
structure Lst (D : FD) (a : Nat → Nat) (d : Nat) (x : Nat → Nat) : Prop where
  mn : Mn D d x
  pos : 1 ≤ d
  dv : PD D x a
  least : ∀ e y, 1 ≤ e → Mn D e y → PD D y a → ¬ Bef D e y d x
/-- The parts of a0 found so far, each the first that divides what was left; what is left now. -/
def Pre (D : FD) : List (Nat × (Nat → Nat)) → (Nat → Nat) → (Nat → Nat) → Prop
  | [], a0, a => a0 = a
  | p :: L, a0, a => Lst D a0 p.1 p.2 ∧ ∃ m b, El D b ∧ Bd m b ∧ a0 = pmul D m b p.2 ∧ Pre D L b a
end Go.Proofs.Ytonjkpakbmbafaa

/- The program's polynomials through given places (through). -/
namespace Go.Proofs.Ytonjkpakbmbafaa
open Go.RowKit

end Go.Proofs.Ytonjkpakbmbafaa

/- The next polynomial that ends with 1 (after). -/
namespace Go.Proofs.Ytonjkpakbmbafaa
open Go.RowKit

end Go.Proofs.Ytonjkpakbmbafaa
