/- Texts of ours, one behind the other: U10 U11 U12 U13 U14 U15 U16 U17 V1 V2 V3 W5 V4 V5. -/
import Derived.Test.YtabkomelnhnoiaaZU2
import Derived.Test.YtabkomelnhnoiaaZR5
import Derived.Lib.QuietBelow
/- The program's polynomials: the calls that are listed: Add. -/
namespace Go.Proofs.Ytabkomelnhnoiaa
open Go.RowKit

/-- A list that is handed in: where it lies, how long it is, its numbers. -/
structure Arg (ao : Option Addr) (n cap : Nat) (z : Nat → Int) (w : World) : Prop where
  sl : SlZ ao n z w
  lt : LtB ao w.heap.size
  few : n ≤ 1000000
  nil : ao = none → cap = 0
  le : n ≤ cap
  cap : cap ≤ 9223372036854775807
theorem Arg.below {ao : Option Addr} {n cap : Nat} {z : Nat → Int} {w w' : World} (h : Arg ao n cap z w) (hb : Below w.heap.size w w') : Arg ao n cap z w' :=
  ⟨h.sl.below hb h.lt, h.lt.mono hb.size, h.few, h.nil, h.le, h.cap⟩

def two {α : Type} (x y : α) : Nat → α := fun j => if j = 0 then x else y
/-- The coefficients of n numbers that are elements. -/
def zc (n : Nat) (z : Nat → Int) : Nat → Nat := fun j => if j < n then (z j).toNat else 0
theorem zc_bd (n : Nat) (z : Nat → Int) : Bd n (zc n z) := fun k hk => by unfold zc; rw [if_neg (by omega)]
theorem chk_zero {D : FD} {n : Nat} {z : Nat → Int} (h : D.chk n z = 0) : n ≤ 128 ∧ ∀ j, j < n → D.has (z j) = true := by
  unfold FD.chk at h
  by_cases h1 : 128 < n
  · rw [if_pos h1] at h; cases h
  · rw [if_neg h1] at h
    by_cases h2 : D.allHas z n = true
    · exact ⟨by omega, allHas_iff.1 h2⟩
    · rw [if_neg h2] at h; cases h
theorem zc_el {D : FD} (F : Fld D) {n : Nat} {z : Nat → Int} (h : D.chk n z = 0) : El D (zc n z) := fun j => by
  unfold zc
  by_cases e : j < n
  · obtain ⟨x, hx, hxq⟩ := has_nat ((chk_zero h).2 j e)
    rw [if_pos e, hx, Int.toNat_natCast]; exact hxq
  · rw [if_neg e]; exact zero_lt' F
theorem zc_sl {D : FD} {ao : Option Addr} {n : Nat} {z : Nat → Int} {w : World} (h : D.chk n z = 0) (hS : SlZ ao n z w) : Sl ao n (zc n z) w := fun j hj => by
  obtain ⟨b, off, e, hc⟩ := hS j hj
  obtain ⟨x, hx, hxq⟩ := has_nat ((chk_zero h).2 j hj)
  refine ⟨b, off, e, ?_⟩
  rw [hc]
  unfold zc
  rw [if_pos hj, hx, Int.toNat_natCast]
end Go.Proofs.Ytabkomelnhnoiaa

/- The program's polynomials: the calls that are listed: Mul, Div, At. -/
namespace Go.Proofs.Ytabkomelnhnoiaa
open Go.RowKit

end Go.Proofs.Ytabkomelnhnoiaa

/- The program's polynomials: the calls that are listed: Div, At. -/
namespace Go.Proofs.Ytabkomelnhnoiaa
open Go.RowKit

end Go.Proofs.Ytabkomelnhnoiaa

/- The program's polynomials: the calls that are listed: At, Roots. -/
namespace Go.Proofs.Ytabkomelnhnoiaa
open Go.RowKit

end Go.Proofs.Ytabkomelnhnoiaa

/- The program's polynomials: the calls that are listed: Roots. -/
namespace Go.Proofs.Ytabkomelnhnoiaa
open Go.RowKit

end Go.Proofs.Ytabkomelnhnoiaa

/- The program's polynomials: with 1 at the end (monic); the calls that are listed: Gcd. -/
namespace Go.Proofs.Ytabkomelnhnoiaa
open Go.RowKit

/-- A polynomial's slice without noughts at the end: where it lies, its coefficients. -/
structure PA (D : FD) (ao : Option Addr) (n cap : Nat) (c : Nat → Nat) (w : World) : Prop where
  sl : Sl ao n c w
  lt : LtB ao w.heap.size
  nil : ao = none → cap = 0
  el : El D c
  trd : Trd n c
theorem PA.below {D : FD} {ao : Option Addr} {n cap : Nat} {c : Nat → Nat} {w w' : World} (h : PA D ao n cap c w) (hb : Below w.heap.size w w') : PA D ao n cap c w' :=
  ⟨h.sl.below hb h.lt, h.lt.mono hb.size, h.nil, h.el, h.trd⟩
theorem PA.drewN {D : FD} {ao : Option Addr} {n cap : Nat} {c : Nat → Nat} {w : World} (h : PA D ao n cap c w) (k : Nat) : PA D ao n cap c (w.drewN k) := ⟨h.sl, h.lt, h.nil, h.el, h.trd⟩
theorem OwnP.pa {D : FD} {base n : Nat} {v : Value} {c : Nat → Nat} {w : World} (h : OwnP base v n c w) (he : El D c) (ht : Trd n c) : ∃ ao cap, v = .slice ao n cap ∧ PA D ao n cap c w := by
  obtain ⟨ao, cap, hv, _, _, _, hl, hz, hs⟩ := h.open
  exact ⟨ao, cap, hv, hs, hl, hz, he, ht⟩

end Go.Proofs.Ytabkomelnhnoiaa

/- How many there are to try (tooMany, Tries). -/
namespace Go.Proofs.Ytabkomelnhnoiaa
open Go.RowKit

end Go.Proofs.Ytabkomelnhnoiaa

/- Does an element stand twice in a list (hasTwice)? -/
namespace Go.Proofs.Ytabkomelnhnoiaa
open Go.RowKit

end Go.Proofs.Ytabkomelnhnoiaa

/- The reference's polynomials: without noughts at the end (Trim); which may be (PolyMay). -/
namespace Go.Proofs.Ytabkomelnhnoiaa
open Go.RowKit

end Go.Proofs.Ytabkomelnhnoiaa

/- The reference's polynomials: which may be (PolyMay). -/
namespace Go.Proofs.Ytabkomelnhnoiaa
open Go.RowKit

end Go.Proofs.Ytabkomelnhnoiaa

/- The reference's polynomials: sums (PAdd). -/
namespace Go.Proofs.Ytabkomelnhnoiaa
open Go.RowKit

end Go.Proofs.Ytabkomelnhnoiaa

/- The same where the calls lay blocks: the worlds in which nothing that was there has turned. No Go text here. -/
namespace Go.Proofs.Ytabkomelnhnoiaa
open Go Go.Sort Go.RowKit

end Go.Proofs.Ytabkomelnhnoiaa

/- The reference's polynomials: products (PMul). -/
namespace Go.Proofs.Ytabkomelnhnoiaa
open Go.RowKit Go.Sort

end Go.Proofs.Ytabkomelnhnoiaa

/- The reference's polynomials: values of a polynomial that came in (value, PAt). -/
namespace Go.Proofs.Ytabkomelnhnoiaa
open Go.RowKit

end Go.Proofs.Ytabkomelnhnoiaa
