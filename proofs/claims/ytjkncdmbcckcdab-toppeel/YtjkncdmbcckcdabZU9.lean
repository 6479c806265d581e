/- Texts of ours, one behind the other: U9 U10 U11 U12 U13 U14 U15 U16 U17 V1 V2 V3 W5 V4 V5. -/
import Derived.Test.YtjkncdmbcckcdabZW4
import Derived.Test.YtjkncdmbcckcdabZR5
import Derived.Lib.QuietBelow
/- The program's polynomials: which may be (Check), and over which field (over). -/
namespace Go.Proofs.Ytjkncdmbcckcdab
open Go.RowKit

/-- The first n numbers of the slice that begins at ao are z. -/
def SlZ (ao : Option Addr) (n : Nat) (z : Nat → Int) (w : World) : Prop := ∀ j, j < n → ∃ b off, ao = some ⟨b, off, none⟩ ∧ w.cell? ⟨b, off + j, none⟩ = some (.int .i64 (z j))
theorem SlZ.below {ao : Option Addr} {n B : Nat} {z : Nat → Int} {w w' : World} (h : SlZ ao n z w) (hb : Below B w w') (hB : LtB ao B) : SlZ ao n z w' := fun j hj => by
  obtain ⟨b, off, rfl, hc⟩ := h j hj
  exact ⟨b, off, rfl, ((bcell hb).1 b (off + j) (hB _ rfl)).trans hc⟩
/-- How many of the first numbers are elements, one after the other. -/
def FD.allHas (D : FD) (z : Nat → Int) : Nat → Bool
  | 0 => true
  | n + 1 => D.allHas z n && D.has (z n)
theorem allHas_iff {D : FD} {z : Nat → Int} : ∀ {n : Nat}, D.allHas z n = true ↔ ∀ j, j < n → D.has (z j) = true
  | 0 => ⟨fun _ j hj => by omega, fun _ => rfl⟩
  | n + 1 => by
    rw [FD.allHas, Bool.and_eq_true, allHas_iff]
    constructor
    · rintro ⟨h1, h2⟩ j hj
      by_cases e : j = n
      · rw [e]; exact h2
      · exact h1 j (by omega)
    · intro h
      exact ⟨fun j hj => h j (by omega), h n (by omega)⟩
/-- What Check says of n numbers. -/
def FD.chk (D : FD) (n : Nat) (z : Nat → Int) : Int := if 128 < n then 4 else if D.allHas z n = true then 0 else 2

end Go.Proofs.Ytjkncdmbcckcdab

/- The program's polynomials: the calls that are listed: Add. -/
namespace Go.Proofs.Ytjkncdmbcckcdab
open Go.RowKit

/-- A list that is handed in: where it lies, how long it is, its numbers. -/
structure Arg (ao : Option Addr) (n cap : Nat) (z : Nat → Int) (w : World) : Prop where
  sl : SlZ ao n z w
  lt : LtB ao w.heap.size
  few : n ≤ 1000000
  nil : ao = none → cap = 0
  le : n ≤ cap
  cap : cap ≤ 9223372036854775807
theorem Arg.below {ao : Option Addr} {n cap : Nat} {z : Nat → Int} {w w' : World} (h : Arg ao n cap z w) (hb : Below w.heap.size w w') : Arg ao n cap z w' :=
  ⟨h.sl.below hb h.lt, h.lt.mono hb.size, h.few, h.nil, h.le, h.cap⟩

def two {α : Type} (x y : α) : Nat → α := fun j => if j = 0 then x else y
/-- The coefficients of n numbers that are elements. -/
def zc (n : Nat) (z : Nat → Int) : Nat → Nat := fun j => if j < n then (z j).toNat else 0
theorem zc_bd (n : Nat) (z : Nat → Int) : Bd n (zc n z) := fun k hk => by unfold zc; rw [if_neg (by omega)]
theorem chk_zero {D : FD} {n : Nat} {z : Nat → Int} (h : D.chk n z = 0) : n ≤ 128 ∧ ∀ j, j < n → D.has (z j) = true := by
  unfold FD.chk at h
  by_cases h1 : 128 < n
  · rw [if_pos h1] at h; cases h
  · rw [if_neg h1] at h
    by_cases h2 : D.allHas z n = true
    · exact ⟨by omega, allHas_iff.1 h2⟩
    · rw [if_neg h2] at h; cases h
theorem zc_el {D : FD} (F : Fld D) {n : Nat} {z : Nat → Int} (h : D.chk n z = 0) : El D (zc n z) := fun j => by
  unfold zc
  by_cases e : j < n
  · obtain ⟨x, hx, hxq⟩ := has_nat ((chk_zero h).2 j e)
    rw [if_pos e, hx, Int.toNat_natCast]; exact hxq
  · rw [if_neg e]; exact zero_lt' F
theorem zc_sl {D : FD} {ao : Option Addr} {n : Nat} {z : Nat → Int} {w : World} (h : D.chk n z = 0) (hS : SlZ ao n z w) : Sl ao n (zc n z) w := fun j hj => by
  obtain ⟨b, off, e, hc⟩ := hS j hj
  obtain ⟨x, hx, hxq⟩ := has_nat ((chk_zero h).2 j hj)
  refine ⟨b, off, e, ?_⟩
  rw [hc]
  unfold zc
  rw [if_pos hj, hx, Int.toNat_natCast]
end Go.Proofs.Ytjkncdmbcckcdab

/- The program's polynomials: the calls that are listed: Mul, Div, At. -/
namespace Go.Proofs.Ytjkncdmbcckcdab
open Go.RowKit

end Go.Proofs.Ytjkncdmbcckcdab

/- The program's polynomials: the calls that are listed: Div, At. -/
namespace Go.Proofs.Ytjkncdmbcckcdab
open Go.RowKit

end Go.Proofs.Ytjkncdmbcckcdab

/- The program's polynomials: the calls that are listed: At, Roots. -/
namespace Go.Proofs.Ytjkncdmbcckcdab
open Go.RowKit

end Go.Proofs.Ytjkncdmbcckcdab

/- The program's polynomials: the calls that are listed: Roots. -/
namespace Go.Proofs.Ytjkncdmbcckcdab
open Go.RowKit

end Go.Proofs.Ytjkncdmbcckcdab

/- The program's polynomials: with 1 at the end (monic); the calls that are listed: Gcd. -/
namespace Go.Proofs.Ytjkncdmbcckcdab
open Go.RowKit

end Go.Proofs.Ytjkncdmbcckcdab

/- How many there are to try (tooMany, Tries). -/
namespace Go.Proofs.Ytjkncdmbcckcdab
open Go.RowKit

end Go.Proofs.Ytjkncdmbcckcdab

/- Does an element stand twice in a list (hasTwice)? -/
namespace Go.Proofs.Ytjkncdmbcckcdab
open Go.RowKit

end Go.Proofs.Ytjkncdmbcckcdab

/- The reference's polynomials: without noughts at the end (Trim); which may be (PolyMay). -/
namespace Go.Proofs.Ytjkncdmbcckcdab
open Go.RowKit

end Go.Proofs.Ytjkncdmbcckcdab

/- The reference's polynomials: which may be (PolyMay). -/
namespace Go.Proofs.Ytjkncdmbcckcdab
open Go.RowKit

end Go.Proofs.Ytjkncdmbcckcdab

/- The reference's polynomials: sums (PAdd). -/
namespace Go.Proofs.Ytjkncdmbcckcdab
open Go.RowKit

end Go.Proofs.Ytjkncdmbcckcdab

/- The same where the calls lay blocks: the worlds in which nothing that was there has turned. No Go text here. -/
namespace Go.Proofs.Ytjkncdmbcckcdab
open Go Go.Sort Go.RowKit

end Go.Proofs.Ytjkncdmbcckcdab

/- The reference's polynomials: products (PMul). -/
namespace Go.Proofs.Ytjkncdmbcckcdab
open Go.RowKit Go.Sort

end Go.Proofs.Ytjkncdmbcckcdab

/- The reference's polynomials: values of a polynomial that came in (value, PAt). -/
namespace Go.Proofs.Ytjkncdmbcckcdab
open Go.RowKit

end Go.Proofs.Ytjkncdmbcckcdab
