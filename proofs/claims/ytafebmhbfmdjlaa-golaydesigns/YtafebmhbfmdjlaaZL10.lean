/- Texts of ours, one behind the other: L10 O1 K1 K2 K3 J1 S1 S2 T1 W9 T2 T4 T5. -/
import Derived.Test.YtafebmhbfmdjlaaZL9
import Derived.Test.YtafebmhbfmdjlaaChecked
import Derived.ProofKit
import Derived.OpenShut
import Derived.ChangeOld
import Derived.ChangeSlices
import Derived.SizedLaws
import Derived.Carry
import Derived.Test.YtafebmhbfmdjlaaZV7
/- PolySays: the walk of the statement, whatever it is given. -/
namespace Go.Proofs.Ytafebmhbfmdjlaa
open Go.RowKit Go.Sort

end Go.Proofs.Ytafebmhbfmdjlaa

/- A list of numbers that a statement is given, opened. -/
namespace Go.Proofs.Ytafebmhbfmdjlaa
open Go.ChangeShapes Go.WideShapes Go.ChangeAt Go.RowKit

theorem Try.cellsInt : Try.prog.cellsOf 3 = 1 := by kernel_rfl
theorem Try.bytesInt : Try.prog.bytesOf 3 = 8 := by kernel_rfl
theorem Try.laidOut' : laidOutB Try.prog = true := by kernel_rfl

end Go.Proofs.Ytafebmhbfmdjlaa

/- What statements make of raw numbers: Raw, Numbers. -/
namespace Go.Proofs.Ytafebmhbfmdjlaa
open Go.RowKit Go.Sort

/-- A number of the machine. -/
def I64 (r : Int) : Prop := -9223372036854775808 ≤ r ∧ r ≤ 9223372036854775807
end Go.Proofs.Ytafebmhbfmdjlaa

/- What statements make of raw numbers: different elements (PlacesOf). -/
namespace Go.Proofs.Ytafebmhbfmdjlaa
open Go.RowKit Go.Sort

end Go.Proofs.Ytafebmhbfmdjlaa

/- PolyMade: the walk of the statement. -/
namespace Go.Proofs.Ytafebmhbfmdjlaa
open Go.RowKit Go.Sort

end Go.Proofs.Ytafebmhbfmdjlaa

/- Calls at polynomials that end with 1: products, parts. -/
namespace Go.Proofs.Ytafebmhbfmdjlaa
open Go.RowKit

end Go.Proofs.Ytafebmhbfmdjlaa

/- Plain mathematics: what rows span; the one reduced form of it. No Go text here. -/
namespace Go.Proofs.Ytafebmhbfmdjlaa

end Go.Proofs.Ytafebmhbfmdjlaa

/- Plain mathematics: a row more, put into a reduced form. No Go text here. -/
namespace Go.Proofs.Ytafebmhbfmdjlaa

end Go.Proofs.Ytafebmhbfmdjlaa

/- The reference's matrices: a row less another (less). -/
namespace Go.Proofs.Ytafebmhbfmdjlaa
open Go.RowKit Go.Sort

end Go.Proofs.Ytafebmhbfmdjlaa

/- Lists of lists of the call's own: others' lists laid behind them (append(v, l...)), also at a step of a region that draws its order. -/
namespace Go.Proofs.Ytafebmhbfmdjlaa
open Go.RowKit

theorem OwnV.grown {base : Nat} {v : Value} {l : List Value} {w w' : World} {row : Option Nat} (h : OwnV base v l w) (hg : w.grownBy w' row) (hne : v.ownBlock = none ∨ v.ownBlock ≠ row) : OwnV base v l w' := World.ownsRow.kept h hg hne
theorem OwnV.alloc {base : Nat} {v : Value} {l : List Value} {w : World} (h : OwnV base v l w) (o : Obj) : OwnV base v l (w.alloc o) := World.ownsRow.alloc h o

theorem slz_below {ao : Option Addr} {n : Nat} {z : Nat → Int} {w w' : World} (h : SlZ ao n z w) (hb : Below w.heap.size w w') : SlZ ao n z w' := fun j hj => by
  obtain ⟨b, off, e, hc⟩ := h j hj
  have hlt : b < w.heap.size := by
    rcases Nat.lt_or_ge b w.heap.size with e | e
    · exact e
    · exfalso
      have h1 : w.heap[b]? = none := Array.getElem?_eq_none e
      simp [World.cell?, h1] at hc
  exact ⟨b, off, e, ((bcell hb).1 b (off + j) hlt).trans hc⟩
end Go.Proofs.Ytafebmhbfmdjlaa

/- The reference's matrices: rows as they are handed in; a row's first number that is not 0. -/
namespace Go.Proofs.Ytafebmhbfmdjlaa
open Go.RowKit Go.Sort

theorem cell_lt {w : World} {a : Addr} {v : Value} (h : w.cell? a = some v) : a.block < w.heap.size := by
  rcases Nat.lt_or_ge a.block w.heap.size with e | e
  · exact e
  · exfalso
    have h1 : w.heap[a.block]? = none := Array.getElem?_eq_none e
    simp [World.cell?, h1] at h
/-- A list of numbers is no list of lists. -/
theorem OwnI.apart {base base' : Nat} {u v : Value} {l : List Int} {l' : List Value} {w : World} (h : OwnI base u l w) (h' : OwnV base' v l' w) : u.ownBlock = none ∨ u.ownBlock ≠ v.ownBlock := by
  rcases h.2 with ⟨h1, _⟩ | ⟨g, cap, cur, hv, _, hh, _⟩
  · left; rw [h1]; rfl
  · right
    rcases h'.2 with ⟨h2, _⟩ | ⟨g', cap', cur', hv', _, hh', _⟩
    · rw [hv, h2]; intro e; cases e
    · rw [hv, hv']
      intro e
      have e : some g = some g' := e
      cases e
      rw [hh] at hh'
      simp at hh'
end Go.Proofs.Ytafebmhbfmdjlaa

/- The reference's matrices: products (Product). -/
namespace Go.Proofs.Ytafebmhbfmdjlaa
open Go.RowKit Go.Sort

end Go.Proofs.Ytafebmhbfmdjlaa

/- The reference's matrices: which may be (MatrixMay). -/
namespace Go.Proofs.Ytafebmhbfmdjlaa
open Go.RowKit Go.Sort

/-- A matrix that is handed in: m lists of whatever length. -/
structure MatZ (ao : Option Addr) (m : Nat) (A : Nat → Option Addr) (N C : Nat → Nat) (Z : Nat → Nat → Int) (w : World) : Prop where
  cell : ∀ i, i < m → ∃ b off, ao = some ⟨b, off, none⟩ ∧ w.cell? ⟨b, off + i, none⟩ = some (.slice (A i) (N i) (C i))
  sl : ∀ i, i < m → SlZ (A i) (N i) (Z i) w
  le : ∀ i, i < m → N i ≤ C i
  cap : ∀ i, i < m → C i ≤ 9223372036854775807
  nil : ∀ i, i < m → A i = none → C i = 0
  few : ∀ i, i < m → N i ≤ 1000000
theorem MatZ.below {ao : Option Addr} {m : Nat} {A : Nat → Option Addr} {N C : Nat → Nat} {Z : Nat → Nat → Int} {w w' : World} (h : MatZ ao m A N C Z w) (hb : Below w.heap.size w w') : MatZ ao m A N C Z w' :=
  ⟨fun i hi => by
    obtain ⟨b, off, e, hc⟩ := h.cell i hi
    exact ⟨b, off, e, ((bcell hb).1 b (off + i) (cell_lt hc)).trans hc⟩, fun i hi => slz_below (h.sl i hi) hb, h.le, h.cap, h.nil, h.few⟩
end Go.Proofs.Ytafebmhbfmdjlaa
