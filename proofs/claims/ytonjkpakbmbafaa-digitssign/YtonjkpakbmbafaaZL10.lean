/- Texts of ours, one behind the other: L10 O1 K1 K2 K3 J1 S1 S2 T1 W9 W11 S20 KA1 KA2. -/
import Derived.Test.YtonjkpakbmbafaaZL9
import Derived.Test.YtonjkpakbmbafaaChecked
import Derived.ProofKit
import Derived.OpenShut
import Derived.ChangeOld
import Derived.ChangeSlices
import Derived.SizedLaws
import Derived.Carry
import Derived.Test.YtonjkpakbmbafaaZW7
import Derived.Deep.RegionHeld3
import Derived.WalkKit
import Derived.Test.YtonjkpakbmbafaaZA1
import Derived.Test.YtonjkpakbmbafaaZR3
import Derived.Test.YtonjkpakbmbafaaZB1
/- PolySays: the walk of the statement, whatever it is given. -/
namespace Go.Proofs.Ytonjkpakbmbafaa
open Go.RowKit Go.Sort

/-- A list that is handed in, of whatever length. -/
structure ArgL (ao : Option Addr) (n cap : Nat) (z : Nat → Int) (w : World) : Prop where
  sl : SlZ ao n z w
  lt : LtB ao w.heap.size
  nil : ao = none → cap = 0
  le : n ≤ cap
  cap : cap ≤ 9223372036854775807
theorem ArgL.arg {ao : Option Addr} {n cap : Nat} {z : Nat → Int} {w : World} (h : ArgL ao n cap z w) (hn : n ≤ 1000000) : Arg ao n cap z w := ⟨h.sl, h.lt, hn, h.nil, h.le, h.cap⟩

end Go.Proofs.Ytonjkpakbmbafaa

/- A list of numbers that a statement is given, opened. -/
namespace Go.Proofs.Ytonjkpakbmbafaa
open Go.ChangeShapes Go.WideShapes Go.ChangeAt Go.RowKit

end Go.Proofs.Ytonjkpakbmbafaa

/- What statements make of raw numbers: Raw, Numbers. -/
namespace Go.Proofs.Ytonjkpakbmbafaa
open Go.RowKit Go.Sort

/-- A number of the machine. -/
def I64 (r : Int) : Prop := -9223372036854775808 ≤ r ∧ r ≤ 9223372036854775807
end Go.Proofs.Ytonjkpakbmbafaa

/- What statements make of raw numbers: different elements (PlacesOf). -/
namespace Go.Proofs.Ytonjkpakbmbafaa
open Go.RowKit Go.Sort

end Go.Proofs.Ytonjkpakbmbafaa

/- PolyMade: the walk of the statement. -/
namespace Go.Proofs.Ytonjkpakbmbafaa
open Go.RowKit Go.Sort

end Go.Proofs.Ytonjkpakbmbafaa

/- Calls at polynomials that end with 1: products, parts. -/
namespace Go.Proofs.Ytonjkpakbmbafaa
open Go.RowKit

theorem Elm.arg {D : FD} {v : Value} {d : Nat} {x : Nat → Nat} {w : World} (h : Elm v (d, x) w) (hx : Mn D d x) (hd : d ≤ 120) :
    ∃ ao ca, v = .slice ao (d + 1) ca ∧ Arg ao (d + 1) ca (fun j => ((x j : Nat) : Int)) w ∧ D.chk (d + 1) (fun j => ((x j : Nat) : Int)) = 0 ∧ zc (d + 1) (fun j => ((x j : Nat) : Int)) = x := by
  obtain ⟨ao, ca, hv, h1, h2, hs, hl, hn⟩ := h.sl
  refine ⟨ao, ca, hv, ⟨hs.z, hl, by omega, hn, h1, h2⟩, ?_, ?_⟩
  · unfold FD.chk
    rw [if_neg (by omega), if_pos]
    refine allHas_iff.2 fun j hj => ?_
    unfold FD.has
    rw [decide_eq_true_eq]
    have := hx.el j
    omega
  · funext j
    unfold zc
    by_cases e : j < d + 1
    · rw [if_pos e, Int.toNat_natCast]
    · rw [if_neg e, hx.bd j (by omega)]
end Go.Proofs.Ytonjkpakbmbafaa

/- Plain mathematics: what rows span; the one reduced form of it. No Go text here. -/
namespace Go.Proofs.Ytonjkpakbmbafaa

/-- A sum of multiples. -/
def lsum (D : FD) : List (Nat × (Nat → Nat)) → Nat → Nat
  | [] => pnil
  | x :: l => padd D (pscale D x.1 x.2) (lsum D l)
/-- What the rows P span. -/
def Spn (D : FD) (P : (Nat → Nat) → Prop) (v : Nat → Nat) : Prop := ∃ l : List (Nat × (Nat → Nat)), (∀ x, x ∈ l → P x.2) ∧ v = lsum D l
theorem lsum_el {D : FD} (F : Fld D) : ∀ l, El D (lsum D l)
  | [] => el_nil F
  | _ :: l => el_add F (el_scale F _ _) (lsum_el F l)
theorem Spn.el {D : FD} (F : Fld D) {P : (Nat → Nat) → Prop} {v : Nat → Nat} (h : Spn D P v) : El D v := by
  obtain ⟨l, _, rfl⟩ := h
  exact lsum_el F l
/-- k rows of n numbers in their one form; p: where they begin. -/
structure RRE (D : FD) (n k : Nat) (R : Nat → Nat → Nat) (p : Nat → Nat) : Prop where
  el : ∀ i, i < k → El D (R i)
  bd : ∀ i, i < k → Bd n (R i)
  lt : ∀ i, i < k → p i < n
  mono : ∀ i j, i < j → j < k → p i < p j
  one : ∀ i, i < k → R i (p i) = 1
  zero : ∀ i j, i < k → j < k → i ≠ j → R i (p j) = 0
  lead : ∀ i c, i < k → c < p i → R i c = 0
/-- One of the first k rows. -/
def RowsOf (k : Nat) (R : Nat → Nat → Nat) (v : Nat → Nat) : Prop := ∃ i, i < k ∧ v = R i
end Go.Proofs.Ytonjkpakbmbafaa

/- Plain mathematics: a row more, put into a reduced form. No Go text here. -/
namespace Go.Proofs.Ytonjkpakbmbafaa

/-- What is left of a row by a reduced form, row by row. -/
structure Lft (D : FD) (n k : Nat) (R : Nat → Nat → Nat) (p : Nat → Nat) (r0 : Nat → Nat) (t : Nat) (r : Nat → Nat) : Prop where
  el : El D r
  bd : Bd n r
  zero : ∀ j, j < t → r (p j) = 0
  spn : Spn D (RowsOf k R) (psub D r0 r)
end Go.Proofs.Ytonjkpakbmbafaa

/- The reference's matrices: a row less another (less). -/
namespace Go.Proofs.Ytonjkpakbmbafaa
open Go.RowKit Go.Sort

end Go.Proofs.Ytonjkpakbmbafaa

/- Lists of lists of the call's own: others' lists laid behind them (append(v, l...)), also at a step of a region that draws its order. -/
namespace Go.Proofs.Ytonjkpakbmbafaa
open Go.RowKit

/-- The first n cells of the slice that begins at ao are vs. -/
def SlV (ao : Option Addr) (n : Nat) (vs : Nat → Value) (w : World) : Prop := ∀ j, j < n → ∃ b off, ao = some ⟨b, off, none⟩ ∧ w.cell? ⟨b, off + j, none⟩ = some (vs j)
/-- The first n of vs, as a list. -/
def vl (n : Nat) (vs : Nat → Value) : List Value := (List.range n).map vs
theorem OwnV.grown {base : Nat} {v : Value} {l : List Value} {w w' : World} {row : Option Nat} (h : OwnV base v l w) (hg : w.grownBy w' row) (hne : v.ownBlock = none ∨ v.ownBlock ≠ row) : OwnV base v l w' := World.ownsRow.kept h hg hne
theorem OwnV.alloc {base : Nat} {v : Value} {l : List Value} {w : World} (h : OwnV base v l w) (o : Obj) : OwnV base v l (w.alloc o) := World.ownsRow.alloc h o

theorem SlV.below {ao : Option Addr} {n : Nat} {vs : Nat → Value} {w w' : World} (h : SlV ao n vs w) (hb : Below w.heap.size w w') : SlV ao n vs w' := fun j hj => by
  obtain ⟨b, off, e, hc⟩ := h j hj
  have hlt : b < w.heap.size := by
    rcases Nat.lt_or_ge b w.heap.size with e | e
    · exact e
    · exfalso
      have h1 : w.heap[b]? = none := Array.getElem?_eq_none e
      simp [World.cell?, h1] at hc
  exact ⟨b, off, e, ((bcell hb).1 b (off + j) hlt).trans hc⟩
theorem SlV.less {ao : Option Addr} {n m : Nat} {vs : Nat → Value} {w : World} (h : SlV ao n vs w) (hm : m ≤ n) : SlV ao m vs w := fun j hj => h j (by omega)
theorem SlV.one {g : Nat} {v : Value} {w : World} (h : w.cell? ⟨g, 0, none⟩ = some v) : SlV (some ⟨g, 0, none⟩) 1 (fun _ => v) w := fun j hj => ⟨g, 0, rfl, by rw [show 0 + j = 0 from by omega]; exact h⟩
theorem SlZ.one {g : Nat} {x : Int} {w : World} (h : w.cell? ⟨g, 0, none⟩ = some (.int .i64 x)) : SlZ (some ⟨g, 0, none⟩) 1 (fun _ => x) w := fun j hj => ⟨g, 0, rfl, by rw [show 0 + j = 0 from by omega]; exact h⟩
theorem SlZ.less {ao : Option Addr} {n m : Nat} {z : Nat → Int} {w : World} (h : SlZ ao n z w) (hm : m ≤ n) : SlZ ao m z w := fun j hj => h j (by omega)

theorem slz_below {ao : Option Addr} {n : Nat} {z : Nat → Int} {w w' : World} (h : SlZ ao n z w) (hb : Below w.heap.size w w') : SlZ ao n z w' := fun j hj => by
  obtain ⟨b, off, e, hc⟩ := h j hj
  have hlt : b < w.heap.size := by
    rcases Nat.lt_or_ge b w.heap.size with e | e
    · exact e
    · exfalso
      have h1 : w.heap[b]? = none := Array.getElem?_eq_none e
      simp [World.cell?, h1] at hc
  exact ⟨b, off, e, ((bcell hb).1 b (off + j) hlt).trans hc⟩
end Go.Proofs.Ytonjkpakbmbafaa

/- A region that draws its order and whose last operation, which waits for all others, writes what another one reads. No Go text here. -/
namespace Go.Proofs.Ytonjkpakbmbafaa
open Go

end Go.Proofs.Ytonjkpakbmbafaa

/- Plain mathematics: how many sets there are; Krawtchouk's numbers. No Go text here. -/
namespace Go.Proofs.Ytonjkpakbmbafaa

end Go.Proofs.Ytonjkpakbmbafaa

/- Weights: powers and numbers of sets (the program's power, over). -/
namespace Go.Proofs.Ytonjkpakbmbafaa
open Go.RowKit

end Go.Proofs.Ytonjkpakbmbafaa

/- Weights: Krawtchouk's numbers (the program's krawtchouk). -/
namespace Go.Proofs.Ytonjkpakbmbafaa
open Go.RowKit

end Go.Proofs.Ytonjkpakbmbafaa
