/- Texts of ours, one behind the other: S1 S2 T1 W9 W11 S20 KA1 KA2 KA3. -/
import Derived.Test.YtonjkpakbmbafaaZW7
import Derived.Test.YtonjkpakbmbafaaZL10
import Derived.Deep.RegionHeld3
import Derived.WalkKit
import Derived.Test.YtonjkpakbmbafaaZA1
import Derived.Test.YtonjkpakbmbafaaZW3
import Derived.Test.YtonjkpakbmbafaaZB1
import Derived.Test.YtonjkpakbmbafaaZU2
import Derived.Deep.CutBlock
import Derived.Deep.DeepCutAuto
/- Plain mathematics: what rows span; the one reduced form of it. No Go text here. -/
namespace Go.Proofs.Ytonjkpakbmbafaa

/-- A sum of multiples. -/
def lsum (D : FD) : List (Nat × (Nat → Nat)) → Nat → Nat
  | [] => pnil
  | x :: l => padd D (pscale D x.1 x.2) (lsum D l)
/-- What the rows P span. -/
def Spn (D : FD) (P : (Nat → Nat) → Prop) (v : Nat → Nat) : Prop := ∃ l : List (Nat × (Nat → Nat)), (∀ x, x ∈ l → P x.2) ∧ v = lsum D l
theorem lsum_el {D : FD} (F : Fld D) : ∀ l, El D (lsum D l)
  | [] => el_nil F
  | _ :: l => el_add F (el_scale F _ _) (lsum_el F l)
theorem Spn.el {D : FD} (F : Fld D) {P : (Nat → Nat) → Prop} {v : Nat → Nat} (h : Spn D P v) : El D v := by
  obtain ⟨l, _, rfl⟩ := h
  exact lsum_el F l
/-- k rows of n numbers in their one form; p: where they begin. -/
structure RRE (D : FD) (n k : Nat) (R : Nat → Nat → Nat) (p : Nat → Nat) : Prop where
  el : ∀ i, i < k → El D (R i)
  bd : ∀ i, i < k → Bd n (R i)
  lt : ∀ i, i < k → p i < n
  mono : ∀ i j, i < j → j < k → p i < p j
  one : ∀ i, i < k → R i (p i) = 1
  zero : ∀ i j, i < k → j < k → i ≠ j → R i (p j) = 0
  lead : ∀ i c, i < k → c < p i → R i c = 0
/-- One of the first k rows. -/
def RowsOf (k : Nat) (R : Nat → Nat → Nat) (v : Nat → Nat) : Prop := ∃ i, i < k ∧ v = R i
end Go.Proofs.Ytonjkpakbmbafaa

/- Plain mathematics: a row more, put into a reduced form. No Go text here. -/
namespace Go.Proofs.Ytonjkpakbmbafaa

/-- What is left of a row by a reduced form, row by row. -/
structure Lft (D : FD) (n k : Nat) (R : Nat → Nat → Nat) (p : Nat → Nat) (r0 : Nat → Nat) (t : Nat) (r : Nat → Nat) : Prop where
  el : El D r
  bd : Bd n r
  zero : ∀ j, j < t → r (p j) = 0
  spn : Spn D (RowsOf k R) (psub D r0 r)
end Go.Proofs.Ytonjkpakbmbafaa

/- The reference's matrices: a row less another (less). -/
namespace Go.Proofs.Ytonjkpakbmbafaa
open Go.RowKit Go.Sort

end Go.Proofs.Ytonjkpakbmbafaa

/- Lists of lists of the call's own: others' lists laid behind them (append(v, l...)), also at a step of a region that draws its order. -/
namespace Go.Proofs.Ytonjkpakbmbafaa
open Go.RowKit

/-- The first n cells of the slice that begins at ao are vs. -/
def SlV (ao : Option Addr) (n : Nat) (vs : Nat → Value) (w : World) : Prop := ∀ j, j < n → ∃ b off, ao = some ⟨b, off, none⟩ ∧ w.cell? ⟨b, off + j, none⟩ = some (vs j)
/-- The first n of vs, as a list. -/
def vl (n : Nat) (vs : Nat → Value) : List Value := (List.range n).map vs
theorem OwnV.grown {base : Nat} {v : Value} {l : List Value} {w w' : World} {row : Option Nat} (h : OwnV base v l w) (hg : w.grownBy w' row) (hne : v.ownBlock = none ∨ v.ownBlock ≠ row) : OwnV base v l w' := World.ownsRow.kept h hg hne
theorem OwnV.alloc {base : Nat} {v : Value} {l : List Value} {w : World} (h : OwnV base v l w) (o : Obj) : OwnV base v l (w.alloc o) := World.ownsRow.alloc h o

theorem SlV.below {ao : Option Addr} {n : Nat} {vs : Nat → Value} {w w' : World} (h : SlV ao n vs w) (hb : Below w.heap.size w w') : SlV ao n vs w' := fun j hj => by
  obtain ⟨b, off, e, hc⟩ := h j hj
  have hlt : b < w.heap.size := by
    rcases Nat.lt_or_ge b w.heap.size with e | e
    · exact e
    · exfalso
      have h1 : w.heap[b]? = none := Array.getElem?_eq_none e
      simp [World.cell?, h1] at hc
  exact ⟨b, off, e, ((bcell hb).1 b (off + j) hlt).trans hc⟩
theorem SlV.less {ao : Option Addr} {n m : Nat} {vs : Nat → Value} {w : World} (h : SlV ao n vs w) (hm : m ≤ n) : SlV ao m vs w := fun j hj => h j (by omega)
theorem SlV.one {g : Nat} {v : Value} {w : World} (h : w.cell? ⟨g, 0, none⟩ = some v) : SlV (some ⟨g, 0, none⟩) 1 (fun _ => v) w := fun j hj => ⟨g, 0, rfl, by rw [show 0 + j = 0 from by omega]; exact h⟩
theorem SlZ.one {g : Nat} {x : Int} {w : World} (h : w.cell? ⟨g, 0, none⟩ = some (.int .i64 x)) : SlZ (some ⟨g, 0, none⟩) 1 (fun _ => x) w := fun j hj => ⟨g, 0, rfl, by rw [show 0 + j = 0 from by omega]; exact h⟩
theorem SlZ.less {ao : Option Addr} {n m : Nat} {z : Nat → Int} {w : World} (h : SlZ ao n z w) (hm : m ≤ n) : SlZ ao m z w := fun j hj => h j (by omega)

theorem slz_below {ao : Option Addr} {n : Nat} {z : Nat → Int} {w w' : World} (h : SlZ ao n z w) (hb : Below w.heap.size w w') : SlZ ao n z w' := fun j hj => by
  obtain ⟨b, off, e, hc⟩ := h j hj
  have hlt : b < w.heap.size := by
    rcases Nat.lt_or_ge b w.heap.size with e | e
    · exact e
    · exfalso
      have h1 : w.heap[b]? = none := Array.getElem?_eq_none e
      simp [World.cell?, h1] at hc
  exact ⟨b, off, e, ((bcell hb).1 b (off + j) hlt).trans hc⟩
end Go.Proofs.Ytonjkpakbmbafaa

/- A region that draws its order and whose last operation, which waits for all others, writes what another one reads. No Go text here. -/
namespace Go.Proofs.Ytonjkpakbmbafaa
open Go

end Go.Proofs.Ytonjkpakbmbafaa

/- Plain mathematics: how many sets there are; Krawtchouk's numbers. No Go text here. -/
namespace Go.Proofs.Ytonjkpakbmbafaa

end Go.Proofs.Ytonjkpakbmbafaa

/- Weights: powers and numbers of sets (the program's power, over). -/
namespace Go.Proofs.Ytonjkpakbmbafaa
open Go.RowKit

end Go.Proofs.Ytonjkpakbmbafaa

/- Weights: Krawtchouk's numbers (the program's krawtchouk). -/
namespace Go.Proofs.Ytonjkpakbmbafaa
open Go.RowKit

end Go.Proofs.Ytonjkpakbmbafaa

/- Weights: Krawtchouk's numbers (the reference's Kraw). -/
namespace Go.Proofs.Ytonjkpakbmbafaa
open Go.RowKit

/-- Whole numbers, below 0 too, in a row of the call's own. -/
def RowZ (g N : Nat) (z : Nat → Int) (w : World) : Prop := ∃ cap f, RowF g cap 3 f w ∧ N ≤ cap ∧ ∀ k, k < N → f k = .int .i64 (z k)
theorem RowZ.of {g N : Nat} {c : Nat → Nat} {w : World} (h : Row g N c w) : RowZ g N (fun k => ((c k : Nat) : Int)) w := by
  obtain ⟨cap, f, h1, h2, h3⟩ := h
  exact ⟨cap, f, h1, h2, h3⟩
theorem RowZ.cell {g N : Nat} {z : Nat → Int} {w : World} (h : RowZ g N z w) (k : Nat) (hk : k < N) : w.cell? ⟨g, k, none⟩ = some (.int .i64 (z k)) := by
  obtain ⟨cap, f, h1, h2, h3⟩ := h
  rw [h1.cell k (by omega), h3 k hk]
theorem RowZ.free {g N : Nat} {z : Nat → Int} {w : World} (h : RowZ g N z w) (k : Nat) : w.frozen? ⟨g, k, none⟩ = false := by
  obtain ⟨cap, f, h1, h2, h3⟩ := h
  exact h1.free k
theorem RowZ.store {g N : Nat} {z y : Nat → Int} {w : World} (h : RowZ g N z w) (k : Nat) (v : Int) (hd : ∀ j, j < N → y j = if j = k then v else z j) : RowZ g N y (w.setCell ⟨g, k, none⟩ (.int .i64 v)) := by
  obtain ⟨cap, f, h1, h2, h3⟩ := h
  refine ⟨cap, _, h1.store k _, h2, fun j hj => ?_⟩
  unfold upd
  rw [hd j hj]
  by_cases e : j = k
  · rw [if_pos e, if_pos e]
  · rw [if_neg e, if_neg e, h3 j hj]
theorem RowZ.congr {g N : Nat} {z y : Nat → Int} {w : World} (h : RowZ g N z w) (e : ∀ k, k < N → z k = y k) : RowZ g N y w := by
  obtain ⟨cap, f, h1, h2, h3⟩ := h
  exact ⟨cap, f, h1, h2, fun k hk => by rw [h3 k hk, e k hk]⟩
theorem RowZ.below {g N B : Nat} {z : Nat → Int} {w w' : World} (h : RowZ g N z w) (hb : Below B w w') (hB : g < B) : RowZ g N z w' := by
  obtain ⟨cap, f, h1, h2, h3⟩ := h
  exact ⟨cap, f, h1.below hb hB, h2, h3⟩
end Go.Proofs.Ytonjkpakbmbafaa
