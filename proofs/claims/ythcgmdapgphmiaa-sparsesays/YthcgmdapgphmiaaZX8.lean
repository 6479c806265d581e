/- Texts of ours, one behind the other: X8 X9 X10 X11 S3 S4 S5. -/
import Derived.Test.YthcgmdapgphmiaaZX1
import Derived.Test.YthcgmdapgphmiaaZT2
import Derived.Test.YthcgmdapgphmiaaZL10
import Derived.Test.YthcgmdapgphmiaaZL1
/- The program's matrices: a copy of a matrix, with columns of noughts behind it (wider). -/
namespace Go.Proofs.Ythcgmdapgphmiaa
open Go.RowKit

end Go.Proofs.Ythcgmdapgphmiaa

/- The program's matrices: the field of one matrix or of two that may be; a matrix that may be, row by row. -/
namespace Go.Proofs.Ythcgmdapgphmiaa
open Go.RowKit

/-- The slice of slices that begins at ao: m rows M of L elements, row i at A i. -/
structure MatS (ao : Option Addr) (m L : Nat) (A : Nat → Option Addr) (C : Nat → Nat) (M : Nat → Nat → Nat) (w : World) : Prop where
  cell : ∀ i, i < m → ∃ b off, ao = some ⟨b, off, none⟩ ∧ w.cell? ⟨b, off + i, none⟩ = some (.slice (A i) L (C i))
  sl : ∀ i, i < m → Sl (A i) L (M i) w
theorem MatS.below {ao : Option Addr} {m L : Nat} {A : Nat → Option Addr} {C : Nat → Nat} {M : Nat → Nat → Nat} {w w' : World} (h : MatS ao m L A C M w) (hb : Below w.heap.size w w') : MatS ao m L A C M w' :=
  ⟨fun i hi => by
    obtain ⟨b, off, e, hc⟩ := h.cell i hi
    exact ⟨b, off, e, ((bcell hb).1 b (off + i) (cell_lt hc)).trans hc⟩, fun i hi => slz_below (h.sl i hi) hb⟩
theorem MatS.lt {ao : Option Addr} {m L : Nat} {A : Nat → Option Addr} {C : Nat → Nat} {M : Nat → Nat → Nat} {w : World} (h : MatS ao m L A C M w) (hL : 0 < L) (i : Nat) (hi : i < m) : ∀ a, A i = some a → a.block < w.heap.size := fun a ha => by
  obtain ⟨b, off, e, hc⟩ := h.sl i hi 0 hL
  rw [ha] at e
  cases e
  exact cell_lt hc
end Go.Proofs.Ythcgmdapgphmiaa

/- The program's matrices: products (Times). -/
namespace Go.Proofs.Ythcgmdapgphmiaa
open Go.RowKit

theorem Mx.drewN {B G m k n : Nat} {R : Nat → Nat → Nat} {h : Nat → Nat} {w : World} (H : Mx B G m k n R h w) (d : Nat) : Mx B G m k n R h (w.drewN d) := by
  obtain ⟨f, hf, hf'⟩ := H.outer
  exact ⟨⟨f, hf.drewN d, hf'⟩, fun i hi => (H.row i hi).drewN d, H.geG, H.ge, H.inj, H.ne, H.le⟩

end Go.Proofs.Ythcgmdapgphmiaa

/- The program's matrices: a column cleared by a row (clearColumn). -/
namespace Go.Proofs.Ythcgmdapgphmiaa
open Go.RowKit

/-- Of w's blocks only the first m of h have been written into; none is new. -/
structure TchR (h : Nat → Nat) (m : Nat) (w w' : World) : Prop where
  os : w'.os = w.os
  tape : w'.tape = w.tape
  output : w'.output = w.output
  size : w'.heap.size = w.heap.size
  block : ∀ k, (∀ i, i < m → k ≠ h i) → w'.heap[k]? = w.heap[k]?
theorem TchR.refl (h : Nat → Nat) (m : Nat) (w : World) : TchR h m w w := ⟨rfl, rfl, rfl, rfl, fun _ _ => rfl⟩
theorem TchR.trans {h : Nat → Nat} {m : Nat} {w w1 w2 : World} (a : TchR h m w w1) (b : TchR h m w1 w2) : TchR h m w w2 :=
  ⟨b.os.trans a.os, b.tape.trans a.tape, b.output.trans a.output, b.size.trans a.size, fun k hk => (b.block k hk).trans (a.block k hk)⟩
theorem Tch.all {h : Nat → Nat} {m i : Nat} {w w' : World} (a : Tch (h i) w w') (hi : i < m) : TchR h m w w' := ⟨a.os, a.tape, a.output, a.size, fun k hk => a.block k (hk i hi)⟩
theorem TchR.below {h : Nat → Nat} {m B : Nat} {w w' : World} (a : TchR h m w w') (hB : ∀ i, i < m → B ≤ h i) : Below B w w' := ⟨a.os, a.tape, a.output, by rw [a.size]; exact Nat.le_refl _, fun k hk => a.block k (fun i hi e => by have := hB i hi; omega)⟩
theorem TchR.drewN {h : Nat → Nat} {m : Nat} {w w' : World} (a : TchR h m w w') (n : Nat) : TchR h m w (w'.drewN n) := ⟨a.os, a.tape, a.output, a.size, a.block⟩

end Go.Proofs.Ythcgmdapgphmiaa

/- Plain mathematics: bringing rows to their one form, column by column, as the program does. -/
namespace Go.Proofs.Ythcgmdapgphmiaa
open Go.RowKit

/-- m rows of n numbers whose first c columns are done: k of the rows begin in columns p, the others are 0 there. -/
structure Rdg (D : FD) (m n c k : Nat) (R : Nat → Nat → Nat) (p : Nat → Nat) : Prop where
  el : ∀ i, i < m → El D (R i)
  bd : ∀ i, i < m → Bd n (R i)
  le : k ≤ m
  lt : ∀ i, i < k → p i < c
  mono : ∀ i j, i < j → j < k → p i < p j
  one : ∀ i, i < k → R i (p i) = 1
  zero : ∀ i j, i < m → j < k → i ≠ j → R i (p j) = 0
  lead : ∀ i c', i < k → c' < p i → R i c' = 0
  rest : ∀ i c', k ≤ i → i < m → c' < c → R i c' = 0
end Go.Proofs.Ythcgmdapgphmiaa

/- Plain mathematics: one row for each column in which no row of a reduced form begins (Null). -/
namespace Go.Proofs.Ythcgmdapgphmiaa

end Go.Proofs.Ythcgmdapgphmiaa

/- Plain mathematics: linear equations (Solve): the rows with what they are to be behind them. -/
namespace Go.Proofs.Ythcgmdapgphmiaa

end Go.Proofs.Ythcgmdapgphmiaa
