/- Texts of ours, one behind the other: X9 X10 X11 S3 X12 X13 X14 X15 X16 S4. -/
import Derived.Test.YtmbglikcanchbacZX3
import Derived.Test.YtmbglikcanchbacZT2
import Derived.Test.YtmbglikcanchbacZL10
import Derived.BigRegion
import Derived.Test.YtmbglikcanchbacZL1
/- The program's matrices: the field of one matrix or of two that may be; a matrix that may be, row by row. -/
namespace Go.Proofs.Ytmbglikcanchbac
open Go.RowKit

/-- The slice of slices that begins at ao: m rows M of L elements, row i at A i. -/
structure MatS (ao : Option Addr) (m L : Nat) (A : Nat → Option Addr) (C : Nat → Nat) (M : Nat → Nat → Nat) (w : World) : Prop where
  cell : ∀ i, i < m → ∃ b off, ao = some ⟨b, off, none⟩ ∧ w.cell? ⟨b, off + i, none⟩ = some (.slice (A i) L (C i))
  sl : ∀ i, i < m → Sl (A i) L (M i) w
theorem MatS.below {ao : Option Addr} {m L : Nat} {A : Nat → Option Addr} {C : Nat → Nat} {M : Nat → Nat → Nat} {w w' : World} (h : MatS ao m L A C M w) (hb : Below w.heap.size w w') : MatS ao m L A C M w' :=
  ⟨fun i hi => by
    obtain ⟨b, off, e, hc⟩ := h.cell i hi
    exact ⟨b, off, e, ((bcell hb).1 b (off + i) (cell_lt hc)).trans hc⟩, fun i hi => slz_below (h.sl i hi) hb⟩
theorem MatS.lt {ao : Option Addr} {m L : Nat} {A : Nat → Option Addr} {C : Nat → Nat} {M : Nat → Nat → Nat} {w : World} (h : MatS ao m L A C M w) (hL : 0 < L) (i : Nat) (hi : i < m) : ∀ a, A i = some a → a.block < w.heap.size := fun a ha => by
  obtain ⟨b, off, e, hc⟩ := h.sl i hi 0 hL
  rw [ha] at e
  cases e
  exact cell_lt hc
end Go.Proofs.Ytmbglikcanchbac

/- The program's matrices: products (Times). -/
namespace Go.Proofs.Ytmbglikcanchbac
open Go.RowKit

theorem Mx.drewN {B G m k n : Nat} {R : Nat → Nat → Nat} {h : Nat → Nat} {w : World} (H : Mx B G m k n R h w) (d : Nat) : Mx B G m k n R h (w.drewN d) := by
  obtain ⟨f, hf, hf'⟩ := H.outer
  exact ⟨⟨f, hf.drewN d, hf'⟩, fun i hi => (H.row i hi).drewN d, H.geG, H.ge, H.inj, H.ne, H.le⟩

end Go.Proofs.Ytmbglikcanchbac

/- The program's matrices: a column cleared by a row (clearColumn). -/
namespace Go.Proofs.Ytmbglikcanchbac
open Go.RowKit

/-- Of w's blocks only the first m of h have been written into; none is new. -/
structure TchR (h : Nat → Nat) (m : Nat) (w w' : World) : Prop where
  os : w'.os = w.os
  tape : w'.tape = w.tape
  output : w'.output = w.output
  size : w'.heap.size = w.heap.size
  block : ∀ k, (∀ i, i < m → k ≠ h i) → w'.heap[k]? = w.heap[k]?
theorem TchR.refl (h : Nat → Nat) (m : Nat) (w : World) : TchR h m w w := ⟨rfl, rfl, rfl, rfl, fun _ _ => rfl⟩
theorem TchR.trans {h : Nat → Nat} {m : Nat} {w w1 w2 : World} (a : TchR h m w w1) (b : TchR h m w1 w2) : TchR h m w w2 :=
  ⟨b.os.trans a.os, b.tape.trans a.tape, b.output.trans a.output, b.size.trans a.size, fun k hk => (b.block k hk).trans (a.block k hk)⟩
theorem Tch.all {h : Nat → Nat} {m i : Nat} {w w' : World} (a : Tch (h i) w w') (hi : i < m) : TchR h m w w' := ⟨a.os, a.tape, a.output, a.size, fun k hk => a.block k (hk i hi)⟩
theorem TchR.below {h : Nat → Nat} {m B : Nat} {w w' : World} (a : TchR h m w w') (hB : ∀ i, i < m → B ≤ h i) : Below B w w' := ⟨a.os, a.tape, a.output, by rw [a.size]; exact Nat.le_refl _, fun k hk => a.block k (fun i hi e => by have := hB i hi; omega)⟩
theorem TchR.drewN {h : Nat → Nat} {m : Nat} {w w' : World} (a : TchR h m w w') (n : Nat) : TchR h m w (w'.drewN n) := ⟨a.os, a.tape, a.output, a.size, a.block⟩

end Go.Proofs.Ytmbglikcanchbac

/- Plain mathematics: bringing rows to their one form, column by column, as the program does. -/
namespace Go.Proofs.Ytmbglikcanchbac
open Go.RowKit

/-- m rows of n numbers whose first c columns are done: k of the rows begin in columns p, the others are 0 there. -/
structure Rdg (D : FD) (m n c k : Nat) (R : Nat → Nat → Nat) (p : Nat → Nat) : Prop where
  el : ∀ i, i < m → El D (R i)
  bd : ∀ i, i < m → Bd n (R i)
  le : k ≤ m
  lt : ∀ i, i < k → p i < c
  mono : ∀ i j, i < j → j < k → p i < p j
  one : ∀ i, i < k → R i (p i) = 1
  zero : ∀ i j, i < m → j < k → i ≠ j → R i (p j) = 0
  lead : ∀ i c', i < k → c' < p i → R i c' = 0
  rest : ∀ i c', k ≤ i → i < m → c' < c → R i c' = 0
theorem rdg_skip {D : FD} {m n c k : Nat} {R : Nat → Nat → Nat} {p : Nat → Nat} (h : Rdg D m n c k R p) (h0 : ∀ i, k ≤ i → i < m → R i c = 0) : Rdg D m n (c + 1) k R p :=
  ⟨h.el, h.bd, h.le, fun i hi => by have := h.lt i hi; omega, h.mono, h.one, h.zero, h.lead, fun i c' hk hi hc => by
    by_cases e : c' = c
    · rw [e]; exact h0 i hk hi
    · exact h.rest i c' hk hi (by omega)⟩
end Go.Proofs.Ytmbglikcanchbac

/- The program's matrices: the first row that is not 0 in a column. -/
namespace Go.Proofs.Ytmbglikcanchbac
open Go.RowKit

end Go.Proofs.Ytmbglikcanchbac

/- The program's matrices: two rows change places; rows that are left as they are. -/
namespace Go.Proofs.Ytmbglikcanchbac
open Go.RowKit

theorem OwnI.same {base : Nat} {v : Value} {l : List Int} {w w' : World} (h : OwnI base v l w) (hb : ∀ k, v.ownBlock = some k → w'.heap[k]? = w.heap[k]?) : OwnI base v l w' := by
  obtain ⟨h1, h2⟩ := h
  refine ⟨h1, ?_⟩
  rcases h2 with h2 | ⟨g, cap, cur, hv, hg, hh, r⟩
  · exact Or.inl h2
  · exact Or.inr ⟨g, cap, cur, hv, hg, by rw [hb g (by rw [hv]; rfl)]; exact hh, r⟩
end Go.Proofs.Ytmbglikcanchbac

/- The program's matrices: rows brought to their one form (reduce). -/
namespace Go.Proofs.Ytmbglikcanchbac
open Go.RowKit

structure RSt (D : FD) (B G mc m n : Nat) (R : Nat → Nat → Nat) (w : World) (c k : Nat) (R' : Nat → Nat → Nat) (p h' : Nat → Nat) (pv : Value) (wr : World) : Prop where
  rdg : Rdg D m n c k R' p
  mx : Mx B G mc m n R' h' wr
  lt : ∀ i, i < m → h' i < w.heap.size
  own : OwnI w.heap.size pv (zl k fun j => ((p j : Nat) : Int)) wr
  spn : ∀ v, Spn D (RowsOf m R') v ↔ Spn D (RowsOf m R) v
  bel : Below B w wr

theorem RSt.skip {D : FD} {B G mc m n : Nat} {R : Nat → Nat → Nat} {w : World} {c k : Nat} {R' : Nat → Nat → Nat} {p h' : Nat → Nat} {pv : Value} {wr : World} (H : RSt D B G mc m n R w c k R' p h' pv wr) (hB : B ≤ w.heap.size) (h0 : ∀ i, k ≤ i → i < m → R' i c = 0) (o : Obj) : RSt D B G mc m n R w (c + 1) k R' p h' pv (wr.alloc o) :=
  ⟨rdg_skip H.rdg h0, H.mx.below ((Below.refl _ _).alloc (Nat.le_refl _) _), H.lt, H.own.alloc o, H.spn, H.bel.alloc (Nat.le_trans hB H.bel.size) _⟩

end Go.Proofs.Ytmbglikcanchbac

/- The program's matrices: the one form of what rows span (Reduce). -/
namespace Go.Proofs.Ytmbglikcanchbac
open Go.RowKit

theorem Mx.mono {B B' G m k n : Nat} {R : Nat → Nat → Nat} {h : Nat → Nat} {w : World} (H : Mx B G m k n R h w) (hB : B' ≤ B) : Mx B' G m k n R h w :=
  ⟨H.outer, H.row, Nat.le_trans hB H.geG, fun i hi => Nat.le_trans hB (H.ge i hi), H.inj, H.ne, H.le⟩

end Go.Proofs.Ytmbglikcanchbac

/- The program's matrices: ranks (Rank); what is said where there is no field. -/
namespace Go.Proofs.Ytmbglikcanchbac
open Go.RowKit

end Go.Proofs.Ytmbglikcanchbac

/- Plain mathematics: one row for each column in which no row of a reduced form begins (Null). -/
namespace Go.Proofs.Ytmbglikcanchbac

end Go.Proofs.Ytmbglikcanchbac
