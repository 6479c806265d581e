/- Texts of ours, one behind the other: V7 V8 N5 N6 U18 U19 W6 U20 U21 U22 W7 V9 V10 N7. -/
import Derived.Test.YtnjbnamcedfjaaaZV6
import Derived.Test.YtnjbnamcedfjaaaZN3
import Derived.Test.YtnjbnamcedfjaaaZU13
import Derived.WalkMore
import Derived.ScopeJumps
import Derived.Deep.LoopGhost
import Derived.Deep.CutBlock
import Derived.Deep.DeepCutAuto
/- The reference's polynomials: with 1 at the end (Monic); common divisors (PGcd). -/
namespace Go.Proofs.Ytnjbnamcedfjaaa
open Go.RowKit Go.Sort

end Go.Proofs.Ytnjbnamcedfjaaa

/- The reference's polynomials: common divisors (PGcd). -/
namespace Go.Proofs.Ytnjbnamcedfjaaa
open Go.RowKit Go.Sort

end Go.Proofs.Ytnjbnamcedfjaaa

/- Plain mathematics of polynomials, gone on: through given places, step by step. No Go text here. -/
namespace Go.Proofs.Ytnjbnamcedfjaaa

end Go.Proofs.Ytnjbnamcedfjaaa

/- Plain mathematics of polynomials, gone on: those that end with 1, in order; the least one that divides; parting by it, again and again. No Go text here. -/
namespace Go.Proofs.Ytnjbnamcedfjaaa

end Go.Proofs.Ytnjbnamcedfjaaa

/- The program's polynomials through given places (through). -/
namespace Go.Proofs.Ytnjbnamcedfjaaa
open Go.RowKit

end Go.Proofs.Ytnjbnamcedfjaaa

/- The next polynomial that ends with 1 (after). -/
namespace Go.Proofs.Ytnjbnamcedfjaaa
open Go.RowKit

end Go.Proofs.Ytnjbnamcedfjaaa

/- Lists of lists of numbers that a call makes for itself: one list more. -/
namespace Go.Proofs.Ytnjbnamcedfjaaa
open Go.RowKit

/-- The slice v of slices, made behind block number base, holds the slices l. -/
def OwnV (base : Nat) (v : Value) (l : List Value) (w : World) : Prop := w.ownsRow base 22 1 v l.length l
theorem OwnV.nil (base : Nat) (w : World) : OwnV base (.slice none 0 0) [] w := World.ownsRow_nil _ _ _ _
theorem OwnV.below {base B : Nat} {v : Value} {l : List Value} {w w' : World} (h : OwnV base v l w) (hb : Below B w w') (hB : w.heap.size ≤ B) : OwnV base v l w' := by
  obtain ⟨h1, h2⟩ := h
  refine ⟨h1, ?_⟩
  rcases h2 with h2 | ⟨g, cap, cur, hv, hg, hh, r⟩
  · exact Or.inl h2
  · exact Or.inr ⟨g, cap, cur, hv, hg, by rw [hb.block g (Nat.lt_of_lt_of_le (lt_of_block hh) hB)]; exact hh, r⟩
theorem OwnV.mono {base base' : Nat} {v : Value} {l : List Value} {w : World} (h : OwnV base v l w) (hb : base' ≤ base) : OwnV base' v l w := by
  obtain ⟨h1, h2⟩ := h
  refine ⟨h1, ?_⟩
  rcases h2 with h2 | ⟨g, cap, cur, hv, hg, r⟩
  · exact Or.inl h2
  · exact Or.inr ⟨g, cap, cur, hv, by omega, r⟩
/-- A row of numbers is no row of slices. -/
theorem Row.apart {base g N : Nat} {c : Nat → Nat} {v : Value} {l : List Value} {w : World} (h : Row g N c w) (ho : OwnV base v l w) : some g ≠ v.ownBlock := by
  obtain ⟨cap, f, ⟨cs, h1, _⟩, _⟩ := h
  rcases ho.2 with ⟨h2, _⟩ | ⟨g', cap', cur, hv, _, hh, _⟩
  · rw [h2]; intro e; cases e
  · rw [hv]
    intro e
    have e : some g = some g' := e
    cases e
    rw [h1] at hh
    simp at hh
end Go.Proofs.Ytnjbnamcedfjaaa

/- The program's parts of a polynomial: what is kept, a division. -/
namespace Go.Proofs.Ytnjbnamcedfjaaa
open Go.RowKit

end Go.Proofs.Ytnjbnamcedfjaaa

/- The program's parts of a polynomial: the walk (parts). -/
namespace Go.Proofs.Ytnjbnamcedfjaaa
open Go.RowKit

end Go.Proofs.Ytnjbnamcedfjaaa

/- The program's polynomials: the calls that are listed: Through, Factors, Irreducible. -/
namespace Go.Proofs.Ytnjbnamcedfjaaa
open Go.RowKit

end Go.Proofs.Ytnjbnamcedfjaaa

/- Lists of numbers that a call makes for itself: others' numbers laid behind them (append(v, l...)); a copy, as a plain list. -/
namespace Go.Proofs.Ytnjbnamcedfjaaa
open Go.RowKit

theorem OwnI.block {base : Nat} {v : Value} {l : List Int} {w : World} (h : OwnI base v l w) : ∀ k, v.ownBlock = some k → base ≤ k := fun k hk => (h.lt k hk).1
end Go.Proofs.Ytnjbnamcedfjaaa

/- The reference's polynomials: the next list (Next), which is ahead (Below). -/
namespace Go.Proofs.Ytnjbnamcedfjaaa
open Go.RowKit

end Go.Proofs.Ytnjbnamcedfjaaa

/- The reference's polynomials: parts (Factors). -/
namespace Go.Proofs.Ytnjbnamcedfjaaa
open Go.RowKit Go.Sort

end Go.Proofs.Ytnjbnamcedfjaaa

/- Plain mathematics of polynomials, gone on: Euclid's lemma; parting is unique. No Go text here. -/
namespace Go.Proofs.Ytnjbnamcedfjaaa

end Go.Proofs.Ytnjbnamcedfjaaa
