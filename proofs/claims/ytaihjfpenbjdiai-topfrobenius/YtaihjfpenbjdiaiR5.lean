/- The reference: products, all cases (Mul). -/
import Derived.Test.YtaihjfpenbjdiaiR4
import Derived.Test.YtaihjfpenbjdiaiM6
namespace Go.Proofs.Ytaihjfpenbjdiai
open Go.RowKit

/-- A modulus that lies in memory: digits, and what is behind them. -/
structure ModAt (D : FD) (v : Value) (md : Nat → Nat) (w : World) : Prop where
  lies : D.m = 1 ∨ ∃ gm lm cm, v = .slice (some ⟨gm, 0, none⟩) lm cm ∧ D.m < lm ∧ gm < w.heap.size ∧ Nums gm D.m md w
  lt : ∀ j, md j < D.p
theorem ModAt.below {D : FD} {v : Value} {md : Nat → Nat} {w w' : World} (h : ModAt D v md w) (hb : Below w.heap.size w w') : ModAt D v md w' := by
  refine ⟨?_, h.lt⟩
  rcases h.lies with h1 | ⟨gm, lm, cm, h1, h2, h3, h4⟩
  · exact Or.inl h1
  · exact Or.inr ⟨gm, lm, cm, h1, h2, Nat.lt_of_lt_of_le h3 hb.size, h4.below hb h3⟩

end Go.Proofs.Ytaihjfpenbjdiai
