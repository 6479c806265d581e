/- The reference: products by polynomials (Mul). -/
import Derived.Test.YtillljojdnofgaaZW3
import Derived.Test.YtillljojdnofgaaZM5
import Derived.StillTailTactics
namespace Go.Proofs.Ytillljojdnofgaa
open Go.RowKit

/-- Numbers in a block's first n cells, given by a function. -/
def Nums (g n : Nat) (d : Nat → Nat) (w : World) : Prop := ∀ j, j < n → w.cell? ⟨g, j, none⟩ = some (.int .i64 (d j : Nat))
theorem Nums.other {g n : Nat} {d : Nat → Nat} {w w' : World} (h : Nums g n d w) (e : w'.heap[g]? = w.heap[g]?) : Nums g n d w' :=
  fun j hj => (World.cell?_of_block (a := ⟨g, j, none⟩) e).trans (h j hj)
theorem Nums.below {g n B : Nat} {d : Nat → Nat} {w w' : World} (h : Nums g n d w) (hb : Below B w w') (hB : g < B) : Nums g n d w' :=
  h.other (hb.block g hB)

theorem below_drewN2 {B : Nat} {w w' : World} (h : Below B w w') (n : Nat) : Below B w (w'.drewN n) := ⟨h.os, h.tape, h.output, h.size, h.block⟩
end Go.Proofs.Ytillljojdnofgaa
