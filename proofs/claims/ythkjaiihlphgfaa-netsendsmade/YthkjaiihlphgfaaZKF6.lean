/- NetSends: ways through it, over what its calls tell (printed by make/kf6.py). -/
import Derived.Test.YthkjaiihlphgfaaZKF5
import Derived.Test.YthkjaiihlphgfaaZO3
import Derived.Test.YthkjaiihlphgfaaZW12
namespace Go.Proofs.Ythkjaiihlphgfaa
open Go.RowKit Go.Sort
set_option linter.unusedVariables false

/-- What is carried along in NetSends. -/
structure NsG (D : FD) (B Bf gm cm : Nat) (n : Int) (v : Value) (w0 w : World) : Prop where
  nb : NB B n v w
  box : Box Bf D D.gen (.slice (some ⟨gm, 0, none⟩) (D.m + 1) cm) w
  md : ModAt D (.slice (some ⟨gm, 0, none⟩) (D.m + 1) cm) D.md w
  bel : Below w0.heap.size w0 w
theorem NsG.next {D : FD} {B Bf gm cm : Nat} {n : Int} {v : Value} {w0 w w' : World} (h : NsG D B Bf gm cm n v w0 w) (hb : Below w.heap.size w w') : NsG D B Bf gm cm n v w0 w' :=
  ⟨h.nb.keep hb, h.box.below hb (cell_lt h.box.c0), h.md.below hb, bel_up' h.bel hb⟩
/-- The same where there is no field. -/
structure NsN (B : Nat) (n : Int) (v : Value) (w0 w : World) : Prop where
  nb : NB B n v w
  bel : Below w0.heap.size w0 w
theorem NsN.next {B : Nat} {n : Int} {v : Value} {w0 w w' : World} (h : NsN B n v w0 w) (hb : Below w.heap.size w w') : NsN B n v w0 w' := ⟨h.nb.keep hb, bel_up' h.bel hb⟩
theorem bel_dr {w w' : World} {d : Nat} (h : w' = w.drewN d) : Below w.heap.size w w' := by rw [h]; exact below_drewN2 (Below.refl _ _) d

end Go.Proofs.Ythkjaiihlphgfaa
