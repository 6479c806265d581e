/- Texts of ours, one behind the other: V10 N7. -/
import Derived.Test.YtmbglikcanchbakZV7
import Derived.Deep.CutBlock
import Derived.Deep.DeepCutAuto
/- The reference's polynomials: parts (Factors). -/
namespace Go.Proofs.Ytmbglikcanchbak
open Go.RowKit Go.Sort

end Go.Proofs.Ytmbglikcanchbak

/- Plain mathematics of polynomials, gone on: Euclid's lemma; parting is unique. No Go text here. -/
namespace Go.Proofs.Ytmbglikcanchbak

/-- It can't be parted: it is the first of all that divide it. -/
def Irr (D : FD) (p : Nat × (Nat → Nat)) : Prop := Lst D p.2 p.1 p.2

/-- None of them can be parted. -/
def Fac (D : FD) (L : List (Nat × (Nat → Nat))) : Prop := ∀ p, p ∈ L → Irr D p
theorem Fac.mn {D : FD} {L : List (Nat × (Nat → Nat))} (h : Fac D L) : ∀ p, p ∈ L → Mn D p.1 p.2 := fun p hp => (h p hp).mn
end Go.Proofs.Ytmbglikcanchbak
