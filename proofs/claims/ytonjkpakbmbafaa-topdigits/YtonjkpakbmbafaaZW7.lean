/- Texts of ours, one behind the other: W7 V9 V10 N7. -/
import Derived.Test.YtonjkpakbmbafaaZW6
import Derived.Test.YtonjkpakbmbafaaZV7
import Derived.Deep.CutBlock
import Derived.Deep.DeepCutAuto
/- Lists of numbers that a call makes for itself: others' numbers laid behind them (append(v, l...)); a copy, as a plain list. -/
namespace Go.Proofs.Ytonjkpakbmbafaa
open Go.RowKit

theorem OwnI.block {base : Nat} {v : Value} {l : List Int} {w : World} (h : OwnI base v l w) : ∀ k, v.ownBlock = some k → base ≤ k := fun k hk => (h.lt k hk).1
theorem OwnP.block {base n : Nat} {v : Value} {c : Nat → Nat} {w : World} (h : OwnP base v n c w) : ∀ k, v.ownBlock = some k → base ≤ k := by
  obtain ⟨ao, cap, rfl, _, _, hg, _⟩ := h
  intro k hk
  cases ao with
  | none => cases hk
  | some x =>
    have hk : some x.block = some k := hk
    cases hk
    exact hg x rfl

/-- What lies elsewhere stays where one block is written. -/
theorem Elm.apart {v : Value} {p : Nat × (Nat → Nat)} {w w' : World} {g : Nat} (h : Elm v p w) (hg : w.grownBy w' (some g)) (hne : v.ownBlock ≠ some g) : Elm v p w' := by
  obtain ⟨g', cap, e, h1, h2, hr⟩ := h
  refine ⟨g', cap, e, h1, h2, hr.other (hg.block g' hr.lt ?_)⟩
  intro e'
  rw [e] at hne
  exact hne e'
/-- A list of lists, none of which lies in block g. -/
def LLx (g base : Nat) (v : Value) (L : List (Nat × (Nat → Nat))) (w : World) : Prop := ∃ l, OwnV base v l w ∧ Elms l L w ∧ ∀ u ∈ l, u.ownBlock ≠ some g
theorem LLx.below {g base B : Nat} {v : Value} {L : List (Nat × (Nat → Nat))} {w w' : World} (h : LLx g base v L w) (hb : Below B w w') (hB : w.heap.size ≤ B) : LLx g base v L w' := by
  obtain ⟨l, h1, h2, h3⟩ := h
  exact ⟨l, h1.below hb hB, h2.below hb hB, h3⟩
theorem LLx.apart {g base N : Nat} {c : Nat → Nat} {v : Value} {L : List (Nat × (Nat → Nat))} {w w' : World} (h : LLx g base v L w) (hr : Row g N c w) (hg : w.grownBy w' (some g)) : LLx g base v L w' := by
  obtain ⟨l, h1, h2, h3⟩ := h
  refine ⟨l, World.ownsRow.kept h1 hg (Or.inr fun e => hr.apart h1 e.symm), ⟨h2.1, fun j u p hu hp => (h2.2 j u p hu hp).apart hg (h3 u (List.mem_of_getElem? hu))⟩, h3⟩
end Go.Proofs.Ytonjkpakbmbafaa

/- The reference's polynomials: the next list (Next), which is ahead (Below). -/
namespace Go.Proofs.Ytonjkpakbmbafaa
open Go.RowKit

end Go.Proofs.Ytonjkpakbmbafaa

/- The reference's polynomials: parts (Factors). -/
namespace Go.Proofs.Ytonjkpakbmbafaa
open Go.RowKit Go.Sort

end Go.Proofs.Ytonjkpakbmbafaa

/- Plain mathematics of polynomials, gone on: Euclid's lemma; parting is unique. No Go text here. -/
namespace Go.Proofs.Ytonjkpakbmbafaa

/-- It can't be parted: it is the first of all that divide it. -/
def Irr (D : FD) (p : Nat × (Nat → Nat)) : Prop := Lst D p.2 p.1 p.2

/-- None of them can be parted. -/
def Fac (D : FD) (L : List (Nat × (Nat → Nat))) : Prop := ∀ p, p ∈ L → Irr D p
theorem Fac.mn {D : FD} {L : List (Nat × (Nat → Nat))} (h : Fac D L) : ∀ p, p ∈ L → Mn D p.1 p.2 := fun p hp => (h p hp).mn
end Go.Proofs.Ytonjkpakbmbafaa
