/- Texts of ours, one behind the other: L10 O1 K1 K2 K3 J1 S1 S2 T1 W9 T2 T4. -/
import Derived.Test.YtjkncdmbcckcdaaZL9
import Derived.Test.YtjkncdmbcckcdaaChecked
import Derived.ProofKit
import Derived.OpenShut
import Derived.ChangeOld
import Derived.ChangeSlices
import Derived.SizedLaws
import Derived.Carry
import Derived.Test.YtjkncdmbcckcdaaZW7
/- PolySays: the walk of the statement, whatever it is given. -/
namespace Go.Proofs.Ytjkncdmbcckcdaa
open Go.RowKit Go.Sort

/-- A list that is handed in, of whatever length. -/
structure ArgL (ao : Option Addr) (n cap : Nat) (z : Nat → Int) (w : World) : Prop where
  sl : SlZ ao n z w
  lt : LtB ao w.heap.size
  nil : ao = none → cap = 0
  le : n ≤ cap
  cap : cap ≤ 9223372036854775807
theorem ArgL.arg {ao : Option Addr} {n cap : Nat} {z : Nat → Int} {w : World} (h : ArgL ao n cap z w) (hn : n ≤ 1000000) : Arg ao n cap z w := ⟨h.sl, h.lt, hn, h.nil, h.le, h.cap⟩

end Go.Proofs.Ytjkncdmbcckcdaa

/- A list of numbers that a statement is given, opened. -/
namespace Go.Proofs.Ytjkncdmbcckcdaa
open Go.ChangeShapes Go.WideShapes Go.ChangeAt Go.RowKit

theorem Try.cellsInt : Try.prog.cellsOf 3 = 1 := by kernel_rfl
theorem Try.bytesInt : Try.prog.bytesOf 3 = 8 := by kernel_rfl
theorem Try.laidOut' : laidOutB Try.prog = true := by kernel_rfl

set_option maxRecDepth 100000 in
theorem open_list {H : Type} {enc : TypeId × Value → H} {W : World} {base : Nat} {v : Value} {d : DataW H} {p : List MemPlace} (hok : Value.okWide Try.prog W .any base 22 v)
    (h : DataW.Trod enc Try.prog W 0 (fun _ => true) true 22 v d p) :
    ∃ ao n ca z, v = .slice ao n ca ∧ ArgL ao n ca z W ∧ ((d = .nil ∧ ca = 0) ∨ ∃ es sp, d = .slice es sp ∧ es.length + sp.length = ca) := by
  obtain ⟨a0, len, cap, rfl⟩ := okWide_slice Try.underlying22 hok
  obtain ⟨fuel, hf⟩ := h
  rcases open_ints Try.underlying22 Try.underlying3 Try.cellsInt hf with ⟨hcs, hx⟩ | ⟨a, len', cap', zs, hcs, _, hl, hm, hz, hx, hcell, _⟩
  · simp [Value.cells] at hcs
    obtain ⟨rfl, rfl, rfl⟩ := hcs
    simp only [Prod.mk.injEq] at hx
    exact ⟨none, 0, 0, fun _ => 0, rfl, ⟨fun j hj => by omega, fun x hx => (by cases hx), fun _ => rfl, Nat.le_refl _, by omega⟩, Or.inl ⟨hx.1, rfl⟩⟩
  · simp [Value.cells] at hcs
    obtain ⟨rfl, rfl, rfl⟩ := hcs
    simp only [Prod.mk.injEq] at hx
    simp only [if_true] at hz
    have hhas : a.spot = none ∧ a.block < W.heap.size := by
      have h1 : W.has Try.prog .any base a 3 cap := by
        unfold Value.okWide at hok
        rw [Try.underlying22] at hok
        simp only at hok
        unfold Cell.okWide at hok
        rw [Try.underlying22] at hok
        simp only at hok
        unfold Cell.ok at hok
        rw [Try.underlying22] at hok
        exact hok.2.2
      obtain ⟨_, h2, row, cells, h3, _⟩ := h1
      refine ⟨h2, ?_⟩
      rcases Nat.lt_or_ge a.block W.heap.size with e | e
      · exact e
      · exfalso
        have : W.heap[a.block]? = none := Array.getElem?_eq_none e
        simp [World.shape?, this] at h3
    obtain ⟨b, off, spot⟩ := a
    obtain ⟨hs, hlt⟩ := hhas
    simp only at hs hlt
    subst hs
    refine ⟨some ⟨b, off, none⟩, len, cap, fun j => zs.getD j 0, rfl, ⟨fun j hj => ⟨b, off, rfl, ?_⟩, fun x hx => (by cases hx; exact hlt), fun e => (by cases e), hl, hm⟩, Or.inr ⟨_, _, hx.1, ?_⟩⟩
    · have := hcell j (by omega)
      rwa [add_off] at this
    · simp [lits]
      omega
/-- No list that is handed in takes more than the form's own reach. -/
theorem sized_list {H : Type} {ts : List TypeId} {ds : List (DataW H)} {d : DataW H} {ca j : Nat} (h : (DataW.weightsEach Try.prog ts ds).all (· ≤ reachBytes) = true) (ht : ts[j]? = some 22) (hd : ds[j]? = some d)
    (hc : (d = .nil ∧ ca = 0) ∨ ∃ es sp, d = .slice es sp ∧ es.length + sp.length = ca) : ca ≤ 17592186044416 := by
  rcases hc with ⟨_, rfl⟩ | ⟨es, sp, rfl, rfl⟩
  · omega
  · have := sized_slice h ht hd Try.underlying22
    rw [Try.bytesInt] at this
    unfold reachBytes at this
    omega
end Go.Proofs.Ytjkncdmbcckcdaa

/- What statements make of raw numbers: Raw, Numbers. -/
namespace Go.Proofs.Ytjkncdmbcckcdaa
open Go.RowKit Go.Sort

/-- A number of the machine. -/
def I64 (r : Int) : Prop := -9223372036854775808 ≤ r ∧ r ≤ 9223372036854775807
end Go.Proofs.Ytjkncdmbcckcdaa

/- What statements make of raw numbers: different elements (PlacesOf). -/
namespace Go.Proofs.Ytjkncdmbcckcdaa
open Go.RowKit Go.Sort

end Go.Proofs.Ytjkncdmbcckcdaa

/- PolyMade: the walk of the statement. -/
namespace Go.Proofs.Ytjkncdmbcckcdaa
open Go.RowKit Go.Sort

end Go.Proofs.Ytjkncdmbcckcdaa

/- Calls at polynomials that end with 1: products, parts. -/
namespace Go.Proofs.Ytjkncdmbcckcdaa
open Go.RowKit

end Go.Proofs.Ytjkncdmbcckcdaa

/- Plain mathematics: what rows span; the one reduced form of it. No Go text here. -/
namespace Go.Proofs.Ytjkncdmbcckcdaa

end Go.Proofs.Ytjkncdmbcckcdaa

/- Plain mathematics: a row more, put into a reduced form. No Go text here. -/
namespace Go.Proofs.Ytjkncdmbcckcdaa

end Go.Proofs.Ytjkncdmbcckcdaa

/- The reference's matrices: a row less another (less). -/
namespace Go.Proofs.Ytjkncdmbcckcdaa
open Go.RowKit Go.Sort

end Go.Proofs.Ytjkncdmbcckcdaa

/- Lists of lists of the call's own: others' lists laid behind them (append(v, l...)), also at a step of a region that draws its order. -/
namespace Go.Proofs.Ytjkncdmbcckcdaa
open Go.RowKit

/-- The first n of vs, as a list. -/
def vl (n : Nat) (vs : Nat → Value) : List Value := (List.range n).map vs
theorem OwnV.grown {base : Nat} {v : Value} {l : List Value} {w w' : World} {row : Option Nat} (h : OwnV base v l w) (hg : w.grownBy w' row) (hne : v.ownBlock = none ∨ v.ownBlock ≠ row) : OwnV base v l w' := World.ownsRow.kept h hg hne
theorem OwnV.alloc {base : Nat} {v : Value} {l : List Value} {w : World} (h : OwnV base v l w) (o : Obj) : OwnV base v l (w.alloc o) := World.ownsRow.alloc h o

theorem slz_below {ao : Option Addr} {n : Nat} {z : Nat → Int} {w w' : World} (h : SlZ ao n z w) (hb : Below w.heap.size w w') : SlZ ao n z w' := fun j hj => by
  obtain ⟨b, off, e, hc⟩ := h j hj
  have hlt : b < w.heap.size := by
    rcases Nat.lt_or_ge b w.heap.size with e | e
    · exact e
    · exfalso
      have h1 : w.heap[b]? = none := Array.getElem?_eq_none e
      simp [World.cell?, h1] at hc
  exact ⟨b, off, e, ((bcell hb).1 b (off + j) hlt).trans hc⟩
end Go.Proofs.Ytjkncdmbcckcdaa

/- The reference's matrices: rows as they are handed in; a row's first number that is not 0. -/
namespace Go.Proofs.Ytjkncdmbcckcdaa
open Go.RowKit Go.Sort

theorem cell_lt {w : World} {a : Addr} {v : Value} (h : w.cell? a = some v) : a.block < w.heap.size := by
  rcases Nat.lt_or_ge a.block w.heap.size with e | e
  · exact e
  · exfalso
    have h1 : w.heap[a.block]? = none := Array.getElem?_eq_none e
    simp [World.cell?, h1] at h
/-- A list of numbers is no list of lists. -/
theorem OwnI.apart {base base' : Nat} {u v : Value} {l : List Int} {l' : List Value} {w : World} (h : OwnI base u l w) (h' : OwnV base' v l' w) : u.ownBlock = none ∨ u.ownBlock ≠ v.ownBlock := by
  rcases h.2 with ⟨h1, _⟩ | ⟨g, cap, cur, hv, _, hh, _⟩
  · left; rw [h1]; rfl
  · right
    rcases h'.2 with ⟨h2, _⟩ | ⟨g', cap', cur', hv', _, hh', _⟩
    · rw [hv, h2]; intro e; cases e
    · rw [hv, hv']
      intro e
      have e : some g = some g' := e
      cases e
      rw [hh] at hh'
      simp at hh'
end Go.Proofs.Ytjkncdmbcckcdaa

/- The reference's matrices: products (Product). -/
namespace Go.Proofs.Ytjkncdmbcckcdaa
open Go.RowKit Go.Sort

end Go.Proofs.Ytjkncdmbcckcdaa
