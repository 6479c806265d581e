/- Texts of ours, one behind the other: B1 B2 B3 W2 C1 C2 D1 R1 R2. -/
import Derived.Test.YtccfgiojlhfhaaaZA6
import Derived.Test.YtccfgiojlhfhaaaZM3
import Derived.Test.YtccfgiojlhfhaaaZA1
import Derived.Test.YtccfgiojlhfhaaaProg
import Derived.OwnWalk
import Derived.RegionTactic
import Derived.BigRegion
/- A field's object (New), and its plain calls. -/
namespace Go.Proofs.Ytccfgiojlhfhaaa
open Go.RowKit

/-! ### Plain calls -/
theorem ret_bool {a b : Bool} (h : a = b) : Ending.returned (.bool a) = .returned (.bool b) := by rw [h]

/-- Is a number an element? -/
def FD.has (D : FD) (a : Int) : Bool := decide (0 ≤ a ∧ a < D.q)
end Go.Proofs.Ytccfgiojlhfhaaa

/- A field's calls: sums, products, powers, logarithms. -/
namespace Go.Proofs.Ytccfgiojlhfhaaa
open Go.RowKit

def FD.addZ (D : FD) (a b : Int) : Int := if D.has a = true ∧ D.has b = true then (sumD D.p D.q a.toNat b.toNat : Nat) else -1
def FD.mulZ (D : FD) (a b : Int) : Int := if D.has a = true ∧ D.has b = true then (D.mul a.toNat b.toNat : Nat) else -1
theorem nat_has {D : FD} {n : Nat} (h : n < D.q) : D.has (n : Int) = true := by
  simp only [FD.has, decide_eq_true_eq]; omega

end Go.Proofs.Ytccfgiojlhfhaaa

/- A field's calls, gone on: products, powers, what undoes a product. -/
namespace Go.Proofs.Ytccfgiojlhfhaaa
open Go.RowKit

end Go.Proofs.Ytccfgiojlhfhaaa

/- Lists of numbers that a call makes for itself: one number more. -/
namespace Go.Proofs.Ytccfgiojlhfhaaa
open Go.RowKit

theorem Try.infoInt : (Try.prog.info? 3).map (fun i => (i.zero, i.size, i.bytes)) = some (some (.int .i64 0), 1, 8) := by kernel_rfl

/-- The slice v, made behind block number base, holds the numbers l. -/
def OwnI (base : Nat) (v : Value) (l : List Int) (w : World) : Prop := w.ownsRow base 3 1 v l.length (l.map (Value.int .i64))

theorem OwnI.nil (base : Nat) (w : World) : OwnI base (.slice none 0 0) [] w := World.ownsRow_nil _ _ _ _
theorem OwnI.alloc {base : Nat} {v : Value} {l : List Int} {w : World} (h : OwnI base v l w) (o : Obj) : OwnI base v l (w.alloc o) := World.ownsRow.alloc h o
theorem OwnI.kept {base : Nat} {v : Value} {l : List Int} {w w' : World} {row : Option Nat} (h : OwnI base v l w) (hg : w.grownBy w' row) (hne : v.ownBlock = none ∨ v.ownBlock ≠ row) : OwnI base v l w' := World.ownsRow.kept h hg hne
theorem OwnI.drewN {base : Nat} {v : Value} {l : List Int} {w : World} (h : OwnI base v l w) (n : Nat) : OwnI base v l (w.drewN n) :=
  h.kept (row := none) (grown_drewN (grown_refl _ _) n) (by cases v.ownBlock <;> simp)
/-- Old memory of the call's own: what is behind a later block number stays. -/
theorem OwnI.below {base B : Nat} {v : Value} {l : List Int} {w w' : World} (h : OwnI base v l w) (hb : Below B w w') (hB : ∀ k, v.ownBlock = some k → k < B) : OwnI base v l w' := by
  obtain ⟨h1, h2⟩ := h
  refine ⟨h1, ?_⟩
  rcases h2 with h2 | ⟨g, cap, cur, hv, hg, hh, r⟩
  · exact Or.inl h2
  · exact Or.inr ⟨g, cap, cur, hv, hg, by rw [hb.block g (hB g (by rw [hv]; rfl))]; exact hh, r⟩
theorem OwnI.lt {base : Nat} {v : Value} {l : List Int} {w : World} (h : OwnI base v l w) : ∀ k, v.ownBlock = some k → base ≤ k ∧ k < w.heap.size := World.ownsRow.lt h
theorem OwnI.mono {base base' : Nat} {v : Value} {l : List Int} {w : World} (h : OwnI base v l w) (hb : base' ≤ base) : OwnI base' v l w := by
  obtain ⟨h1, h2⟩ := h
  refine ⟨h1, ?_⟩
  rcases h2 with h2 | ⟨g, cap, cur, hv, hg, r⟩
  · exact Or.inl h2
  · exact Or.inr ⟨g, cap, cur, hv, by omega, r⟩

/-- A list that has numbers: where they lie. -/
theorem OwnI.at {base : Nat} {v : Value} {l : List Int} {w : World} (h : OwnI base v l w) (hl : l ≠ []) : ∃ g cap, v = .slice (some ⟨g, 0, none⟩) l.length cap ∧ base ≤ g ∧ g < w.heap.size ∧
    (∀ j, j < l.length → w.cell? ⟨g, j, none⟩ = some (.int .i64 (l.getD j 0))) ∧ (∀ j, w.frozen? ⟨g, j, none⟩ = false) := by
  have h' := h
  rcases h'.2 with ⟨_, h2⟩ | ⟨g, cap, cur, hv, hg, hh, r⟩
  · exact absurd (List.length_eq_zero_iff.1 h2) hl
  · have h3 : w.ownsRow base 3 1 (.slice (some ⟨g, 0, none⟩) l.length cap) l.length (l.map (Value.int .i64)) := hv ▸ h
    refine ⟨g, cap, hv, hg, lt_of_block hh, fun j hj => ?_, fun j => h3.frozenAt j⟩
    rw [h3.cellAt j (by omega), List.getElem?_map, List.getElem?_eq_getElem hj, List.getD_eq_getElem?_getD, List.getElem?_eq_getElem hj]; rfl

end Go.Proofs.Ytccfgiojlhfhaaa

/- The sizes of fields, as the reference lists them (Sizes, SizeOf). -/
namespace Go.Proofs.Ytccfgiojlhfhaaa
open Go.RowKit

end Go.Proofs.Ytccfgiojlhfhaaa

/- A field of raw size, as the statements make it (fieldOf). -/
namespace Go.Proofs.Ytccfgiojlhfhaaa
open Go.RowKit

end Go.Proofs.Ytccfgiojlhfhaaa

/- What is to be true of a field, in the words of its calls. -/
namespace Go.Proofs.Ytccfgiojlhfhaaa
open Go.RowKit

theorem addZ_nat {D : FD} (_F : Fld D) {x y : Nat} (hx : x < D.q) (hy : y < D.q) : D.addZ x y = (sumD D.p D.q x y : Nat) := by
  rw [FD.addZ, if_pos ⟨nat_has hx, nat_has hy⟩]; rfl
theorem mulZ_nat {D : FD} (_F : Fld D) {x y : Nat} (hx : x < D.q) (hy : y < D.q) : D.mulZ x y = (D.mul x y : Nat) := by
  rw [FD.mulZ, if_pos ⟨nat_has hx, nat_has hy⟩]; rfl
theorem ne_false {a b : Int} (h : a = b) : (a != b) = false := by rw [h]; simp

theorem t1 {D : FD} (hD : D ∈ fieldsL) {x y : Nat} (hx : x < D.q) (hy : y < D.q) : (D.addZ x y != D.addZ y x) = false := by
  have F := fld hD
  exact ne_false (by rw [addZ_nat F hx hy, addZ_nat F hy hx, F.add_comm])
theorem t2 {D : FD} (hD : D ∈ fieldsL) {x y : Nat} (hx : x < D.q) (hy : y < D.q) : (D.mulZ x y != D.mulZ y x) = false := by
  have F := fld hD
  exact ne_false (by rw [mulZ_nat F hx hy, mulZ_nat F hy hx, F.mul_comm])
end Go.Proofs.Ytccfgiojlhfhaaa

/- The reference: digits of a number, and the number of digits. -/
namespace Go.Proofs.Ytccfgiojlhfhaaa
open Go.RowKit

end Go.Proofs.Ytccfgiojlhfhaaa

/- The reference: sums and opposites, as it reckons them. -/
namespace Go.Proofs.Ytccfgiojlhfhaaa
open Go.RowKit

/-- Old cells behind a call that only makes memory. -/
theorem bcell {B : Nat} {W w1 : World} (hb : Below B W w1) : (∀ b o, b < B → w1.cell? ⟨b, o, none⟩ = W.cell? ⟨b, o, none⟩) ∧ (∀ b o, b < B → w1.frozen? ⟨b, o, none⟩ = W.frozen? ⟨b, o, none⟩) :=
  ⟨fun b o h => hb.cell (p := ⟨b, o, none⟩) h, fun b o h => hb.frozen (p := ⟨b, o, none⟩) h⟩

end Go.Proofs.Ytccfgiojlhfhaaa
