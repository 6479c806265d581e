/- Texts of ours, one behind the other: B1 B2 B3 W2 C1 C2 D1 R1 R2 R3. -/
import Derived.Test.YtonjkpakbmbafaaZA2
import Derived.Test.YtonjkpakbmbafaaZM3
import Derived.Test.YtonjkpakbmbafaaZA1
import Derived.Test.YtonjkpakbmbafaaProg
import Derived.OwnWalk
import Derived.RegionTactic
import Derived.BigRegion
/- A field's object (New), and its plain calls. -/
namespace Go.Proofs.Ytonjkpakbmbafaa
open Go.RowKit

/-- A field's object F, and its table T. -/
structure FAt (F T : Nat) (D : FD) (g : Nat → Value) (w : World) : Prop where
  ptr : w.cell? ⟨F, 0, none⟩ = some (.pointer (some ⟨T, 0, none⟩))
  row : RowF T 133 122 g w
  tab : Tab D.q D.p D.m D.low D.gen D.st g
  ltF : F < w.heap.size

theorem FAt.drewN {F T : Nat} {D : FD} {g : Nat → Value} {w : World} (h : FAt F T D g w) (n : Nat) : FAt F T D g (w.drewN n) := ⟨h.ptr, h.row.drewN n, h.tab, h.ltF⟩
theorem FAt.below {F T B : Nat} {D : FD} {g : Nat → Value} {w w' : World} (h : FAt F T D g w) (hb : Below B w w') (hF : F < B) (hT : T < B) : FAt F T D g w' :=
  ⟨(hb.cell (p := ⟨F, 0, none⟩) hF).trans h.ptr, h.row.below hb hT, h.tab, Nat.lt_of_lt_of_le h.ltF hb.size⟩

/-! ### Plain calls -/
/-- Is a number an element? -/
def FD.has (D : FD) (a : Int) : Bool := decide (0 ≤ a ∧ a < D.q)
end Go.Proofs.Ytonjkpakbmbafaa

/- A field's calls: sums, products, powers, logarithms. -/
namespace Go.Proofs.Ytonjkpakbmbafaa
open Go.RowKit

end Go.Proofs.Ytonjkpakbmbafaa

/- A field's calls, gone on: products, powers, what undoes a product. -/
namespace Go.Proofs.Ytonjkpakbmbafaa
open Go.RowKit

end Go.Proofs.Ytonjkpakbmbafaa

/- Lists of numbers that a call makes for itself: one number more. -/
namespace Go.Proofs.Ytonjkpakbmbafaa
open Go.RowKit

theorem Try.infoInt : (Try.prog.info? 3).map (fun i => (i.zero, i.size, i.bytes)) = some (some (.int .i64 0), 1, 8) := by kernel_rfl

/-- The slice v, made behind block number base, holds the numbers l. -/
def OwnI (base : Nat) (v : Value) (l : List Int) (w : World) : Prop := w.ownsRow base 3 1 v l.length (l.map (Value.int .i64))

theorem OwnI.nil (base : Nat) (w : World) : OwnI base (.slice none 0 0) [] w := World.ownsRow_nil _ _ _ _
theorem OwnI.alloc {base : Nat} {v : Value} {l : List Int} {w : World} (h : OwnI base v l w) (o : Obj) : OwnI base v l (w.alloc o) := World.ownsRow.alloc h o
theorem OwnI.kept {base : Nat} {v : Value} {l : List Int} {w w' : World} {row : Option Nat} (h : OwnI base v l w) (hg : w.grownBy w' row) (hne : v.ownBlock = none ∨ v.ownBlock ≠ row) : OwnI base v l w' := World.ownsRow.kept h hg hne
theorem OwnI.drewN {base : Nat} {v : Value} {l : List Int} {w : World} (h : OwnI base v l w) (n : Nat) : OwnI base v l (w.drewN n) :=
  h.kept (row := none) (grown_drewN (grown_refl _ _) n) (by cases v.ownBlock <;> simp)
/-- Old memory of the call's own: what is behind a later block number stays. -/
theorem OwnI.below {base B : Nat} {v : Value} {l : List Int} {w w' : World} (h : OwnI base v l w) (hb : Below B w w') (hB : ∀ k, v.ownBlock = some k → k < B) : OwnI base v l w' := by
  obtain ⟨h1, h2⟩ := h
  refine ⟨h1, ?_⟩
  rcases h2 with h2 | ⟨g, cap, cur, hv, hg, hh, r⟩
  · exact Or.inl h2
  · exact Or.inr ⟨g, cap, cur, hv, hg, by rw [hb.block g (hB g (by rw [hv]; rfl))]; exact hh, r⟩
theorem OwnI.lt {base : Nat} {v : Value} {l : List Int} {w : World} (h : OwnI base v l w) : ∀ k, v.ownBlock = some k → base ≤ k ∧ k < w.heap.size := World.ownsRow.lt h
theorem OwnI.mono {base base' : Nat} {v : Value} {l : List Int} {w : World} (h : OwnI base v l w) (hb : base' ≤ base) : OwnI base' v l w := by
  obtain ⟨h1, h2⟩ := h
  refine ⟨h1, ?_⟩
  rcases h2 with h2 | ⟨g, cap, cur, hv, hg, r⟩
  · exact Or.inl h2
  · exact Or.inr ⟨g, cap, cur, hv, by omega, r⟩

/-- A list that has numbers: where they lie. -/
theorem OwnI.at {base : Nat} {v : Value} {l : List Int} {w : World} (h : OwnI base v l w) (hl : l ≠ []) : ∃ g cap, v = .slice (some ⟨g, 0, none⟩) l.length cap ∧ base ≤ g ∧ g < w.heap.size ∧
    (∀ j, j < l.length → w.cell? ⟨g, j, none⟩ = some (.int .i64 (l.getD j 0))) ∧ (∀ j, w.frozen? ⟨g, j, none⟩ = false) := by
  have h' := h
  rcases h'.2 with ⟨_, h2⟩ | ⟨g, cap, cur, hv, hg, hh, r⟩
  · exact absurd (List.length_eq_zero_iff.1 h2) hl
  · have h3 : w.ownsRow base 3 1 (.slice (some ⟨g, 0, none⟩) l.length cap) l.length (l.map (Value.int .i64)) := hv ▸ h
    refine ⟨g, cap, hv, hg, lt_of_block hh, fun j hj => ?_, fun j => h3.frozenAt j⟩
    rw [h3.cellAt j (by omega), List.getElem?_map, List.getElem?_eq_getElem hj, List.getD_eq_getElem?_getD, List.getElem?_eq_getElem hj]; rfl

end Go.Proofs.Ytonjkpakbmbafaa

/- The sizes of fields, as the reference lists them (Sizes, SizeOf). -/
namespace Go.Proofs.Ytonjkpakbmbafaa
open Go.RowKit

end Go.Proofs.Ytonjkpakbmbafaa

/- A field of raw size, as the statements make it (fieldOf). -/
namespace Go.Proofs.Ytonjkpakbmbafaa
open Go.RowKit

end Go.Proofs.Ytonjkpakbmbafaa

/- What is to be true of a field, in the words of its calls. -/
namespace Go.Proofs.Ytonjkpakbmbafaa
open Go.RowKit

end Go.Proofs.Ytonjkpakbmbafaa

/- The reference: digits of a number, and the number of digits. -/
namespace Go.Proofs.Ytonjkpakbmbafaa
open Go.RowKit

end Go.Proofs.Ytonjkpakbmbafaa

/- The reference: sums and opposites, as it reckons them. -/
namespace Go.Proofs.Ytonjkpakbmbafaa
open Go.RowKit

/-- Old cells behind a call that only makes memory. -/
theorem bcell {B : Nat} {W w1 : World} (hb : Below B W w1) : (∀ b o, b < B → w1.cell? ⟨b, o, none⟩ = W.cell? ⟨b, o, none⟩) ∧ (∀ b o, b < B → w1.frozen? ⟨b, o, none⟩ = W.frozen? ⟨b, o, none⟩) :=
  ⟨fun b o h => hb.cell (p := ⟨b, o, none⟩) h, fun b o h => hb.frozen (p := ⟨b, o, none⟩) h⟩

end Go.Proofs.Ytonjkpakbmbafaa

/- The reference: sums and opposites by digits. -/
namespace Go.Proofs.Ytonjkpakbmbafaa
open Go.RowKit

/-- A list of the call's own that has numbers: its block, cell by cell. -/
theorem OwnI.row {base : Nat} {v : Value} {l : List Int} {w : World} (h : OwnI base v l w) (n : Nat) (hn : l.length = n) (h0 : 0 < n) : ∃ g cap f, v = .slice (some ⟨g, 0, none⟩) n cap ∧ base ≤ g ∧ g < w.heap.size ∧ n ≤ cap ∧ cap ≤ maxLen ∧
    RowF g cap 3 f w ∧ (∀ j, j < n → f j = .int .i64 (l.getD j 0)) := by
  have h' := h
  rcases h'.2 with ⟨_, h2⟩ | ⟨g, cap, cur, hv, hg, hh, hle, hcm, hsz, htake⟩
  · omega
  · refine ⟨g, cap, fun o => (cur[o]?).getD (.int .i64 0), by rw [hv, hn], hg, lt_of_block hh, by omega, hcm, ⟨cur, hh, by omega, fun o ho => ?_⟩, fun j hj => ?_⟩
    · show _ = some (Option.getD _ _)
      rw [Array.getElem?_eq_getElem (by omega)]; rfl
    · have hj' : j < l.length := by omega
      have h3 : (cur.toList.take (l.length * 1))[j]? = (l.map (Value.int .i64))[j]? := by rw [htake]
      rw [List.getElem?_take, if_pos (by omega), List.getElem?_map, List.getElem?_eq_getElem hj'] at h3
      show (cur[j]?).getD _ = _
      rw [← Array.getElem?_toList, h3, List.getD_eq_getElem?_getD, List.getElem?_eq_getElem hj']; rfl

/-- The five cells of a reference field that lies in memory. -/
structure Box (b : Nat) (D : FD) (gen : Nat) (v : Value) (w : World) : Prop where
  c0 : w.cell? ⟨b, 0, none⟩ = some (.int .i64 D.q)
  c1 : w.cell? ⟨b, 1, none⟩ = some (.int .i64 D.p)
  c2 : w.cell? ⟨b, 2, none⟩ = some (.int .i64 D.m)
  c3 : w.cell? ⟨b, 3, none⟩ = some (.int .i64 gen)
  c4 : w.cell? ⟨b, 4, none⟩ = some v
theorem Box.below {b B : Nat} {D : FD} {gen : Nat} {v : Value} {w w' : World} (h : Box b D gen v w) (hb : Below B w w') (hB : b < B) : Box b D gen v w' :=
  have e := (bcell hb).1
  ⟨(e b 0 hB).trans h.c0, (e b 1 hB).trans h.c1, (e b 2 hB).trans h.c2, (e b 3 hB).trans h.c3, (e b 4 hB).trans h.c4⟩
theorem Box.other {b : Nat} {D : FD} {gen : Nat} {v : Value} {w w' : World} (h : Box b D gen v w) (e : w'.heap[b]? = w.heap[b]?) : Box b D gen v w' :=
  have e' : ∀ o, w'.cell? ⟨b, o, none⟩ = w.cell? ⟨b, o, none⟩ := fun o => World.cell?_of_block (a := ⟨b, o, none⟩) e
  ⟨(e' 0).trans h.c0, (e' 1).trans h.c1, (e' 2).trans h.c2, (e' 3).trans h.c3, (e' 4).trans h.c4⟩
end Go.Proofs.Ytonjkpakbmbafaa
