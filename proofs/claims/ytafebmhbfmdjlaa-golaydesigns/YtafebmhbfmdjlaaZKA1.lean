/- Texts of ours, one behind the other: KA1 KA2 KA3 S21 KB2 W14 W15. -/
import Derived.Test.YtafebmhbfmdjlaaZW11
import Derived.Test.YtafebmhbfmdjlaaZM3
import Derived.Test.YtafebmhbfmdjlaaZU1
import Derived.Deep.CutBlock
import Derived.Deep.DeepCutAuto
import Derived.RangeFuncNested
import Derived.RangeFuncBound
import Derived.RangeFuncCalls
import Derived.RangeFuncLeaves
import Derived.WalkKit
import Derived.Test.YtafebmhbfmdjlaaZW4
import Derived.OrdersIn
/- Weights: powers and numbers of sets (the program's power, over). -/
namespace Go.Proofs.Ytafebmhbfmdjlaa
open Go.RowKit

theorem wrap_ka {a : Int} (h1 : -9223372036854775808 ≤ a) (h2 : a ≤ 9223372036854775807) : IntKind.i64.wrap a = a := by
  rw [IntKind.wrap_i64]
  first | omega | (unfold wrap64; omega)
end Go.Proofs.Ytafebmhbfmdjlaa

/- Weights: Krawtchouk's numbers (the program's krawtchouk). -/
namespace Go.Proofs.Ytafebmhbfmdjlaa
open Go.RowKit

end Go.Proofs.Ytafebmhbfmdjlaa

/- Weights: Krawtchouk's numbers (the reference's Kraw). -/
namespace Go.Proofs.Ytafebmhbfmdjlaa
open Go.RowKit

/-- Whole numbers, below 0 too, in a row of the call's own. -/
def RowZ (g N : Nat) (z : Nat → Int) (w : World) : Prop := ∃ cap f, RowF g cap 3 f w ∧ N ≤ cap ∧ ∀ k, k < N → f k = .int .i64 (z k)
theorem RowZ.of {g N : Nat} {c : Nat → Nat} {w : World} (h : Row g N c w) : RowZ g N (fun k => ((c k : Nat) : Int)) w := by
  obtain ⟨cap, f, h1, h2, h3⟩ := h
  exact ⟨cap, f, h1, h2, h3⟩
theorem RowZ.cell {g N : Nat} {z : Nat → Int} {w : World} (h : RowZ g N z w) (k : Nat) (hk : k < N) : w.cell? ⟨g, k, none⟩ = some (.int .i64 (z k)) := by
  obtain ⟨cap, f, h1, h2, h3⟩ := h
  rw [h1.cell k (by omega), h3 k hk]
theorem RowZ.free {g N : Nat} {z : Nat → Int} {w : World} (h : RowZ g N z w) (k : Nat) : w.frozen? ⟨g, k, none⟩ = false := by
  obtain ⟨cap, f, h1, h2, h3⟩ := h
  exact h1.free k
theorem RowZ.store {g N : Nat} {z y : Nat → Int} {w : World} (h : RowZ g N z w) (k : Nat) (v : Int) (hd : ∀ j, j < N → y j = if j = k then v else z j) : RowZ g N y (w.setCell ⟨g, k, none⟩ (.int .i64 v)) := by
  obtain ⟨cap, f, h1, h2, h3⟩ := h
  refine ⟨cap, _, h1.store k _, h2, fun j hj => ?_⟩
  unfold upd
  rw [hd j hj]
  by_cases e : j = k
  · rw [if_pos e, if_pos e]
  · rw [if_neg e, if_neg e, h3 j hj]
theorem RowZ.congr {g N : Nat} {z y : Nat → Int} {w : World} (h : RowZ g N z w) (e : ∀ k, k < N → z k = y k) : RowZ g N y w := by
  obtain ⟨cap, f, h1, h2, h3⟩ := h
  exact ⟨cap, f, h1, h2, fun k hk => by rw [h3 k hk, e k hk]⟩
theorem RowZ.below {g N B : Nat} {z : Nat → Int} {w w' : World} (h : RowZ g N z w) (hb : Below B w w') (hB : g < B) : RowZ g N z w' := by
  obtain ⟨cap, f, h1, h2, h3⟩ := h
  exact ⟨cap, f, h1.below hb hB, h2, h3⟩
/-- What a step of Kraw reads. -/
def kwS (G J t : Nat) (a b : Int) (wx : World) : Prop := wx.cell? ⟨G, J, none⟩ = some (.int .i64 a) ∧ wx.cell? ⟨G, t, none⟩ = some (.int .i64 b)

end Go.Proofs.Ytafebmhbfmdjlaa

/- Plain mathematics: balls; a sum split into high and low parts, and divided. No Go text here. -/
namespace Go.Proofs.Ytafebmhbfmdjlaa

theorem kc_one : ∀ i k, kc (fun _ => 1) i k = (chs i k : Nat)
  | 0, 0 => rfl
  | 0, _ + 1 => rfl
  | i + 1, 0 => by rw [kc_zero, chs_zero]; rfl
  | i + 1, k + 1 => by
    show kc (fun _ => 1) i (k + 1) + 1 * kc (fun _ => 1) i k = ((chs i k + chs i (k + 1) : Nat) : Int)
    rw [kc_one i (k + 1), kc_one i k, Int.one_mul, Int.natCast_add, Int.add_comm]

end Go.Proofs.Ytafebmhbfmdjlaa

/- Weights: balls, and numbers of sets of the reference (printed by make/kb2.py). -/
namespace Go.Proofs.Ytafebmhbfmdjlaa
open Go.RowKit

end Go.Proofs.Ytafebmhbfmdjlaa

/- A range over a function whose rounds are handed memory: a law of our own over the library's steps. No Go text here. -/
namespace Go.Proofs.Ytafebmhbfmdjlaa
open Go.RowKit

/-- What is not one's own lies as it lay. -/
structure KpO (own : Nat → Prop) (X Y : World) : Prop where
  os : Y.os = X.os
  tape : Y.tape = X.tape
  output : Y.output = X.output
  size : X.heap.size ≤ Y.heap.size
  same : ∀ k, k < X.heap.size → ¬ own k → Y.heap[k]? = X.heap[k]?
/-- Cells, and whatever lies below B, lie as they lay. -/
structure GrC (B : Nat) (X Y : World) : Prop where
  os : Y.os = X.os
  tape : Y.tape = X.tape
  output : Y.output = X.output
  size : X.heap.size ≤ Y.heap.size
  same : ∀ k, k < X.heap.size → (k < B ∨ ∀ o, X.heap[k]? = some o → o.isCells = true) → Y.heap[k]? = X.heap[k]?
theorem GrC.of_below {B : Nat} {X Y : World} (h : Below X.heap.size X Y) : GrC B X Y := ⟨h.os, h.tape, h.output, h.size, fun k hk _ => h.block k hk⟩
theorem GrC.put {B l : Nat} {X : World} {o : Obj} (o' : Obj) (hl : B ≤ l) (h : X.heap[l]? = some o) (hc : o.isCells = false) : GrC B X (X.putObj l o') :=
  ⟨rfl, rfl, rfl, by simp, fun k hk hx => World.putObj_heap_other (fun e => by
    subst e
    rcases hx with hx | hx
    · omega
    · rw [hx o h] at hc; cases hc)⟩
theorem KpO.refl (own : Nat → Prop) (X : World) : KpO own X X := ⟨rfl, rfl, rfl, Nat.le_refl _, fun _ _ _ => rfl⟩
theorem KpO.trans {own : Nat → Prop} {X Y Z : World} (h : KpO own X Y) (k : KpO own Y Z) : KpO own X Z :=
  ⟨k.os.trans h.os, k.tape.trans h.tape, k.output.trans h.output, Nat.le_trans h.size k.size, fun i hi hn => (k.same i (Nat.lt_of_lt_of_le hi h.size) hn).trans (h.same i hi hn)⟩
theorem KpO.mono {own own' : Nat → Prop} {X Y : World} (h : KpO own X Y) (hm : ∀ k, own k → own' k) : KpO own' X Y := ⟨h.os, h.tape, h.output, h.size, fun k hk hn => h.same k hk (fun e => hn (hm k e))⟩
theorem KpO.of_below {own : Nat → Prop} {X Y : World} (h : Below X.heap.size X Y) : KpO own X Y := ⟨h.os, h.tape, h.output, h.size, fun k hk _ => h.block k hk⟩
theorem KpO.put {own : Nat → Prop} (X : World) (l : Nat) (o : Obj) (hl : own l) : KpO own X (X.putObj l o) :=
  ⟨rfl, rfl, rfl, by simp, fun _ _ hn => World.putObj_heap_other (fun e => hn (by rw [e]; exact hl))⟩
theorem KpO.setCell {own : Nat → Prop} (X : World) (a : Addr) (v : Value) (hl : own a.block) : KpO own X (X.setCell a v) :=
  ⟨rfl, rfl, rfl, by simp [World.setCell], fun k _ hn => Below.heap_setCell X a v k (fun e => hn (by rw [e]; exact hl))⟩

end Go.Proofs.Ytafebmhbfmdjlaa

/- A region that draws its order, in a round of a range over a function: what serves elsewhere serves there. No Go text here. -/
namespace Go.Proofs.Ytafebmhbfmdjlaa
open Go

end Go.Proofs.Ytafebmhbfmdjlaa
