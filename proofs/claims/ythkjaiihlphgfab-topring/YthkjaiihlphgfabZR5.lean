/- Texts of ours, one behind the other: R5 R6 R7 R8 R9 R10 R11 R12 R13 R18 R14 B4 B5 B6 R15 M7 R16 R17 B7 B8 M8 M9 G1 N1 N2. -/
import Derived.Test.YthkjaiihlphgfabZR4
import Derived.Test.YthkjaiihlphgfabZM6
import Derived.Test.YthkjaiihlphgfabZA1
import Derived.Test.YthkjaiihlphgfabZM3
import Derived.Deep.RegionWith
import Derived.Deep.RegionHeld3
/- The reference: products, all cases (Mul). -/
namespace Go.Proofs.Ythkjaiihlphgfab
open Go.RowKit

end Go.Proofs.Ythkjaiihlphgfab

/- The reference: are the powers of an element all but 0 (full)? -/
namespace Go.Proofs.Ythkjaiihlphgfab
open Go.RowKit

theorem Try.infoBool : (Try.prog.info? 4).map (fun i => (i.zero, i.size, i.bytes)) = some (some (.bool false), 1, 1) := by kernel_rfl

/-- 'make([]bool, n)'. -/
theorem make_bool {ops : Array Oper} {rest : List Oper} {o : Oper} {a : Act} {w : World} {Q : Exit → Act → World → Prop}
    (hg : o.guard = none) (l c : Operand) (hop : o.op = Op.makeSlice 39 l c) (C : Int) (n : Nat) (hl : a.eval l = .int .i64 C) (hc : a.eval c = .int .i64 C) (hC : C = (n : Int)) (hn : n ≤ 1000000)
    (hK : ∀ w', RowF w.heap.size n 4 (fun _ => .bool false) w' → w.grownBy w' none → wpList Try.prog ops Q rest (a.put o.dst (.slice (some ⟨w.heap.size, 0, none⟩) n n)) w') :
    wpList Try.prog ops Q (o :: rest) a w := by
  obtain ⟨i0, hi, hz0, hz1, hz2⟩ := info_parts Try.infoBool
  refine wpList_make_full w hg l c 39 hop w.heap.size 4 i0 (.bool false) 1 Try.underlying39 hi hz0 hz1 .i64 .i64 C C n hl hc hC hC (by rw [hz2]; omega) (by unfold maxLen; omega) (Nat.le_refl _) ?_
  intro w' hown hgrow
  refine hK w' ?_ hgrow
  have e : (madeCells (Value.bool false).cells (n * 1)).toList = List.replicate n (.bool false) := by
    rw [Nat.mul_one]; exact toList_madeCells_one _ _
  rw [e] at hown
  rcases hown.2 with ⟨h1, _⟩ | ⟨g, cap, cur, hv, _, hh, _, _, hsz, htake⟩
  · simp at h1
  · simp only [Value.slice.injEq, Option.some.injEq, Addr.mk.injEq, and_true, true_and] at hv
    obtain ⟨rfl, rfl⟩ := hv
    refine ⟨cur, hh, by omega, fun o ho => ?_⟩
    have h3 : (cur.toList.take (n * 1))[o]? = (List.replicate n (Value.bool false))[o]? := by rw [htake]
    rw [List.getElem?_take, if_pos (by omega), List.getElem?_replicate, if_pos ho] at h3
    rw [← Array.getElem?_toList]; exact h3

end Go.Proofs.Ythkjaiihlphgfab

/- The reference: a field (Field). -/
namespace Go.Proofs.Ythkjaiihlphgfab
open Go.RowKit

end Go.Proofs.Ythkjaiihlphgfab

/- The reference: a field that is no prime one (Field). -/
namespace Go.Proofs.Ythkjaiihlphgfab
open Go.RowKit

end Go.Proofs.Ythkjaiihlphgfab

/- The reference: no field; what undoes a product, powers, logarithms. -/
namespace Go.Proofs.Ythkjaiihlphgfab
open Go.RowKit

/-! ### Plain mathematics -/
/-! ### Calls -/
end Go.Proofs.Ythkjaiihlphgfab

/- The reference: powers, logarithms, and what Frobenius makes. -/
namespace Go.Proofs.Ythkjaiihlphgfab
open Go.RowKit

/-! ### Plain mathematics -/
/-! ### Calls -/
end Go.Proofs.Ythkjaiihlphgfab

/- The reference: logarithms, Frobenius, traces and norms. -/
namespace Go.Proofs.Ythkjaiihlphgfab
open Go.RowKit

end Go.Proofs.Ythkjaiihlphgfab

/- The reference: traces and norms. -/
namespace Go.Proofs.Ythkjaiihlphgfab
open Go.RowKit

end Go.Proofs.Ythkjaiihlphgfab

/- The reference: are two lists the same (Same); the elements of a smaller field (Within). -/
namespace Go.Proofs.Ythkjaiihlphgfab
open Go.RowKit

/-- The slice v reads as the numbers l. -/
def SliceI (v : Value) (l : List Int) (w : World) : Prop :=
  (l = [] ∧ ∃ ao cap, v = .slice ao 0 cap) ∨ (l ≠ [] ∧ l.length ≤ 1000000 ∧ ∃ b off cap, v = .slice (some ⟨b, off, none⟩) l.length cap ∧ ∀ j, j < l.length → w.cell? ⟨b, off + j, none⟩ = some (.int .i64 (l.getD j 0)))
theorem OwnI.slice {base : Nat} {v : Value} {l : List Int} {w : World} (h : OwnI base v l w) (hl : l.length ≤ 1000000) : SliceI v l w := by
  by_cases e : l = []
  · refine Or.inl ⟨e, ?_⟩
    rcases h.2 with ⟨h1, _⟩ | ⟨g, cap, cur, hv, _⟩
    · exact ⟨none, 0, h1⟩
    · rw [e] at hv; exact ⟨_, cap, hv⟩
  · obtain ⟨g, cap, hv, _, _, hc, _⟩ := h.at e
    exact Or.inr ⟨e, hl, g, 0, cap, hv, fun j hj => by rw [Nat.zero_add]; exact hc j hj⟩
theorem SliceI.below {B : Nat} {v : Value} {l : List Int} {w w' : World} (h : SliceI v l w) (hb : Below B w w') (hB : ∀ k, v.ownBlock = some k → k < B) : SliceI v l w' := by
  rcases h with h | ⟨h1, h2, b, off, cap, rfl, hc⟩
  · exact Or.inl h
  · exact Or.inr ⟨h1, h2, b, off, cap, rfl, fun j hj => ((bcell hb).1 b (off + j) (hB b rfl)).trans (hc j hj)⟩
theorem SliceI.drewN {v : Value} {l : List Int} {w : World} (h : SliceI v l w) (n : Nat) : SliceI v l (w.drewN n) := h

end Go.Proofs.Ythkjaiihlphgfab

/- The reference: is a number in a list (In). -/
namespace Go.Proofs.Ythkjaiihlphgfab
open Go.RowKit

end Go.Proofs.Ythkjaiihlphgfab

/- The reference: the elements of a smaller field within one (Within). -/
namespace Go.Proofs.Ythkjaiihlphgfab
open Go.RowKit

end Go.Proofs.Ythkjaiihlphgfab

/- A field's calls, gone on: Frobenius, traces, norms. -/
namespace Go.Proofs.Ythkjaiihlphgfab
open Go.RowKit

end Go.Proofs.Ythkjaiihlphgfab

/- A field's calls, gone on: its modulus, the elements of a smaller field. -/
namespace Go.Proofs.Ythkjaiihlphgfab
open Go.RowKit

end Go.Proofs.Ythkjaiihlphgfab

/- A field's calls, gone on: a field within another (holds, Within). -/
namespace Go.Proofs.Ythkjaiihlphgfab
open Go.RowKit

/-! ### Plain mathematics -/
/-! ### Calls -/
end Go.Proofs.Ythkjaiihlphgfab

/- The reference: a polynomial's value at an element (value). -/
namespace Go.Proofs.Ythkjaiihlphgfab
open Go.RowKit

theorem bel_up' {B : Nat} {w W w1 : World} (h0 : Below B w W) (h : Below W.heap.size W w1) (hB : B ≤ w.heap.size := by exact Nat.le_refl _) : Below B w w1 := h0.trans (h.mono (Nat.le_trans hB h0.size))

end Go.Proofs.Ythkjaiihlphgfab

/- Plain mathematics of a field within another: what the smaller one's x becomes. -/
namespace Go.Proofs.Ythkjaiihlphgfab

end Go.Proofs.Ythkjaiihlphgfab

/- The reference: what each element of a field becomes in a greater one (Embed). -/
namespace Go.Proofs.Ythkjaiihlphgfab
open Go.RowKit

end Go.Proofs.Ythkjaiihlphgfab

/- The reference: what each element of a field becomes in a greater one, gone on (Embed). -/
namespace Go.Proofs.Ythkjaiihlphgfab
open Go.RowKit

end Go.Proofs.Ythkjaiihlphgfab

/- A field's calls, gone on: what a smaller field's elements become (at, rootFor, Embed). -/
namespace Go.Proofs.Ythkjaiihlphgfab
open Go.RowKit

end Go.Proofs.Ythkjaiihlphgfab

/- A field's calls, gone on: what a smaller field's elements become (Embed). -/
namespace Go.Proofs.Ythkjaiihlphgfab
open Go.RowKit

end Go.Proofs.Ythkjaiihlphgfab

/- Plain mathematics: Fermat and Frobenius, traces and norms; what a smaller field's elements become is a copy of it. -/
namespace Go.Proofs.Ythkjaiihlphgfab
open Go.RowKit

/-! ### The kernel's checks -/
end Go.Proofs.Ythkjaiihlphgfab

/- Plain mathematics, gone on: the laws that follow from the kernel's checks. -/
namespace Go.Proofs.Ythkjaiihlphgfab
open Go.RowKit

/-! ### Frobenius -/
/-! ### Traces and norms -/
/-! ### Copies -/
end Go.Proofs.Ythkjaiihlphgfab

/- The walk of the statement FieldEmbeds. -/
namespace Go.Proofs.Ythkjaiihlphgfab
open Go.RowKit

/-! ### What two answers with lists are held together by -/
end Go.Proofs.Ythkjaiihlphgfab

/- Plain mathematics of polynomials over a field: sums, multiples, shifts, products. A polynomial is the function of its coefficients. No Go text here. -/
namespace Go.Proofs.Ythkjaiihlphgfab

def pnil : Nat → Nat := fun _ => 0
end Go.Proofs.Ythkjaiihlphgfab

/- Plain mathematics of polynomials, gone on: degrees, division, what is left, what divides. No Go text here. -/
namespace Go.Proofs.Ythkjaiihlphgfab

end Go.Proofs.Ythkjaiihlphgfab
