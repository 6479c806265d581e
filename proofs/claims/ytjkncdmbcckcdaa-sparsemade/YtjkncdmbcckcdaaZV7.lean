/- Texts of ours, one behind the other: V7 V8 N5 N6 U18 U19 W6 U20 U21 U22. -/
import Derived.Test.YtjkncdmbcckcdaaZV6
import Derived.Test.YtjkncdmbcckcdaaZR18
import Derived.Test.YtjkncdmbcckcdaaZU13
import Derived.WalkMore
import Derived.ScopeJumps
import Derived.Deep.LoopGhost
/- The reference's polynomials: with 1 at the end (Monic); common divisors (PGcd). -/
namespace Go.Proofs.Ytjkncdmbcckcdaa
open Go.RowKit Go.Sort

end Go.Proofs.Ytjkncdmbcckcdaa

/- The reference's polynomials: common divisors (PGcd). -/
namespace Go.Proofs.Ytjkncdmbcckcdaa
open Go.RowKit Go.Sort

end Go.Proofs.Ytjkncdmbcckcdaa

/- Plain mathematics of polynomials, gone on: through given places, step by step. No Go text here. -/
namespace Go.Proofs.Ytjkncdmbcckcdaa

end Go.Proofs.Ytjkncdmbcckcdaa

/- Plain mathematics of polynomials, gone on: those that end with 1, in order; the least one that divides; parting by it, again and again. No Go text here. -/
namespace Go.Proofs.Ytjkncdmbcckcdaa

end Go.Proofs.Ytjkncdmbcckcdaa

/- The program's polynomials through given places (through). -/
namespace Go.Proofs.Ytjkncdmbcckcdaa
open Go.RowKit

end Go.Proofs.Ytjkncdmbcckcdaa

/- The next polynomial that ends with 1 (after). -/
namespace Go.Proofs.Ytjkncdmbcckcdaa
open Go.RowKit

end Go.Proofs.Ytjkncdmbcckcdaa

/- Lists of lists of numbers that a call makes for itself: one list more. -/
namespace Go.Proofs.Ytjkncdmbcckcdaa
open Go.RowKit

theorem Try.infoSl : (Try.prog.info? 22).map (fun i => (i.zero, i.size, i.bytes)) = some (some (.slice none 0 0), 1, 24) := by kernel_rfl

/-- The slice v of slices, made behind block number base, holds the slices l. -/
def OwnV (base : Nat) (v : Value) (l : List Value) (w : World) : Prop := w.ownsRow base 22 1 v l.length l
theorem OwnV.nil (base : Nat) (w : World) : OwnV base (.slice none 0 0) [] w := World.ownsRow_nil _ _ _ _
theorem OwnV.below {base B : Nat} {v : Value} {l : List Value} {w w' : World} (h : OwnV base v l w) (hb : Below B w w') (hB : w.heap.size ≤ B) : OwnV base v l w' := by
  obtain ⟨h1, h2⟩ := h
  refine ⟨h1, ?_⟩
  rcases h2 with h2 | ⟨g, cap, cur, hv, hg, hh, r⟩
  · exact Or.inl h2
  · exact Or.inr ⟨g, cap, cur, hv, hg, by rw [hb.block g (Nat.lt_of_lt_of_le (lt_of_block hh) hB)]; exact hh, r⟩
theorem OwnV.mono {base base' : Nat} {v : Value} {l : List Value} {w : World} (h : OwnV base v l w) (hb : base' ≤ base) : OwnV base' v l w := by
  obtain ⟨h1, h2⟩ := h
  refine ⟨h1, ?_⟩
  rcases h2 with h2 | ⟨g, cap, cur, hv, hg, r⟩
  · exact Or.inl h2
  · exact Or.inr ⟨g, cap, cur, hv, by omega, r⟩
/-- Opened: where it lies. -/
theorem OwnV.open {base : Nat} {v : Value} {l : List Value} {w : World} (h : OwnV base v l w) : ∃ ao cap, v = .slice ao l.length cap ∧ (ao = none → cap = 0) ∧ LtB ao w.heap.size ∧ GeB ao base ∧
    ∀ (j : Nat) (u : Value), l[j]? = some u → ∃ g, ao = some ⟨g, 0, none⟩ ∧ w.cell? ⟨g, j, none⟩ = some u ∧ w.frozen? ⟨g, j, none⟩ = false := by
  rcases h.2 with ⟨h1, h2⟩ | ⟨g, cap, cur, hv, hg, hh, hle, hcm, hsz, htake⟩
  · refine ⟨none, 0, by rw [h1, h2], fun _ => rfl, fun x hx => (by cases hx), fun x hx => (by cases hx), fun j u hj => ?_⟩
    rw [List.length_eq_zero_iff.1 h2] at hj
    simp at hj
  · refine ⟨_, cap, hv, fun e => (by cases e), fun x hx => (by cases hx; exact lt_of_block hh), fun x hx => (by cases hx; exact hg), fun j u hj => ⟨g, rfl, ?_, frozen_of_row w g j cur 22 hh⟩⟩
    have hj' := (List.getElem?_eq_some_iff.1 hj).1
    rw [cell_of_row w g j cur 22 (0, 0) hh, ← Array.getElem?_toList]
    have h3 : (cur.toList.take (l.length * 1))[j]? = l[j]? := by rw [htake]
    rw [List.getElem?_take, if_pos (by omega)] at h3
    rw [h3]; exact hj

/-- 'l = append(l, y)', l a slice of slices of the call's own. -/
theorem append_sl {ops : Array Oper} {rest : List Oper} {o : Oper} {a : Act} {w : World} {Q : Exit → Act → World → Prop} (hgd : o.guard = none) (s x : Operand)
    (ho : o.op = .call { callee := .builtin .append, args := #[s, x], argTypes := #[30, 30] })
    (base : Nat) (v : Value) (l : List Value) (hs : a.eval s = v) (hown : OwnV base v l w) (ad : Addr) (c : Nat) (y : Value) (hy : y.oneCell' = true) (hx : a.eval x = .slice (some ad) 1 c) (hcell : w.cell? ad = some y)
    (hlen : l.length ≤ 1000000) (hbase : base ≤ w.heap.size)
    (h : ∀ v' w', OwnV base v' (l ++ [y]) w' → w.grownBy w' v.ownBlock → wpList Try.prog ops Q rest (a.put o.dst v') w') : wpList Try.prog ops Q (o :: rest) a w := by
  obtain ⟨i0, hi, hz0, hz1, hz2⟩ := info_parts Try.infoSl
  refine wpList_append_own _ hgd s x 30 ho base 22 i0 (.slice none 0 0) 1 24 Try.underlying30 hi hz0 hz1 hz2 rfl (by decide) v l.length _ hs hown ad 1 c [y] hx rfl ?_ ?_ ?_ ?_ hbase ?_
  · intro j u hj
    match j, hj with
    | 0, hj =>
      simp at hj; subst hj
      have : ad.add 0 = ad := by cases ad with | mk b o s => cases s <;> simp [Addr.add]
      rw [this]; exact hcell
  · intro u hu; simp at hu; subst hu; exact hy
  · unfold maxLen; omega
  · omega
  · intro v' w' hown' hgrow _
    refine h v' w' ?_ hgrow
    unfold OwnV
    rw [List.length_append]
    exact hown'

/-- A row of numbers is no row of slices. -/
theorem Row.apart {base g N : Nat} {c : Nat → Nat} {v : Value} {l : List Value} {w : World} (h : Row g N c w) (ho : OwnV base v l w) : some g ≠ v.ownBlock := by
  obtain ⟨cap, f, ⟨cs, h1, _⟩, _⟩ := h
  rcases ho.2 with ⟨h2, _⟩ | ⟨g', cap', cur, hv, _, hh, _⟩
  · rw [h2]; intro e; cases e
  · rw [hv]
    intro e
    have e : some g = some g' := e
    cases e
    rw [h1] at hh
    simp at hh
end Go.Proofs.Ytjkncdmbcckcdaa

/- The program's parts of a polynomial: what is kept, a division. -/
namespace Go.Proofs.Ytjkncdmbcckcdaa
open Go.RowKit

end Go.Proofs.Ytjkncdmbcckcdaa

/- The program's parts of a polynomial: the walk (parts). -/
namespace Go.Proofs.Ytjkncdmbcckcdaa
open Go.RowKit

theorem OwnV.open_ge {base : Nat} {v : Value} {l : List Value} {w : World} (h : OwnV base v l w) : ∀ k, v.ownBlock = some k → base ≤ k := by
  intro k hk
  rcases h.2 with ⟨h1, _⟩ | ⟨g, cap, cur, hv, hg, _⟩
  · rw [h1] at hk; cases hk
  · rw [hv] at hk
    have hk : some g = some k := hk
    cases hk; exact hg

end Go.Proofs.Ytjkncdmbcckcdaa

/- The program's polynomials: the calls that are listed: Through, Factors, Irreducible. -/
namespace Go.Proofs.Ytjkncdmbcckcdaa
open Go.RowKit

end Go.Proofs.Ytjkncdmbcckcdaa
