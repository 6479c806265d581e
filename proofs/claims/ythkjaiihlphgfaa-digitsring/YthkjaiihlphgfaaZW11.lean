/- Texts of ours, one behind the other: W11 S20 KA1 KA2 KA3 S23 W13 S31 S32 S33 KE1 KE2 KE3 KE4 KE5 S34 KH1 KH2 S35. -/
import Derived.Deep.RegionHeld3
import Derived.WalkKit
import Derived.Test.YthkjaiihlphgfaaZA1
import Derived.Test.YthkjaiihlphgfaaZW3
import Derived.Test.YthkjaiihlphgfaaZM3
import Derived.Test.YthkjaiihlphgfaaZM8
import Derived.Deep.CutBlock
import Derived.Deep.DeepCutAuto
import Derived.Test.YthkjaiihlphgfaaZL10
import Derived.Test.YthkjaiihlphgfaaZV7
import Derived.Shelf.Abstract
import Derived.Test.YthkjaiihlphgfaaZL1
import Derived.Test.YthkjaiihlphgfaaZR13
/- A region that draws its order and whose last operation, which waits for all others, writes what another one reads. No Go text here. -/
namespace Go.Proofs.Ythkjaiihlphgfaa
open Go

end Go.Proofs.Ythkjaiihlphgfaa

/- Plain mathematics: how many sets there are; Krawtchouk's numbers. No Go text here. -/
namespace Go.Proofs.Ythkjaiihlphgfaa

end Go.Proofs.Ythkjaiihlphgfaa

/- Weights: powers and numbers of sets (the program's power, over). -/
namespace Go.Proofs.Ythkjaiihlphgfaa
open Go.RowKit

end Go.Proofs.Ythkjaiihlphgfaa

/- Weights: Krawtchouk's numbers (the program's krawtchouk). -/
namespace Go.Proofs.Ythkjaiihlphgfaa
open Go.RowKit

end Go.Proofs.Ythkjaiihlphgfaa

/- Weights: Krawtchouk's numbers (the reference's Kraw). -/
namespace Go.Proofs.Ythkjaiihlphgfaa
open Go.RowKit

/-- Whole numbers, below 0 too, in a row of the call's own. -/
def RowZ (g N : Nat) (z : Nat → Int) (w : World) : Prop := ∃ cap f, RowF g cap 3 f w ∧ N ≤ cap ∧ ∀ k, k < N → f k = .int .i64 (z k)
theorem RowZ.of {g N : Nat} {c : Nat → Nat} {w : World} (h : Row g N c w) : RowZ g N (fun k => ((c k : Nat) : Int)) w := by
  obtain ⟨cap, f, h1, h2, h3⟩ := h
  exact ⟨cap, f, h1, h2, h3⟩
theorem RowZ.cell {g N : Nat} {z : Nat → Int} {w : World} (h : RowZ g N z w) (k : Nat) (hk : k < N) : w.cell? ⟨g, k, none⟩ = some (.int .i64 (z k)) := by
  obtain ⟨cap, f, h1, h2, h3⟩ := h
  rw [h1.cell k (by omega), h3 k hk]
theorem RowZ.free {g N : Nat} {z : Nat → Int} {w : World} (h : RowZ g N z w) (k : Nat) : w.frozen? ⟨g, k, none⟩ = false := by
  obtain ⟨cap, f, h1, h2, h3⟩ := h
  exact h1.free k
theorem RowZ.store {g N : Nat} {z y : Nat → Int} {w : World} (h : RowZ g N z w) (k : Nat) (v : Int) (hd : ∀ j, j < N → y j = if j = k then v else z j) : RowZ g N y (w.setCell ⟨g, k, none⟩ (.int .i64 v)) := by
  obtain ⟨cap, f, h1, h2, h3⟩ := h
  refine ⟨cap, _, h1.store k _, h2, fun j hj => ?_⟩
  unfold upd
  rw [hd j hj]
  by_cases e : j = k
  · rw [if_pos e, if_pos e]
  · rw [if_neg e, if_neg e, h3 j hj]
theorem RowZ.congr {g N : Nat} {z y : Nat → Int} {w : World} (h : RowZ g N z w) (e : ∀ k, k < N → z k = y k) : RowZ g N y w := by
  obtain ⟨cap, f, h1, h2, h3⟩ := h
  exact ⟨cap, f, h1, h2, fun k hk => by rw [h3 k hk, e k hk]⟩
theorem RowZ.below {g N B : Nat} {z : Nat → Int} {w w' : World} (h : RowZ g N z w) (hb : Below B w w') (hB : g < B) : RowZ g N z w' := by
  obtain ⟨cap, f, h1, h2, h3⟩ := h
  exact ⟨cap, f, h1.below hb hB, h2, h3⟩
end Go.Proofs.Ythkjaiihlphgfaa

/- Plain mathematics: sets that are great and meet little are few (Johnson). No Go text here. -/
namespace Go.Proofs.Ythkjaiihlphgfaa

end Go.Proofs.Ythkjaiihlphgfaa

/- A region that draws its order and whose late operations, which wait for all that read, write what others read. No Go text here. -/
namespace Go.Proofs.Ythkjaiihlphgfaa
open Go

end Go.Proofs.Ythkjaiihlphgfaa

/- Plain mathematics of codes of few checks: what a round of peeling fills in, check by check from the first on or from the last on; rounds come to an end. No Go text here. -/
namespace Go.Proofs.Ythkjaiihlphgfaa
open Go.RowKit Go.Sort

end Go.Proofs.Ythkjaiihlphgfaa

/- Plain mathematics of codes of few checks: which checks may be; which places of a check are lost; sums modulo 2; which bits stand in the most odd checks. No Go text here. -/
namespace Go.Proofs.Ythkjaiihlphgfaa
open Go.RowKit Go.Sort

end Go.Proofs.Ythkjaiihlphgfaa

/- Plain mathematics of codes of few checks: which bits stand in the most odd checks; rounds of turning. No Go text here. -/
namespace Go.Proofs.Ythkjaiihlphgfaa
open Go.RowKit Go.Sort

end Go.Proofs.Ythkjaiihlphgfaa

/- Codes of few checks: which checks may be (the program's Check, the reference's ChecksMay). -/
namespace Go.Proofs.Ythkjaiihlphgfaa
open Go.RowKit Go.Sort

end Go.Proofs.Ythkjaiihlphgfaa

/- Codes of few checks: those places of a check for which something holds (those); the sum of its bits (sum). -/
namespace Go.Proofs.Ythkjaiihlphgfaa
open Go.RowKit Go.Sort

theorem own_form {base : Nat} {v : Value} {l : List Int} {w : World} (h : OwnI base v l w) : ∃ ao cap, v = .slice ao l.length cap := by
  rcases h.2 with ⟨h1, h2⟩ | ⟨g, cap, cur, hv, _⟩
  · exact ⟨none, 0, by rw [h1, h2]⟩
  · exact ⟨_, cap, hv⟩
end Go.Proofs.Ythkjaiihlphgfaa

/- Words of bits (package bit); slices.Equal; slices.Max. -/
namespace Go.Proofs.Ythkjaiihlphgfaa
open Go.RowKit Go.Sort

end Go.Proofs.Ythkjaiihlphgfaa

/- Codes of few checks: the reference's ChecksMay and Bits. -/
namespace Go.Proofs.Ythkjaiihlphgfaa
open Go.RowKit Go.Sort

end Go.Proofs.Ythkjaiihlphgfaa

/- Codes of few checks: a round of peeling (the program's fill; printed by make/ke5.py). -/
namespace Go.Proofs.Ythkjaiihlphgfaa
open Go.RowKit Go.Sort

end Go.Proofs.Ythkjaiihlphgfaa

/- Gray's lists. No Go text here. -/
namespace Go.Proofs.Ythkjaiihlphgfaa

end Go.Proofs.Ythkjaiihlphgfaa

/- Gray's lists: which sizes may be (digits.Check, product, behind; the reference's SizesMay). -/
namespace Go.Proofs.Ythkjaiihlphgfaa
open Go.RowKit Go.Sort

end Go.Proofs.Ythkjaiihlphgfaa

/- Gray's lists: the reference's SizesMay, the program's Gray. -/
namespace Go.Proofs.Ythkjaiihlphgfaa
open Go.RowKit Go.Sort

theorem setO_bel {B b o : Nat} {u w : World} (h : Below B u w) (hb : B ≤ b) (v : Value) : Below B u (w.setCell ⟨b, o, none⟩ v) := h.setCell hb _

end Go.Proofs.Ythkjaiihlphgfaa

/- The least ring in which each word stands once. No Go text here. -/
namespace Go.Proofs.Ythkjaiihlphgfaa

/-- How much is left of m values, those at the end that are the greatest struck. -/
def stl (q : Nat) (z : Nat → Nat) : Nat → Nat
  | 0 => 0
  | m + 1 => if z m + 1 = q then stl q z m else m + 1
theorem stl_le (q : Nat) (z : Nat → Nat) : ∀ m, stl q z m ≤ m
  | 0 => Nat.le_refl _
  | m + 1 => by
    show (if z m + 1 = q then stl q z m else m + 1) ≤ m + 1
    split
    · exact Nat.le_succ_of_le (stl_le q z m)
    · exact Nat.le_refl _
/-- A word again and again. -/
def rpt (w : List Nat) : Nat → Nat := fun i => w.getD (i % w.length) 0
/-- The word behind a word. -/
def nxt (q n : Nat) (w : List Nat) : List Nat := (List.range (stl q (rpt w) n)).map fun i => if i + 1 = stl q (rpt w) n then rpt w i + 1 else rpt w i
/-- All words whose length divides n, one behind the other. -/
def rgo (q n : Nat) : Nat → List Nat → List Nat → Option (List Nat)
  | 0, _, _ => none
  | f + 1, w, out => if w.length = 0 then some out else rgo q n f (nxt q n w) (if n % w.length = 0 then out ++ w else out)
/-- The ring. -/
def rgl (q n : Nat) : List Nat := (rgo q n 2100 [0] []).getD []
/-- Of which numbers there are rings. -/
def rgp : List (Nat × Nat) := [(2, 1), (2, 2), (2, 3), (2, 4), (2, 5), (2, 6), (2, 7), (2, 8), (2, 9), (2, 10), (3, 1), (3, 2), (3, 3), (3, 4), (3, 5), (3, 6), (4, 1), (4, 2), (4, 3), (4, 4), (4, 5), (5, 1), (5, 2), (5, 3), (5, 4), (6, 1), (6, 2), (6, 3), (7, 1), (7, 2), (7, 3), (8, 1), (8, 2), (8, 3), (9, 1), (9, 2), (9, 3), (10, 1), (10, 2), (10, 3)]
set_option maxRecDepth 100000 in
theorem rgp_all : (rgp.all fun p => match rgo p.1 p.2 2100 [0] [] with | some l => l.length == p.1 ^ p.2 && l.all (fun x => Nat.blt x p.1) | none => false) = true := by decide +kernel
end Go.Proofs.Ythkjaiihlphgfaa
