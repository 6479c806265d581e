/- The least ring in which each word stands once. No Go text here. -/
import Derived.Test.YthkjaiihlphgfabZA1
namespace Go.Proofs.Ythkjaiihlphgfab

/-- How much is left of m values, those at the end that are the greatest struck. -/
def stl (q : Nat) (z : Nat → Nat) : Nat → Nat
  | 0 => 0
  | m + 1 => if z m + 1 = q then stl q z m else m + 1
theorem stl_le (q : Nat) (z : Nat → Nat) : ∀ m, stl q z m ≤ m
  | 0 => Nat.le_refl _
  | m + 1 => by
    show (if z m + 1 = q then stl q z m else m + 1) ≤ m + 1
    split
    · exact Nat.le_succ_of_le (stl_le q z m)
    · exact Nat.le_refl _
/-- A word again and again. -/
def rpt (w : List Nat) : Nat → Nat := fun i => w.getD (i % w.length) 0
/-- The word behind a word. -/
def nxt (q n : Nat) (w : List Nat) : List Nat := (List.range (stl q (rpt w) n)).map fun i => if i + 1 = stl q (rpt w) n then rpt w i + 1 else rpt w i
/-- All words whose length divides n, one behind the other. -/
def rgo (q n : Nat) : Nat → List Nat → List Nat → Option (List Nat)
  | 0, _, _ => none
  | f + 1, w, out => if w.length = 0 then some out else rgo q n f (nxt q n w) (if n % w.length = 0 then out ++ w else out)
/-- The ring. -/
def rgl (q n : Nat) : List Nat := (rgo q n 2100 [0] []).getD []
/-- Of which numbers there are rings. -/
def rgp : List (Nat × Nat) := [(2, 1), (2, 2), (2, 3), (2, 4), (2, 5), (2, 6), (2, 7), (2, 8), (2, 9), (2, 10), (3, 1), (3, 2), (3, 3), (3, 4), (3, 5), (3, 6), (4, 1), (4, 2), (4, 3), (4, 4), (4, 5), (5, 1), (5, 2), (5, 3), (5, 4), (6, 1), (6, 2), (6, 3), (7, 1), (7, 2), (7, 3), (8, 1), (8, 2), (8, 3), (9, 1), (9, 2), (9, 3), (10, 1), (10, 2), (10, 3)]
set_option maxRecDepth 100000 in
theorem rgp_all : (rgp.all fun p => match rgo p.1 p.2 2100 [0] [] with | some l => l.length == p.1 ^ p.2 && l.all (fun x => Nat.blt x p.1) | none => false) = true := by decide +kernel
end Go.Proofs.Ythkjaiihlphgfab
