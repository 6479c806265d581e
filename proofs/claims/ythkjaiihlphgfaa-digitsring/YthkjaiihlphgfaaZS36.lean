/- Texts of ours, one behind the other: S36 S37 S38 S39 S40. -/
import Derived.Test.YthkjaiihlphgfaaZW11
/- Rings, edge by edge. No Go text here. -/
namespace Go.Proofs.Ythkjaiihlphgfaa

/-- From a node on, one edge: what is to be gone through still, what was seen, how many edges. -/
def gstp (q nodes left x : Nat) (s : List Nat × Nat × Nat) (c : Nat) : List Nat × Nat × Nat :=
  if left.testBit (x * q + c) then
    (if s.2.1.testBit ((x * q + c) % nodes) then (s.1, s.2.1, s.2.2 + 1) else ((x * q + c) % nodes :: s.1, s.2.1 ||| 2 ^ ((x * q + c) % nodes), s.2.2 + 1))
  else s
/-- The first c edges of a node. -/
def gin (q nodes left x : Nat) (s : List Nat × Nat × Nat) : Nat → List Nat × Nat × Nat
  | 0 => s
  | c + 1 => gstp q nodes left x (gin q nodes left x s c) c
/-- How many edges are met. -/
def gos (q nodes left : Nat) : Nat → List Nat → Nat → Nat → Option Nat
  | 0, _, _, _ => none
  | _ + 1, [], _, n => some n
  | f + 1, x :: st, seen, n => gos q nodes left f (gin q nodes left x (st, seen, n) q).1 (gin q nodes left x (st, seen, n) q).2.1 (gin q nodes left x (st, seen, n) q).2.2
/-- How many of the first i bits are there. -/
def cbt (m : Nat) : Nat → Nat
  | 0 => 0
  | i + 1 => cbt m i + if m.testBit i then 1 else 0
/-- Is the way around kept? -/
def gok (q nodes all left e : Nat) : Option Bool := (gos q nodes (left ^^^ 2 ^ e) 400 [e % nodes] (2 ^ (e % nodes)) 0).map fun n => n == cbt (left ^^^ 2 ^ e) all
/-- The first edge from v on by which it is kept. -/
def fnd (q nodes all left at' : Nat) : Nat → Nat → Option Nat
  | 0, _ => none
  | r + 1, v => if left.testBit (at' * q + v) then (match gok q nodes all left (at' * q + v) with | some true => some v | some false => fnd q nodes all left at' r (v + 1) | none => none) else fnd q nodes all left at' r (v + 1)
/-- So many edges. -/
def rof (q nodes all : Nat) : Nat → Nat → Nat → List Nat → Option (List Nat)
  | 0, _, _, out => some out
  | k + 1, left, at', out => match fnd q nodes all left at' q 0 with | none => none | some v => rof q nodes all k (left ^^^ 2 ^ (at' * q + v)) ((at' * q + v) % nodes) (out ++ [v])
set_option maxRecDepth 100000 in
theorem rof_a : ([(2, 1), (2, 2), (2, 3), (2, 4), (2, 5), (2, 6), (2, 7), (3, 1), (3, 2), (3, 3), (3, 4), (4, 1), (4, 2), (4, 3), (5, 1), (5, 2), (5, 3), (6, 1), (6, 2), (7, 1), (7, 2), (8, 1), (8, 2), (9, 1), (9, 2), (10, 1), (10, 2)].all fun p => match rof p.1 (p.1 ^ p.2 / p.1) (p.1 ^ p.2) (p.1 ^ p.2) (2 ^ (p.1 ^ p.2) - 1) 0 (List.replicate (p.2 - 1) 0) with | some l => l.take (p.1 ^ p.2) == rgl p.1 p.2 | none => false) = true := by decide +kernel
end Go.Proofs.Ythkjaiihlphgfaa

/- Rings, edge by edge (the kernel's check). No Go text here. -/
namespace Go.Proofs.Ythkjaiihlphgfaa
set_option maxRecDepth 100000 in
theorem rof_b1 : ([(2, 8)].all fun p => match rof p.1 (p.1 ^ p.2 / p.1) (p.1 ^ p.2) (p.1 ^ p.2) (2 ^ (p.1 ^ p.2) - 1) 0 (List.replicate (p.2 - 1) 0) with | some l => l.take (p.1 ^ p.2) == rgl p.1 p.2 | none => false) = true := by decide +kernel
end Go.Proofs.Ythkjaiihlphgfaa

/- Rings, edge by edge (the kernel's check). No Go text here. -/
namespace Go.Proofs.Ythkjaiihlphgfaa
set_option maxRecDepth 100000 in
theorem rof_b2 : ([(3, 5)].all fun p => match rof p.1 (p.1 ^ p.2 / p.1) (p.1 ^ p.2) (p.1 ^ p.2) (2 ^ (p.1 ^ p.2) - 1) 0 (List.replicate (p.2 - 1) 0) with | some l => l.take (p.1 ^ p.2) == rgl p.1 p.2 | none => false) = true := by decide +kernel
end Go.Proofs.Ythkjaiihlphgfaa

/- Rings, edge by edge (the kernel's check). No Go text here. -/
namespace Go.Proofs.Ythkjaiihlphgfaa
set_option maxRecDepth 100000 in
theorem rof_b3 : ([(4, 4)].all fun p => match rof p.1 (p.1 ^ p.2 / p.1) (p.1 ^ p.2) (p.1 ^ p.2) (2 ^ (p.1 ^ p.2) - 1) 0 (List.replicate (p.2 - 1) 0) with | some l => l.take (p.1 ^ p.2) == rgl p.1 p.2 | none => false) = true := by decide +kernel
end Go.Proofs.Ythkjaiihlphgfaa

/- Rings, edge by edge (the kernel's check). No Go text here. -/
namespace Go.Proofs.Ythkjaiihlphgfaa
set_option maxRecDepth 100000 in
theorem rof_b4 : ([(6, 3)].all fun p => match rof p.1 (p.1 ^ p.2 / p.1) (p.1 ^ p.2) (p.1 ^ p.2) (2 ^ (p.1 ^ p.2) - 1) 0 (List.replicate (p.2 - 1) 0) with | some l => l.take (p.1 ^ p.2) == rgl p.1 p.2 | none => false) = true := by decide +kernel
end Go.Proofs.Ythkjaiihlphgfaa
