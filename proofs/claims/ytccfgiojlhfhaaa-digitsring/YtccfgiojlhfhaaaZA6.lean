/- Texts of ours, one behind the other: A6 A7 A8 A9. -/
import Derived.Test.YtccfgiojlhfhaaaZA1
import Derived.Deep.LoopGhost
import Derived.Laws.Tables
/- The calls that make a field's table, one by one: the generator of a prime field (layByNumber). -/
namespace Go.Proofs.Ytccfgiojlhfhaaa
open Go.RowKit

theorem two_new {w : World} (o : Obj) : (w.alloc o).heap[w.heap.size]? = some o := by
  show (w.heap.push o)[w.heap.size]? = some o
  simp

end Go.Proofs.Ytccfgiojlhfhaaa

/- The calls that make a field's table, one by one: the modulus of a field that is no prime one (layByModulus). -/
namespace Go.Proofs.Ytccfgiojlhfhaaa
open Go.RowKit

end Go.Proofs.Ytccfgiojlhfhaaa

/- The program's own search for the prime of which a number is a power (primePower). -/
namespace Go.Proofs.Ytccfgiojlhfhaaa
open Go.RowKit

end Go.Proofs.Ytccfgiojlhfhaaa

/- A field's table, made (build). -/
namespace Go.Proofs.Ytccfgiojlhfhaaa
open Go.RowKit

/-- What is known of the number q, for its table. -/
structure Good (q p m : Nat) : Prop where
  pp : pp q = (p, m)
  p2 : 2 ≤ p
  p64 : p ≤ 64
  m1 : 1 ≤ m
  q2 : 2 ≤ q
  q64 : q ≤ 64
  sums : SumsOk p q
  neg : ∀ a, a < q → negD p q a < q
  opp : ∀ a, a < q → sumD p q a (negD p q a) = 0
  two : Two p q

/-- A table of a field of q = p^m elements: the lower part of its modulus, its generator, and what makes of 1 its powers. -/
structure Tab (q p m low gen : Nat) (st : Nat → Nat) (g : Nat → Value) : Prop where
  sum : TabS p q g
  c2 : g 2 = .int .i64 m
  c3 : g 3 = .int .i64 low
  c4 : g 4 = .int .i64 gen
  pows : Pows st (q - 1) g

end Go.Proofs.Ytccfgiojlhfhaaa
