/- A field's table, made (build). -/
import Derived.Test.YthcgmdapgphmiaaZA1
import Derived.Laws.Tables
namespace Go.Proofs.Ythcgmdapgphmiaa
open Go.RowKit

/-- What is known of the number q, for its table. -/
structure Good (q p m : Nat) : Prop where
  pp : pp q = (p, m)
  p2 : 2 ≤ p
  p64 : p ≤ 64
  m1 : 1 ≤ m
  q2 : 2 ≤ q
  q64 : q ≤ 64
  sums : SumsOk p q
  neg : ∀ a, a < q → negD p q a < q
  opp : ∀ a, a < q → sumD p q a (negD p q a) = 0
  two : Two p q

/-- A table of a field of q = p^m elements: the lower part of its modulus, its generator, and what makes of 1 its powers. -/
structure Tab (q p m low gen : Nat) (st : Nat → Nat) (g : Nat → Value) : Prop where
  sum : TabS p q g
  c2 : g 2 = .int .i64 m
  c3 : g 3 = .int .i64 low
  c4 : g 4 = .int .i64 gen
  pows : Pows st (q - 1) g

end Go.Proofs.Ythcgmdapgphmiaa
