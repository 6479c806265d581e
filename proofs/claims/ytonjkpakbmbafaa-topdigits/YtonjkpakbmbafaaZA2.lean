/- Texts of ours, one behind the other: A2 A3 A4 A5 A6 A7 A8 A9. -/
import Derived.Test.YtonjkpakbmbafaaZA1
import Derived.Deep.QuietTactic
import Derived.BigQuiet
import Derived.RegionTactic
import Derived.BigRegion
import Derived.Deep.LoopGhost
import Derived.Laws.Tables
/- The calls that make a field's table, one by one: sums. -/
namespace Go.Proofs.Ytonjkpakbmbafaa
open Go.RowKit

end Go.Proofs.Ytonjkpakbmbafaa

/- The calls that make a field's table, one by one: opposites. -/
namespace Go.Proofs.Ytonjkpakbmbafaa
open Go.RowKit

/-- Sums are below q, and of each element there is at most one opposite. -/
def SumsOk (p q : Nat) : Prop := (∀ a b, a < q → b < q → sumD p q a b < q) ∧ (∀ a b c, a < q → b < q → c < q → sumD p q a b = 0 → sumD p q a c = 0 → b = c)

end Go.Proofs.Ytonjkpakbmbafaa

/- The calls that make a field's table, one by one: an element times x (timesX). -/
namespace Go.Proofs.Ytonjkpakbmbafaa
open Go.RowKit

/-- What a table has to hold for sums: its size, its prime. -/
structure TabS (p q : Nat) (g : Nat → Value) : Prop where
  c0 : g 0 = .int .i64 q
  c1 : g 1 = .int .i64 p
  two : Two p q

theorem TabS.congr {p q : Nat} {f g : Nat → Value} (h : TabS p q f) (e : ∀ o, o < 5 → o ≠ 2 → o ≠ 3 → o ≠ 4 → g o = f o) : TabS p q g :=
  ⟨(e 0 (by omega) (by omega) (by omega) (by omega)).trans h.c0, (e 1 (by omega) (by omega) (by omega) (by omega)).trans h.c1, h.two⟩

end Go.Proofs.Ytonjkpakbmbafaa

/- The calls that make a field's table, one by one: the powers of what step makes of 1 (layPowers). -/
namespace Go.Proofs.Ytonjkpakbmbafaa
open Go.RowKit

/-- What layPowers has laid so far. -/
structure Pows (st : Nat → Nat) (n : Nat) (g : Nat → Value) : Prop where
  pow : ∀ k, k < n → g (5 + k) = .int .i64 (again st k 1)
  log : ∀ k, k < n → g (69 + again st k 1) = .int .i64 k
  no : ∀ x, x < 64 → (∀ k, k < n → again st k 1 ≠ x) → g (69 + x) = .int .i64 (-1)

theorem Pows.congr {st : Nat → Nat} {n : Nat} {f g : Nat → Value} (h : Pows st n f) (e : ∀ o, 5 ≤ o → g o = f o) : Pows st n g :=
  ⟨fun k hk => (e _ (by omega)).trans (h.pow k hk), fun k hk => (e _ (by omega)).trans (h.log k hk), fun x hx hn => (e _ (by omega)).trans (h.no x hx hn)⟩

end Go.Proofs.Ytonjkpakbmbafaa

/- The calls that make a field's table, one by one: the generator of a prime field (layByNumber). -/
namespace Go.Proofs.Ytonjkpakbmbafaa
open Go.RowKit

end Go.Proofs.Ytonjkpakbmbafaa

/- The calls that make a field's table, one by one: the modulus of a field that is no prime one (layByModulus). -/
namespace Go.Proofs.Ytonjkpakbmbafaa
open Go.RowKit

end Go.Proofs.Ytonjkpakbmbafaa

/- The program's own search for the prime of which a number is a power (primePower). -/
namespace Go.Proofs.Ytonjkpakbmbafaa
open Go.RowKit

end Go.Proofs.Ytonjkpakbmbafaa

/- A field's table, made (build). -/
namespace Go.Proofs.Ytonjkpakbmbafaa
open Go.RowKit

/-- What is known of the number q, for its table. -/
structure Good (q p m : Nat) : Prop where
  pp : pp q = (p, m)
  p2 : 2 ≤ p
  p64 : p ≤ 64
  m1 : 1 ≤ m
  q2 : 2 ≤ q
  q64 : q ≤ 64
  sums : SumsOk p q
  neg : ∀ a, a < q → negD p q a < q
  opp : ∀ a, a < q → sumD p q a (negD p q a) = 0
  two : Two p q

/-- A table of a field of q = p^m elements: the lower part of its modulus, its generator, and what makes of 1 its powers. -/
structure Tab (q p m low gen : Nat) (st : Nat → Nat) (g : Nat → Value) : Prop where
  sum : TabS p q g
  c2 : g 2 = .int .i64 m
  c3 : g 3 = .int .i64 low
  c4 : g 4 = .int .i64 gen
  pows : Pows st (q - 1) g

end Go.Proofs.Ytonjkpakbmbafaa
