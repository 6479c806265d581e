/- Texts of ours, one behind the other: X9 X10 X11 S3 X12 X13 X14 X15 X16 S4 X17 O2 O3 U23 H1 H2 H3 H4 S8 Y1 Y2 Y3 Z2 Z3 Z4. -/
import Derived.Test.YtnjbnamcedfjaaaZL10
import Derived.BigRegion
import Derived.Test.YtnjbnamcedfjaaaZL1
import Derived.Test.YtnjbnamcedfjaaaZV7
import Derived.Test.YtnjbnamcedfjaaaZR9
/- The program's matrices: the field of one matrix or of two that may be; a matrix that may be, row by row. -/
namespace Go.Proofs.Ytnjbnamcedfjaaa
open Go.RowKit

end Go.Proofs.Ytnjbnamcedfjaaa

/- The program's matrices: products (Times). -/
namespace Go.Proofs.Ytnjbnamcedfjaaa
open Go.RowKit

end Go.Proofs.Ytnjbnamcedfjaaa

/- The program's matrices: a column cleared by a row (clearColumn). -/
namespace Go.Proofs.Ytnjbnamcedfjaaa
open Go.RowKit

end Go.Proofs.Ytnjbnamcedfjaaa

/- Plain mathematics: bringing rows to their one form, column by column, as the program does. -/
namespace Go.Proofs.Ytnjbnamcedfjaaa
open Go.RowKit

end Go.Proofs.Ytnjbnamcedfjaaa

/- The program's matrices: the first row that is not 0 in a column. -/
namespace Go.Proofs.Ytnjbnamcedfjaaa
open Go.RowKit

end Go.Proofs.Ytnjbnamcedfjaaa

/- The program's matrices: two rows change places; rows that are left as they are. -/
namespace Go.Proofs.Ytnjbnamcedfjaaa
open Go.RowKit

end Go.Proofs.Ytnjbnamcedfjaaa

/- The program's matrices: rows brought to their one form (reduce). -/
namespace Go.Proofs.Ytnjbnamcedfjaaa
open Go.RowKit

end Go.Proofs.Ytnjbnamcedfjaaa

/- The program's matrices: the one form of what rows span (Reduce). -/
namespace Go.Proofs.Ytnjbnamcedfjaaa
open Go.RowKit

end Go.Proofs.Ytnjbnamcedfjaaa

/- The program's matrices: ranks (Rank); what is said where there is no field. -/
namespace Go.Proofs.Ytnjbnamcedfjaaa
open Go.RowKit

end Go.Proofs.Ytnjbnamcedfjaaa

/- Plain mathematics: one row for each column in which no row of a reduced form begins (Null). -/
namespace Go.Proofs.Ytnjbnamcedfjaaa

end Go.Proofs.Ytnjbnamcedfjaaa

/- The program's matrices: is a number in a list (slices.Contains); the rows that make a reduced form 0 (madeNought). -/
namespace Go.Proofs.Ytnjbnamcedfjaaa
open Go.RowKit

end Go.Proofs.Ytnjbnamcedfjaaa

/- A list of lists of numbers that a statement is given, opened. -/
namespace Go.Proofs.Ytnjbnamcedfjaaa
open Go.ChangeShapes Go.WideShapes Go.ChangeAt Go.RowKit

end Go.Proofs.Ytnjbnamcedfjaaa

/- How heavy a list of lists is that a statement is given. -/
namespace Go.Proofs.Ytnjbnamcedfjaaa
open Go.RowKit Go.Sort

end Go.Proofs.Ytnjbnamcedfjaaa

/- The program's polynomials: a sum with an empty list, wherever that lies. -/
namespace Go.Proofs.Ytnjbnamcedfjaaa
open Go.RowKit Go.Sort

end Go.Proofs.Ytnjbnamcedfjaaa

/- Curves (lists.Curve): what both sides reckon; the calls that they make. -/
namespace Go.Proofs.Ytnjbnamcedfjaaa
open Go.RowKit Go.Sort

end Go.Proofs.Ytnjbnamcedfjaaa

/- Curves: the program's, and the reference's. -/
namespace Go.Proofs.Ytnjbnamcedfjaaa
open Go.RowKit Go.Sort

end Go.Proofs.Ytnjbnamcedfjaaa

/- Curves: the reference's. -/
namespace Go.Proofs.Ytnjbnamcedfjaaa
open Go.RowKit Go.Sort

end Go.Proofs.Ytnjbnamcedfjaaa

/- ListsCurve: the walk of the statement, whatever it is given. -/
namespace Go.Proofs.Ytnjbnamcedfjaaa
open Go.RowKit Go.Sort

end Go.Proofs.Ytnjbnamcedfjaaa

/- Plain mathematics: the shortest rule of a list (Berlekamp and Massey). -/
namespace Go.Proofs.Ytnjbnamcedfjaaa

end Go.Proofs.Ytnjbnamcedfjaaa

/- The program's rules (reed): trim, missed, less. -/
namespace Go.Proofs.Ytnjbnamcedfjaaa
open Go.RowKit Go.Sort

end Go.Proofs.Ytnjbnamcedfjaaa

/- The program's rules (reed): the shortest one (shortest, Massey). -/
namespace Go.Proofs.Ytnjbnamcedfjaaa
open Go.RowKit Go.Sort

theorem Arg.drewN {ao : Option Addr} {n cap : Nat} {z : Nat → Int} {w : World} (h : Arg ao n cap z w) (k : Nat) : Arg ao n cap z (w.drewN k) := ⟨h.sl, h.lt, h.few, h.nil, h.le, h.cap⟩

end Go.Proofs.Ytnjbnamcedfjaaa

/- The program's Massey; lists that are far too long. -/
namespace Go.Proofs.Ytnjbnamcedfjaaa
open Go.RowKit Go.Sort

end Go.Proofs.Ytnjbnamcedfjaaa

/- Places and a dimension: may they be? The program's Check, the reference's ReedMay, whatever they are given. -/
namespace Go.Proofs.Ytnjbnamcedfjaaa
open Go.RowKit Go.Sort

end Go.Proofs.Ytnjbnamcedfjaaa

/- The reference's ReedMay, whatever it is given. -/
namespace Go.Proofs.Ytnjbnamcedfjaaa
open Go.RowKit Go.Sort

end Go.Proofs.Ytnjbnamcedfjaaa

/- A word that came: may it be? The program's Word. -/
namespace Go.Proofs.Ytnjbnamcedfjaaa
open Go.RowKit Go.Sort

def anyB (p : Nat → Bool) : Nat → Bool
  | 0 => false
  | n + 1 => anyB p n || p n
theorem anyB_no {p : Nat → Bool} : ∀ n, (∀ j, j < n → p j = false) → anyB p n = false
  | 0, _ => rfl
  | n + 1, h => by
    show (anyB p n || p n) = false
    rw [anyB_no n (fun j hj => h j (by omega)), h n (by omega)]; rfl
theorem anyB_yes {p : Nat → Bool} {i : Nat} (h : p i = true) : ∀ n, i < n → anyB p n = true
  | 0, hi => absurd hi (by omega)
  | n + 1, hi => by
    show (anyB p n || p n) = true
    by_cases e : i = n
    · rw [← e, h, Bool.or_true]
    · rw [anyB_yes h n (by omega), Bool.true_or]

set_option maxHeartbeats 2000000 in
set_option maxRecDepth 100000 in
theorem containsFn_any {gf : Nat} {lb : Array Value} (eg : ∀ args w, (callFunc gf args).run Try.prog w = .ok (.enter gf args) w) {ao : Option Addr} {n cap : Nat} {z : Nat → Int} {p : Nat → Bool} {w : World}
    (hs : SlZ ao n z w) (hn : n ≤ 1000000) (hp : ∀ j, j < n → Calls Try.prog gf (#[.int .i64 (z j)] ++ lb) w fun e w' => e = .returned (.bool (p j)) ∧ w' = w) :
    Calls Try.prog 58 #[.slice ao n cap, .func (.func gf) #[] lb] w fun e w' => e = .returned (.bool (anyB p n)) ∧ w' = w := by
  have HS : Hid (∀ cap, Calls Try.prog 86 #[.slice ao n cap, .func (.func gf) #[] lb] w fun e w' => w' = w ∧ ∃ i : Int, e = .returned (.int .i64 i) ∧ decide (0 ≤ i) = anyB p n) := fun cap => by
    refine (indexInts_any (cap := cap) (p := p) eg hs hn hp).mono ?_
    rintro e w' ⟨rfl, ⟨i, hi, hpi, _, rfl⟩ | ⟨ha, rfl⟩⟩
    · refine ⟨rfl, _, rfl, ?_⟩
      rw [anyB_yes hpi n hi]; simp
    · refine ⟨rfl, _, rfl, ?_⟩
      rw [anyB_no n ha]; rfl
  clear hs hp eg
  obtain ⟨y, hy⟩ : ∃ y, y = anyB p n := ⟨_, rfl⟩
  rw [← hy]
  have HY : Hid (y = anyB p n) := hy
  clear hy
  go_enter Try.func58, Try.ntmps58
  go_wp2_with (go_at_call 86; refine (HS.out _).mono ?_; rintro e w' ⟨hw, i, rfl, hi⟩; rw [← HY.out] at hi; have hw := hw.symm; subst hw)
  go_ret
  exact ⟨by first | rfl | simp_all, rfl⟩

end Go.Proofs.Ytnjbnamcedfjaaa
