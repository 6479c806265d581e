/- Texts of ours, one behind the other: A1 M1 W1 A2 A3 A4 A5 A6 A7 A8 A9. -/
import Derived.Test.YtillljojdnofgaaProg
import Derived.WalkKit
import Derived.Laws.Rows
import Derived.Deep.QuietTactic
import Derived.BigQuiet
import Derived.RegionTactic
import Derived.BigRegion
import Derived.Deep.LoopGhost
import Derived.Laws.Tables
/- The raw numbers of the reference package: which of n things a number speaks of (Pick), of which prime a number is a power (Prime). -/
namespace Go.Proofs.Ytillljojdnofgaa
open Go.RowKit

def pick (c n : Int) : Int := (if c < 0 then -(c + 1) else c) % n

theorem pick_lo (c n : Int) (h : 0 < n) : 0 ≤ pick c n := by unfold pick; exact Int.emod_nonneg _ (by omega)
theorem pick_hi (c n : Int) (h : 0 < n) : pick c n < n := by unfold pick; exact Int.emod_lt_of_pos _ h

theorem ret_int {k : IntKind} {a b : Int} (h : a = b) : Ending.returned (.int k a) = .returned (.int k b) := by rw [h]
theorem pick_any (c n : Int) (w : World) (hb1 : -9223372036854775808 ≤ c) (hb2 : c ≤ 9223372036854775807) (h : 0 < n) (h2 : n ≤ 9223372036854775807) :
    Calls Try.prog 23 #[.int .i64 c, .int .i64 n] w fun e w' => e = .returned (.int .i64 (pick c n)) ∧ w' = w := by
  by_cases hneg : c < 0
  · go_enter Try.func23, Try.ntmps23
    go_wp2
    go_ret
    exact ⟨ret_int (by unfold pick; rw [if_pos hneg, ← Int.neg_tmod, Int.tmod_eq_emod_of_nonneg (by omega)]), rfl⟩
  · go_enter Try.func23, Try.ntmps23
    go_wp2
    go_ret
    exact ⟨ret_int (by unfold pick; rw [if_neg (by omega)]), rfl⟩

end Go.Proofs.Ytillljojdnofgaa

/- Plain mathematics of a field's table: sums digit by digit. No Go text here. -/
namespace Go.Proofs.Ytillljojdnofgaa

/-- The sum of two numbers' digits, from a unit on, without carrying. -/
def sumFrom (p q a b : Nat) : Nat → Nat → Nat
  | 0, _ => 0
  | k + 1, u => if u < q then (a / u + b / u) % p * u + sumFrom p q a b k (u * p) else 0
def sumD (p q a b : Nat) : Nat := sumFrom p q a b 7 1

/-- The opposite, digit by digit. -/
def negFrom (p q a : Nat) : Nat → Nat → Nat
  | 0, _ => 0
  | k + 1, u => if u < q then (p - a / u % p) % p * u + negFrom p q a k (u * p) else 0
def negD (p q a : Nat) : Nat := negFrom p q a 7 1

/-- A function's value, again and again. -/
def again (st : Nat → Nat) : Nat → Nat → Nat
  | 0, a => a
  | k + 1, a => st (again st k a)
/-- An element times x, by a modulus whose lower part is low. -/
def timesX (p q low a : Nat) : Nat := again (fun r => sumD p q r (negD p q low)) (a * p / q) (a * p % q)

theorem again_lt (st : Nat → Nat) (q : Nat) (h : ∀ a, a < q → st a < q) : ∀ k a, a < q → again st k a < q
  | 0, _, ha => ha
  | k + 1, a, ha => h _ (again_lt st q h k a ha)

/-- The powers from 1 on are all but 0, so far. -/
def Full (st : Nat → Nat) (n : Nat) : Prop := ∀ k, k < n → again st k 1 ≠ 0 ∧ ∀ j, j < k → again st j 1 ≠ again st k 1

end Go.Proofs.Ytillljojdnofgaa

/- Worlds: a block whose cells are told by a function of the place; what a store does to it. No Go text here. -/
namespace Go.Proofs.Ytillljojdnofgaa
open Go.RowKit

/-- Block T has n cells (of element type t, none frozen); the cell at place o holds f o. -/
def RowF (T n : Nat) (t : TypeId) (f : Nat → Value) (w : World) : Prop :=
  ∃ cs : Array Value, w.heap[T]? = some (.cells cs t (0, 0)) ∧ cs.size = n ∧ ∀ o, o < n → cs[o]? = some (f o)

/-- The function f, but for one place. -/
def upd (f : Nat → Value) (o : Nat) (v : Value) : Nat → Value := fun i => if i = o then v else f i
theorem RowF.cell {T n : Nat} {t : TypeId} {f : Nat → Value} {w : World} (h : RowF T n t f w) (o : Nat) (ho : o < n) : w.cell? ⟨T, o, none⟩ = some (f o) := by
  obtain ⟨cs, h1, h2, h3⟩ := h
  rw [cell_of_row w T o cs t (0, 0) h1]; exact h3 o ho
theorem RowF.free {T n : Nat} {t : TypeId} {f : Nat → Value} {w : World} (h : RowF T n t f w) (o : Nat) : w.frozen? ⟨T, o, none⟩ = false := by
  obtain ⟨cs, h1, h2, h3⟩ := h
  exact frozen_of_row w T o cs t h1
theorem RowF.lt {T n : Nat} {t : TypeId} {f : Nat → Value} {w : World} (h : RowF T n t f w) : T < w.heap.size := by
  obtain ⟨cs, h1, h2, h3⟩ := h
  exact lt_of_block h1
theorem RowF.other {T n : Nat} {t : TypeId} {f : Nat → Value} {w w' : World} (h : RowF T n t f w) (e : w'.heap[T]? = w.heap[T]?) : RowF T n t f w' := by
  obtain ⟨cs, h1, h2, h3⟩ := h
  exact ⟨cs, e.trans h1, h2, h3⟩
theorem RowF.congr {T n : Nat} {t : TypeId} {f g : Nat → Value} {w : World} (h : RowF T n t f w) (e : ∀ o, o < n → f o = g o) : RowF T n t g w := by
  obtain ⟨cs, h1, h2, h3⟩ := h
  exact ⟨cs, h1, h2, fun o ho => by rw [h3 o ho, e o ho]⟩
theorem RowF.store {T n : Nat} {t : TypeId} {f : Nat → Value} {w : World} (h : RowF T n t f w) (o : Nat) (v : Value) : RowF T n t (upd f o v) (w.setCell ⟨T, o, none⟩ v) := by
  obtain ⟨cs, h1, h2, h3⟩ := h
  have hlt := lt_of_block h1
  have h' : w.heap[T] = .cells cs t (0, 0) := by simpa [Array.getElem?_eq_getElem hlt] using h1
  refine ⟨cs.setIfInBounds o v, ?_, by simpa using h2, ?_⟩
  · show (w.heap.modify T _)[T]? = _
    rw [Array.getElem?_eq_getElem (by simpa using hlt), Array.getElem_modify_self, h']
    rfl
  · intro i hi
    unfold upd
    rw [Array.getElem?_setIfInBounds]
    by_cases e : o = i
    · subst e; simp [h2, hi]
    · rw [if_neg e, if_neg (fun h => e h.symm)]; exact h3 i hi
theorem RowF.alloc {T n : Nat} {t : TypeId} {f : Nat → Value} {w : World} (h : RowF T n t f w) (o : Obj) : RowF T n t f (w.alloc o) :=
  h.other (Below.heap_alloc w o T h.lt)
theorem RowF.drewN {T n : Nat} {t : TypeId} {f : Nat → Value} {w : World} (h : RowF T n t f w) (k : Nat) : RowF T n t f (w.drewN k) :=
  h.other rfl
theorem RowF.drew {T n : Nat} {t : TypeId} {f : Nat → Value} {w : World} (h : RowF T n t f w) : RowF T n t f w.drew :=
  h.other rfl
theorem RowF.grown {T n : Nat} {t : TypeId} {f : Nat → Value} {w w' : World} {row : Option Nat} (h : RowF T n t f w) (hg : w.grownBy w' row) (hne : some T ≠ row) : RowF T n t f w' :=
  h.other (hg.block T h.lt hne)
theorem RowF.below {T n B : Nat} {t : TypeId} {f : Nat → Value} {w w' : World} (h : RowF T n t f w) (hb : Below B w w') (hT : T < B) : RowF T n t f w' :=
  h.other (hb.block T hT)

theorem grown_refl (w : World) (row : Option Nat) : w.grownBy w row := ⟨rfl, rfl, rfl, Nat.le_refl _, fun _ _ _ => rfl⟩
theorem grown_trans {a b c : World} {row : Option Nat} (h : a.grownBy b row) (k : b.grownBy c row) : a.grownBy c row :=
  ⟨k.os.trans h.os, k.tape.trans h.tape, k.output.trans h.output, Nat.le_trans h.size k.size, fun i hi hn => (k.block i (Nat.lt_of_lt_of_le hi h.size) hn).trans (h.block i hi hn)⟩
theorem grown_drewN {a b : World} {row : Option Nat} (h : a.grownBy b row) (n : Nat) : a.grownBy (b.drewN n) row :=
  ⟨h.os, h.tape, h.output, h.size, h.block⟩
theorem grown_set {a b : World} {T : Nat} (h : a.grownBy b (some T)) (o : Nat) (v : Value) : a.grownBy (b.setCell ⟨T, o, none⟩ v) (some T) :=
  grown_trans h ⟨rfl, rfl, rfl, by simp [World.setCell], fun i _ hn => Below.heap_setCell _ _ _ _ (fun e => hn (by simp [e]))⟩
/-- What writes a block of the call's own, and new ones, leaves all below as it was. -/
theorem below_grown {a b : World} {B : Nat} {row : Option Nat} (h : a.grownBy b row) (hB : B ≤ a.heap.size) (hr : ∀ k, row = some k → B ≤ k) : Below B a b :=
  (Below.refl B a).grown h hB hr
end Go.Proofs.Ytillljojdnofgaa

/- The calls that make a field's table, one by one: sums. -/
namespace Go.Proofs.Ytillljojdnofgaa
open Go.RowKit

theorem w_nat (a : Nat) (h : a ≤ 9223372036854775807) : wrap64 (a : Int) = (a : Int) := by unfold wrap64; omega
end Go.Proofs.Ytillljojdnofgaa

/- The calls that make a field's table, one by one: opposites. -/
namespace Go.Proofs.Ytillljojdnofgaa
open Go.RowKit

end Go.Proofs.Ytillljojdnofgaa

/- The calls that make a field's table, one by one: an element times x (timesX). -/
namespace Go.Proofs.Ytillljojdnofgaa
open Go.RowKit

end Go.Proofs.Ytillljojdnofgaa

/- The calls that make a field's table, one by one: the powers of what step makes of 1 (layPowers). -/
namespace Go.Proofs.Ytillljojdnofgaa
open Go.RowKit

end Go.Proofs.Ytillljojdnofgaa

/- The calls that make a field's table, one by one: the generator of a prime field (layByNumber). -/
namespace Go.Proofs.Ytillljojdnofgaa
open Go.RowKit

theorem two_new {w : World} (o : Obj) : (w.alloc o).heap[w.heap.size]? = some o := by
  show (w.heap.push o)[w.heap.size]? = some o
  simp

end Go.Proofs.Ytillljojdnofgaa

/- The calls that make a field's table, one by one: the modulus of a field that is no prime one (layByModulus). -/
namespace Go.Proofs.Ytillljojdnofgaa
open Go.RowKit

end Go.Proofs.Ytillljojdnofgaa

/- The program's own search for the prime of which a number is a power (primePower). -/
namespace Go.Proofs.Ytillljojdnofgaa
open Go.RowKit

end Go.Proofs.Ytillljojdnofgaa

/- A field's table, made (build). -/
namespace Go.Proofs.Ytillljojdnofgaa
open Go.RowKit

end Go.Proofs.Ytillljojdnofgaa
