/- Texts of ours, one behind the other: U4 U5 U6 U7 U8 U9 U10 U11 U12 U13 U14 U15 U16 U17 V1 V2 V3 W5 V4 V5. -/
import Derived.Test.YtbpeahhhkcljeaaZU2
import Derived.Laws.CopyOwn
import Derived.Laws.AppendOwnNone
import Derived.Lib.SliceRun
import Derived.Test.YtbpeahhhkcljeaaZN1
import Derived.Test.YtbpeahhhkcljeaaZR5
import Derived.Lib.QuietBelow
/- Lists that are copied: append(.., l...), copy, Clone, Copy; the program's sums of polynomials. -/
namespace Go.Proofs.Ytbpeahhhkcljeaa
open Go.RowKit

/-- The n coefficients c as cells. -/
def celL (n : Nat) (c : Nat → Nat) : List Value := (List.range n).map fun k => .int .i64 (c k : Nat)
theorem celL_len (n : Nat) (c : Nat → Nat) : (celL n c).length = n := by simp [celL]
theorem celL_get (n : Nat) (c : Nat → Nat) (j : Nat) (hj : j < n) : (celL n c)[j]? = some (.int .i64 (c j : Nat)) := by
  unfold celL
  rw [List.getElem?_map, List.getElem?_range hj]; rfl
theorem celL_one (n : Nat) (c : Nat → Nat) : ∀ u ∈ celL n c, u.oneCell' = true := by
  intro u hu
  unfold celL at hu
  obtain ⟨k, _, rfl⟩ := List.mem_map.1 hu
  rfl
theorem add_off (b off j : Nat) : (Addr.mk b off none).add j = ⟨b, off + j, none⟩ := by simp [Addr.add]

/-- 'copy(out, l)', out a row of the call's own, at least as long as l. -/
theorem copy_int {ops : Array Oper} {rest : List Oper} {o : Oper} {a : Act} {w : World} {Q : Exit → Act → World → Prop} (hgd : o.guard = none) (d s : Operand)
    (ho : o.op = .call { callee := .builtin .copy, args := #[d, s], argTypes := #[23, 23] }) (g N dc n sc : Nat) (ao : Option Addr)
    (hd : a.eval d = .slice (some ⟨g, 0, none⟩) N dc) (hs : a.eval s = .slice ao n sc) (c x : Nat → Nat) (hrow : Row g N c w) (hS : Sl ao n x w) (hn : n ≤ N)
    (B : Nat) (w0 : World) (hb : Below B w0 w) (hBg : B ≤ g)
    (h : ∀ w', Row g N (fun k => if k < n then x k else c k) w' → Below B w0 w' → wpList Try.prog ops Q rest (a.put o.dst (goInt n)) w') : wpList Try.prog ops Q (o :: rest) a w := by
  obtain ⟨cap, f, hf, hN, he⟩ := hrow
  obtain ⟨cs, h1, h2, h3⟩ := hf
  obtain ⟨i0, hi, hz0, hz1, hz2⟩ := info_parts Try.infoInt
  have hh : w.heap[g]? = some (.cells cs.toList.toArray 3 (0, 0)) := by simpa using h1
  refine wpList_copy_splice hgd d s 23 23 ho 3 Try.underlying23 (by rw [hi]; simp [hz1]) _ _ N dc n sc hd hs g 0 cs.toList 3 hh (celL n x) (by rw [celL_len]; exact (Nat.min_eq_left hn).symm) ?_ (by rw [celL_len]; simp; omega) (celL_one n x) B w0 hb hBg ?_
  · intro h0
    rw [celL_len] at h0
    obtain ⟨b, off, rfl, _⟩ := hS 0 h0
    refine ⟨rfl, _, rfl, fun j v hj => ?_⟩
    have hj' : j < n := by
      have := (List.getElem?_eq_some_iff.1 hj).1
      rwa [celL_len] at this
    rw [celL_get n x j hj'] at hj
    cases hj
    obtain ⟨b', off', e, hc⟩ := hS j hj'
    cases e
    rw [add_off]; exact hc
  · intro w' hg' hb'
    rw [celL_len]
    refine h w' ?_ hb'
    have hlen : (splice cs.toList 0 (celL n x)).length = cap := by rw [length_splice _ _ _ (by rw [celL_len]; simp; omega)]; simpa using h2
    refine ⟨cap, fun k => if k < n then .int .i64 (x k : Nat) else f k, ⟨(splice cs.toList 0 (celL n x)).toArray, hg'.out, by simpa using hlen, fun k hk => ?_⟩, hN, fun k hk => ?_⟩
    · show _ = some (if k < n then _ else f k)
      unfold splice
      rw [List.getElem?_toArray, List.take_zero, List.nil_append, celL_len, Nat.zero_add]
      by_cases e : k < n
      · rw [List.getElem?_append_left (by rw [celL_len]; exact e), celL_get n x k e, if_pos e]
      · rw [List.getElem?_append_right (by rw [celL_len]; omega), celL_len, List.getElem?_drop, show n + (k - n) = k from by omega, Array.getElem?_toList, h3 k hk, if_neg e]
    · show (if k < n then _ else f k) = .int .i64 ((if k < n then x k else c k : Nat) : Int)
      by_cases e : k < n
      · rw [if_pos e, if_pos e]
      · rw [if_neg e, if_neg e]; exact he k hk

end Go.Proofs.Ytbpeahhhkcljeaa

/- Clone, Copy; the program's sums of polynomials. -/
namespace Go.Proofs.Ytbpeahhhkcljeaa
open Go.RowKit

end Go.Proofs.Ytbpeahhhkcljeaa

/- The program's sums of polynomials. -/
namespace Go.Proofs.Ytbpeahhhkcljeaa
open Go.RowKit

end Go.Proofs.Ytbpeahhhkcljeaa

/- The program's division of polynomials. -/
namespace Go.Proofs.Ytbpeahhhkcljeaa
open Go.RowKit

theorem inv_nat' {F T : Nat} {D : FD} (hD : D ∈ fieldsL) {g : Nat → Value} {w : World} (h : FAt F T D g w) {x : Nat} (hx : x < D.q) (h0 : x ≠ 0) :
    Calls Try.prog 121 #[.pointer (some ⟨F, 0, none⟩), .int .i64 x] w fun e w' => e = .returned (.int .i64 (D.iv x : Nat)) ∧ ∃ n, w' = w.drewN n := by
  have k := inv_any hD h x
  rw [inv_nat hD hx h0] at k
  exact k
end Go.Proofs.Ytbpeahhhkcljeaa

/- The program's division of polynomials: the walk. -/
namespace Go.Proofs.Ytbpeahhhkcljeaa
open Go.RowKit

end Go.Proofs.Ytbpeahhhkcljeaa

/- The program's polynomials: which may be (Check), and over which field (over). -/
namespace Go.Proofs.Ytbpeahhhkcljeaa
open Go.RowKit

/-- The first n numbers of the slice that begins at ao are z. -/
def SlZ (ao : Option Addr) (n : Nat) (z : Nat → Int) (w : World) : Prop := ∀ j, j < n → ∃ b off, ao = some ⟨b, off, none⟩ ∧ w.cell? ⟨b, off + j, none⟩ = some (.int .i64 (z j))
theorem SlZ.below {ao : Option Addr} {n B : Nat} {z : Nat → Int} {w w' : World} (h : SlZ ao n z w) (hb : Below B w w') (hB : LtB ao B) : SlZ ao n z w' := fun j hj => by
  obtain ⟨b, off, rfl, hc⟩ := h j hj
  exact ⟨b, off, rfl, ((bcell hb).1 b (off + j) (hB _ rfl)).trans hc⟩
/-- How many of the first numbers are elements, one after the other. -/
def FD.allHas (D : FD) (z : Nat → Int) : Nat → Bool
  | 0 => true
  | n + 1 => D.allHas z n && D.has (z n)
theorem allHas_iff {D : FD} {z : Nat → Int} : ∀ {n : Nat}, D.allHas z n = true ↔ ∀ j, j < n → D.has (z j) = true
  | 0 => ⟨fun _ j hj => by omega, fun _ => rfl⟩
  | n + 1 => by
    rw [FD.allHas, Bool.and_eq_true, allHas_iff]
    constructor
    · rintro ⟨h1, h2⟩ j hj
      by_cases e : j = n
      · rw [e]; exact h2
      · exact h1 j (by omega)
    · intro h
      exact ⟨fun j hj => h j (by omega), h n (by omega)⟩
/-- What Check says of n numbers. -/
def FD.chk (D : FD) (n : Nat) (z : Nat → Int) : Int := if 128 < n then 4 else if D.allHas z n = true then 0 else 2

end Go.Proofs.Ytbpeahhhkcljeaa

/- The program's polynomials: the calls that are listed: Add. -/
namespace Go.Proofs.Ytbpeahhhkcljeaa
open Go.RowKit

/-- A list that is handed in: where it lies, how long it is, its numbers. -/
structure Arg (ao : Option Addr) (n cap : Nat) (z : Nat → Int) (w : World) : Prop where
  sl : SlZ ao n z w
  lt : LtB ao w.heap.size
  few : n ≤ 1000000
  nil : ao = none → cap = 0
  le : n ≤ cap
  cap : cap ≤ 9223372036854775807
theorem Arg.below {ao : Option Addr} {n cap : Nat} {z : Nat → Int} {w w' : World} (h : Arg ao n cap z w) (hb : Below w.heap.size w w') : Arg ao n cap z w' :=
  ⟨h.sl.below hb h.lt, h.lt.mono hb.size, h.few, h.nil, h.le, h.cap⟩

def two {α : Type} (x y : α) : Nat → α := fun j => if j = 0 then x else y
/-- The coefficients of n numbers that are elements. -/
def zc (n : Nat) (z : Nat → Int) : Nat → Nat := fun j => if j < n then (z j).toNat else 0
theorem zc_bd (n : Nat) (z : Nat → Int) : Bd n (zc n z) := fun k hk => by unfold zc; rw [if_neg (by omega)]
theorem chk_zero {D : FD} {n : Nat} {z : Nat → Int} (h : D.chk n z = 0) : n ≤ 128 ∧ ∀ j, j < n → D.has (z j) = true := by
  unfold FD.chk at h
  by_cases h1 : 128 < n
  · rw [if_pos h1] at h; cases h
  · rw [if_neg h1] at h
    by_cases h2 : D.allHas z n = true
    · exact ⟨by omega, allHas_iff.1 h2⟩
    · rw [if_neg h2] at h; cases h
theorem zc_el {D : FD} (F : Fld D) {n : Nat} {z : Nat → Int} (h : D.chk n z = 0) : El D (zc n z) := fun j => by
  unfold zc
  by_cases e : j < n
  · obtain ⟨x, hx, hxq⟩ := has_nat ((chk_zero h).2 j e)
    rw [if_pos e, hx, Int.toNat_natCast]; exact hxq
  · rw [if_neg e]; exact zero_lt' F
theorem zc_sl {D : FD} {ao : Option Addr} {n : Nat} {z : Nat → Int} {w : World} (h : D.chk n z = 0) (hS : SlZ ao n z w) : Sl ao n (zc n z) w := fun j hj => by
  obtain ⟨b, off, e, hc⟩ := hS j hj
  obtain ⟨x, hx, hxq⟩ := has_nat ((chk_zero h).2 j hj)
  refine ⟨b, off, e, ?_⟩
  rw [hc]
  unfold zc
  rw [if_pos hj, hx, Int.toNat_natCast]
end Go.Proofs.Ytbpeahhhkcljeaa

/- The program's polynomials: the calls that are listed: Mul, Div, At. -/
namespace Go.Proofs.Ytbpeahhhkcljeaa
open Go.RowKit

end Go.Proofs.Ytbpeahhhkcljeaa

/- The program's polynomials: the calls that are listed: Div, At. -/
namespace Go.Proofs.Ytbpeahhhkcljeaa
open Go.RowKit

end Go.Proofs.Ytbpeahhhkcljeaa

/- The program's polynomials: the calls that are listed: At, Roots. -/
namespace Go.Proofs.Ytbpeahhhkcljeaa
open Go.RowKit

end Go.Proofs.Ytbpeahhhkcljeaa

/- The program's polynomials: the calls that are listed: Roots. -/
namespace Go.Proofs.Ytbpeahhhkcljeaa
open Go.RowKit

end Go.Proofs.Ytbpeahhhkcljeaa

/- The program's polynomials: with 1 at the end (monic); the calls that are listed: Gcd. -/
namespace Go.Proofs.Ytbpeahhhkcljeaa
open Go.RowKit

end Go.Proofs.Ytbpeahhhkcljeaa

/- How many there are to try (tooMany, Tries). -/
namespace Go.Proofs.Ytbpeahhhkcljeaa
open Go.RowKit

end Go.Proofs.Ytbpeahhhkcljeaa

/- Does an element stand twice in a list (hasTwice)? -/
namespace Go.Proofs.Ytbpeahhhkcljeaa
open Go.RowKit

end Go.Proofs.Ytbpeahhhkcljeaa

/- The reference's polynomials: without noughts at the end (Trim); which may be (PolyMay). -/
namespace Go.Proofs.Ytbpeahhhkcljeaa
open Go.RowKit

end Go.Proofs.Ytbpeahhhkcljeaa

/- The reference's polynomials: which may be (PolyMay). -/
namespace Go.Proofs.Ytbpeahhhkcljeaa
open Go.RowKit

end Go.Proofs.Ytbpeahhhkcljeaa

/- The reference's polynomials: sums (PAdd). -/
namespace Go.Proofs.Ytbpeahhhkcljeaa
open Go.RowKit

end Go.Proofs.Ytbpeahhhkcljeaa

/- The same where the calls lay blocks: the worlds in which nothing that was there has turned. No Go text here. -/
namespace Go.Proofs.Ytbpeahhhkcljeaa
open Go Go.Sort Go.RowKit

end Go.Proofs.Ytbpeahhhkcljeaa

/- The reference's polynomials: products (PMul). -/
namespace Go.Proofs.Ytbpeahhhkcljeaa
open Go.RowKit Go.Sort

end Go.Proofs.Ytbpeahhhkcljeaa

/- The reference's polynomials: values of a polynomial that came in (value, PAt). -/
namespace Go.Proofs.Ytbpeahhhkcljeaa
open Go.RowKit

end Go.Proofs.Ytbpeahhhkcljeaa
