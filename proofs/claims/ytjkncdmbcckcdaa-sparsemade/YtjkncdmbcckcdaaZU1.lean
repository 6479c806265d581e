/- Texts of ours, one behind the other: U1 U2 W4 U3 U4 U5 U6 U7 U8 U9 U10 U11 U12. -/
import Derived.Test.YtjkncdmbcckcdaaZR18
import Derived.StillTail
import Derived.Deep.QuietTactic
import Derived.BigQuiet
import Derived.WalkKit
import Derived.Laws.CopyOwn
import Derived.Laws.AppendOwnNone
import Derived.Lib.SliceRun
/- The program's polynomials: lists of numbers, and what trim leaves. -/
namespace Go.Proofs.Ytjkncdmbcckcdaa
open Go.RowKit

/-- The first n numbers of the slice that begins at ao are the coefficients c. -/
def Sl (ao : Option Addr) (n : Nat) (c : Nat → Nat) (w : World) : Prop := ∀ j, j < n → ∃ b off, ao = some ⟨b, off, none⟩ ∧ w.cell? ⟨b, off + j, none⟩ = some (.int .i64 (c j : Nat))
/-- A slice's memory lies below a block number. -/
def LtB (ao : Option Addr) (B : Nat) : Prop := ∀ x, ao = some x → x.block < B
/-- A slice's memory lies behind a block number. -/
def GeB (ao : Option Addr) (B : Nat) : Prop := ∀ x, ao = some x → B ≤ x.block

theorem Sl.drewN {ao : Option Addr} {n : Nat} {c : Nat → Nat} {w : World} (h : Sl ao n c w) (k : Nat) : Sl ao n c (w.drewN k) := h
theorem Sl.congr {ao : Option Addr} {n : Nat} {c d : Nat → Nat} {w : World} (h : Sl ao n c w) (e : ∀ j, j < n → c j = d j) : Sl ao n d w := fun j hj => by rw [← e j hj]; exact h j hj
theorem Sl.below {ao : Option Addr} {n B : Nat} {c : Nat → Nat} {w w' : World} (h : Sl ao n c w) (hb : Below B w w') (hB : LtB ao B) : Sl ao n c w' := fun j hj => by
  obtain ⟨b, off, rfl, hc⟩ := h j hj
  exact ⟨b, off, rfl, ((bcell hb).1 b (off + j) (hB _ rfl)).trans hc⟩
theorem LtB.mono {ao : Option Addr} {B C : Nat} (h : LtB ao B) (hBC : B ≤ C) : LtB ao C := fun x hx => Nat.lt_of_lt_of_le (h x hx) hBC
theorem GeB.mono {ao : Option Addr} {B C : Nat} (h : GeB ao C) (hBC : B ≤ C) : GeB ao B := fun x hx => Nat.le_trans hBC (h x hx)

end Go.Proofs.Ytjkncdmbcckcdaa

/- The program's polynomials: values, products. -/
namespace Go.Proofs.Ytjkncdmbcckcdaa
open Go.RowKit

/-- A row's first cells are the coefficients c. -/
def Row (g N : Nat) (c : Nat → Nat) (w : World) : Prop := ∃ cap f, RowF g cap 3 f w ∧ N ≤ cap ∧ ∀ k, k < N → f k = .int .i64 (c k : Nat)
theorem Row.cell {g N : Nat} {c : Nat → Nat} {w : World} (h : Row g N c w) (k : Nat) (hk : k < N) : w.cell? ⟨g, k, none⟩ = some (.int .i64 (c k : Nat)) := by
  obtain ⟨cap, f, hf, hN, he⟩ := h
  rw [hf.cell k (by omega), he k hk]
theorem Row.free {g N : Nat} {c : Nat → Nat} {w : World} (h : Row g N c w) (k : Nat) : w.frozen? ⟨g, k, none⟩ = false := by
  obtain ⟨cap, f, hf, hN, he⟩ := h
  exact hf.free k
theorem Row.lt {g N : Nat} {c : Nat → Nat} {w : World} (h : Row g N c w) : g < w.heap.size := by
  obtain ⟨cap, f, hf, hN, he⟩ := h
  exact hf.lt
theorem Row.drewN {g N : Nat} {c : Nat → Nat} {w : World} (h : Row g N c w) (k : Nat) : Row g N c (w.drewN k) := by
  obtain ⟨cap, f, hf, hN, he⟩ := h
  exact ⟨cap, f, hf.drewN k, hN, he⟩
theorem Row.store {g N : Nat} {c d : Nat → Nat} {w : World} (h : Row g N c w) (k v : Nat) (hd : ∀ j, j < N → d j = if j = k then v else c j) : Row g N d (w.setCell ⟨g, k, none⟩ (.int .i64 (v : Nat))) := by
  obtain ⟨cap, f, hf, hN, he⟩ := h
  refine ⟨cap, _, hf.store k _, hN, fun j hj => ?_⟩
  unfold upd
  rw [hd j hj]
  split
  · rfl
  · exact he j hj
theorem Row.congr {g N : Nat} {c d : Nat → Nat} {w : World} (h : Row g N c w) (e : ∀ k, k < N → c k = d k) : Row g N d w := by
  obtain ⟨cap, f, hf, hN, he⟩ := h
  exact ⟨cap, f, hf, hN, fun k hk => by rw [he k hk, e k hk]⟩
theorem Row.below {g N B : Nat} {c : Nat → Nat} {w w' : World} (h : Row g N c w) (hb : Below B w w') (hB : g < B) : Row g N c w' := by
  obtain ⟨cap, f, hf, hN, he⟩ := h
  exact ⟨cap, f, hf.below hb hB, hN, he⟩
theorem Row.other {g N : Nat} {c : Nat → Nat} {w w' : World} (h : Row g N c w) (e : w'.heap[g]? = w.heap[g]?) : Row g N c w' := by
  obtain ⟨cap, f, hf, hN, he⟩ := h
  exact ⟨cap, f, hf.other e, hN, he⟩
theorem Row.sl {g N : Nat} {c : Nat → Nat} {w : World} (h : Row g N c w) {n : Nat} (hn : n ≤ N) : Sl (some ⟨g, 0, none⟩) n c w := fun j hj => ⟨g, 0, rfl, by rw [Nat.zero_add]; exact h.cell j (by omega)⟩
theorem row_zeros {base n : Nat} {w : World} (h : OwnI base (.slice (some ⟨base, 0, none⟩) n n) (List.replicate n 0) w) : Row base n pnil w := by
  rcases h.2 with ⟨h1, _⟩ | ⟨g, cap, cur, hv, hg, hh, hle, hcm, hsz, htake⟩
  · cases h1
  · simp only [List.length_replicate, Value.slice.injEq, Option.some.injEq, Addr.mk.injEq, and_true, true_and] at hv
    obtain ⟨rfl, rfl⟩ := hv
    by_cases h0 : n = 0
    · exact ⟨n, fun _ => .int .i64 0, ⟨cur, hh, by omega, fun o ho => by omega⟩, Nat.le_refl _, fun k hk => by omega⟩
    · obtain ⟨gl, cl, fl, hvl, hgl, hgl', hll, hcl, hrl, hfl⟩ := h.row n (by simp) (by omega)
      simp only [Value.slice.injEq, Option.some.injEq, Addr.mk.injEq, and_true, true_and] at hvl
      obtain ⟨rfl, rfl⟩ := hvl
      exact ⟨n, fl, hrl, Nat.le_refl _, fun k hk => by rw [hfl k hk, list_getD_replicate]; rfl⟩

end Go.Proofs.Ytjkncdmbcckcdaa

/- A region that draws its order: calls and reads that leave the world alone but for draws, and behind all of them, one after the other, what writes. One walk serves every order. No Go text here. -/
namespace Go.Proofs.Ytjkncdmbcckcdaa
open Go

end Go.Proofs.Ytjkncdmbcckcdaa

/- The program's polynomials: products. -/
namespace Go.Proofs.Ytjkncdmbcckcdaa
open Go.RowKit

end Go.Proofs.Ytjkncdmbcckcdaa

/- Lists that are copied: append(.., l...), copy, Clone, Copy; the program's sums of polynomials. -/
namespace Go.Proofs.Ytjkncdmbcckcdaa
open Go.RowKit

theorem add_off (b off j : Nat) : (Addr.mk b off none).add j = ⟨b, off + j, none⟩ := by simp [Addr.add]

end Go.Proofs.Ytjkncdmbcckcdaa

/- Clone, Copy; the program's sums of polynomials. -/
namespace Go.Proofs.Ytjkncdmbcckcdaa
open Go.RowKit

theorem own_empty {base g : Nat} {w : World} (h : w.heap[g]? = some (.cells #[] 3 (0, 0))) (hb : base ≤ g) : OwnI base (.slice (some ⟨g, 0, none⟩) 0 0) [] w :=
  ⟨rfl, Or.inr ⟨g, 0, #[], rfl, hb, h, Nat.le_refl _, by unfold maxLen; omega, rfl, rfl⟩⟩

end Go.Proofs.Ytjkncdmbcckcdaa

/- The program's sums of polynomials. -/
namespace Go.Proofs.Ytjkncdmbcckcdaa
open Go.RowKit

end Go.Proofs.Ytjkncdmbcckcdaa

/- The program's division of polynomials. -/
namespace Go.Proofs.Ytjkncdmbcckcdaa
open Go.RowKit

end Go.Proofs.Ytjkncdmbcckcdaa

/- The program's division of polynomials: the walk. -/
namespace Go.Proofs.Ytjkncdmbcckcdaa
open Go.RowKit

end Go.Proofs.Ytjkncdmbcckcdaa

/- The program's polynomials: which may be (Check), and over which field (over). -/
namespace Go.Proofs.Ytjkncdmbcckcdaa
open Go.RowKit

/-- The first n numbers of the slice that begins at ao are z. -/
def SlZ (ao : Option Addr) (n : Nat) (z : Nat → Int) (w : World) : Prop := ∀ j, j < n → ∃ b off, ao = some ⟨b, off, none⟩ ∧ w.cell? ⟨b, off + j, none⟩ = some (.int .i64 (z j))
theorem SlZ.below {ao : Option Addr} {n B : Nat} {z : Nat → Int} {w w' : World} (h : SlZ ao n z w) (hb : Below B w w') (hB : LtB ao B) : SlZ ao n z w' := fun j hj => by
  obtain ⟨b, off, rfl, hc⟩ := h j hj
  exact ⟨b, off, rfl, ((bcell hb).1 b (off + j) (hB _ rfl)).trans hc⟩
end Go.Proofs.Ytjkncdmbcckcdaa

/- The program's polynomials: the calls that are listed: Add. -/
namespace Go.Proofs.Ytjkncdmbcckcdaa
open Go.RowKit

/-- A list that is handed in: where it lies, how long it is, its numbers. -/
structure Arg (ao : Option Addr) (n cap : Nat) (z : Nat → Int) (w : World) : Prop where
  sl : SlZ ao n z w
  lt : LtB ao w.heap.size
  few : n ≤ 1000000
  nil : ao = none → cap = 0
  le : n ≤ cap
  cap : cap ≤ 9223372036854775807
theorem Arg.below {ao : Option Addr} {n cap : Nat} {z : Nat → Int} {w w' : World} (h : Arg ao n cap z w) (hb : Below w.heap.size w w') : Arg ao n cap z w' :=
  ⟨h.sl.below hb h.lt, h.lt.mono hb.size, h.few, h.nil, h.le, h.cap⟩

end Go.Proofs.Ytjkncdmbcckcdaa

/- The program's polynomials: the calls that are listed: Mul, Div, At. -/
namespace Go.Proofs.Ytjkncdmbcckcdaa
open Go.RowKit

end Go.Proofs.Ytjkncdmbcckcdaa

/- The program's polynomials: the calls that are listed: Div, At. -/
namespace Go.Proofs.Ytjkncdmbcckcdaa
open Go.RowKit

end Go.Proofs.Ytjkncdmbcckcdaa
