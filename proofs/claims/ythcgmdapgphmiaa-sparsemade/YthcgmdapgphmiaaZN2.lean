/- Texts of ours, one behind the other: N2 N3 N4 U1 U2 W4 U3 U4 U5 U6. -/
import Derived.Test.YthcgmdapgphmiaaZN1
import Derived.Test.YthcgmdapgphmiaaZR18
import Derived.StillTail
import Derived.Deep.QuietTactic
import Derived.BigQuiet
import Derived.WalkKit
import Derived.Laws.CopyOwn
import Derived.Laws.AppendOwnNone
import Derived.Lib.SliceRun
/- Plain mathematics of polynomials, gone on: degrees, division, what is left, what divides. No Go text here. -/
namespace Go.Proofs.Ythcgmdapgphmiaa

theorem Bd.mono {c : Nat → Nat} {n m : Nat} (h : Bd n c) (hm : n ≤ m) : Bd m c := fun k hk => h k (by omega)

/-- a is a multiple of b. -/
def PD (D : FD) (b a : Nat → Nat) : Prop := ∃ n Q, El D Q ∧ Bd n Q ∧ a = pmul D n Q b
theorem PD.refl {D : FD} (F : Fld D) {a : Nat → Nat} (ha : El D a) : PD D a a := by
  refine ⟨1, pone, el_one F, fun k hk => by unfold pone; rw [if_neg (by omega)], ?_⟩
  rw [pmul, pmul, show pone 0 = 1 from rfl, pscale_one F ha, psh_zero, nil_padd F ha]
theorem PD.trans {D : FD} (F : Fld D) {a b c : Nat → Nat} (h1 : PD D b a) (h2 : PD D c b) : PD D c a := by
  obtain ⟨n, Q, eQ, hQ, rfl⟩ := h1
  obtain ⟨m, R, eR, hR, rfl⟩ := h2
  refine ⟨n + m, pmul D n Q R, el_mul F _ _ n, (pmul_bd F hR n).mono (by omega), ?_⟩
  exact (pmul_assoc F hR n (n + m) (Nat.le_refl _)).symm
end Go.Proofs.Ythcgmdapgphmiaa

/- Plain mathematics of polynomials, gone on: with 1 at the end; common divisors, as they are looked for. No Go text here. -/
namespace Go.Proofs.Ythcgmdapgphmiaa

/-- No noughts at the end. -/
def Trd (n : Nat) (c : Nat → Nat) : Prop := Bd n c ∧ (n ≠ 0 → c (n - 1) ≠ 0)
end Go.Proofs.Ythcgmdapgphmiaa

/- Plain mathematics of polynomials, gone on: values of sums and products. No Go text here. -/
namespace Go.Proofs.Ythcgmdapgphmiaa

/-- x to the power k. -/
def FD.xp (D : FD) (x : Nat) : Nat → Nat
  | 0 => 1
  | k + 1 => D.mul (D.xp x k) x
/-- The value at x of the first n coefficients. -/
def FD.ev (D : FD) (c : Nat → Nat) (x : Nat) : Nat → Nat
  | 0 => 0
  | n + 1 => D.ad (D.ev c x n) (D.mul (c n) (D.xp x n))
end Go.Proofs.Ythcgmdapgphmiaa

/- The program's polynomials: lists of numbers, and what trim leaves. -/
namespace Go.Proofs.Ythcgmdapgphmiaa
open Go.RowKit

/-- The first n numbers of the slice that begins at ao are the coefficients c. -/
def Sl (ao : Option Addr) (n : Nat) (c : Nat → Nat) (w : World) : Prop := ∀ j, j < n → ∃ b off, ao = some ⟨b, off, none⟩ ∧ w.cell? ⟨b, off + j, none⟩ = some (.int .i64 (c j : Nat))
/-- A slice's memory lies below a block number. -/
def LtB (ao : Option Addr) (B : Nat) : Prop := ∀ x, ao = some x → x.block < B
/-- A slice's memory lies behind a block number. -/
def GeB (ao : Option Addr) (B : Nat) : Prop := ∀ x, ao = some x → B ≤ x.block

theorem Sl.drewN {ao : Option Addr} {n : Nat} {c : Nat → Nat} {w : World} (h : Sl ao n c w) (k : Nat) : Sl ao n c (w.drewN k) := h
theorem Sl.less {ao : Option Addr} {n m : Nat} {c : Nat → Nat} {w : World} (h : Sl ao n c w) (hm : m ≤ n) : Sl ao m c w := fun j hj => h j (by omega)
theorem Sl.congr {ao : Option Addr} {n : Nat} {c d : Nat → Nat} {w : World} (h : Sl ao n c w) (e : ∀ j, j < n → c j = d j) : Sl ao n d w := fun j hj => by rw [← e j hj]; exact h j hj
theorem Sl.below {ao : Option Addr} {n B : Nat} {c : Nat → Nat} {w w' : World} (h : Sl ao n c w) (hb : Below B w w') (hB : LtB ao B) : Sl ao n c w' := fun j hj => by
  obtain ⟨b, off, rfl, hc⟩ := h j hj
  exact ⟨b, off, rfl, ((bcell hb).1 b (off + j) (hB _ rfl)).trans hc⟩
theorem LtB.mono {ao : Option Addr} {B C : Nat} (h : LtB ao B) (hBC : B ≤ C) : LtB ao C := fun x hx => Nat.lt_of_lt_of_le (h x hx) hBC
theorem GeB.mono {ao : Option Addr} {B C : Nat} (h : GeB ao C) (hBC : B ≤ C) : GeB ao B := fun x hx => Nat.le_trans hBC (h x hx)

end Go.Proofs.Ythcgmdapgphmiaa

/- The program's polynomials: values, products. -/
namespace Go.Proofs.Ythcgmdapgphmiaa
open Go.RowKit

/-- A row's first cells are the coefficients c. -/
def Row (g N : Nat) (c : Nat → Nat) (w : World) : Prop := ∃ cap f, RowF g cap 3 f w ∧ N ≤ cap ∧ ∀ k, k < N → f k = .int .i64 (c k : Nat)
theorem Row.cell {g N : Nat} {c : Nat → Nat} {w : World} (h : Row g N c w) (k : Nat) (hk : k < N) : w.cell? ⟨g, k, none⟩ = some (.int .i64 (c k : Nat)) := by
  obtain ⟨cap, f, hf, hN, he⟩ := h
  rw [hf.cell k (by omega), he k hk]
theorem Row.free {g N : Nat} {c : Nat → Nat} {w : World} (h : Row g N c w) (k : Nat) : w.frozen? ⟨g, k, none⟩ = false := by
  obtain ⟨cap, f, hf, hN, he⟩ := h
  exact hf.free k
theorem Row.lt {g N : Nat} {c : Nat → Nat} {w : World} (h : Row g N c w) : g < w.heap.size := by
  obtain ⟨cap, f, hf, hN, he⟩ := h
  exact hf.lt
theorem Row.drewN {g N : Nat} {c : Nat → Nat} {w : World} (h : Row g N c w) (k : Nat) : Row g N c (w.drewN k) := by
  obtain ⟨cap, f, hf, hN, he⟩ := h
  exact ⟨cap, f, hf.drewN k, hN, he⟩
theorem Row.store {g N : Nat} {c d : Nat → Nat} {w : World} (h : Row g N c w) (k v : Nat) (hd : ∀ j, j < N → d j = if j = k then v else c j) : Row g N d (w.setCell ⟨g, k, none⟩ (.int .i64 (v : Nat))) := by
  obtain ⟨cap, f, hf, hN, he⟩ := h
  refine ⟨cap, _, hf.store k _, hN, fun j hj => ?_⟩
  unfold upd
  rw [hd j hj]
  split
  · rfl
  · exact he j hj
theorem Row.congr {g N : Nat} {c d : Nat → Nat} {w : World} (h : Row g N c w) (e : ∀ k, k < N → c k = d k) : Row g N d w := by
  obtain ⟨cap, f, hf, hN, he⟩ := h
  exact ⟨cap, f, hf, hN, fun k hk => by rw [he k hk, e k hk]⟩
theorem Row.less {g N M : Nat} {c : Nat → Nat} {w : World} (h : Row g N c w) (hM : M ≤ N) : Row g M c w := by
  obtain ⟨cap, f, hf, hN, he⟩ := h
  exact ⟨cap, f, hf, by omega, fun k hk => he k (by omega)⟩
theorem Row.below {g N B : Nat} {c : Nat → Nat} {w w' : World} (h : Row g N c w) (hb : Below B w w') (hB : g < B) : Row g N c w' := by
  obtain ⟨cap, f, hf, hN, he⟩ := h
  exact ⟨cap, f, hf.below hb hB, hN, he⟩
theorem Row.other {g N : Nat} {c : Nat → Nat} {w w' : World} (h : Row g N c w) (e : w'.heap[g]? = w.heap[g]?) : Row g N c w' := by
  obtain ⟨cap, f, hf, hN, he⟩ := h
  exact ⟨cap, f, hf.other e, hN, he⟩
theorem Row.sl {g N : Nat} {c : Nat → Nat} {w : World} (h : Row g N c w) {n : Nat} (hn : n ≤ N) : Sl (some ⟨g, 0, none⟩) n c w := fun j hj => ⟨g, 0, rfl, by rw [Nat.zero_add]; exact h.cell j (by omega)⟩
theorem row_zeros {base n : Nat} {w : World} (h : OwnI base (.slice (some ⟨base, 0, none⟩) n n) (List.replicate n 0) w) : Row base n pnil w := by
  rcases h.2 with ⟨h1, _⟩ | ⟨g, cap, cur, hv, hg, hh, hle, hcm, hsz, htake⟩
  · cases h1
  · simp only [List.length_replicate, Value.slice.injEq, Option.some.injEq, Addr.mk.injEq, and_true, true_and] at hv
    obtain ⟨rfl, rfl⟩ := hv
    by_cases h0 : n = 0
    · exact ⟨n, fun _ => .int .i64 0, ⟨cur, hh, by omega, fun o ho => by omega⟩, Nat.le_refl _, fun k hk => by omega⟩
    · obtain ⟨gl, cl, fl, hvl, hgl, hgl', hll, hcl, hrl, hfl⟩ := h.row n (by simp) (by omega)
      simp only [Value.slice.injEq, Option.some.injEq, Addr.mk.injEq, and_true, true_and] at hvl
      obtain ⟨rfl, rfl⟩ := hvl
      exact ⟨n, fl, hrl, Nat.le_refl _, fun k hk => by rw [hfl k hk, list_getD_replicate]; rfl⟩

/-- The slice v, made behind block number base, holds the n coefficients c. -/
def OwnP (base : Nat) (v : Value) (n : Nat) (c : Nat → Nat) (w : World) : Prop :=
  ∃ ao cap, v = .slice ao n cap ∧ n ≤ cap ∧ cap ≤ 9223372036854775807 ∧ GeB ao base ∧ LtB ao w.heap.size ∧ (ao = none → cap = 0) ∧ (0 < n → ∃ g, ao = some ⟨g, 0, none⟩ ∧ Row g n c w)
theorem OwnP.of_row {base g n N cap : Nat} {c : Nat → Nat} {w : World} (h : Row g N c w) (hn : n ≤ N) (hN : n ≤ cap) (hcap : cap ≤ 9223372036854775807) (hb : base ≤ g) : OwnP base (.slice (some ⟨g, 0, none⟩) n cap) n c w :=
  ⟨_, cap, rfl, hN, hcap, fun x hx => by cases hx; exact hb, fun x hx => by cases hx; exact h.lt, fun e => (by cases e), fun _ => ⟨g, rfl, h.less hn⟩⟩
theorem OwnP.below {base B n : Nat} {v : Value} {c : Nat → Nat} {w w' : World} (h : OwnP base v n c w) (hb : Below B w w') (hB : w.heap.size ≤ B) : OwnP base v n c w' := by
  obtain ⟨ao, cap, hv, h1, h2, hg, hl, hz, hr⟩ := h
  refine ⟨ao, cap, hv, h1, h2, hg, hl.mono hb.size, hz, fun h0 => ?_⟩
  obtain ⟨g, e, hrow⟩ := hr h0
  exact ⟨g, e, hrow.below hb (Nat.lt_of_lt_of_le (hl _ e) hB)⟩
theorem OwnP.mono {base base' n : Nat} {v : Value} {c : Nat → Nat} {w : World} (h : OwnP base v n c w) (hb : base' ≤ base) : OwnP base' v n c w := by
  obtain ⟨ao, cap, hv, h1, h2, hg, hl, hz, hr⟩ := h
  exact ⟨ao, cap, hv, h1, h2, hg.mono hb, hl, hz, hr⟩
theorem OwnP.congr {base n : Nat} {v : Value} {c d : Nat → Nat} {w : World} (h : OwnP base v n c w) (e : ∀ k, k < n → c k = d k) : OwnP base v n d w := by
  obtain ⟨ao, cap, hv, h1, h2, hg, hl, hz, hr⟩ := h
  refine ⟨ao, cap, hv, h1, h2, hg, hl, hz, fun h0 => ?_⟩
  obtain ⟨g, e', hrow⟩ := hr h0
  exact ⟨g, e', hrow.congr e⟩
theorem OwnP.drewN {base n : Nat} {v : Value} {c : Nat → Nat} {w : World} (h : OwnP base v n c w) (k : Nat) : OwnP base v n c (w.drewN k) := by
  obtain ⟨ao, cap, hv, h1, h2, hg, hl, hz, hr⟩ := h
  refine ⟨ao, cap, hv, h1, h2, hg, hl, hz, fun h0 => ?_⟩
  obtain ⟨g, e', hrow⟩ := hr h0
  exact ⟨g, e', hrow.drewN k⟩
/-- Opened: where it lies. -/
theorem OwnP.open {base n : Nat} {v : Value} {c : Nat → Nat} {w : World} (h : OwnP base v n c w) : ∃ ao cap, v = .slice ao n cap ∧ n ≤ cap ∧ cap ≤ 9223372036854775807 ∧ GeB ao base ∧ LtB ao w.heap.size ∧ (ao = none → cap = 0) ∧ Sl ao n c w := by
  obtain ⟨ao, cap, hv, h1, h2, hg, hl, hz, hr⟩ := h
  refine ⟨ao, cap, hv, h1, h2, hg, hl, hz, fun j hj => ?_⟩
  obtain ⟨g, e, hrow⟩ := hr (by omega)
  exact ⟨g, 0, e, by rw [Nat.zero_add]; exact hrow.cell j hj⟩

end Go.Proofs.Ythcgmdapgphmiaa

/- A region that draws its order: calls and reads that leave the world alone but for draws, and behind all of them, one after the other, what writes. One walk serves every order. No Go text here. -/
namespace Go.Proofs.Ythcgmdapgphmiaa
open Go

end Go.Proofs.Ythcgmdapgphmiaa

/- The program's polynomials: products. -/
namespace Go.Proofs.Ythcgmdapgphmiaa
open Go.RowKit

end Go.Proofs.Ythcgmdapgphmiaa

/- Lists that are copied: append(.., l...), copy, Clone, Copy; the program's sums of polynomials. -/
namespace Go.Proofs.Ythcgmdapgphmiaa
open Go.RowKit

theorem add_off (b off j : Nat) : (Addr.mk b off none).add j = ⟨b, off + j, none⟩ := by simp [Addr.add]

end Go.Proofs.Ythcgmdapgphmiaa

/- Clone, Copy; the program's sums of polynomials. -/
namespace Go.Proofs.Ythcgmdapgphmiaa
open Go.RowKit

theorem own_empty {base g : Nat} {w : World} (h : w.heap[g]? = some (.cells #[] 3 (0, 0))) (hb : base ≤ g) : OwnI base (.slice (some ⟨g, 0, none⟩) 0 0) [] w :=
  ⟨rfl, Or.inr ⟨g, 0, #[], rfl, hb, h, Nat.le_refl _, by unfold maxLen; omega, rfl, rfl⟩⟩

end Go.Proofs.Ythcgmdapgphmiaa

/- The program's sums of polynomials. -/
namespace Go.Proofs.Ythcgmdapgphmiaa
open Go.RowKit

end Go.Proofs.Ythcgmdapgphmiaa
