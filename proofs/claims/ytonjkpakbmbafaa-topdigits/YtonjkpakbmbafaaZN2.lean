/- Texts of ours, one behind the other: N2 N3 N4 U1. -/
import Derived.Test.YtonjkpakbmbafaaZN1
import Derived.Test.YtonjkpakbmbafaaZR5
/- Plain mathematics of polynomials, gone on: degrees, division, what is left, what divides. No Go text here. -/
namespace Go.Proofs.Ytonjkpakbmbafaa

theorem Bd.mono {c : Nat → Nat} {n m : Nat} (h : Bd n c) (hm : n ≤ m) : Bd m c := fun k hk => h k (by omega)

/-- a is a multiple of b. -/
def PD (D : FD) (b a : Nat → Nat) : Prop := ∃ n Q, El D Q ∧ Bd n Q ∧ a = pmul D n Q b
theorem PD.refl {D : FD} (F : Fld D) {a : Nat → Nat} (ha : El D a) : PD D a a := by
  refine ⟨1, pone, el_one F, fun k hk => by unfold pone; rw [if_neg (by omega)], ?_⟩
  rw [pmul, pmul, show pone 0 = 1 from rfl, pscale_one F ha, psh_zero, nil_padd F ha]
theorem PD.trans {D : FD} (F : Fld D) {a b c : Nat → Nat} (h1 : PD D b a) (h2 : PD D c b) : PD D c a := by
  obtain ⟨n, Q, eQ, hQ, rfl⟩ := h1
  obtain ⟨m, R, eR, hR, rfl⟩ := h2
  refine ⟨n + m, pmul D n Q R, el_mul F _ _ n, (pmul_bd F hR n).mono (by omega), ?_⟩
  exact (pmul_assoc F hR n (n + m) (Nat.le_refl _)).symm
end Go.Proofs.Ytonjkpakbmbafaa

/- Plain mathematics of polynomials, gone on: with 1 at the end; common divisors, as they are looked for. No Go text here. -/
namespace Go.Proofs.Ytonjkpakbmbafaa

/-- No noughts at the end. -/
def Trd (n : Nat) (c : Nat → Nat) : Prop := Bd n c ∧ (n ≠ 0 → c (n - 1) ≠ 0)
end Go.Proofs.Ytonjkpakbmbafaa

/- Plain mathematics of polynomials, gone on: values of sums and products. No Go text here. -/
namespace Go.Proofs.Ytonjkpakbmbafaa

/-- x to the power k. -/
def FD.xp (D : FD) (x : Nat) : Nat → Nat
  | 0 => 1
  | k + 1 => D.mul (D.xp x k) x
/-- The value at x of the first n coefficients. -/
def FD.ev (D : FD) (c : Nat → Nat) (x : Nat) : Nat → Nat
  | 0 => 0
  | n + 1 => D.ad (D.ev c x n) (D.mul (c n) (D.xp x n))
end Go.Proofs.Ytonjkpakbmbafaa

/- The program's polynomials: lists of numbers, and what trim leaves. -/
namespace Go.Proofs.Ytonjkpakbmbafaa
open Go.RowKit

/-- The first n numbers of the slice that begins at ao are the coefficients c. -/
def Sl (ao : Option Addr) (n : Nat) (c : Nat → Nat) (w : World) : Prop := ∀ j, j < n → ∃ b off, ao = some ⟨b, off, none⟩ ∧ w.cell? ⟨b, off + j, none⟩ = some (.int .i64 (c j : Nat))
/-- A slice's memory lies below a block number. -/
def LtB (ao : Option Addr) (B : Nat) : Prop := ∀ x, ao = some x → x.block < B
/-- A slice's memory lies behind a block number. -/
def GeB (ao : Option Addr) (B : Nat) : Prop := ∀ x, ao = some x → B ≤ x.block

theorem Sl.drewN {ao : Option Addr} {n : Nat} {c : Nat → Nat} {w : World} (h : Sl ao n c w) (k : Nat) : Sl ao n c (w.drewN k) := h
theorem Sl.less {ao : Option Addr} {n m : Nat} {c : Nat → Nat} {w : World} (h : Sl ao n c w) (hm : m ≤ n) : Sl ao m c w := fun j hj => h j (by omega)
theorem Sl.congr {ao : Option Addr} {n : Nat} {c d : Nat → Nat} {w : World} (h : Sl ao n c w) (e : ∀ j, j < n → c j = d j) : Sl ao n d w := fun j hj => by rw [← e j hj]; exact h j hj
theorem Sl.below {ao : Option Addr} {n B : Nat} {c : Nat → Nat} {w w' : World} (h : Sl ao n c w) (hb : Below B w w') (hB : LtB ao B) : Sl ao n c w' := fun j hj => by
  obtain ⟨b, off, rfl, hc⟩ := h j hj
  exact ⟨b, off, rfl, ((bcell hb).1 b (off + j) (hB _ rfl)).trans hc⟩
theorem LtB.mono {ao : Option Addr} {B C : Nat} (h : LtB ao B) (hBC : B ≤ C) : LtB ao C := fun x hx => Nat.lt_of_lt_of_le (h x hx) hBC
theorem GeB.mono {ao : Option Addr} {B C : Nat} (h : GeB ao C) (hBC : B ≤ C) : GeB ao B := fun x hx => Nat.le_trans hBC (h x hx)

end Go.Proofs.Ytonjkpakbmbafaa
