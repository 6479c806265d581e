/- Texts of ours, one behind the other: R14 B4 B5 B6 R15 M7 R16 R17 B7 B8 M8 M9 G1 N1 N2 N3 N4 U1 U2. -/
import Derived.Test.YtbfkacnpbelmlaaZR5
import Derived.Test.YtbfkacnpbelmlaaZB1
import Derived.Deep.RegionWith
import Derived.Deep.RegionHeld3
import Derived.Test.YtbfkacnpbelmlaaZM3
/- The reference: the elements of a smaller field within one (Within). -/
namespace Go.Proofs.Ytbfkacnpbelmlaa
open Go.RowKit

end Go.Proofs.Ytbfkacnpbelmlaa

/- A field's calls, gone on: Frobenius, traces, norms. -/
namespace Go.Proofs.Ytbfkacnpbelmlaa
open Go.RowKit

end Go.Proofs.Ytbfkacnpbelmlaa

/- A field's calls, gone on: its modulus, the elements of a smaller field. -/
namespace Go.Proofs.Ytbfkacnpbelmlaa
open Go.RowKit

theorem RowF.own {g n base : Nat} {f : Nat → Value} {l : List Int} {w : World} (h : RowF g n 3 f w) (hl : l.length = n) (hf : ∀ j, j < n → f j = .int .i64 (l.getD j 0)) (hb : base ≤ g) (hn : n ≤ 1000000) : OwnI base (.slice (some ⟨g, 0, none⟩) n n) l w := by
  obtain ⟨cs, h1, h2, h3⟩ := h
  refine ⟨by simp, Or.inr ⟨g, n, cs, by rw [hl], hb, h1, by omega, by unfold maxLen; omega, by omega, ?_⟩⟩
  rw [hl, Nat.mul_one, List.take_of_length_le (by simp; omega)]
  apply List.ext_getElem?
  intro i
  by_cases hi : i < n
  · rw [Array.getElem?_toList, h3 i hi, hf i hi, List.getElem?_map, List.getD_eq_getElem?_getD, List.getElem?_eq_getElem (by omega)]; rfl
  · rw [List.getElem?_eq_none (by simp; omega), List.getElem?_eq_none (by simp; omega)]

end Go.Proofs.Ytbfkacnpbelmlaa

/- A field's calls, gone on: a field within another (holds, Within). -/
namespace Go.Proofs.Ytbfkacnpbelmlaa
open Go.RowKit

/-! ### Plain mathematics -/
/-! ### Calls -/
end Go.Proofs.Ytbfkacnpbelmlaa

/- The reference: a polynomial's value at an element (value). -/
namespace Go.Proofs.Ytbfkacnpbelmlaa
open Go.RowKit

theorem bel_up' {B : Nat} {w W w1 : World} (h0 : Below B w W) (h : Below W.heap.size W w1) (hB : B ≤ w.heap.size := by exact Nat.le_refl _) : Below B w w1 := h0.trans (h.mono (Nat.le_trans hB h0.size))

end Go.Proofs.Ytbfkacnpbelmlaa

/- Plain mathematics of a field within another: what the smaller one's x becomes. -/
namespace Go.Proofs.Ytbfkacnpbelmlaa

end Go.Proofs.Ytbfkacnpbelmlaa

/- The reference: what each element of a field becomes in a greater one (Embed). -/
namespace Go.Proofs.Ytbfkacnpbelmlaa
open Go.RowKit

end Go.Proofs.Ytbfkacnpbelmlaa

/- The reference: what each element of a field becomes in a greater one, gone on (Embed). -/
namespace Go.Proofs.Ytbfkacnpbelmlaa
open Go.RowKit

end Go.Proofs.Ytbfkacnpbelmlaa

/- A field's calls, gone on: what a smaller field's elements become (at, rootFor, Embed). -/
namespace Go.Proofs.Ytbfkacnpbelmlaa
open Go.RowKit

end Go.Proofs.Ytbfkacnpbelmlaa

/- A field's calls, gone on: what a smaller field's elements become (Embed). -/
namespace Go.Proofs.Ytbfkacnpbelmlaa
open Go.RowKit

end Go.Proofs.Ytbfkacnpbelmlaa

/- Plain mathematics: Fermat and Frobenius, traces and norms; what a smaller field's elements become is a copy of it. -/
namespace Go.Proofs.Ytbfkacnpbelmlaa
open Go.RowKit

/-! ### The kernel's checks -/
end Go.Proofs.Ytbfkacnpbelmlaa

/- Plain mathematics, gone on: the laws that follow from the kernel's checks. -/
namespace Go.Proofs.Ytbfkacnpbelmlaa
open Go.RowKit

/-! ### Frobenius -/
/-! ### Traces and norms -/
/-! ### Copies -/
end Go.Proofs.Ytbfkacnpbelmlaa

/- The walk of the statement FieldEmbeds. -/
namespace Go.Proofs.Ytbfkacnpbelmlaa
open Go.RowKit

/-! ### What two answers with lists are held together by -/
end Go.Proofs.Ytbfkacnpbelmlaa

/- Plain mathematics of polynomials over a field: sums, multiples, shifts, products. A polynomial is the function of its coefficients. No Go text here. -/
namespace Go.Proofs.Ytbfkacnpbelmlaa

def FD.ad (D : FD) (a b : Nat) : Nat := sumD D.p D.q a b
def FD.ng (D : FD) (a : Nat) : Nat := negD D.p D.q a
def FD.sb (D : FD) (a b : Nat) : Nat := D.ad a (D.ng b)

end Go.Proofs.Ytbfkacnpbelmlaa

/- Plain mathematics of polynomials, gone on: degrees, division, what is left, what divides. No Go text here. -/
namespace Go.Proofs.Ytbfkacnpbelmlaa

end Go.Proofs.Ytbfkacnpbelmlaa

/- Plain mathematics of polynomials, gone on: with 1 at the end; common divisors, as they are looked for. No Go text here. -/
namespace Go.Proofs.Ytbfkacnpbelmlaa

end Go.Proofs.Ytbfkacnpbelmlaa

/- Plain mathematics of polynomials, gone on: values of sums and products. No Go text here. -/
namespace Go.Proofs.Ytbfkacnpbelmlaa

end Go.Proofs.Ytbfkacnpbelmlaa

/- The program's polynomials: lists of numbers, and what trim leaves. -/
namespace Go.Proofs.Ytbfkacnpbelmlaa
open Go.RowKit

/-- A slice's memory lies below a block number. -/
def LtB (ao : Option Addr) (B : Nat) : Prop := ∀ x, ao = some x → x.block < B
theorem LtB.mono {ao : Option Addr} {B C : Nat} (h : LtB ao B) (hBC : B ≤ C) : LtB ao C := fun x hx => Nat.lt_of_lt_of_le (h x hx) hBC
end Go.Proofs.Ytbfkacnpbelmlaa

/- The program's polynomials: values, products. -/
namespace Go.Proofs.Ytbfkacnpbelmlaa
open Go.RowKit

end Go.Proofs.Ytbfkacnpbelmlaa
