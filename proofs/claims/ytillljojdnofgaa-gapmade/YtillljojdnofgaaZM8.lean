/- Texts of ours, one behind the other: M8 M9 G1 N1 N2 N3 N4 U1 U2. -/
import Derived.Test.YtillljojdnofgaaZR5
import Derived.Test.YtillljojdnofgaaZM3
/- Plain mathematics: Fermat and Frobenius, traces and norms; what a smaller field's elements become is a copy of it. -/
namespace Go.Proofs.Ytillljojdnofgaa
open Go.RowKit

/-! ### The kernel's checks -/
end Go.Proofs.Ytillljojdnofgaa

/- Plain mathematics, gone on: the laws that follow from the kernel's checks. -/
namespace Go.Proofs.Ytillljojdnofgaa
open Go.RowKit

/-! ### Frobenius -/
/-! ### Traces and norms -/
/-! ### Copies -/
end Go.Proofs.Ytillljojdnofgaa

/- The walk of the statement FieldEmbeds. -/
namespace Go.Proofs.Ytillljojdnofgaa
open Go.RowKit

/-! ### What two answers with lists are held together by -/
end Go.Proofs.Ytillljojdnofgaa

/- Plain mathematics of polynomials over a field: sums, multiples, shifts, products. A polynomial is the function of its coefficients. No Go text here. -/
namespace Go.Proofs.Ytillljojdnofgaa

/-- All coefficients are elements. -/
def El (D : FD) (c : Nat → Nat) : Prop := ∀ i, c i < D.q

theorem zero_lt' {D : FD} (F : Fld D) : 0 < D.q := by have := F.q2; omega
theorem one_lt' {D : FD} (F : Fld D) : 1 < D.q := by have := F.q2; omega
def pnil : Nat → Nat := fun _ => 0
/-- Nothing from the place n on. -/
def Bd (n : Nat) (a : Nat → Nat) : Prop := ∀ k, n ≤ k → a k = 0

end Go.Proofs.Ytillljojdnofgaa

/- Plain mathematics of polynomials, gone on: degrees, division, what is left, what divides. No Go text here. -/
namespace Go.Proofs.Ytillljojdnofgaa

theorem Bd.mono {c : Nat → Nat} {n m : Nat} (h : Bd n c) (hm : n ≤ m) : Bd m c := fun k hk => h k (by omega)

end Go.Proofs.Ytillljojdnofgaa

/- Plain mathematics of polynomials, gone on: with 1 at the end; common divisors, as they are looked for. No Go text here. -/
namespace Go.Proofs.Ytillljojdnofgaa

end Go.Proofs.Ytillljojdnofgaa

/- Plain mathematics of polynomials, gone on: values of sums and products. No Go text here. -/
namespace Go.Proofs.Ytillljojdnofgaa

end Go.Proofs.Ytillljojdnofgaa

/- The program's polynomials: lists of numbers, and what trim leaves. -/
namespace Go.Proofs.Ytillljojdnofgaa
open Go.RowKit

/-- The first n numbers of the slice that begins at ao are the coefficients c. -/
def Sl (ao : Option Addr) (n : Nat) (c : Nat → Nat) (w : World) : Prop := ∀ j, j < n → ∃ b off, ao = some ⟨b, off, none⟩ ∧ w.cell? ⟨b, off + j, none⟩ = some (.int .i64 (c j : Nat))
/-- A slice's memory lies below a block number. -/
def LtB (ao : Option Addr) (B : Nat) : Prop := ∀ x, ao = some x → x.block < B
/-- A slice's memory lies behind a block number. -/
def GeB (ao : Option Addr) (B : Nat) : Prop := ∀ x, ao = some x → B ≤ x.block

theorem Sl.drewN {ao : Option Addr} {n : Nat} {c : Nat → Nat} {w : World} (h : Sl ao n c w) (k : Nat) : Sl ao n c (w.drewN k) := h
theorem Sl.less {ao : Option Addr} {n m : Nat} {c : Nat → Nat} {w : World} (h : Sl ao n c w) (hm : m ≤ n) : Sl ao m c w := fun j hj => h j (by omega)
theorem Sl.congr {ao : Option Addr} {n : Nat} {c d : Nat → Nat} {w : World} (h : Sl ao n c w) (e : ∀ j, j < n → c j = d j) : Sl ao n d w := fun j hj => by rw [← e j hj]; exact h j hj
theorem Sl.below {ao : Option Addr} {n B : Nat} {c : Nat → Nat} {w w' : World} (h : Sl ao n c w) (hb : Below B w w') (hB : LtB ao B) : Sl ao n c w' := fun j hj => by
  obtain ⟨b, off, rfl, hc⟩ := h j hj
  exact ⟨b, off, rfl, ((bcell hb).1 b (off + j) (hB _ rfl)).trans hc⟩
theorem LtB.mono {ao : Option Addr} {B C : Nat} (h : LtB ao B) (hBC : B ≤ C) : LtB ao C := fun x hx => Nat.lt_of_lt_of_le (h x hx) hBC
theorem GeB.mono {ao : Option Addr} {B C : Nat} (h : GeB ao C) (hBC : B ≤ C) : GeB ao B := fun x hx => Nat.le_trans hBC (h x hx)

end Go.Proofs.Ytillljojdnofgaa

/- The program's polynomials: values, products. -/
namespace Go.Proofs.Ytillljojdnofgaa
open Go.RowKit

/-- A row's first cells are the coefficients c. -/
def Row (g N : Nat) (c : Nat → Nat) (w : World) : Prop := ∃ cap f, RowF g cap 3 f w ∧ N ≤ cap ∧ ∀ k, k < N → f k = .int .i64 (c k : Nat)
theorem Row.cell {g N : Nat} {c : Nat → Nat} {w : World} (h : Row g N c w) (k : Nat) (hk : k < N) : w.cell? ⟨g, k, none⟩ = some (.int .i64 (c k : Nat)) := by
  obtain ⟨cap, f, hf, hN, he⟩ := h
  rw [hf.cell k (by omega), he k hk]
theorem Row.free {g N : Nat} {c : Nat → Nat} {w : World} (h : Row g N c w) (k : Nat) : w.frozen? ⟨g, k, none⟩ = false := by
  obtain ⟨cap, f, hf, hN, he⟩ := h
  exact hf.free k
theorem Row.lt {g N : Nat} {c : Nat → Nat} {w : World} (h : Row g N c w) : g < w.heap.size := by
  obtain ⟨cap, f, hf, hN, he⟩ := h
  exact hf.lt
theorem Row.drewN {g N : Nat} {c : Nat → Nat} {w : World} (h : Row g N c w) (k : Nat) : Row g N c (w.drewN k) := by
  obtain ⟨cap, f, hf, hN, he⟩ := h
  exact ⟨cap, f, hf.drewN k, hN, he⟩
theorem Row.store {g N : Nat} {c d : Nat → Nat} {w : World} (h : Row g N c w) (k v : Nat) (hd : ∀ j, j < N → d j = if j = k then v else c j) : Row g N d (w.setCell ⟨g, k, none⟩ (.int .i64 (v : Nat))) := by
  obtain ⟨cap, f, hf, hN, he⟩ := h
  refine ⟨cap, _, hf.store k _, hN, fun j hj => ?_⟩
  unfold upd
  rw [hd j hj]
  split
  · rfl
  · exact he j hj
theorem Row.congr {g N : Nat} {c d : Nat → Nat} {w : World} (h : Row g N c w) (e : ∀ k, k < N → c k = d k) : Row g N d w := by
  obtain ⟨cap, f, hf, hN, he⟩ := h
  exact ⟨cap, f, hf, hN, fun k hk => by rw [he k hk, e k hk]⟩
theorem Row.less {g N M : Nat} {c : Nat → Nat} {w : World} (h : Row g N c w) (hM : M ≤ N) : Row g M c w := by
  obtain ⟨cap, f, hf, hN, he⟩ := h
  exact ⟨cap, f, hf, by omega, fun k hk => he k (by omega)⟩
theorem Row.below {g N B : Nat} {c : Nat → Nat} {w w' : World} (h : Row g N c w) (hb : Below B w w') (hB : g < B) : Row g N c w' := by
  obtain ⟨cap, f, hf, hN, he⟩ := h
  exact ⟨cap, f, hf.below hb hB, hN, he⟩
theorem Row.other {g N : Nat} {c : Nat → Nat} {w w' : World} (h : Row g N c w) (e : w'.heap[g]? = w.heap[g]?) : Row g N c w' := by
  obtain ⟨cap, f, hf, hN, he⟩ := h
  exact ⟨cap, f, hf.other e, hN, he⟩
theorem Row.sl {g N : Nat} {c : Nat → Nat} {w : World} (h : Row g N c w) {n : Nat} (hn : n ≤ N) : Sl (some ⟨g, 0, none⟩) n c w := fun j hj => ⟨g, 0, rfl, by rw [Nat.zero_add]; exact h.cell j (by omega)⟩
theorem row_zeros {base n : Nat} {w : World} (h : OwnI base (.slice (some ⟨base, 0, none⟩) n n) (List.replicate n 0) w) : Row base n pnil w := by
  rcases h.2 with ⟨h1, _⟩ | ⟨g, cap, cur, hv, hg, hh, hle, hcm, hsz, htake⟩
  · cases h1
  · simp only [List.length_replicate, Value.slice.injEq, Option.some.injEq, Addr.mk.injEq, and_true, true_and] at hv
    obtain ⟨rfl, rfl⟩ := hv
    by_cases h0 : n = 0
    · exact ⟨n, fun _ => .int .i64 0, ⟨cur, hh, by omega, fun o ho => by omega⟩, Nat.le_refl _, fun k hk => by omega⟩
    · obtain ⟨gl, cl, fl, hvl, hgl, hgl', hll, hcl, hrl, hfl⟩ := h.row n (by simp) (by omega)
      simp only [Value.slice.injEq, Option.some.injEq, Addr.mk.injEq, and_true, true_and] at hvl
      obtain ⟨rfl, rfl⟩ := hvl
      exact ⟨n, fl, hrl, Nat.le_refl _, fun k hk => by rw [hfl k hk, list_getD_replicate]; rfl⟩

end Go.Proofs.Ytillljojdnofgaa
