/- Texts of ours, one behind the other: R9 R10 R11 R12 R13 R18 R14 B4 B5 B6 R15 M7 R16 R17 B7 B8 M8 M9 G1 N1 N2. -/
import Derived.Test.YtnjbnamcedfjaaaZR8
import Derived.Test.YtnjbnamcedfjaaaZW2
import Derived.Test.YtnjbnamcedfjaaaZB1
import Derived.Deep.RegionWith
import Derived.Deep.RegionHeld3
import Derived.Test.YtnjbnamcedfjaaaZM3
/- The reference: no field; what undoes a product, powers, logarithms. -/
namespace Go.Proofs.Ytnjbnamcedfjaaa
open Go.RowKit

theorem pp_zero : (allB 65 fun q => decide (q < 2) || !((pp q).2 == 0) || (pp q).1 == 0) = true := by decide +kernel
def rf0 : Value := .agg #[.int .i64 0, .int .i64 0, .int .i64 0, .int .i64 0, .slice none 0 0]

set_option maxHeartbeats 2000000 in
theorem rfield_none (q : Int) (w : World) (h : ∀ D ∈ fieldsL, (D.q : Int) ≠ q) :
    Calls Try.prog 22 #[.int .i64 q] w fun e w' => e = .returned (.tuple #[rf0, .int .i64 1]) ∧ Below w.heap.size w w' := by
  unfold rf0
  by_cases h0 : q < 2
  · clear h
    go_enter Try.func22, Try.ntmps22
    go_wp2
    exact bodyPost_ret (v := .tuple #[.agg #[.int .i64 0, .int .i64 0, .int .i64 0, .int .i64 0, .slice none 0 0], .int .i64 1]) (by simp [results, Try.results22, go_sem]) rfl ⟨rfl, (Below.refl _ _).alloc (Nat.le_refl _) _⟩
  by_cases h1 : 64 < q
  · clear h
    go_enter Try.func22, Try.ntmps22
    go_wp2
    exact bodyPost_ret (v := .tuple #[.agg #[.int .i64 0, .int .i64 0, .int .i64 0, .int .i64 0, .slice none 0 0], .int .i64 1]) (by simp [results, Try.results22, go_sem]) rfl ⟨rfl, (Below.refl _ _).alloc (Nat.le_refl _) _⟩
  obtain ⟨n, rfl⟩ := Int.eq_ofNat_of_zero_le (show 0 ≤ q from by omega)
  have hz : (pp n).1 = 0 := by
    have h3 := no_field (q := n) (by omega) (fun D hD e => h D hD (by rw [e]))
    have h4 := allB_of pp_zero n (by omega)
    rcases h3 with h3 | h3
    · omega
    · simp only [h3, beq_self_eq_true, Bool.not_true, Bool.or_false, Bool.or_eq_true, decide_eq_true_eq, beq_iff_eq] at h4
      rcases h4 with h4 | h4
      · omega
      · exact h4
  have HZ : Hid ((pp n).1 = 0) := hz
  clear h hz
  go_enter Try.func22, Try.ntmps22
  go_wp2_with fail
  refine (prime_any n _ (by omega) (by omega)).mono ?_
  rintro e w' ⟨rfl, rfl⟩
  rw [HZ.out]
  go_wp2
  exact bodyPost_ret (v := .tuple #[.agg #[.int .i64 0, .int .i64 0, .int .i64 0, .int .i64 0, .slice none 0 0], .int .i64 1]) (by simp [results, Try.results22, go_sem]) rfl ⟨rfl, (Below.refl _ _).alloc (Nat.le_refl _) _⟩

theorem rfield_any {D : FD} (hD : D ∈ fieldsL) (w : World) :
    Calls Try.prog 22 #[.int .i64 D.q] w fun e w' => ∃ v, e = .returned (.tuple #[rf D.q D.p D.m D.gen v, .int .i64 0]) ∧ OwnI w.heap.size v D.modL w' ∧ ModAt D v D.md w' ∧ Below w.heap.size w w' := by
  by_cases hm : D.m = 1
  · refine (rfield_prime hD hm w).mono ?_
    rintro e w' ⟨v, h1, h2, h3⟩
    exact ⟨v, h1, h2, modAt_one hm (fld hD).p2 v w', h3⟩
  · exact rfield_power hD hm w

/-! ### Plain mathematics -/
/-! ### Calls -/
end Go.Proofs.Ytnjbnamcedfjaaa

/- The reference: powers, logarithms, and what Frobenius makes. -/
namespace Go.Proofs.Ytnjbnamcedfjaaa
open Go.RowKit

/-! ### Plain mathematics -/
/-! ### Calls -/
end Go.Proofs.Ytnjbnamcedfjaaa

/- The reference: logarithms, Frobenius, traces and norms. -/
namespace Go.Proofs.Ytnjbnamcedfjaaa
open Go.RowKit

end Go.Proofs.Ytnjbnamcedfjaaa

/- The reference: traces and norms. -/
namespace Go.Proofs.Ytnjbnamcedfjaaa
open Go.RowKit

end Go.Proofs.Ytnjbnamcedfjaaa

/- The reference: are two lists the same (Same); the elements of a smaller field (Within). -/
namespace Go.Proofs.Ytnjbnamcedfjaaa
open Go.RowKit

/-- The slice v reads as the numbers l. -/
def SliceI (v : Value) (l : List Int) (w : World) : Prop :=
  (l = [] ∧ ∃ ao cap, v = .slice ao 0 cap) ∨ (l ≠ [] ∧ l.length ≤ 1000000 ∧ ∃ b off cap, v = .slice (some ⟨b, off, none⟩) l.length cap ∧ ∀ j, j < l.length → w.cell? ⟨b, off + j, none⟩ = some (.int .i64 (l.getD j 0)))
theorem OwnI.slice {base : Nat} {v : Value} {l : List Int} {w : World} (h : OwnI base v l w) (hl : l.length ≤ 1000000) : SliceI v l w := by
  by_cases e : l = []
  · refine Or.inl ⟨e, ?_⟩
    rcases h.2 with ⟨h1, _⟩ | ⟨g, cap, cur, hv, _⟩
    · exact ⟨none, 0, h1⟩
    · rw [e] at hv; exact ⟨_, cap, hv⟩
  · obtain ⟨g, cap, hv, _, _, hc, _⟩ := h.at e
    exact Or.inr ⟨e, hl, g, 0, cap, hv, fun j hj => by rw [Nat.zero_add]; exact hc j hj⟩
theorem SliceI.below {B : Nat} {v : Value} {l : List Int} {w w' : World} (h : SliceI v l w) (hb : Below B w w') (hB : ∀ k, v.ownBlock = some k → k < B) : SliceI v l w' := by
  rcases h with h | ⟨h1, h2, b, off, cap, rfl, hc⟩
  · exact Or.inl h
  · exact Or.inr ⟨h1, h2, b, off, cap, rfl, fun j hj => ((bcell hb).1 b (off + j) (hB b rfl)).trans (hc j hj)⟩
theorem SliceI.drewN {v : Value} {l : List Int} {w : World} (h : SliceI v l w) (n : Nat) : SliceI v l (w.drewN n) := h

end Go.Proofs.Ytnjbnamcedfjaaa

/- The reference: is a number in a list (In). -/
namespace Go.Proofs.Ytnjbnamcedfjaaa
open Go.RowKit

end Go.Proofs.Ytnjbnamcedfjaaa

/- The reference: the elements of a smaller field within one (Within). -/
namespace Go.Proofs.Ytnjbnamcedfjaaa
open Go.RowKit

end Go.Proofs.Ytnjbnamcedfjaaa

/- A field's calls, gone on: Frobenius, traces, norms. -/
namespace Go.Proofs.Ytnjbnamcedfjaaa
open Go.RowKit

end Go.Proofs.Ytnjbnamcedfjaaa

/- A field's calls, gone on: its modulus, the elements of a smaller field. -/
namespace Go.Proofs.Ytnjbnamcedfjaaa
open Go.RowKit

end Go.Proofs.Ytnjbnamcedfjaaa

/- A field's calls, gone on: a field within another (holds, Within). -/
namespace Go.Proofs.Ytnjbnamcedfjaaa
open Go.RowKit

/-! ### Plain mathematics -/
/-! ### Calls -/
end Go.Proofs.Ytnjbnamcedfjaaa

/- The reference: a polynomial's value at an element (value). -/
namespace Go.Proofs.Ytnjbnamcedfjaaa
open Go.RowKit

theorem bel_up' {B : Nat} {w W w1 : World} (h0 : Below B w W) (h : Below W.heap.size W w1) (hB : B ≤ w.heap.size := by exact Nat.le_refl _) : Below B w w1 := h0.trans (h.mono (Nat.le_trans hB h0.size))

end Go.Proofs.Ytnjbnamcedfjaaa

/- Plain mathematics of a field within another: what the smaller one's x becomes. -/
namespace Go.Proofs.Ytnjbnamcedfjaaa

end Go.Proofs.Ytnjbnamcedfjaaa

/- The reference: what each element of a field becomes in a greater one (Embed). -/
namespace Go.Proofs.Ytnjbnamcedfjaaa
open Go.RowKit

theorem modL_len' {D : FD} : D.modL.length = D.m + 1 := by unfold FD.modL; rw [List.length_append, digL_len]; rfl

end Go.Proofs.Ytnjbnamcedfjaaa

/- The reference: what each element of a field becomes in a greater one, gone on (Embed). -/
namespace Go.Proofs.Ytnjbnamcedfjaaa
open Go.RowKit

end Go.Proofs.Ytnjbnamcedfjaaa

/- A field's calls, gone on: what a smaller field's elements become (at, rootFor, Embed). -/
namespace Go.Proofs.Ytnjbnamcedfjaaa
open Go.RowKit

end Go.Proofs.Ytnjbnamcedfjaaa

/- A field's calls, gone on: what a smaller field's elements become (Embed). -/
namespace Go.Proofs.Ytnjbnamcedfjaaa
open Go.RowKit

end Go.Proofs.Ytnjbnamcedfjaaa

/- Plain mathematics: Fermat and Frobenius, traces and norms; what a smaller field's elements become is a copy of it. -/
namespace Go.Proofs.Ytnjbnamcedfjaaa
open Go.RowKit

/-! ### The kernel's checks -/
end Go.Proofs.Ytnjbnamcedfjaaa

/- Plain mathematics, gone on: the laws that follow from the kernel's checks. -/
namespace Go.Proofs.Ytnjbnamcedfjaaa
open Go.RowKit

/-! ### Frobenius -/
/-! ### Traces and norms -/
/-! ### Copies -/
end Go.Proofs.Ytnjbnamcedfjaaa

/- The walk of the statement FieldEmbeds. -/
namespace Go.Proofs.Ytnjbnamcedfjaaa
open Go.RowKit

/-! ### What two answers with lists are held together by -/
end Go.Proofs.Ytnjbnamcedfjaaa

/- Plain mathematics of polynomials over a field: sums, multiples, shifts, products. A polynomial is the function of its coefficients. No Go text here. -/
namespace Go.Proofs.Ytnjbnamcedfjaaa

def pnil : Nat → Nat := fun _ => 0
end Go.Proofs.Ytnjbnamcedfjaaa

/- Plain mathematics of polynomials, gone on: degrees, division, what is left, what divides. No Go text here. -/
namespace Go.Proofs.Ytnjbnamcedfjaaa

end Go.Proofs.Ytnjbnamcedfjaaa
