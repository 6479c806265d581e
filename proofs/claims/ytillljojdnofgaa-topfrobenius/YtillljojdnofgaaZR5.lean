/- Texts of ours, one behind the other: R5 R6 R7 R8 R9 R10 R11 R12 R13. -/
import Derived.Test.YtillljojdnofgaaZR4
import Derived.Test.YtillljojdnofgaaZM6
import Derived.Test.YtillljojdnofgaaZA5
import Derived.Test.YtillljojdnofgaaZB1
import Derived.Test.YtillljojdnofgaaZC2
/- The reference: products, all cases (Mul). -/
namespace Go.Proofs.Ytillljojdnofgaa
open Go.RowKit

end Go.Proofs.Ytillljojdnofgaa

/- The reference: are the powers of an element all but 0 (full)? -/
namespace Go.Proofs.Ytillljojdnofgaa
open Go.RowKit

end Go.Proofs.Ytillljojdnofgaa

/- The reference: a field (Field). -/
namespace Go.Proofs.Ytillljojdnofgaa
open Go.RowKit

/-- The modulus, whole. -/
def FD.modL (D : FD) : List Int := digL D.p D.low D.m ++ [1]

end Go.Proofs.Ytillljojdnofgaa

/- The reference: a field that is no prime one (Field). -/
namespace Go.Proofs.Ytillljojdnofgaa
open Go.RowKit

end Go.Proofs.Ytillljojdnofgaa

/- The reference: no field; what undoes a product, powers, logarithms. -/
namespace Go.Proofs.Ytillljojdnofgaa
open Go.RowKit

/-! ### Plain mathematics -/
theorem pw_zero {D : FD} (_hD : D ∈ fieldsL) (a : Nat) : D.pw a 0 = 1 := by
  unfold FD.pw; rw [Nat.mul_zero, Nat.zero_mod]; rfl
theorem pw_succ {D : FD} (hD : D ∈ fieldsL) (a k : Nat) (h0 : a ≠ 0) : D.mul (D.pw a k) a = D.pw a (k + 1) := by
  have hp := pw_ne hD a k
  rw [FD.mul, if_neg (by omega), hp.2, Nat.mod_add_mod, FD.pw, Nat.mul_add, Nat.mul_one]
/-! ### Calls -/
end Go.Proofs.Ytillljojdnofgaa

/- The reference: powers, logarithms, and what Frobenius makes. -/
namespace Go.Proofs.Ytillljojdnofgaa
open Go.RowKit

/-! ### Plain mathematics -/
/-- An element times itself, so many times. -/
def FD.pwr (D : FD) (x k : Nat) : Nat := again (fun r => D.mul r x) k 1
/-- An element to the power p. -/
def FD.frob1 (D : FD) (a : Nat) : Nat := if a = 0 then 0 else D.pw a D.p
def FD.frobZ (D : FD) (a t : Int) : Int := if D.has a = true then (again D.frob1 (t % (D.m : Int)).toNat a.toNat : Nat) else -1

theorem pwr_lt {D : FD} (hD : D ∈ fieldsL) (x : Nat) : ∀ k, D.pwr x k < D.q
  | 0 => by have := (fld hD).q2; show 1 < D.q; omega
  | k + 1 => (fld hD).mul_lt _ _
theorem pwr_is {D : FD} (hD : D ∈ fieldsL) (x : Nat) (h0 : x ≠ 0) : ∀ k, D.pwr x k = D.pw x k
  | 0 => (pw_zero hD x).symm
  | k + 1 => by
    show D.mul (D.pwr x k) x = _
    rw [pwr_is hD x h0 k, pw_succ hD x k h0]
theorem pwr_frob {D : FD} (hD : D ∈ fieldsL) (x : Nat) : D.pwr x D.p = D.frob1 x := by
  unfold FD.frob1
  by_cases h0 : x = 0
  · have := (fld hD).p2
    rw [if_pos h0, h0, show D.p = (D.p - 1) + 1 from by omega]
    show D.mul (D.pwr 0 (D.p - 1)) 0 = 0
    simp [FD.mul]
  · rw [if_neg h0, pwr_is hD x h0]
theorem frob1_lt {D : FD} (hD : D ∈ fieldsL) (x : Nat) : D.frob1 x < D.q := by rw [← pwr_frob hD]; exact pwr_lt hD x D.p
theorem frob_lt {D : FD} (hD : D ∈ fieldsL) (x : Nat) (hx : x < D.q) (k : Nat) : again D.frob1 k x < D.q := again_lt _ _ (fun a _ => frob1_lt hD a) k x hx

/-! ### Calls -/
end Go.Proofs.Ytillljojdnofgaa

/- The reference: logarithms, Frobenius, traces and norms. -/
namespace Go.Proofs.Ytillljojdnofgaa
open Go.RowKit

def FD.traceTo (D : FD) (a : Nat) : Nat → Nat
  | 0 => 0
  | k + 1 => sumD D.p D.q (D.traceTo a k) (again D.frob1 k a)
def FD.normTo (D : FD) (a : Nat) : Nat → Nat
  | 0 => 1
  | k + 1 => D.mul (D.normTo a k) (again D.frob1 k a)
def FD.traceZ (D : FD) (a : Int) : Int := if D.has a = true then (D.traceTo a.toNat D.m : Nat) else -1
def FD.normZ (D : FD) (a : Int) : Int := if D.has a = true then (D.normTo a.toNat D.m : Nat) else -1
theorem traceTo_lt {D : FD} (hD : D ∈ fieldsL) (a : Nat) (ha : a < D.q) : ∀ k, D.traceTo a k < D.q
  | 0 => by have := (fld hD).q2; show 0 < D.q; omega
  | k + 1 => (fld hD).sum_lt _ _ (traceTo_lt hD a ha k) (frob_lt hD a ha k)
theorem normTo_lt {D : FD} (hD : D ∈ fieldsL) (a : Nat) : ∀ k, D.normTo a k < D.q
  | 0 => by have := (fld hD).q2; show 1 < D.q; omega
  | k + 1 => (fld hD).mul_lt _ _

end Go.Proofs.Ytillljojdnofgaa

/- The reference: traces and norms. -/
namespace Go.Proofs.Ytillljojdnofgaa
open Go.RowKit

theorem frobZ_nat {D : FD} {x j : Nat} (ha : D.has (x : Int) = true) (hj : j < D.m) : D.frobZ x j = (again D.frob1 j x : Nat) := by
  rw [FD.frobZ, if_pos ha, ← Int.natCast_emod, Int.toNat_natCast, Int.toNat_natCast, Nat.mod_eq_of_lt hj]

end Go.Proofs.Ytillljojdnofgaa

/- The reference: are two lists the same (Same); the elements of a smaller field (Within). -/
namespace Go.Proofs.Ytillljojdnofgaa
open Go.RowKit

/-- The slice v reads as the numbers l. -/
def SliceI (v : Value) (l : List Int) (w : World) : Prop :=
  (l = [] ∧ ∃ ao cap, v = .slice ao 0 cap) ∨ (l ≠ [] ∧ l.length ≤ 1000000 ∧ ∃ b off cap, v = .slice (some ⟨b, off, none⟩) l.length cap ∧ ∀ j, j < l.length → w.cell? ⟨b, off + j, none⟩ = some (.int .i64 (l.getD j 0)))
theorem OwnI.slice {base : Nat} {v : Value} {l : List Int} {w : World} (h : OwnI base v l w) (hl : l.length ≤ 1000000) : SliceI v l w := by
  by_cases e : l = []
  · refine Or.inl ⟨e, ?_⟩
    rcases h.2 with ⟨h1, _⟩ | ⟨g, cap, cur, hv, _⟩
    · exact ⟨none, 0, h1⟩
    · rw [e] at hv; exact ⟨_, cap, hv⟩
  · obtain ⟨g, cap, hv, _, _, hc, _⟩ := h.at e
    exact Or.inr ⟨e, hl, g, 0, cap, hv, fun j hj => by rw [Nat.zero_add]; exact hc j hj⟩
theorem SliceI.below {B : Nat} {v : Value} {l : List Int} {w w' : World} (h : SliceI v l w) (hb : Below B w w') (hB : ∀ k, v.ownBlock = some k → k < B) : SliceI v l w' := by
  rcases h with h | ⟨h1, h2, b, off, cap, rfl, hc⟩
  · exact Or.inl h
  · exact Or.inr ⟨h1, h2, b, off, cap, rfl, fun j hj => ((bcell hb).1 b (off + j) (hB b rfl)).trans (hc j hj)⟩
theorem SliceI.drewN {v : Value} {l : List Int} {w : World} (h : SliceI v l w) (n : Nat) : SliceI v l (w.drewN n) := h

end Go.Proofs.Ytillljojdnofgaa
