/- The reference: sums and opposites, as it reckons them. -/
import Derived.Test.YtaihjfpenbjdiaiR1
import Derived.Test.YtaihjfpenbjdiaiB2
import Derived.RegionTactic
import Derived.BigRegion
namespace Go.Proofs.Ytaihjfpenbjdiai
open Go.RowKit

/-- The reference's field, as a value. -/
def rf (q p m gen : Nat) (v : Value) : Value := .agg #[.int .i64 q, .int .i64 p, .int .i64 m, .int .i64 gen, v]

def raddN (D : FD) (a b : Nat) : Nat := if D.m = 1 then (a + b) % D.p else if D.p = 2 then a ^^^ b else horner D.p (fun j => (dg D.p a j + dg D.p b j) % D.p) D.m D.m
def rnegN (D : FD) (a : Nat) : Nat := horner D.p (fun j => (D.p - dg D.p a j) % D.p) D.m D.m
def chkRAdd (D : FD) : Bool := allB D.q fun a => rnegN D a == negD D.p D.q a && allB D.q fun b => raddN D a b == sumD D.p D.q a b
theorem chkRAdd_all : fieldsL.all chkRAdd = true := by decide +kernel
theorem radd_is {D : FD} (h : D ∈ fieldsL) (a b : Nat) (ha : a < D.q) (hb : b < D.q) : raddN D a b = sumD D.p D.q a b := by
  have := allB_of (List.all_eq_true.1 chkRAdd_all D h) a ha
  rw [Bool.and_eq_true] at this
  exact beq_iff_eq.1 (allB_of this.2 b hb)
theorem rneg_is {D : FD} (h : D ∈ fieldsL) (a : Nat) (ha : a < D.q) : rnegN D a = negD D.p D.q a := by
  have := allB_of (List.all_eq_true.1 chkRAdd_all D h) a ha
  rw [Bool.and_eq_true] at this
  exact beq_iff_eq.1 this.1

theorem xor_small (a b : Nat) (ha : a < 64) (hb : b < 64) : bits .xor .i64 (a : Int) (b : Int) = ((a ^^^ b : Nat) : Int) := xor64_nat a b ha hb

/-- Old cells behind a call that only makes memory. -/
theorem bcell {B : Nat} {W w1 : World} (hb : Below B W w1) : (∀ b o, b < B → w1.cell? ⟨b, o, none⟩ = W.cell? ⟨b, o, none⟩) ∧ (∀ b o, b < B → w1.frozen? ⟨b, o, none⟩ = W.frozen? ⟨b, o, none⟩) :=
  ⟨fun b o h => hb.cell (p := ⟨b, o, none⟩) h, fun b o h => hb.frozen (p := ⟨b, o, none⟩) h⟩

end Go.Proofs.Ytaihjfpenbjdiai
