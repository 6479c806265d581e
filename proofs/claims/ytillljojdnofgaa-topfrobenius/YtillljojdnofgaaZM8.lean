/- Plain mathematics: Fermat and Frobenius, traces and norms; what a smaller field's elements become is a copy of it. -/
import Derived.Test.YtillljojdnofgaaZB8
namespace Go.Proofs.Ytillljojdnofgaa
open Go.RowKit

/-! ### The kernel's checks -/
def chkFrob (D : FD) : Bool := allB D.q fun c => D.frob1 (sumD D.p D.q 1 c) == sumD D.p D.q 1 (D.frob1 c) && decide (D.traceTo c D.m < D.p) && decide (D.normTo c D.m < D.p)
theorem chkFrob_all : fieldsL.all chkFrob = true := by decide +kernel

/-- What an element of E becomes in D, the root being x. -/
def FD.emb (D E : FD) (x a : Nat) : Nat := D.val (fun j => dg E.p a j) E.m x E.m
def chkEmb (D E : FD) (x : Nat) : Bool := D.emb E x 1 == 1 && D.emb E x 0 == 0 && allB E.q fun c => D.emb E x (sumD E.p E.q 1 c) == sumD D.p D.q 1 (D.emb E x c) && D.emb E x (E.st c) == D.mul (D.emb E x c) (D.emb E x E.gen) && again D.frob1 (E.m % D.m) (D.emb E x c) == D.emb E x c
theorem chkEmb_all : (fieldsL.all fun D => fieldsL.all fun E => !(D.holdsB E) || chkEmb D E (D.root E)) = true := by decide +kernel
theorem stay_all : (fieldsL.all fun D => fieldsL.all fun E => !(D.holdsB E) || (D.stayTo E.m D.q).length == E.q) = true := by decide +kernel
end Go.Proofs.Ytillljojdnofgaa
