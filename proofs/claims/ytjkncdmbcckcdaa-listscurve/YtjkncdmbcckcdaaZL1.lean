/- Texts of ours, one behind the other: L1 L2 L3 L4 L5 L6 L7 W8 L8. -/
import Derived.Test.YtjkncdmbcckcdaaZV11
import Derived.Test.YtjkncdmbcckcdaaZR15
import Derived.Test.YtjkncdmbcckcdaaZR9
/- What two answers are held together by: numbers, lists, lists of lists. -/
namespace Go.Proofs.Ytjkncdmbcckcdaa
open Go.RowKit

set_option maxHeartbeats 2000000 in
theorem list_err2 (e : Int) (he : e ≠ 0) (ao : Option Addr) (ca : Nat) (vb : Value) (w : World) :
    Calls Try.prog 23 #[.slice ao 0 ca, .int .i64 e, vb, .int .i64 e] w fun r w' => r = .returned (.bool true) ∧ w' = w := by
  have h1 : (e != 0) = true := bne_iff_ne.2 he
  go_enter Try.func23, Try.ntmps23
  go_wp2
  go_ret
  exact ⟨rfl, rfl⟩
/-- The reference's field, with its modulus where it lies. -/
theorem rfield_sl {D : FD} (hD : D ∈ fieldsL) (w : World) :
    Calls Try.prog 11 #[.int .i64 D.q] w fun e w' => ∃ gm cm, e = .returned (.tuple #[rf D.q D.p D.m D.gen (.slice (some ⟨gm, 0, none⟩) (D.m + 1) cm), .int .i64 0]) ∧ ModAt D (.slice (some ⟨gm, 0, none⟩) (D.m + 1) cm) D.md w' ∧ Below w.heap.size w w' := by
  refine (rfield_any hD w).mono ?_
  rintro e w' ⟨v, rfl, hown, hmod, hb⟩
  obtain ⟨gm, cm, fm, rfl, _⟩ := hown.row (D.m + 1) modL_len' (by have := (fld hD).m6; omega)
  exact ⟨gm, cm, rfl, hmod, hb⟩
end Go.Proofs.Ytjkncdmbcckcdaa

/- PolySays: values (polyAt). -/
namespace Go.Proofs.Ytjkncdmbcckcdaa
open Go.RowKit

theorem chk2_def (D : FD) (n : Nat) (z : Nat → Int) (m : Nat) (y : Nat → Int) : D.chk2 n z m y = if D.chk n z = 0 then D.chk m y else D.chk n z := by
  first | rfl | (unfold FD.chk2; rfl) | (unfold FD.chk2; split <;> simp_all)

end Go.Proofs.Ytjkncdmbcckcdaa

/- PolySays: roots and parts (polyRoots). -/
namespace Go.Proofs.Ytjkncdmbcckcdaa
open Go.RowKit

end Go.Proofs.Ytjkncdmbcckcdaa

/- PolySays: roots and parts (polyRoots), the rest. -/
namespace Go.Proofs.Ytjkncdmbcckcdaa
open Go.RowKit

end Go.Proofs.Ytjkncdmbcckcdaa

/- PolySays: a polynomial through points (polyThrough). -/
namespace Go.Proofs.Ytjkncdmbcckcdaa
open Go.RowKit Go.Sort

theorem has_of_lt {D : FD} {x : Nat} (h : x < D.q) : D.has (x : Int) = true := by
  unfold FD.has; simp; omega

theorem arg_sliceI {ao : Option Addr} {n ca : Nat} {z : Nat → Int} {w : World} (h : Arg ao n ca z w) {r : Nat} (hr : r ≤ n) : SliceI (.slice ao r ca) (zl r z) w := by
  by_cases h0 : r = 0
  · subst h0
    exact Or.inl ⟨rfl, ao, ca, rfl⟩
  · obtain ⟨b, off, rfl, _⟩ := h.sl 0 (by omega)
    refine Or.inr ⟨fun e => ?_, by rw [zl_len]; have := h.few; omega, b, off, ca, by rw [zl_len], fun j hj => ?_⟩
    · have := congrArg List.length e
      rw [zl_len] at this
      exact h0 this
    · rw [zl_len] at hj
      obtain ⟨b', off', e, hc⟩ := h.sl j (by omega)
      cases e
      rw [zl_getD r z j hj]; exact hc
end Go.Proofs.Ytjkncdmbcckcdaa

/- PolySays: a polynomial through points (polyThrough), where there is one. -/
namespace Go.Proofs.Ytjkncdmbcckcdaa
open Go.RowKit Go.Sort

end Go.Proofs.Ytjkncdmbcckcdaa

/- PolySays: its parts put together; where an argument may not be. -/
namespace Go.Proofs.Ytjkncdmbcckcdaa
open Go.RowKit Go.Sort

end Go.Proofs.Ytjkncdmbcckcdaa

/- Lists that were made and lie in memory that is there: kept while more is made. What two answers with lists are held together by, whatever the error. -/
namespace Go.Proofs.Ytjkncdmbcckcdaa
open Go.RowKit

/-- The list v reads as l, in memory that is there. -/
def KI (v : Value) (l : List Int) (w : World) : Prop := SliceI v l w ∧ ∀ k, v.ownBlock = some k → k < w.heap.size
theorem KI.below {v : Value} {l : List Int} {w w' : World} (h : KI v l w) (hb : Below w.heap.size w w') : KI v l w' := ⟨h.1.below hb h.2, fun k hk => Nat.lt_of_lt_of_le (h.2 k hk) hb.size⟩
theorem KI.drewN {v : Value} {l : List Int} {w : World} (h : KI v l w) (n : Nat) : KI v l (w.drewN n) := ⟨h.1.drewN n, h.2⟩
theorem list_gen {va vb : Value} {e : Int} {w : World} (h : (e ≠ 0 ∧ ∃ ao ca, va = .slice ao 0 ca) ∨ (e = 0 ∧ ∃ l, SliceI va l w ∧ SliceI vb l w)) :
    Calls Try.prog 23 #[va, .int .i64 e, vb, .int .i64 e] w fun r w' => r = .returned (.bool true) ∧ ∃ n, w' = w.drewN n := by
  rcases h with ⟨he, ao, ca, rfl⟩ | ⟨rfl, l, h1, h2⟩
  · refine (list_err2 e he ao ca vb w).mono ?_
    rintro r w' ⟨rfl, rfl⟩
    exact ⟨rfl, 0, rfl⟩
  · exact list_same h1 h2
end Go.Proofs.Ytjkncdmbcckcdaa

/- PolySays: where an argument may not be. -/
namespace Go.Proofs.Ytjkncdmbcckcdaa
open Go.RowKit Go.Sort

end Go.Proofs.Ytjkncdmbcckcdaa
