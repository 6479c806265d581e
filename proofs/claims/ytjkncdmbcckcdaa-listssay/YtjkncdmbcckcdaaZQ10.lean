/- ListsSay: whatever it is given. -/
import Derived.Test.YtjkncdmbcckcdaaZQ9
namespace Go.Proofs.Ytjkncdmbcckcdaa
open Go.RowKit Go.Sort

theorem listsSay_walk (q k r t : Int) {xo yo : Option Addr} {n m cx cy : Nat} {z y : Nat → Int} {w : World} (hx : ArgL xo n cx z w) (hy : ArgL yo m cy y w) (hn : n ≤ 17592186044416) (hm : m ≤ 17592186044416) :
    Calls Try.prog 3 #[.int .i64 q, .slice xo n cx, .int .i64 k, .slice yo m cy, .int .i64 r, .int .i64 t] w fun x w' => x = .returned (.bool true) ∧ Below w.heap.size w w' := by
  by_cases h1 : 200 < n + m
  · exact ls_long q k r t hn hm h1
  · have hX := hx.arg (by omega)
    have hY := hy.arg (by omega)
    by_cases h : ∃ D ∈ fieldsL, (D.q : Int) = q
    · obtain ⟨D, hD, rfl⟩ := h
      by_cases h0 : D.hchk n z k m y = 0
      · exact ls_any hD k r t hX hY (by omega) h0
      · refine ls_err D.q _ k r t h0 (by omega) (wholeWord_any hD k hX hY) (fun w1 => ?_) (fun w1 hb => checkWhole_any hD k (hX.below hb) (hY.below hb))
        refine (rfield_sl hD w1).mono ?_
        rintro x w' ⟨gm, cm, rfl, _, hb⟩
        exact ⟨_, _, _, _, _, _, _, _, rfl, hb⟩
    · have hno : ∀ D ∈ fieldsL, (D.q : Int) ≠ q := fun D hD e => h ⟨D, hD, e⟩
      refine ls_err q 1 k r t (by omega) (by omega) (wholeWord_none q hno k w) (fun w1 => ?_) (fun w1 _ => (checkWhole_none q hno k w1).mono fun e w' h => ⟨h.1, bel_of_eq h.2⟩)
      refine (rfield_none q w1 hno).mono ?_
      rintro x w' ⟨rfl, hb⟩
      exact ⟨_, _, _, _, _, _, _, _, rfl, hb⟩
end Go.Proofs.Ytjkncdmbcckcdaa
