/- Texts of ours, one behind the other: L1 L2 L3 L4 L5 L6 L7 W8 L8. -/
import Derived.Test.YtbpeahhhkcljeaaZV11
import Derived.Test.YtbpeahhhkcljeaaZR9
/- What two answers are held together by: numbers, lists, lists of lists. -/
namespace Go.Proofs.Ytbpeahhhkcljeaa
open Go.RowKit

set_option maxHeartbeats 2000000 in
theorem list_err2 (e : Int) (he : e ≠ 0) (ao : Option Addr) (ca : Nat) (vb : Value) (w : World) :
    Calls Try.prog 59 #[.slice ao 0 ca, .int .i64 e, vb, .int .i64 e] w fun r w' => r = .returned (.bool true) ∧ w' = w := by
  have h1 : (e != 0) = true := bne_iff_ne.2 he
  go_enter Try.func59, Try.ntmps59
  go_wp2
  go_ret
  exact ⟨rfl, rfl⟩
/-- The reference's field, with its modulus where it lies. -/
theorem rfield_sl {D : FD} (hD : D ∈ fieldsL) (w : World) :
    Calls Try.prog 11 #[.int .i64 D.q] w fun e w' => ∃ gm cm, e = .returned (.tuple #[rf D.q D.p D.m D.gen (.slice (some ⟨gm, 0, none⟩) (D.m + 1) cm), .int .i64 0]) ∧ ModAt D (.slice (some ⟨gm, 0, none⟩) (D.m + 1) cm) D.md w' ∧ Below w.heap.size w w' := by
  refine (rfield_any hD w).mono ?_
  rintro e w' ⟨v, rfl, hown, hmod, hb⟩
  obtain ⟨gm, cm, fm, rfl, _⟩ := hown.row (D.m + 1) modL_len' (by have := (fld hD).m6; omega)
  exact ⟨gm, cm, rfl, hmod, hb⟩
theorem OwnP.sliceI {base n : Nat} {v : Value} {c : Nat → Nat} {w : World} (h : OwnP base v n c w) (hn : n ≤ 1000000) : SliceI v (zl n fun j => (c j : Nat)) w := by
  obtain ⟨ao, cap, rfl, _, _, _, _, _, hr⟩ := h
  by_cases h0 : n = 0
  · subst h0
    exact Or.inl ⟨rfl, ao, cap, rfl⟩
  · obtain ⟨g, rfl, hrow⟩ := hr (by omega)
    refine Or.inr ⟨fun e => ?_, by rw [zl_len]; exact hn, g, 0, cap, by rw [zl_len], fun j hj => ?_⟩
    · have := congrArg List.length e
      rw [zl_len] at this
      exact h0 this
    · rw [zl_len] at hj
      rw [Nat.zero_add, zl_getD n _ j hj]; exact hrow.cell j hj
theorem Elm.sliceI {v : Value} {p : Nat × (Nat → Nat)} {w : World} (h : Elm v p w) (hn : p.1 + 1 ≤ 1000000) : SliceI v (zl (p.1 + 1) fun j => (p.2 j : Nat)) w := by
  obtain ⟨g, cap, rfl, h1, h2, hr⟩ := h
  exact (OwnP.of_row (base := 0) hr (Nat.le_refl _) h1 h2 (Nat.zero_le _)).sliceI hn

end Go.Proofs.Ytbpeahhhkcljeaa

/- PolySays: values (polyAt). -/
namespace Go.Proofs.Ytbpeahhhkcljeaa
open Go.RowKit

end Go.Proofs.Ytbpeahhhkcljeaa

/- PolySays: roots and parts (polyRoots). -/
namespace Go.Proofs.Ytbpeahhhkcljeaa
open Go.RowKit

end Go.Proofs.Ytbpeahhhkcljeaa

/- PolySays: roots and parts (polyRoots), the rest. -/
namespace Go.Proofs.Ytbpeahhhkcljeaa
open Go.RowKit

end Go.Proofs.Ytbpeahhhkcljeaa

/- PolySays: a polynomial through points (polyThrough). -/
namespace Go.Proofs.Ytbpeahhhkcljeaa
open Go.RowKit Go.Sort

theorem has_of_lt {D : FD} {x : Nat} (h : x < D.q) : D.has (x : Int) = true := by
  unfold FD.has; simp; omega

theorem zl_mem {n : Nat} {z : Nat → Int} {x : Int} : x ∈ zl n z ↔ ∃ j, j < n ∧ z j = x := by
  unfold zl
  rw [List.mem_map]
  constructor
  · rintro ⟨j, hj, e⟩
    exact ⟨j, List.mem_range.1 hj, e⟩
  · rintro ⟨j, hj, e⟩
    exact ⟨j, List.mem_range.2 hj, e⟩
end Go.Proofs.Ytbpeahhhkcljeaa

/- PolySays: a polynomial through points (polyThrough), where there is one. -/
namespace Go.Proofs.Ytbpeahhhkcljeaa
open Go.RowKit Go.Sort

end Go.Proofs.Ytbpeahhhkcljeaa

/- PolySays: its parts put together; where an argument may not be. -/
namespace Go.Proofs.Ytbpeahhhkcljeaa
open Go.RowKit Go.Sort

end Go.Proofs.Ytbpeahhhkcljeaa

/- Lists that were made and lie in memory that is there: kept while more is made. What two answers with lists are held together by, whatever the error. -/
namespace Go.Proofs.Ytbpeahhhkcljeaa
open Go.RowKit

/-- The list v reads as l, in memory that is there. -/
def KI (v : Value) (l : List Int) (w : World) : Prop := SliceI v l w ∧ ∀ k, v.ownBlock = some k → k < w.heap.size
theorem KI.below {v : Value} {l : List Int} {w w' : World} (h : KI v l w) (hb : Below w.heap.size w w') : KI v l w' := ⟨h.1.below hb h.2, fun k hk => Nat.lt_of_lt_of_le (h.2 k hk) hb.size⟩
theorem KI.drewN {v : Value} {l : List Int} {w : World} (h : KI v l w) (n : Nat) : KI v l (w.drewN n) := ⟨h.1.drewN n, h.2⟩
theorem OwnI.ki {base : Nat} {v : Value} {l : List Int} {w : World} (h : OwnI base v l w) (hl : l.length ≤ 1000000) : KI v l w := ⟨h.slice hl, fun k hk => (h.lt k hk).2⟩
theorem OwnP.ki {base n : Nat} {v : Value} {c : Nat → Nat} {w : World} (h : OwnP base v n c w) (hn : n ≤ 1000000) : KI v (zl n fun j => (c j : Nat)) w := by
  refine ⟨h.sliceI hn, ?_⟩
  obtain ⟨ao, cap, rfl, _, _, _, hl, _⟩ := h
  intro k hk
  cases ao with
  | none => cases hk
  | some x =>
    have hk : some x.block = some k := hk
    cases hk
    exact hl x rfl

theorem list_gen {va vb : Value} {e : Int} {w : World} (h : (e ≠ 0 ∧ ∃ ao ca, va = .slice ao 0 ca) ∨ (e = 0 ∧ ∃ l, SliceI va l w ∧ SliceI vb l w)) :
    Calls Try.prog 59 #[va, .int .i64 e, vb, .int .i64 e] w fun r w' => r = .returned (.bool true) ∧ ∃ n, w' = w.drewN n := by
  rcases h with ⟨he, ao, ca, rfl⟩ | ⟨rfl, l, h1, h2⟩
  · refine (list_err2 e he ao ca vb w).mono ?_
    rintro r w' ⟨rfl, rfl⟩
    exact ⟨rfl, 0, rfl⟩
  · exact list_same h1 h2
end Go.Proofs.Ytbpeahhhkcljeaa

/- PolySays: where an argument may not be. -/
namespace Go.Proofs.Ytbpeahhhkcljeaa
open Go.RowKit Go.Sort

end Go.Proofs.Ytbpeahhhkcljeaa
