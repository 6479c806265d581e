/- Texts of ours, one behind the other: X9 X10. -/
import Derived.Test.YtbpeahhhkcljeaaZX7
import Derived.Test.YtbpeahhhkcljeaaZT1
/- The program's matrices: the field of one matrix or of two that may be; a matrix that may be, row by row. -/
namespace Go.Proofs.Ytbpeahhhkcljeaa
open Go.RowKit

theorem mover1_any {D : FD} (hD : D ∈ fieldsL) {ao : Option Addr} {m ca : Nat} {A : Nat → Option Addr} {N C : Nat → Nat} {Z : Nat → Nat → Int} {w : World} (ha : MatZ ao m A N C Z w) (hm : m ≤ 1000000) :
    Calls Try.prog 51 #[.int .i64 D.q, .slice (some ⟨w.heap.size, 0, none⟩) 1 1] (w.alloc (.cells #[.slice ao m ca] 22)) fun e w' => Below w.heap.size w w' ∧
      ((D.mchk m N Z = 0 ∧ ∃ F T f, e = .returned (.tuple #[.pointer (some ⟨F, 0, none⟩), .int .i64 0]) ∧ FAt F T D f w' ∧ w.heap.size ≤ F ∧ w.heap.size ≤ T) ∨ (D.mchk m N Z ≠ 0 ∧ e = .returned (.tuple #[.pointer none, .int .i64 (D.mchk m N Z)]))) := by
  have hbl : Below w.heap.size w (w.alloc (.cells #[.slice ao m ca] 22)) := (Below.refl _ _).alloc (Nat.le_refl _) _
  have hM : ManyM w.heap.size 1 (fun _ => ao) (fun _ => m) (fun _ => ca) (fun _ => A) (fun _ => N) (fun _ => C) (fun _ => Z) (w.alloc (.cells #[.slice ao m ca] 22)) := by
    refine ⟨fun j hj => ?_, fun j hj => ha.below hbl, fun j hj => hm, by simp⟩
    rw [cell_of_row _ _ _ _ _ (0, 0) (two_new _)]
    rcases j with _ | j
    · rfl
    · omega
  have h := mover_any hD (cap := 1) hM (by omega)
  rw [show D.mmchk (fun _ => m) (fun _ => N) (fun _ => Z) 1 = D.mchk m N Z from by show (if (0 : Int) = 0 then D.mchk m N Z else 0) = _; rw [if_pos rfl]] at h
  refine h.mono ?_
  rintro e w' ⟨hb', hr⟩
  refine ⟨bel_up hbl hb', ?_⟩
  rcases hr with ⟨h0, F, T, f, rfl, hat, h1, h2⟩ | h
  · simp at h1 h2
    exact Or.inl ⟨h0, F, T, f, rfl, hat, by omega, by omega⟩
  · exact Or.inr h
end Go.Proofs.Ytbpeahhhkcljeaa

/- The program's matrices: products (Times). -/
namespace Go.Proofs.Ytbpeahhhkcljeaa
open Go.RowKit

theorem Mx.drewN {B G m k n : Nat} {R : Nat → Nat → Nat} {h : Nat → Nat} {w : World} (H : Mx B G m k n R h w) (d : Nat) : Mx B G m k n R h (w.drewN d) := by
  obtain ⟨f, hf, hf'⟩ := H.outer
  exact ⟨⟨f, hf.drewN d, hf'⟩, fun i hi => (H.row i hi).drewN d, H.geG, H.ge, H.inj, H.ne, H.le⟩

end Go.Proofs.Ytbpeahhhkcljeaa
