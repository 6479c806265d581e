/- The reference: what each element of a field becomes in a greater one (Embed). -/
import Derived.Test.YtaihjfpenbjdiaaM7
import Derived.Test.YtaihjfpenbjdiaaR13
import Derived.Deep.RegionHeld3
namespace Go.Proofs.Ytaihjfpenbjdiaa
open Go.RowKit

theorem modL_len' {D : FD} : D.modL.length = D.m + 1 := by unfold FD.modL; rw [List.length_append, digL_len]; rfl

set_option maxHeartbeats 4000000 in
set_option maxRecDepth 100000 in
theorem rembed_none1 (q gr : Int) (w : World) (h : ∀ D ∈ fieldsL, (D.q : Int) ≠ q) :
    Calls Try.prog 44 #[.int .i64 q, .int .i64 gr] w fun e w' => e = .returned (.tuple #[.slice none 0 0, .int .i64 1]) ∧ Below w.heap.size w w' := by
  have HN : Hid (∀ D ∈ fieldsL, (D.q : Int) ≠ q) := h
  clear h
  go_enter Try.func44, Try.ntmps44
  go_wp2_with fail
  refine (rfield_none q w HN.out).mono ?_
  rintro e w1 ⟨rfl, hb1⟩
  have HB : Hid (Below w.heap.size w w1) := hb1
  clear hb1
  unfold rf0
  go_wp2
  go_ret2
  exact ⟨rfl, HB.out.alloc HB.out.size _⟩

set_option maxHeartbeats 4000000 in
set_option maxRecDepth 100000 in
theorem rembed_none2 {E : FD} (hE : E ∈ fieldsL) (gr : Int) (w : World) (h : ∀ D ∈ fieldsL, (D.q : Int) ≠ gr) :
    Calls Try.prog 44 #[.int .i64 E.q, .int .i64 gr] w fun e w' => e = .returned (.tuple #[.slice none 0 0, .int .i64 1]) ∧ Below w.heap.size w w' := by
  have HN : Hid ((∀ D ∈ fieldsL, (D.q : Int) ≠ gr) ∧ E ∈ fieldsL) := ⟨h, hE⟩
  have hm6 := (fld hE).m6
  clear h hE
  go_enter Try.func44, Try.ntmps44
  go_wp2_with fail
  refine (rfield_any HN.out.2 w).mono ?_
  rintro e w1 ⟨v, rfl, hown, hmod, hb1⟩
  have HB : Hid (Below w.heap.size w w1) := hb1
  obtain ⟨gm, cm, fm, hvm, hgm⟩ := hown.row (E.m + 1) modL_len' (by omega)
  subst hvm
  clear hb1 hown hmod hgm
  unfold rf
  go_wp2_with fail
  refine (rfield_none gr _ HN.out.1).mono ?_
  rintro e w2 ⟨rfl, hb2⟩
  have HB2 : Hid (Below w.heap.size w w2) := bel_up' (HB.out.alloc HB.out.size _) hb2
  clear hb2
  unfold rf0
  go_wp2
  go_ret2
  exact ⟨rfl, HB2.out.alloc HB2.out.size _⟩
end Go.Proofs.Ytaihjfpenbjdiaa
