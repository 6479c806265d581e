/- Weights: the reference's CountMay. -/
import Derived.Test.YtnjbnamcedfjaaaZKA8
import Derived.Test.YtnjbnamcedfjaaaZL1
namespace Go.Proofs.Ytnjbnamcedfjaaa
open Go.RowKit Go.Sort

set_option maxHeartbeats 2000000 in
set_option maxRecDepth 100000 in
theorem rcount_any {D : FD} (hD : D ∈ fieldsL) (n : Int) (hn : n ≤ 9223372036854775807) (w : World) :
    Calls Try.prog 8 #[.int .i64 D.q, .int .i64 n] w fun e w' => e = .returned (.int .i64 (D.wck n)) ∧ Below w.heap.size w w' := by
  have HD : Hid (D ∈ fieldsL) := hD
  have h2 := (fld hD).q2
  have h64 := (fld hD).q64
  clear hD
  go_enter Try.func8, Try.ntmps8
  go_wp2_with fail
  refine (rfield_sl HD.out w).mono ?_
  rintro e w1 ⟨gm, cm, rfl, _, hb1⟩
  unfold rf
  obtain ⟨wb, hwb⟩ : ∃ wb, wb = w1.alloc (.cells #[.int .i64 D.q, .int .i64 D.p, .int .i64 D.m, .int .i64 D.gen, .slice (some ⟨gm, 0, none⟩) (D.m + 1) cm] 40) := ⟨_, rfl⟩
  have hbb : Below w1.heap.size w1 wb := by rw [hwb]; exact (Below.refl _ _).alloc (Nat.le_refl _) _
  have H1 : Hid (Below w.heap.size w wb) := bel_up' hb1 hbb
  clear hb1 hbb
  by_cases h1 : n < 1
  · have HE : Hid (D.wck n = 4) := by show D.wck n = 4; unfold FD.wck; rw [if_pos h1]
    go_wp2
    rw [← hwb]
    go_ret
    exact ⟨by rw [HE.out]; rfl, H1.out⟩
  · have HP : Hid (Calls Try.prog 34 #[.int .i64 (D.q : Nat), .int .i64 n] wb (PwR D.q n wb)) := rpower_any D.q n h2 h64 (by omega) hn wb
    go_wp2_with fail
    rw [← hwb]
    clear hwb
    refine HP.out.mono ?_
    rintro e w' ⟨v, rfl, hw, hv⟩
    have hw := hw.symm
    subst hw
    rcases hv with ⟨hp, hv⟩ | ⟨hp, hv⟩
    · have hvb : ¬ v < 0 := by omega
      have HE : Hid (D.wck n = 0) := by show D.wck n = 0; unfold FD.wck; rw [if_neg (by omega), if_pos hp]
      clear hp hv
      go_wp2
      go_ret
      exact ⟨by rw [HE.out]; rfl, H1.out⟩
    · have hvb : v < 0 := by omega
      have HE : Hid (D.wck n = 4) := by show D.wck n = 4; unfold FD.wck; rw [if_neg (by omega), if_neg (by omega)]
      clear hp hv
      go_wp2
      go_ret
      exact ⟨by rw [HE.out]; rfl, H1.out⟩
set_option maxHeartbeats 1000000 in
theorem rcount_none (q : Int) (h : ∀ D ∈ fieldsL, (D.q : Int) ≠ q) (n : Int) (w : World) :
    Calls Try.prog 8 #[.int .i64 q, .int .i64 n] w fun e w' => e = .returned (.int .i64 1) ∧ Below w.heap.size w w' := by
  have HN : Hid (∀ D ∈ fieldsL, (D.q : Int) ≠ q) := h
  clear h
  go_enter Try.func8, Try.ntmps8
  go_wp2_with fail
  refine (rfield_none q w HN.out).mono ?_
  rintro e w1 ⟨rfl, hb1⟩
  have HW : Hid (Below w.heap.size w w1) := hb1
  clear hb1
  unfold rf0
  go_wp2
  go_ret
  exact ⟨rfl, by first | exact HW.out | exact HW.out.alloc HW.out.size _⟩
end Go.Proofs.Ytnjbnamcedfjaaa
