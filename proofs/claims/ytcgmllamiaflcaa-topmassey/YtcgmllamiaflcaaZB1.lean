/- A field's object (New), and its plain calls. -/
import Derived.Test.YtcgmllamiaflcaaZA9
import Derived.Test.YtcgmllamiaflcaaZM3
namespace Go.Proofs.Ytcgmllamiaflcaa
open Go.RowKit

theorem pp_fields : fieldsL.all (fun D => pp D.q == (D.p, D.m)) = true := by decide +kernel
theorem good {D : FD} (h : D ∈ fieldsL) : Good D.q D.p D.m := by
  have F := fld h
  exact ⟨beq_iff_eq.1 (List.all_eq_true.1 pp_fields D h), F.p2, F.p64, F.m1, F.q2, F.q64, ⟨F.sum_lt, F.neg_uniq⟩, F.neg_lt, F.sum_neg, fld_two h⟩

/-- A field's object F, and its table T. -/
structure FAt (F T : Nat) (D : FD) (g : Nat → Value) (w : World) : Prop where
  ptr : w.cell? ⟨F, 0, none⟩ = some (.pointer (some ⟨T, 0, none⟩))
  row : RowF T 133 59 g w
  tab : Tab D.q D.p D.m D.low D.gen D.st g
  ltF : F < w.heap.size

theorem FAt.drewN {F T : Nat} {D : FD} {g : Nat → Value} {w : World} (h : FAt F T D g w) (n : Nat) : FAt F T D g (w.drewN n) := ⟨h.ptr, h.row.drewN n, h.tab, h.ltF⟩
theorem FAt.below {F T B : Nat} {D : FD} {g : Nat → Value} {w w' : World} (h : FAt F T D g w) (hb : Below B w w') (hF : F < B) (hT : T < B) : FAt F T D g w' :=
  ⟨(hb.cell (p := ⟨F, 0, none⟩) hF).trans h.ptr, h.row.below hb hT, h.tab, Nat.lt_of_lt_of_le h.ltF hb.size⟩

theorem build_any {D : FD} (hD : D ∈ fieldsL) (w : World) :
    Calls Try.prog 53 #[.int .i64 D.q] w fun e w' => e = .returned (.pointer (some ⟨w.heap.size, 0, none⟩)) ∧ ∃ g, RowF w.heap.size 133 59 g w' ∧ Tab D.q D.p D.m D.low D.gen D.st g ∧ Below w.heap.size w w' := by
  have F := fld hD
  have G := good hD
  by_cases hm : D.m = 1
  · obtain ⟨h1, h2, h3, h4, h5⟩ := F.least1 hm
    have hst : D.st = fun a => a * D.gen % D.q := by funext a; rw [FD.st, if_pos hm]
    have hf := F.full
    rw [hst, h4, hm, h1]
    rw [hst] at hf
    rw [hm, h1] at G
    exact build_prime D.q D.gen w G h2 h3 hf h5
  · obtain ⟨h1, h2, h3⟩ := F.least2 hm
    have hst : D.st = timesX D.p D.q D.low := by funext a; rw [FD.st, if_neg hm]
    have hf := F.full
    rw [hst, h1]
    rw [hst] at hf
    exact build_power D.q D.p D.m D.low w G (by have := F.m1; omega) F.m6 h2 hf h3

set_option maxHeartbeats 1000000 in
theorem new_any {D : FD} (hD : D ∈ fieldsL) (w : World) :
    Calls Try.prog 31 #[.int .i64 D.q] w fun e w' => ∃ F T g, e = .returned (.tuple #[.pointer (some ⟨F, 0, none⟩), .int .i64 0]) ∧ FAt F T D g w' ∧ w.heap.size ≤ F ∧ w.heap.size ≤ T ∧ Below w.heap.size w w' := by
  have hq2 := (fld hD).q2
  have hq := (fld hD).q64
  have HB : Hid (Calls Try.prog 53 #[.int .i64 D.q] w fun e w' => e = .returned (.pointer (some ⟨w.heap.size, 0, none⟩)) ∧ ∃ g, RowF w.heap.size 133 59 g w' ∧ Tab D.q D.p D.m D.low D.gen D.st g ∧ Below w.heap.size w w') := build_any hD w
  clear hD
  go_enter Try.func31, Try.ntmps31
  go_wp2_with fail
  refine HB.out.mono ?_
  rintro e w' ⟨rfl, g, hrow, htab, hbel⟩
  have HH : Hid (RowF w.heap.size 133 59 g w' ∧ Tab D.q D.p D.m D.low D.gen D.st g ∧ Below w.heap.size w w') := ⟨hrow, htab, hbel⟩
  clear hrow htab hbel HB
  go_wp2
  go_ret2
  refine ⟨w'.heap.size, w.heap.size, g, rfl, ⟨cell_of_one (two_new _), HH.out.1.alloc _, HH.out.2.1, by simp⟩, HH.out.2.2.size, Nat.le_refl _, HH.out.2.2.alloc HH.out.2.2.size _⟩

/-! ### Plain calls -/
theorem size_any {F T : Nat} {D : FD} {g : Nat → Value} {w : World} (h : FAt F T D g w) :
    Calls Try.prog 18 #[.pointer (some ⟨F, 0, none⟩)] w fun e w' => e = .returned (.int .i64 D.q) ∧ w' = w := by
  have hp := h.ptr
  have hc : w.cell? ⟨T, 0, none⟩ = some (.int .i64 D.q) := by rw [h.row.cell 0 (by omega), h.tab.sum.c0]
  clear h
  go_enter Try.func18, Try.ntmps18
  go_wp2
  go_ret
  exact ⟨rfl, rfl⟩
theorem char_any {F T : Nat} {D : FD} {g : Nat → Value} {w : World} (h : FAt F T D g w) :
    Calls Try.prog 36 #[.pointer (some ⟨F, 0, none⟩)] w fun e w' => e = .returned (.int .i64 D.p) ∧ w' = w := by
  have hp := h.ptr
  have hc : w.cell? ⟨T, 1, none⟩ = some (.int .i64 D.p) := by rw [h.row.cell 1 (by omega), h.tab.sum.c1]
  clear h
  go_enter Try.func36, Try.ntmps36
  go_wp2
  go_ret
  exact ⟨rfl, rfl⟩
theorem ret_bool {a b : Bool} (h : a = b) : Ending.returned (.bool a) = .returned (.bool b) := by rw [h]

/-- Is a number an element? -/
def FD.has (D : FD) (a : Int) : Bool := decide (0 ≤ a ∧ a < D.q)
theorem has_any {F T : Nat} {D : FD} {g : Nat → Value} {w : World} (h : FAt F T D g w) (a : Int) :
    Calls Try.prog 37 #[.pointer (some ⟨F, 0, none⟩), .int .i64 a] w fun e w' => e = .returned (.bool (D.has a)) ∧ w' = w := by
  have hp := h.ptr
  have hc : w.cell? ⟨T, 0, none⟩ = some (.int .i64 D.q) := by rw [h.row.cell 0 (by omega), h.tab.sum.c0]
  clear h
  by_cases h0 : 0 ≤ a
  · have HV : Hid (D.has a = decide (a < D.q)) := by show D.has a = _; simp [FD.has, h0]
    go_enter Try.func37, Try.ntmps37
    go_wp2
    go_ret
    exact ⟨ret_bool (by rw [HV.out]), rfl⟩
  · have HV : Hid (D.has a = false) := by show D.has a = _; simp [FD.has, h0]
    go_enter Try.func37, Try.ntmps37
    go_wp2
    go_ret
    exact ⟨ret_bool (by rw [HV.out]), rfl⟩
end Go.Proofs.Ytcgmllamiaflcaa
