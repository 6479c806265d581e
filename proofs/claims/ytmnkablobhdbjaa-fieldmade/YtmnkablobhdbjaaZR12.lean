/- The reference: traces and norms. -/
import Derived.Test.YtmnkablobhdbjaaZR11
namespace Go.Proofs.Ytmnkablobhdbjaa
open Go.RowKit

theorem frobZ_nat {D : FD} {x j : Nat} (ha : D.has (x : Int) = true) (hj : j < D.m) : D.frobZ x j = (again D.frob1 j x : Nat) := by
  rw [FD.frobZ, if_pos ha, ← Int.natCast_emod, Int.toNat_natCast, Int.toNat_natCast, Nat.mod_eq_of_lt hj]

set_option maxHeartbeats 4000000 in
theorem rtrace_any {D : FD} (hD : D ∈ fieldsL) (gen : Nat) {v : Value} (a : Int) {w : World} (hM : ModAt D v D.md w) :
    Calls Try.prog 36 #[rf D.q D.p D.m gen v, .int .i64 a] w fun e w' => e = .returned (.int .i64 (D.traceZ a)) ∧ Below w.heap.size w w' := by
  have F := fld hD
  have h2 := F.q2
  have hm6 := F.m6
  have HM : Hid (ModAt D v D.md w ∧ D ∈ fieldsL ∧ Fld D) := ⟨hM, hD, F⟩
  clear hM hD F
  by_cases ha : D.has a = true
  · obtain ⟨x, rfl, hx⟩ := has_nat ha
    have HV : Hid (D.traceZ x = (D.traceTo x D.m : Nat)) := by show _ = _; rw [FD.traceZ, if_pos ha]; rfl
    unfold rf
    go_enter Try.func36, Try.ntmps36
    go_wp2_with fail
    refine (rhas_any D gen v x _).mono ?_
    rintro e w1 ⟨rfl, hb1⟩
    have HX1 : Hid (Box w.heap.size D gen v w1 ∧ Below w.heap.size w w1) := ⟨(box_new D gen v w).below hb1 (by simp), ((Below.refl _ _).alloc (Nat.le_refl _) _).trans (hb1.mono (by simp))⟩
    have hs1 : w.heap.size < w1.heap.size := by have := hb1.size; simp at this; omega
    clear hb1
    go_wp2
    go_loopw [5, 6] (fun s i wr => ∃ j : Nat, j ≤ D.m ∧ i = .int .i64 j ∧ s = .int .i64 (D.traceTo x j : Nat) ∧ Box w.heap.size D gen v wr ∧ Below w.heap.size w wr ∧ w.heap.size < wr.heap.size) (fun _ i _ => D.m - (intOf i).toNat)
    case atStart => exact ⟨0, by omega, rfl, rfl, HX1.out.1, HX1.out.2, hs1⟩
    case round =>
      obtain ⟨j, hj, rfl, rfl, hbox, hbel, hlt⟩ := hrel
      obtain ⟨c0, c1, c2, c3, c4⟩ := hbox
      have HG : Hid (Box w.heap.size D gen v wr ∧ Below w.heap.size w wr) := ⟨⟨c0, c1, c2, c3, c4⟩, hbel⟩
      clear hbel
      by_cases hjm : j < D.m
      · have HC : Hid (Calls Try.prog 34 #[.agg #[.int .i64 D.q, .int .i64 D.p, .int .i64 D.m, .int .i64 gen, v], .int .i64 x, .int .i64 j] wr fun e w' => e = .returned (.int .i64 (again D.frob1 j x : Nat)) ∧ Below wr.heap.size wr w') := by
          have h := rfrob_any HM.out.2.1 gen x j (HM.out.1.below HG.out.2)
          rw [frobZ_nat ha hjm] at h; exact h
        go_wp2_with fail
        refine HC.out.mono ?_
        rintro e w2 ⟨rfl, hb2⟩
        have HR2 : Hid (Box w.heap.size D gen v w2 ∧ Below w.heap.size w w2) := ⟨HG.out.1.below hb2 hlt, HG.out.2.trans (hb2.mono (by omega))⟩
        have hlt2 : w.heap.size < w2.heap.size := by have := hb2.size; omega
        clear hb2 c0 c1 c2 c3 c4 HC
        obtain ⟨c0, c1, c2, c3, c4⟩ := HR2.out.1
        have HC2 : Hid (Calls Try.prog 20 #[.agg #[.int .i64 D.q, .int .i64 D.p, .int .i64 D.m, .int .i64 gen, v], .int .i64 (D.traceTo x j : Nat), .int .i64 (again D.frob1 j x : Nat)] w2 fun e w' => e = .returned (.int .i64 (D.traceTo x (j + 1) : Nat)) ∧ Below w2.heap.size w2 w') := by
          have h := radd_any HM.out.2.1 gen v (D.traceTo x j : Nat) (again D.frob1 j x : Nat) w2
          rw [addZ_nat HM.out.2.2 (traceTo_lt HM.out.2.1 x hx j) (frob_lt HM.out.2.1 x hx j)] at h; exact h
        go_wp2_with fail
        refine HC2.out.mono ?_
        rintro e w3 ⟨rfl, hb3⟩
        have HR3 : Hid (Box w.heap.size D gen v w3 ∧ Below w.heap.size w w3 ∧ w.heap.size < w3.heap.size) := ⟨HR2.out.1.below hb3 hlt2, HR2.out.2.trans (hb3.mono (by omega)), by have := hb3.size; omega⟩
        clear hb3 c0 c1 c2 c3 c4 HC2
        go_wp2
        go_roundw
        case rel => exact ⟨j + 1, by omega, by go_num, rfl, HR3.out⟩
        case measure => simp [intOf]; omega
      · have HE : Hid (j = D.m) := by show j = D.m; omega
        go_wp2
        go_ret
        exact ⟨ret_int (by rw [HV.out, HE.out]), HG.out.2⟩
  · have ha' : D.has a = false := by simpa using ha
    have HV : Hid (D.traceZ a = -1) := by show _ = _; rw [FD.traceZ, if_neg (by simp [ha'])]
    clear ha
    unfold rf
    go_enter Try.func36, Try.ntmps36
    go_wp2_with fail
    refine (rhas_any D gen v a _).mono ?_
    rintro e w1 ⟨rfl, hb1⟩
    have HB1 : Hid (Below w.heap.size w w1) := ((Below.refl _ _).alloc (Nat.le_refl _) _).trans (hb1.mono (by simp))
    clear hb1
    go_wp2
    go_ret
    exact ⟨ret_int (by rw [HV.out]), HB1.out⟩

set_option maxHeartbeats 4000000 in
theorem rnorm_any {D : FD} (hD : D ∈ fieldsL) (gen : Nat) {v : Value} (a : Int) {w : World} (hM : ModAt D v D.md w) :
    Calls Try.prog 38 #[rf D.q D.p D.m gen v, .int .i64 a] w fun e w' => e = .returned (.int .i64 (D.normZ a)) ∧ Below w.heap.size w w' := by
  have F := fld hD
  have h2 := F.q2
  have hm6 := F.m6
  have HM : Hid (ModAt D v D.md w ∧ D ∈ fieldsL ∧ Fld D) := ⟨hM, hD, F⟩
  clear hM hD F
  by_cases ha : D.has a = true
  · obtain ⟨x, rfl, hx⟩ := has_nat ha
    have HV : Hid (D.normZ x = (D.normTo x D.m : Nat)) := by show _ = _; rw [FD.normZ, if_pos ha]; rfl
    unfold rf
    go_enter Try.func38, Try.ntmps38
    go_wp2_with fail
    refine (rhas_any D gen v x _).mono ?_
    rintro e w1 ⟨rfl, hb1⟩
    have HX1 : Hid (Box w.heap.size D gen v w1 ∧ Below w.heap.size w w1) := ⟨(box_new D gen v w).below hb1 (by simp), ((Below.refl _ _).alloc (Nat.le_refl _) _).trans (hb1.mono (by simp))⟩
    have hs1 : w.heap.size < w1.heap.size := by have := hb1.size; simp at this; omega
    clear hb1
    go_wp2
    go_loopw [5, 6] (fun s i wr => ∃ j : Nat, j ≤ D.m ∧ i = .int .i64 j ∧ s = .int .i64 (D.normTo x j : Nat) ∧ Box w.heap.size D gen v wr ∧ Below w.heap.size w wr ∧ w.heap.size < wr.heap.size) (fun _ i _ => D.m - (intOf i).toNat)
    case atStart => exact ⟨0, by omega, rfl, rfl, HX1.out.1, HX1.out.2, hs1⟩
    case round =>
      obtain ⟨j, hj, rfl, rfl, hbox, hbel, hlt⟩ := hrel
      obtain ⟨c0, c1, c2, c3, c4⟩ := hbox
      have HG : Hid (Box w.heap.size D gen v wr ∧ Below w.heap.size w wr) := ⟨⟨c0, c1, c2, c3, c4⟩, hbel⟩
      clear hbel
      by_cases hjm : j < D.m
      · have HC : Hid (Calls Try.prog 34 #[.agg #[.int .i64 D.q, .int .i64 D.p, .int .i64 D.m, .int .i64 gen, v], .int .i64 x, .int .i64 j] wr fun e w' => e = .returned (.int .i64 (again D.frob1 j x : Nat)) ∧ Below wr.heap.size wr w') := by
          have h := rfrob_any HM.out.2.1 gen x j (HM.out.1.below HG.out.2)
          rw [frobZ_nat ha hjm] at h; exact h
        go_wp2_with fail
        refine HC.out.mono ?_
        rintro e w2 ⟨rfl, hb2⟩
        have HR2 : Hid (Box w.heap.size D gen v w2 ∧ Below w.heap.size w w2) := ⟨HG.out.1.below hb2 hlt, HG.out.2.trans (hb2.mono (by omega))⟩
        have hlt2 : w.heap.size < w2.heap.size := by have := hb2.size; omega
        clear hb2 c0 c1 c2 c3 c4 HC
        obtain ⟨c0, c1, c2, c3, c4⟩ := HR2.out.1
        have HC2 : Hid (Calls Try.prog 24 #[.agg #[.int .i64 D.q, .int .i64 D.p, .int .i64 D.m, .int .i64 gen, v], .int .i64 (D.normTo x j : Nat), .int .i64 (again D.frob1 j x : Nat)] w2 fun e w' => e = .returned (.int .i64 (D.normTo x (j + 1) : Nat)) ∧ Below w2.heap.size w2 w') := by
          exact rmul_nat HM.out.2.1 gen HM.out.1 _ _ (normTo_lt HM.out.2.1 x j) (frob_lt HM.out.2.1 x hx j) w2 HR2.out.2
        go_wp2_with fail
        refine HC2.out.mono ?_
        rintro e w3 ⟨rfl, hb3⟩
        have HR3 : Hid (Box w.heap.size D gen v w3 ∧ Below w.heap.size w w3 ∧ w.heap.size < w3.heap.size) := ⟨HR2.out.1.below hb3 hlt2, HR2.out.2.trans (hb3.mono (by omega)), by have := hb3.size; omega⟩
        clear hb3 c0 c1 c2 c3 c4 HC2
        go_wp2
        go_roundw
        case rel => exact ⟨j + 1, by omega, by go_num, rfl, HR3.out⟩
        case measure => simp [intOf]; omega
      · have HE : Hid (j = D.m) := by show j = D.m; omega
        go_wp2
        go_ret
        exact ⟨ret_int (by rw [HV.out, HE.out]), HG.out.2⟩
  · have ha' : D.has a = false := by simpa using ha
    have HV : Hid (D.normZ a = -1) := by show _ = _; rw [FD.normZ, if_neg (by simp [ha'])]
    clear ha
    unfold rf
    go_enter Try.func38, Try.ntmps38
    go_wp2_with fail
    refine (rhas_any D gen v a _).mono ?_
    rintro e w1 ⟨rfl, hb1⟩
    have HB1 : Hid (Below w.heap.size w w1) := ((Below.refl _ _).alloc (Nat.le_refl _) _).trans (hb1.mono (by simp))
    clear hb1
    go_wp2
    go_ret
    exact ⟨ret_int (by rw [HV.out]), HB1.out⟩
end Go.Proofs.Ytmnkablobhdbjaa
