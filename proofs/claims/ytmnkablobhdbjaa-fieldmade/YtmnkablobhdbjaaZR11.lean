/- The reference: logarithms, Frobenius, traces and norms. -/
import Derived.Test.YtmnkablobhdbjaaZR10
namespace Go.Proofs.Ytmnkablobhdbjaa
open Go.RowKit

def FD.traceTo (D : FD) (a : Nat) : Nat → Nat
  | 0 => 0
  | k + 1 => sumD D.p D.q (D.traceTo a k) (again D.frob1 k a)
def FD.normTo (D : FD) (a : Nat) : Nat → Nat
  | 0 => 1
  | k + 1 => D.mul (D.normTo a k) (again D.frob1 k a)
def FD.traceZ (D : FD) (a : Int) : Int := if D.has a = true then (D.traceTo a.toNat D.m : Nat) else -1
def FD.normZ (D : FD) (a : Int) : Int := if D.has a = true then (D.normTo a.toNat D.m : Nat) else -1
theorem traceTo_lt {D : FD} (hD : D ∈ fieldsL) (a : Nat) (ha : a < D.q) : ∀ k, D.traceTo a k < D.q
  | 0 => by have := (fld hD).q2; show 0 < D.q; omega
  | k + 1 => (fld hD).sum_lt _ _ (traceTo_lt hD a ha k) (frob_lt hD a ha k)
theorem normTo_lt {D : FD} (hD : D ∈ fieldsL) (a : Nat) : ∀ k, D.normTo a k < D.q
  | 0 => by have := (fld hD).q2; show 1 < D.q; omega
  | k + 1 => (fld hD).mul_lt _ _

set_option maxHeartbeats 4000000 in
theorem rlog_any {D : FD} (hD : D ∈ fieldsL) {v : Value} (a : Int) {w : World} (hM : ModAt D v D.md w) :
    Calls Try.prog 32 #[rf D.q D.p D.m D.gen v, .int .i64 a] w fun e w' => e = .returned (.int .i64 (D.logZ a)) ∧ Below w.heap.size w w' := by
  have F := fld hD
  have h64 := F.q64
  have h2 := F.q2
  have hs := List.all_eq_true.1 st_one D hD
  simp only [Bool.and_eq_true, beq_iff_eq, decide_eq_true_eq] at hs
  have HM : Hid (ModAt D v D.md w ∧ D ∈ fieldsL ∧ Fld D ∧ D.gen < D.q) := ⟨hM, hD, F, hs.1.2⟩
  clear hM hD F hs
  by_cases ha : D.has a = true
  · obtain ⟨x, rfl, hx⟩ := has_nat ha
    unfold rf
    go_enter Try.func32, Try.ntmps32
    go_wp2_with fail
    refine (rhas_any D D.gen v x _).mono ?_
    rintro e w1 ⟨rfl, hb1⟩
    have HX1 : Hid (Box w.heap.size D D.gen v w1 ∧ Below w.heap.size w w1) := ⟨(box_new D D.gen v w).below hb1 (by simp), ((Below.refl _ _).alloc (Nat.le_refl _) _).trans (hb1.mono (by simp))⟩
    have hs1 : w.heap.size < w1.heap.size := by have := hb1.size; simp at this; omega
    clear hb1
    go_wp2
    go_loopw [5, 6] (fun r i wr => ∃ j : Nat, j ≤ D.q - 1 ∧ i = .int .i64 j ∧ r = .int .i64 (again D.st j 1 : Nat) ∧ Hid (∀ t, t < j → again D.st t 1 ≠ x) ∧ Box w.heap.size D D.gen v wr ∧ Below w.heap.size w wr ∧ w.heap.size < wr.heap.size) (fun _ i _ => D.q - (intOf i).toNat)
    case atStart => exact ⟨0, by omega, rfl, rfl, fun t ht => by omega, HX1.out.1, HX1.out.2, hs1⟩
    case round =>
      obtain ⟨j, hj, rfl, rfl, HN, hbox, hbel, hlt⟩ := hrel
      obtain ⟨c0, c1, c2, c3, c4⟩ := hbox
      have HG : Hid (Box w.heap.size D D.gen v wr ∧ Below w.heap.size w wr) := ⟨⟨c0, c1, c2, c3, c4⟩, hbel⟩
      clear hbel
      by_cases hjr : j < D.q - 1
      · have hpl := HM.out.2.2.1.pow_lt j hjr
        by_cases he : again D.st j 1 = x
        · have hbe : (((again D.st j 1 : Nat) : Int) == (x : Int)) = true := beq_iff_eq.2 (by rw [he])
          have HV : Hid (D.logZ x = (j : Nat)) := by
            show _ = _
            have hx0 : x ≠ 0 := by rw [← he]; exact (HM.out.2.2.1.full j hjr).1
            rw [FD.logZ, if_pos ⟨ha, by omega⟩, Int.toNat_natCast, ← he, HM.out.2.2.1.lg_pow j hjr]
          clear he
          go_wp2
          go_ret
          exact ⟨ret_int (by rw [HV.out]), HG.out.2⟩
        · have hbe : (((again D.st j 1 : Nat) : Int) == (x : Int)) = false := beq_eq_false_iff_ne.2 (by exact_mod_cast he)
          have HN2 : Hid (∀ t, t < j + 1 → again D.st t 1 ≠ x) := fun t ht => if e : t = j then e ▸ he else HN.out t (by omega)
          have HC : Hid (Calls Try.prog 24 #[.agg #[.int .i64 D.q, .int .i64 D.p, .int .i64 D.m, .int .i64 D.gen, v], .int .i64 (again D.st j 1 : Nat), .int .i64 D.gen] wr fun e w' => e = .returned (.int .i64 (again D.st (j + 1) 1 : Nat)) ∧ Below wr.heap.size wr w') := by
            have h := rmul_nat HM.out.2.1 D.gen HM.out.1 (again D.st j 1) D.gen hpl HM.out.2.2.2 wr HG.out.2
            rw [mul_gen HM.out.2.1 _ hpl] at h
            exact h
          clear he
          go_wp2_with fail
          refine HC.out.mono ?_
          rintro e w2 ⟨rfl, hb2⟩
          have HR2 : Hid (Box w.heap.size D D.gen v w2 ∧ Below w.heap.size w w2 ∧ w.heap.size < w2.heap.size) := ⟨HG.out.1.below hb2 hlt, HG.out.2.trans (hb2.mono (by omega)), by have := hb2.size; omega⟩
          clear hb2 c0 c1 c2 c3 c4 HC
          go_wp2
          go_roundw
          case rel => exact ⟨j + 1, by omega, by go_num, rfl, HN2.out, HR2.out⟩
          case measure => simp [intOf]; omega
      · have HV : Hid (D.logZ x = -1) := by
          show _ = _
          have hx0 : x = 0 := by
            rcases Nat.eq_zero_or_pos x with h | h
            · exact h
            · obtain ⟨t, ht, e⟩ := HM.out.2.2.1.onto x hx (by omega)
              exact absurd e (HN.out t (by omega))
          rw [FD.logZ, if_neg (by intro h; exact h.2 (by rw [hx0]; rfl))]
        go_wp2
        go_ret
        exact ⟨ret_int (by rw [HV.out]), HG.out.2⟩
  · have ha' : D.has a = false := by simpa using ha
    have HV : Hid (D.logZ a = -1) := by show _ = _; rw [FD.logZ, if_neg (by simp [ha'])]
    clear ha
    unfold rf
    go_enter Try.func32, Try.ntmps32
    go_wp2_with fail
    refine (rhas_any D D.gen v a _).mono ?_
    rintro e w1 ⟨rfl, hb1⟩
    have HB1 : Hid (Below w.heap.size w w1) := ((Below.refl _ _).alloc (Nat.le_refl _) _).trans (hb1.mono (by simp))
    clear hb1
    go_wp2
    go_ret
    exact ⟨ret_int (by rw [HV.out]), HB1.out⟩

set_option maxHeartbeats 4000000 in
theorem rfrob_any {D : FD} (hD : D ∈ fieldsL) (gen : Nat) {v : Value} (a k : Int) {w : World} (hM : ModAt D v D.md w) :
    Calls Try.prog 34 #[rf D.q D.p D.m gen v, .int .i64 a, .int .i64 k] w fun e w' => e = .returned (.int .i64 (D.frobZ a k)) ∧ Below w.heap.size w w' := by
  have F := fld hD
  have h64 := F.q64
  have h2 := F.q2
  have hm1 := F.m1
  have hm6 := F.m6
  have hp64 := F.p64
  have HM : Hid (ModAt D v D.md w ∧ D ∈ fieldsL ∧ Fld D) := ⟨hM, hD, F⟩
  clear hM hD F
  by_cases ha : D.has a = true
  · obtain ⟨x, rfl, hx⟩ := has_nat ha
    obtain ⟨r, hr, hrq⟩ : ∃ r : Nat, k % (D.m : Int) = r ∧ r < D.m := by
      have h1 := Int.emod_nonneg k (show (D.m : Int) ≠ 0 from by omega)
      have h2 := Int.emod_lt_of_pos k (show 0 < (D.m : Int) from by omega)
      exact ⟨(k % (D.m : Int)).toNat, by omega, by omega⟩
    have HV : Hid (D.frobZ x k = (again D.frob1 r x : Nat)) := by
      show D.frobZ x k = _
      rw [FD.frobZ, if_pos ha, hr]; rfl
    have HR : Hid (k % (D.m : Int) = r) := hr
    have hb1 := Int.tmod_lt_of_pos k (show (0 : Int) < (D.m : Int) from by omega)
    have hb2 := Int.lt_tmod_of_pos k (show (0 : Int) < (D.m : Int) from by omega)
    clear hr
    unfold rf
    go_enter Try.func34, Try.ntmps34
    go_wp2_with fail
    refine (rhas_any D gen v x _).mono ?_
    rintro e w1 ⟨rfl, hb1⟩
    have HX1 : Hid (Box w.heap.size D gen v w1 ∧ Below w.heap.size w w1) := ⟨(box_new D gen v w).below hb1 (by simp), ((Below.refl _ _).alloc (Nat.le_refl _) _).trans (hb1.mono (by simp))⟩
    have hs1 : w.heap.size < w1.heap.size := by have := hb1.size; simp at this; omega
    obtain ⟨c0, c1, c2, c3, c4⟩ := HX1.out.1
    clear hb1
    go_wp2
    all_goals
      first
        | rw [show decide (k.tmod (D.m : Int) < 0) = true from decide_eq_true ‹_›, show k.tmod (D.m : Int) + (D.m : Int) = (r : Int) from by have h := emod_of_tmod_neg k (D.m : Int) (by omega) ‹_›; rw [HR.out] at h; omega]
        | rw [show decide (k.tmod (D.m : Int) < 0) = false from decide_eq_false (by omega), show k.tmod (D.m : Int) = (r : Int) from by have h := emod_of_tmod_pos k (D.m : Int) (by omega) (by omega); rw [HR.out] at h; exact h]
      clear hb1 hb2 HR c0 c1 c2 c3 c4
      go_loopw [1, 7] (fun y i wr => ∃ j z : Nat, j ≤ r ∧ z < D.q ∧ i = .int .i64 j ∧ y = .int .i64 z ∧ Hid (z = again D.frob1 j x) ∧ Box w.heap.size D gen v wr ∧ Below w.heap.size w wr ∧ w.heap.size < wr.heap.size) (fun _ i _ => r - (intOf i).toNat)
      case atStart => exact ⟨0, x, by omega, hx, rfl, rfl, rfl, HX1.out.1, HX1.out.2, hs1⟩
      case round =>
        obtain ⟨j, z, hj, hz, rfl, rfl, HZ, hbox, hbel, hlt⟩ := hrel
        obtain ⟨c0, c1, c2, c3, c4⟩ := hbox
        have HG : Hid (Box w.heap.size D gen v wr ∧ Below w.heap.size w wr) := ⟨⟨c0, c1, c2, c3, c4⟩, hbel⟩
        clear hbel
        by_cases hjr : j < r
        · go_wp2
          go_loopw [8, 9] (fun r' i wr => ∃ t : Nat, t ≤ D.p ∧ i = .int .i64 t ∧ r' = .int .i64 (D.pwr z t : Nat) ∧ Box w.heap.size D gen v wr ∧ Below w.heap.size w wr ∧ w.heap.size < wr.heap.size) (fun _ i _ => D.p - (intOf i).toNat)
          case atStart => exact ⟨0, by omega, rfl, rfl, HG.out.1, HG.out.2, hlt⟩
          case round =>
            clear c0 c1 c2 c3 c4 HG hlt
            obtain ⟨t, ht, rfl, rfl, hbox, hbel, hlt⟩ := hrel
            obtain ⟨c0, c1, c2, c3, c4⟩ := hbox
            have HG : Hid (Box w.heap.size D gen v wr ∧ Below w.heap.size w wr) := ⟨⟨c0, c1, c2, c3, c4⟩, hbel⟩
            clear hbel
            by_cases htp : t < D.p
            · have HC : Hid (Calls Try.prog 24 #[.agg #[.int .i64 D.q, .int .i64 D.p, .int .i64 D.m, .int .i64 gen, v], .int .i64 (D.pwr z t : Nat), .int .i64 z] wr fun e w' => e = .returned (.int .i64 (D.pwr z (t + 1) : Nat)) ∧ Below wr.heap.size wr w') :=
                rmul_nat HM.out.2.1 gen HM.out.1 _ z (pwr_lt HM.out.2.1 z t) hz wr HG.out.2
              go_wp2_with fail
              refine HC.out.mono ?_
              rintro e w2 ⟨rfl, hb2⟩
              have HR2 : Hid (Box w.heap.size D gen v w2 ∧ Below w.heap.size w w2 ∧ w.heap.size < w2.heap.size) := ⟨HG.out.1.below hb2 hlt, HG.out.2.trans (hb2.mono (by omega)), by have := hb2.size; omega⟩
              clear hb2 c0 c1 c2 c3 c4 HC
              go_wp2
              go_roundw
              case rel => exact ⟨t + 1, by omega, by go_num, rfl, HR2.out⟩
              case measure => simp [intOf]; omega
            · have HE : Hid (D.pwr z t = D.frob1 z) := by show _ = _; rw [show t = D.p from by omega, pwr_frob HM.out.2.1]
              have hpl := pwr_lt HM.out.2.1 z t
              go_wp2
              go_roundw
              case rel => exact ⟨j + 1, D.pwr z t, by omega, hpl, by go_num, rfl, by rw [HE.out, HZ.out]; rfl, HG.out.1, HG.out.2, hlt⟩
              case measure => simp [intOf]; omega
        · have HE : Hid (z = again D.frob1 r x) := by show _ = _; rw [HZ.out, show j = r from by omega]
          go_wp2
          go_ret
          exact ⟨ret_int (by rw [HV.out, HE.out]), HG.out.2⟩
  · have ha' : D.has a = false := by simpa using ha
    have HV : Hid (D.frobZ a k = -1) := by show _ = _; rw [FD.frobZ, if_neg (by simp [ha'])]
    clear ha
    unfold rf
    go_enter Try.func34, Try.ntmps34
    go_wp2_with fail
    refine (rhas_any D gen v a _).mono ?_
    rintro e w1 ⟨rfl, hb1⟩
    have HB1 : Hid (Below w.heap.size w w1) := ((Below.refl _ _).alloc (Nat.le_refl _) _).trans (hb1.mono (by simp))
    clear hb1
    go_wp2
    go_ret
    exact ⟨ret_int (by rw [HV.out]), HB1.out⟩
end Go.Proofs.Ytmnkablobhdbjaa
