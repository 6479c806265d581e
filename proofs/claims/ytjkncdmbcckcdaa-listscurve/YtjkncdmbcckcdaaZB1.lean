/- Texts of ours, one behind the other: B1 B2. -/
import Derived.Test.YtjkncdmbcckcdaaZA9
import Derived.Test.YtjkncdmbcckcdaaZM3
/- A field's object (New), and its plain calls. -/
namespace Go.Proofs.Ytjkncdmbcckcdaa
open Go.RowKit

theorem pp_fields : fieldsL.all (fun D => pp D.q == (D.p, D.m)) = true := by decide +kernel
theorem pp_others : ((List.range 65).all fun q => decide (q < 2) || (pp q).2 == 0 || fieldsL.any fun D => D.q == q) = true := by decide +kernel

theorem good {D : FD} (h : D ∈ fieldsL) : Good D.q D.p D.m := by
  have F := fld h
  exact ⟨beq_iff_eq.1 (List.all_eq_true.1 pp_fields D h), F.p2, F.p64, F.m1, F.q2, F.q64, ⟨F.sum_lt, F.neg_uniq⟩, F.neg_lt, F.sum_neg, fld_two h⟩

theorem no_field {q : Nat} (hq : q ≤ 64) (h : ∀ D ∈ fieldsL, D.q ≠ q) : q < 2 ∨ (pp q).2 = 0 := by
  have := List.all_eq_true.1 pp_others q (List.mem_range.2 (by omega))
  simp only [Bool.or_eq_true, decide_eq_true_eq, beq_iff_eq] at this
  rcases this with (h1 | h1) | h1
  · exact Or.inl h1
  · exact Or.inr h1
  · obtain ⟨D, hD, e⟩ := List.any_eq_true.1 h1
    exact absurd (beq_iff_eq.1 e) (h D hD)

/-- A field's object F, and its table T. -/
structure FAt (F T : Nat) (D : FD) (g : Nat → Value) (w : World) : Prop where
  ptr : w.cell? ⟨F, 0, none⟩ = some (.pointer (some ⟨T, 0, none⟩))
  row : RowF T 133 133 g w
  tab : Tab D.q D.p D.m D.low D.gen D.st g
  ltF : F < w.heap.size

theorem FAt.drewN {F T : Nat} {D : FD} {g : Nat → Value} {w : World} (h : FAt F T D g w) (n : Nat) : FAt F T D g (w.drewN n) := ⟨h.ptr, h.row.drewN n, h.tab, h.ltF⟩
theorem FAt.below {F T B : Nat} {D : FD} {g : Nat → Value} {w w' : World} (h : FAt F T D g w) (hb : Below B w w') (hF : F < B) (hT : T < B) : FAt F T D g w' :=
  ⟨(hb.cell (p := ⟨F, 0, none⟩) hF).trans h.ptr, h.row.below hb hT, h.tab, Nat.lt_of_lt_of_le h.ltF hb.size⟩

theorem build_any {D : FD} (hD : D ∈ fieldsL) (w : World) :
    Calls Try.prog 94 #[.int .i64 D.q] w fun e w' => e = .returned (.pointer (some ⟨w.heap.size, 0, none⟩)) ∧ ∃ g, RowF w.heap.size 133 133 g w' ∧ Tab D.q D.p D.m D.low D.gen D.st g ∧ Below w.heap.size w w' := by
  have F := fld hD
  have G := good hD
  by_cases hm : D.m = 1
  · obtain ⟨h1, h2, h3, h4, h5⟩ := F.least1 hm
    have hst : D.st = fun a => a * D.gen % D.q := by funext a; rw [FD.st, if_pos hm]
    have hf := F.full
    rw [hst, h4, hm, h1]
    rw [hst] at hf
    rw [hm, h1] at G
    exact build_prime D.q D.gen w G h2 h3 hf h5
  · obtain ⟨h1, h2, h3⟩ := F.least2 hm
    have hst : D.st = timesX D.p D.q D.low := by funext a; rw [FD.st, if_neg hm]
    have hf := F.full
    rw [hst, h1]
    rw [hst] at hf
    exact build_power D.q D.p D.m D.low w G (by have := F.m1; omega) F.m6 h2 hf h3

set_option maxHeartbeats 1000000 in
theorem new_any {D : FD} (hD : D ∈ fieldsL) (w : World) :
    Calls Try.prog 57 #[.int .i64 D.q] w fun e w' => ∃ F T g, e = .returned (.tuple #[.pointer (some ⟨F, 0, none⟩), .int .i64 0]) ∧ FAt F T D g w' ∧ w.heap.size ≤ F ∧ w.heap.size ≤ T ∧ Below w.heap.size w w' := by
  have hq2 := (fld hD).q2
  have hq := (fld hD).q64
  have HB : Hid (Calls Try.prog 94 #[.int .i64 D.q] w fun e w' => e = .returned (.pointer (some ⟨w.heap.size, 0, none⟩)) ∧ ∃ g, RowF w.heap.size 133 133 g w' ∧ Tab D.q D.p D.m D.low D.gen D.st g ∧ Below w.heap.size w w') := build_any hD w
  clear hD
  go_enter Try.func57, Try.ntmps57
  go_wp2_with fail
  refine HB.out.mono ?_
  rintro e w' ⟨rfl, g, hrow, htab, hbel⟩
  have HH : Hid (RowF w.heap.size 133 133 g w' ∧ Tab D.q D.p D.m D.low D.gen D.st g ∧ Below w.heap.size w w') := ⟨hrow, htab, hbel⟩
  clear hrow htab hbel HB
  go_wp2
  go_ret2
  refine ⟨w'.heap.size, w.heap.size, g, rfl, ⟨cell_of_one (two_new _), HH.out.1.alloc _, HH.out.2.1, by simp⟩, HH.out.2.2.size, Nat.le_refl _, HH.out.2.2.alloc HH.out.2.2.size _⟩

theorem build_nothing (q : Int) (w : World) (h : ∀ D ∈ fieldsL, (D.q : Int) ≠ q) :
    Calls Try.prog 94 #[.int .i64 q] w fun e w' => e = .returned (.pointer none) ∧ w' = w := by
  by_cases h0 : q < 2 ∨ 64 < q
  · exact build_out q w h0
  obtain ⟨n, rfl⟩ := Int.eq_ofNat_of_zero_le (show 0 ≤ q from by omega)
  have h2 := no_field (q := n) (by omega) (fun D hD e => h D hD (by rw [e]))
  exact build_none n w (by omega) (by omega) (h2.resolve_left (by omega))

set_option maxHeartbeats 1000000 in
theorem new_none (q : Int) (w : World) (h : ∀ D ∈ fieldsL, (D.q : Int) ≠ q) :
    Calls Try.prog 57 #[.int .i64 q] w fun e w' => e = .returned (.tuple #[.pointer none, .int .i64 1]) ∧ w' = w := by
  have HB : Hid (Calls Try.prog 94 #[.int .i64 q] w fun e w' => e = .returned (.pointer none) ∧ w' = w) := build_nothing q w h
  clear h
  go_enter Try.func57, Try.ntmps57
  go_wp2_with fail
  refine HB.out.mono ?_
  rintro e w' ⟨rfl, rfl⟩
  go_wp2
  go_ret2
  exact ⟨rfl, rfl⟩

/-! ### Plain calls -/
theorem ret_bool {a b : Bool} (h : a = b) : Ending.returned (.bool a) = .returned (.bool b) := by rw [h]

/-- Is a number an element? -/
def FD.has (D : FD) (a : Int) : Bool := decide (0 ≤ a ∧ a < D.q)
theorem has_any {F T : Nat} {D : FD} {g : Nat → Value} {w : World} (h : FAt F T D g w) (a : Int) :
    Calls Try.prog 102 #[.pointer (some ⟨F, 0, none⟩), .int .i64 a] w fun e w' => e = .returned (.bool (D.has a)) ∧ w' = w := by
  have hp := h.ptr
  have hc : w.cell? ⟨T, 0, none⟩ = some (.int .i64 D.q) := by rw [h.row.cell 0 (by omega), h.tab.sum.c0]
  clear h
  by_cases h0 : 0 ≤ a
  · have HV : Hid (D.has a = decide (a < D.q)) := by show D.has a = _; simp [FD.has, h0]
    go_enter Try.func102, Try.ntmps102
    go_wp2
    go_ret
    exact ⟨ret_bool (by rw [HV.out]), rfl⟩
  · have HV : Hid (D.has a = false) := by show D.has a = _; simp [FD.has, h0]
    go_enter Try.func102, Try.ntmps102
    go_wp2
    go_ret
    exact ⟨ret_bool (by rw [HV.out]), rfl⟩
end Go.Proofs.Ytjkncdmbcckcdaa

/- A field's calls: sums, products, powers, logarithms. -/
namespace Go.Proofs.Ytjkncdmbcckcdaa
open Go.RowKit

def FD.addZ (D : FD) (a b : Int) : Int := if D.has a = true ∧ D.has b = true then (sumD D.p D.q a.toNat b.toNat : Nat) else -1
def FD.mulZ (D : FD) (a b : Int) : Int := if D.has a = true ∧ D.has b = true then (D.mul a.toNat b.toNat : Nat) else -1
theorem has_nat {D : FD} {a : Int} (h : D.has a = true) : ∃ n : Nat, a = n ∧ n < D.q := by
  simp only [FD.has, decide_eq_true_eq] at h
  exact ⟨a.toNat, by omega, by omega⟩
theorem nat_has {D : FD} {n : Nat} (h : n < D.q) : D.has (n : Int) = true := by
  simp only [FD.has, decide_eq_true_eq]; omega

set_option maxHeartbeats 1000000 in
theorem add_any {F T : Nat} {D : FD} (hD : D ∈ fieldsL) {g : Nat → Value} {w : World} (h : FAt F T D g w) (a b : Int) :
    Calls Try.prog 122 #[.pointer (some ⟨F, 0, none⟩), .int .i64 a, .int .i64 b] w fun e w' => e = .returned (.int .i64 (D.addZ a b)) ∧ ∃ n, w' = w.drewN n := by
  have hp := h.ptr
  have hq := (fld hD).q64
  have HF : Hid (FAt F T D g w) := h
  have HL : Hid (Fld D ∧ Two D.p D.q) := ⟨fld hD, fld_two hD⟩
  clear h hD
  by_cases ha : D.has a = true
  · by_cases hb : D.has b = true
    · obtain ⟨x, rfl, hx⟩ := has_nat ha
      obtain ⟨y, rfl, hy⟩ := has_nat hb
      have HV : Hid (D.addZ x y = (sumD D.p D.q x y : Nat)) := by show D.addZ x y = _; rw [FD.addZ, if_pos ⟨ha, hb⟩]; rfl
      have HC : Hid (Calls Try.prog 142 #[.pointer (some ⟨T, 0, none⟩), .int .i64 x, .int .i64 y] w fun e w' => e = .returned (.int .i64 (sumD D.p D.q x y : Nat)) ∧ ∃ n, w' = w.drewN n) :=
        sum_any T D.p D.q x y w HL.out.1.p2 HL.out.1.p64 hq hx hy HL.out.2 (by rw [HF.out.row.cell 0 (by omega), HF.out.tab.sum.c0]) (by rw [HF.out.row.cell 1 (by omega), HF.out.tab.sum.c1])
      go_enter Try.func122, Try.ntmps122
      go_wp2_with (first | (go_at_call 102; refine (has_any HF.out _).mono ?_; rintro e w' ⟨rfl, hw⟩; have hw := hw.symm; subst hw) | (go_at_call 142; refine HC.out.mono ?_; rintro e w' ⟨rfl, n, rfl⟩))
      go_ret
      exact ⟨ret_int (by rw [HV.out]), _, rfl⟩
    · have hb' : D.has b = false := by simpa using hb
      have HV : Hid (D.addZ a b = -1) := by show D.addZ a b = _; rw [FD.addZ, if_neg (by simp [hb'])]
      clear hb
      go_enter Try.func122, Try.ntmps122
      go_wp2_with (go_at_call 102; refine (has_any HF.out _).mono ?_; rintro e w' ⟨rfl, rfl⟩)
      go_ret
      exact ⟨ret_int (by rw [HV.out]), 0, rfl⟩
  · have ha' : D.has a = false := by simpa using ha
    have HV : Hid (D.addZ a b = -1) := by show D.addZ a b = _; rw [FD.addZ, if_neg (by simp [ha'])]
    clear ha
    go_enter Try.func122, Try.ntmps122
    go_wp2_with (go_at_call 102; refine (has_any HF.out _).mono ?_; rintro e w' ⟨rfl, rfl⟩)
    go_ret
    exact ⟨ret_int (by rw [HV.out]), 0, rfl⟩

theorem remainder_any (k n : Int) (w : World) (h1 : 1 ≤ n) (h2 : n ≤ 64) (hk1 : -9223372036854775808 ≤ k) (hk2 : k ≤ 9223372036854775807) :
    Calls Try.prog 129 #[.int .i64 k, .int .i64 n] w fun e w' => e = .returned (.int .i64 (k % n)) ∧ w' = w := by
  have hb1 := Int.tmod_lt_of_pos k (show (0 : Int) < n from by omega)
  have hb2 := Int.lt_tmod_of_pos k (show (0 : Int) < n from by omega)
  have HV : Hid (k.tmod n % n = k % n) := by
    show k.tmod n % n = k % n
    rw [Int.tmod_def]
    exact Int.sub_mul_emod_self_left _ _ _
  by_cases hk : 0 ≤ k
  · have HW : Hid ((k % n + n) % n = k % n) := by show _ = _; rw [Int.add_emod_right, Int.emod_emod]
    have hb3 := Int.emod_nonneg k (show n ≠ 0 from by omega)
    have hb4 := Int.emod_lt_of_pos k (show 0 < n from by omega)
    clear hb1 hb2
    go_enter Try.func129, Try.ntmps129
    go_wp2
    go_ret
    exact ⟨ret_int (by rw [HW.out]), rfl⟩
  · go_enter Try.func129, Try.ntmps129
    go_wp2
    go_ret
    exact ⟨ret_int (by rw [HV.out]), rfl⟩

set_option maxHeartbeats 1000000 in
theorem power_any {F T : Nat} {D : FD} (hD : D ∈ fieldsL) {g : Nat → Value} {w : World} (h : FAt F T D g w) (k : Int) (hk1 : -9223372036854775808 ≤ k) (hk2 : k ≤ 9223372036854775807) :
    Calls Try.prog 128 #[.pointer (some ⟨T, 0, none⟩), .int .i64 k] w fun e w' => e = .returned (.int .i64 (again D.st (k % ((D.q - 1 : Nat) : Int)).toNat 1 : Nat)) ∧ ∃ n, w' = w.drewN n := by
  have hq := (fld hD).q64
  have hq2 := (fld hD).q2
  have hc0 : w.cell? ⟨T, 0, none⟩ = some (.int .i64 D.q) := by rw [h.row.cell 0 (by omega), h.tab.sum.c0]
  obtain ⟨j, hj⟩ : ∃ j : Nat, k % ((D.q : Int) - 1) = j ∧ j < D.q - 1 := by
    have h1 := Int.emod_nonneg k (show (D.q : Int) - 1 ≠ 0 from by omega)
    have h2 := Int.emod_lt_of_pos k (show 0 < (D.q : Int) - 1 from by omega)
    exact ⟨(k % ((D.q : Int) - 1)).toNat, by omega, by omega⟩
  obtain ⟨hj, hjq⟩ := hj
  have HJ : Hid (k % ((D.q : Int) - 1) = j) := hj
  have hcp : w.cell? ⟨T, 5 + j, none⟩ = some (.int .i64 (again D.st j 1 : Nat)) := by rw [h.row.cell _ (by omega), h.tab.pows.pow j hjq]
  have hlt := (fld hD).pow_lt j hjq
  have HV : Hid ((k % ((D.q - 1 : Nat) : Int)).toNat = j) := by
    show _ = j
    rw [show ((D.q - 1 : Nat) : Int) = (D.q : Int) - 1 from by omega, hj]; rfl
  have HC : Hid (∀ w1, Calls Try.prog 129 #[.int .i64 k, .int .i64 ((D.q : Int) - 1)] w1 fun e w' => e = .returned (.int .i64 (j : Int)) ∧ w' = w1) := by
    intro w1; rw [← hj]; exact remainder_any _ _ _ (by omega) (by omega) hk1 hk2
  clear h hD hj
  go_enter Try.func128, Try.ntmps128
  go_wp2
  go_quiet ((go_at_call 129; exact Calls.quiet_of_same (HC.out _)))
  go_wp2
  go_ret
  exact ⟨ret_int (by rw [HV.out]), _, rfl⟩
end Go.Proofs.Ytjkncdmbcckcdaa
