/- The reference: no field; what undoes a product, powers, logarithms. -/
import Derived.Test.YtmnkablobhdbjaaZR8
import Derived.Test.YtmnkablobhdbjaaZD1
namespace Go.Proofs.Ytmnkablobhdbjaa
open Go.RowKit

theorem pp_zero : (allB 65 fun q => decide (q < 2) || !((pp q).2 == 0) || (pp q).1 == 0) = true := by decide +kernel
def rf0 : Value := .agg #[.int .i64 0, .int .i64 0, .int .i64 0, .int .i64 0, .slice none 0 0]

set_option maxHeartbeats 2000000 in
theorem rfield_none (q : Int) (w : World) (h : ∀ D ∈ fieldsL, (D.q : Int) ≠ q) :
    Calls Try.prog 10 #[.int .i64 q] w fun e w' => e = .returned (.tuple #[rf0, .int .i64 1]) ∧ Below w.heap.size w w' := by
  unfold rf0
  by_cases h0 : q < 2
  · clear h
    go_enter Try.func10, Try.ntmps10
    go_wp2
    exact bodyPost_ret (v := .tuple #[.agg #[.int .i64 0, .int .i64 0, .int .i64 0, .int .i64 0, .slice none 0 0], .int .i64 1]) (by simp [results, Try.results10, go_sem]) rfl ⟨rfl, (Below.refl _ _).alloc (Nat.le_refl _) _⟩
  by_cases h1 : 64 < q
  · clear h
    go_enter Try.func10, Try.ntmps10
    go_wp2
    exact bodyPost_ret (v := .tuple #[.agg #[.int .i64 0, .int .i64 0, .int .i64 0, .int .i64 0, .slice none 0 0], .int .i64 1]) (by simp [results, Try.results10, go_sem]) rfl ⟨rfl, (Below.refl _ _).alloc (Nat.le_refl _) _⟩
  obtain ⟨n, rfl⟩ := Int.eq_ofNat_of_zero_le (show 0 ≤ q from by omega)
  have hz : (pp n).1 = 0 := by
    have h3 := no_field (q := n) (by omega) (fun D hD e => h D hD (by rw [e]))
    have h4 := allB_of pp_zero n (by omega)
    rcases h3 with h3 | h3
    · omega
    · simp only [h3, beq_self_eq_true, Bool.not_true, Bool.or_false, Bool.or_eq_true, decide_eq_true_eq, beq_iff_eq] at h4
      rcases h4 with h4 | h4
      · omega
      · exact h4
  have HZ : Hid ((pp n).1 = 0) := hz
  clear h hz
  go_enter Try.func10, Try.ntmps10
  go_wp2_with fail
  refine (prime_any n _ (by omega) (by omega)).mono ?_
  rintro e w' ⟨rfl, rfl⟩
  rw [HZ.out]
  go_wp2
  exact bodyPost_ret (v := .tuple #[.agg #[.int .i64 0, .int .i64 0, .int .i64 0, .int .i64 0, .slice none 0 0], .int .i64 1]) (by simp [results, Try.results10, go_sem]) rfl ⟨rfl, (Below.refl _ _).alloc (Nat.le_refl _) _⟩

theorem rfield_any {D : FD} (hD : D ∈ fieldsL) (w : World) :
    Calls Try.prog 10 #[.int .i64 D.q] w fun e w' => ∃ v, e = .returned (.tuple #[rf D.q D.p D.m D.gen v, .int .i64 0]) ∧ OwnI w.heap.size v D.modL w' ∧ ModAt D v D.md w' ∧ Below w.heap.size w w' := by
  by_cases hm : D.m = 1
  · refine (rfield_prime hD hm w).mono ?_
    rintro e w' ⟨v, h1, h2, h3⟩
    exact ⟨v, h1, h2, modAt_one hm (fld hD).p2 v w', h3⟩
  · exact rfield_power hD hm w

/-! ### Plain mathematics -/
theorem pw_zero {D : FD} (_hD : D ∈ fieldsL) (a : Nat) : D.pw a 0 = 1 := by
  unfold FD.pw; rw [Nat.mul_zero, Nat.zero_mod]; rfl
theorem pw_succ {D : FD} (hD : D ∈ fieldsL) (a k : Nat) (h0 : a ≠ 0) : D.mul (D.pw a k) a = D.pw a (k + 1) := by
  have hp := pw_ne hD a k
  rw [FD.mul, if_neg (by omega), hp.2, Nat.mod_add_mod, FD.pw, Nat.mul_add, Nat.mul_one]
theorem inv_uniq {D : FD} (hD : D ∈ fieldsL) (a b : Nat) (ha : a < D.q) (hb : b < D.q) (h0 : a ≠ 0) (h : D.mul a b = 1) : b = D.pw a (D.q - 2) := by
  have F := fld hD
  have h1 := t11 hD ha h0
  rw [inv_nat hD ha h0, mulZ_nat F ha (pw_lt hD _ _)] at h1
  have h1 : D.mul a (D.pw a (D.q - 2)) = 1 := by exact_mod_cast h1
  have h2 := F.mul_assoc (D.pw a (D.q - 2)) a b
  rw [h, F.mul_comm _ a, h1, F.mul_comm 1 b, F.mul_one b hb, F.mul_one _ (pw_lt hD _ _)] at h2
  exact h2
theorem mul_gen {D : FD} (hD : D ∈ fieldsL) (a : Nat) (ha : a < D.q) : D.mul a D.gen = D.st a := by
  have F := fld hD
  have hs := List.all_eq_true.1 st_one D hD
  simp only [Bool.and_eq_true, beq_iff_eq, decide_eq_true_eq] at hs
  obtain ⟨⟨hs1, hs2⟩, hs3⟩ := hs
  rw [F.mul_comm, F.mul_eq D.gen a hs3 ha]
  by_cases hq : D.q = 2
  · have hg : D.gen = 1 := by omega
    rw [hg, F.lg_one]
    show a = D.st a
    by_cases h0 : a = 0
    · rw [h0, F.st_zero]
    · have : a = 1 := by omega
      rw [this, hs1, hg]
  · have h2 := F.q2
    have hg : D.lg D.gen = 1 := by
      have := F.lg_pow 1 (by omega)
      rw [show again D.st 1 1 = D.gen from hs1] at this
      exact this
    rw [hg]; rfl

/-! ### Calls -/
set_option maxHeartbeats 4000000 in
theorem rinv_any {D : FD} (hD : D ∈ fieldsL) (gen : Nat) {v : Value} (a : Int) {w : World} (hM : ModAt D v D.md w) :
    Calls Try.prog 28 #[rf D.q D.p D.m gen v, .int .i64 a] w fun e w' => e = .returned (.int .i64 (D.powZ a (-1))) ∧ Below w.heap.size w w' := by
  have F := fld hD
  have h64 := F.q64
  have h2 := F.q2
  have HM : Hid (ModAt D v D.md w ∧ D ∈ fieldsL ∧ Fld D) := ⟨hM, hD, F⟩
  by_cases ha : D.has a = true
  · obtain ⟨x, rfl, hx⟩ := has_nat ha
    by_cases h0 : x = 0
    · have HV : Hid (D.powZ x (-1) = -1) := inv_zero hx h0
      have hz : ((x : Int) == 0) = true := beq_iff_eq.2 (by omega)
      clear hM hD F h0
      unfold rf
      go_enter Try.func28, Try.ntmps28
      go_wp2_with fail
      refine (rhas_any D gen v x _).mono ?_
      rintro e w1 ⟨rfl, hb1⟩
      have HB1 : Hid (Below w.heap.size w w1) := ((Below.refl _ _).alloc (Nat.le_refl _) _).trans (hb1.mono (by simp))
      clear hb1
      go_wp2
      go_ret
      exact ⟨ret_int (by rw [HV.out]), HB1.out⟩
    · obtain ⟨i, hi⟩ : ∃ i, i = D.pw x (D.q - 2) := ⟨_, rfl⟩
      have HV : Hid (D.powZ x (-1) = (i : Nat)) := by show _ = _; rw [inv_nat hD hx h0, hi]
      have hiq : i < D.q := by rw [hi]; exact pw_lt hD _ _
      have hi1 : 1 ≤ i := by have := (pw_ne hD x (D.q - 2)).1; omega
      have HI : Hid (∀ b, b < D.q → (D.mulZ x b = 1 ↔ b = i)) := by
        intro b hb
        rw [mulZ_nat F hx hb]
        constructor
        · intro h; rw [hi]; exact inv_uniq hD x b hx hb h0 (by exact_mod_cast h)
        · intro h
          have h1 := t11 hD hx h0
          rw [inv_nat hD hx h0, mulZ_nat F hx (pw_lt hD _ _)] at h1
          rw [h, hi]; exact h1
      have hz : ((x : Int) == 0) = false := by rw [beq_eq_false_iff_ne]; omega
      clear hM hD F h0 hi
      unfold rf
      go_enter Try.func28, Try.ntmps28
      go_wp2_with fail
      refine (rhas_any D gen v x _).mono ?_
      rintro e w1 ⟨rfl, hb1⟩
      have HX1 : Hid (Box w.heap.size D gen v w1 ∧ Below w.heap.size w w1) := ⟨(box_new D gen v w).below hb1 (by simp), ((Below.refl _ _).alloc (Nat.le_refl _) _).trans (hb1.mono (by simp))⟩
      have hs1 : w.heap.size < w1.heap.size := by have := hb1.size; simp at this; omega
      clear hb1
      go_wp2
      go_loopw [5] (fun j wr => ∃ b : Nat, 1 ≤ b ∧ b ≤ i ∧ j = .int .i64 b ∧ Box w.heap.size D gen v wr ∧ Below w.heap.size w wr ∧ w.heap.size < wr.heap.size) (fun j _ => D.q - (intOf j).toNat)
      case atStart => exact ⟨1, by omega, hi1, rfl, HX1.out.1, HX1.out.2, hs1⟩
      case round =>
        obtain ⟨b, hb1, hbi, rfl, hbox, hbel, hlt⟩ := hrel
        obtain ⟨c0, c1, c2, c3, c4⟩ := hbox
        have HG : Hid (Box w.heap.size D gen v wr ∧ Below w.heap.size w wr) := ⟨⟨c0, c1, c2, c3, c4⟩, hbel⟩
        clear hbel
        have HC : Hid (Calls Try.prog 24 #[.agg #[.int .i64 D.q, .int .i64 D.p, .int .i64 D.m, .int .i64 gen, v], .int .i64 x, .int .i64 b] wr fun e w' => e = .returned (.int .i64 (D.mulZ x b)) ∧ Below wr.heap.size wr w') :=
          rmul_any HM.out.2.1 gen x b (HM.out.1.below HG.out.2)
        have HT := HI.out b (by omega)
        by_cases he : b = i
        · have hm1 : (D.mulZ x b == 1) = true := beq_iff_eq.2 (HT.2 he)
          have HE : Hid (b = i) := he
          clear he HT
          go_wp2_with fail
          refine HC.out.mono ?_
          rintro e w2 ⟨rfl, hb2⟩
          have HB2 : Hid (Below w.heap.size w w2) := HG.out.2.trans (hb2.mono (by omega))
          clear hb2 c0 c1 c2 c3 c4 HC
          go_wp2
          go_ret
          exact ⟨ret_int (by rw [HV.out, HE.out]), HB2.out⟩
        · have hm1 : (D.mulZ x b == 1) = false := beq_eq_false_iff_ne.2 (fun h => he (HT.1 h))
          clear HT
          go_wp2_with fail
          refine HC.out.mono ?_
          rintro e w2 ⟨rfl, hb2⟩
          have HR : Hid (Box w.heap.size D gen v w2 ∧ Below w.heap.size w w2 ∧ w.heap.size < w2.heap.size) := ⟨HG.out.1.below hb2 hlt, HG.out.2.trans (hb2.mono (by omega)), by have := hb2.size; omega⟩
          clear hb2 c0 c1 c2 c3 c4 HC
          go_wp2
          go_roundw
          case rel => exact ⟨b + 1, by omega, by omega, by go_num, HR.out⟩
          case measure => simp [intOf]; omega
  · have ha' : D.has a = false := by simpa using ha
    have HV : Hid (D.powZ a (-1) = -1) := by show _ = _; rw [FD.powZ, if_pos ha']
    clear ha hM hD F
    unfold rf
    go_enter Try.func28, Try.ntmps28
    go_wp2_with fail
    refine (rhas_any D gen v a _).mono ?_
    rintro e w1 ⟨rfl, hb1⟩
    have HB1 : Hid (Below w.heap.size w w1) := ((Below.refl _ _).alloc (Nat.le_refl _) _).trans (hb1.mono (by simp))
    clear hb1
    go_wp2
    go_ret
    exact ⟨ret_int (by rw [HV.out]), HB1.out⟩
end Go.Proofs.Ytmnkablobhdbjaa
