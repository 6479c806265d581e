/- Texts of ours, one behind the other: B6 R15. -/
import Derived.Test.YtmnkablobhdbjaaZB5
import Derived.Test.YtmnkablobhdbjaaZR11
import Derived.Deep.RegionHeld3
/- A field's calls, gone on: a field within another (holds, Within). -/
namespace Go.Proofs.Ytmnkablobhdbjaa
open Go.RowKit

/-! ### Plain mathematics -/
/-! ### Calls -/
set_option maxHeartbeats 2000000 in
theorem holds_any {F T F2 T2 : Nat} {D E : FD} (hE : E ∈ fieldsL) {g g2 : Nat → Value} {w : World} (h : FAt F T D g w) (k : FAt F2 T2 E g2 w) :
    Calls Try.prog 74 #[.pointer (some ⟨F, 0, none⟩), .pointer (some ⟨F2, 0, none⟩)] w fun e w' => e = .returned (.bool (decide (E.p = D.p ∧ D.m % E.m = 0))) ∧ ∃ n, w' = w.drewN n := by
  have hp := h.ptr
  have hp2 := k.ptr
  have a1 : w.cell? ⟨T, 1, none⟩ = some (.int .i64 D.p) := by rw [h.row.cell 1 (by omega), h.tab.sum.c1]
  have a2 : w.cell? ⟨T, 2, none⟩ = some (.int .i64 D.m) := by rw [h.row.cell 2 (by omega), h.tab.c2]
  have b1 : w.cell? ⟨T2, 1, none⟩ = some (.int .i64 E.p) := by rw [k.row.cell 1 (by omega), k.tab.sum.c1]
  have b2 : w.cell? ⟨T2, 2, none⟩ = some (.int .i64 E.m) := by rw [k.row.cell 2 (by omega), k.tab.c2]
  have m1 := (fld hE).m1
  clear h k hE
  by_cases hpp : E.p = D.p
  · have t1 : ((E.p : Int) == (D.p : Int)) = true := by rw [hpp]; simp
    have HV : Hid (decide (E.p = D.p ∧ D.m % E.m = 0) = ((D.m : Int) % (E.m : Int) == 0)) := by
      show _ = _
      rw [← Int.natCast_emod, Bool.eq_iff_iff, decide_eq_true_eq, beq_iff_eq]
      exact ⟨fun h => by rw [h.2]; rfl, fun h => ⟨hpp, by exact_mod_cast h⟩⟩
    clear hpp
    go_enter Try.func74, Try.ntmps74
    go_wp2
    go_quiet (fail)
    go_wp2
    go_ret
    exact ⟨ret_bool (by rw [HV.out]), _, rfl⟩
  · have t1 : ((E.p : Int) == (D.p : Int)) = false := by rw [beq_eq_false_iff_ne]; exact_mod_cast hpp
    have HV : Hid (decide (E.p = D.p ∧ D.m % E.m = 0) = false) := by
      show _ = _
      rw [decide_eq_false_iff_not]; exact fun h => hpp h.1
    clear hpp
    go_enter Try.func74, Try.ntmps74
    go_wp2
    go_quiet (fail)
    go_wp2
    go_ret
    exact ⟨ret_bool (by rw [HV.out]), _, rfl⟩

end Go.Proofs.Ytmnkablobhdbjaa

/- The reference: a polynomial's value at an element (value). -/
namespace Go.Proofs.Ytmnkablobhdbjaa
open Go.RowKit

/-- The value of n coefficients at x, from the highest one down, k of them. -/
def FD.val (D : FD) (c : Nat → Nat) (n x : Nat) : Nat → Nat
  | 0 => 0
  | k + 1 => sumD D.p D.q (D.mul (D.val c n x k) x) (c (n - 1 - k))
theorem val_lt {D : FD} (hD : D ∈ fieldsL) (c : Nat → Nat) (n x : Nat) (hc : ∀ j, c j < D.q) : ∀ k, D.val c n x k < D.q
  | 0 => by have := (fld hD).q2; show 0 < D.q; omega
  | k + 1 => (fld hD).sum_lt _ _ ((fld hD).mul_lt _ _) (hc _)

theorem bel_up' {B : Nat} {w W w1 : World} (h0 : Below B w W) (h : Below W.heap.size W w1) (hB : B ≤ w.heap.size := by exact Nat.le_refl _) : Below B w w1 := h0.trans (h.mono (Nat.le_trans hB h0.size))

theorem radd_nat {D : FD} (hD : D ∈ fieldsL) (gen : Nat) (v : Value) (a b : Nat) (ha : a < D.q) (hb : b < D.q) (wr : World) :
    Calls Try.prog 20 #[.agg #[.int .i64 D.q, .int .i64 D.p, .int .i64 D.m, .int .i64 gen, v], .int .i64 a, .int .i64 b] wr fun e w' => e = .returned (.int .i64 (sumD D.p D.q a b : Nat)) ∧ Below wr.heap.size wr w' := by
  rw [← addZ_nat (fld hD) ha hb]
  exact radd_any hD gen v a b wr

set_option maxHeartbeats 4000000 in
theorem rvalue_any {D : FD} (hD : D ∈ fieldsL) (gen : Nat) {v : Value} (gl cap n x : Nat) (c : Nat → Nat) {w : World} (hx : x < D.q) (hn : n ≤ 1000) (hc : ∀ j, c j < D.q) (hgl : gl < w.heap.size) (hN : Nums gl n c w) (hM : ModAt D v D.md w) :
    Calls Try.prog 77 #[rf D.q D.p D.m gen v, .slice (some ⟨gl, 0, none⟩) n cap, .int .i64 x] w fun e w' => e = .returned (.int .i64 (D.val c n x n : Nat)) ∧ Below w.heap.size w w' := by
  have HM : Hid (ModAt D v D.md w ∧ D ∈ fieldsL ∧ Nums gl n c w ∧ ∀ j, c j < D.q) := ⟨hM, hD, hN, hc⟩
  clear hM hD hN hc
  have HB0 : Hid (Box w.heap.size D gen v (w.alloc (.cells #[.int .i64 D.q, .int .i64 D.p, .int .i64 D.m, .int .i64 gen, v] 28))) := box_new D gen v w
  unfold rf
  go_enter Try.func77, Try.ntmps77
  go_wp2
  go_loopw [7, 8] (fun s i wr => ∃ r : Nat, r ≤ n ∧ i = .int .i64 ((r : Int) - 1) ∧ s = .int .i64 (D.val c n x (n - r) : Nat) ∧ Box w.heap.size D gen v wr ∧ Below w.heap.size w wr ∧ w.heap.size < wr.heap.size) (fun _ i _ => (intOf i + 1).toNat)
  case atStart => exact ⟨n, by omega, rfl, by rw [Nat.sub_self]; rfl, HB0.out, (Below.refl _ _).alloc (Nat.le_refl _) _, by simp⟩
  case round =>
    obtain ⟨r, hr, hi, rfl, hbox, hbel, hlt⟩ := hrel
    obtain ⟨c0, c1, c2, c3, c4⟩ := hbox
    have HG : Hid (Box w.heap.size D gen v wr ∧ Below w.heap.size w wr) := ⟨⟨c0, c1, c2, c3, c4⟩, hbel⟩
    clear hbel
    cases r with
    | succ s =>
      have hi' : u8 = .int .i64 (s : Int) := by rw [hi]; go_num
      clear hi
      subst hi'
      obtain ⟨y, hy⟩ : ∃ y, y = D.val c n x (n - (s + 1)) := ⟨_, rfl⟩
      have hyq : y < D.q := by rw [hy]; exact val_lt HM.out.2.1 c n x HM.out.2.2.2 _
      have HY : Hid (D.val c n x (n - s) = sumD D.p D.q (D.mul y x) (c s)) := by
        show _ = _
        rw [hy, show n - s = (n - (s + 1)) + 1 from by omega, FD.val, show n - 1 - (n - (s + 1)) = s from by omega]
      rw [← hy]
      clear hy
      have HC : Hid (Calls Try.prog 24 #[.agg #[.int .i64 D.q, .int .i64 D.p, .int .i64 D.m, .int .i64 gen, v], .int .i64 y, .int .i64 x] wr fun e w' => e = .returned (.int .i64 (D.mul y x : Nat)) ∧ Below wr.heap.size wr w') :=
        rmul_nat HM.out.2.1 gen HM.out.1 y x hyq hx wr HG.out.2
      go_wp2_with fail
      refine HC.out.mono ?_
      rintro e w2 ⟨rfl, hb2⟩
      have HR2 : Hid (Box w.heap.size D gen v w2 ∧ Below w.heap.size w w2) := ⟨HG.out.1.below hb2 hlt, HG.out.2.trans (hb2.mono (by omega))⟩
      have hlt2 : w.heap.size < w2.heap.size := by have := hb2.size; omega
      clear hb2 c0 c1 c2 c3 c4 HC
      obtain ⟨c0, c1, c2, c3, c4⟩ := HR2.out.1
      have hcl : w2.cell? ⟨gl, s, none⟩ = some (.int .i64 (c s : Nat)) := (HM.out.2.2.1.below HR2.out.2 hgl) s (by omega)
      have z1 : (0 : Int) ≤ (s : Int) := by omega
      have z2 : (s : Int) < (n : Int) := by omega
      have HC2 : Hid (∀ w3 : World, Calls Try.prog 20 #[.agg #[.int .i64 D.q, .int .i64 D.p, .int .i64 D.m, .int .i64 gen, v], .int .i64 (D.mul y x : Nat), .int .i64 (c s : Nat)] w3 fun e w' => e = .returned (.int .i64 (sumD D.p D.q (D.mul y x) (c s) : Nat)) ∧ Below w3.heap.size w3 w') :=
        fun w3 => radd_nat HM.out.2.1 gen v _ _ ((fld HM.out.2.1).mul_lt _ _) (HM.out.2.2.2 s) w3
      have hbc : Below w2.heap.size w2 w2 := Below.refl _ _
      go_wp2_with fail
      go_region_held3 (fun w' => w'.cell? ⟨w.heap.size, 0, none⟩ = some (.int .i64 (D.q : Nat)) ∧ w'.cell? ⟨w.heap.size, 1, none⟩ = some (.int .i64 (D.p : Nat)) ∧ w'.cell? ⟨w.heap.size, 2, none⟩ = some (.int .i64 (D.m : Nat)) ∧ w'.cell? ⟨w.heap.size, 3, none⟩ = some (.int .i64 (gen : Nat)) ∧ w'.cell? ⟨w.heap.size, 4, none⟩ = some v ∧ w'.cell? ⟨gl, s, none⟩ = some (.int .i64 (c s : Nat)))
        (first | go_keep | exact ⟨(HR2.out.1.below (B := w2.heap.size) hbc hlt2).c0, (HR2.out.1.below (B := w2.heap.size) hbc hlt2).c1, (HR2.out.1.below (B := w2.heap.size) hbc hlt2).c2, (HR2.out.1.below (B := w2.heap.size) hbc hlt2).c3, (HR2.out.1.below (B := w2.heap.size) hbc hlt2).c4, (HM.out.2.2.1.below (bel_up' HR2.out.2 hbc) hgl) s (by omega)⟩)
        (first | (go_at_call 20; refine (HC2.out _).mono ?_; rintro e w' ⟨rfl, hb'⟩; replace hbc := bel_up' (by first | exact hbc | exact hbc.drew) hb'; clear hb'))
      have HR3 : Hid (Box w.heap.size D gen v w' ∧ Below w.heap.size w w' ∧ w.heap.size < w'.heap.size) := ⟨HR2.out.1.below hbc hlt2, bel_up' HR2.out.2 hbc, by have := hbc.size; omega⟩
      clear c0 c1 c2 c3 c4 HC2 hcl hbc
      go_wp2
      go_roundw
      case rel => exact ⟨s, by omega, by go_num, by rw [HY.out], HR3.out⟩
      case measure => simp [intOf]
    | zero =>
      have hi' : u8 = .int .i64 (-1) := by rw [hi]; rfl
      clear hi
      subst hi'
      go_wp2
      go_ret
      exact ⟨rfl, HG.out.2⟩
end Go.Proofs.Ytmnkablobhdbjaa
