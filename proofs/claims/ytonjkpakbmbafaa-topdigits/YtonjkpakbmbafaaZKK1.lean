/- The tables of package digits: the group of ten (together, layGroup). -/
import Derived.Test.YtonjkpakbmbafaaZS45
import Derived.Test.YtonjkpakbmbafaaZB1
namespace Go.Proofs.Ytonjkpakbmbafaa
open Go.RowKit

theorem wrpT {a : Int} {n : Nat} (h : a = (n : Int)) (hn : n ≤ 9223372036854775807) : IntKind.i64.wrap a = (n : Int) := by
  rw [IntWalk.i64_left, h]; exact IntWalk.wrap64_in _ (by omega)

set_option maxHeartbeats 4000000 in
set_option maxRecDepth 100000 in
theorem together_any {a b : Nat} (ha : a < 10) (hb : b < 10) (w : World) :
    Calls Try.prog 101 #[.int .i64 (a : Nat), .int .i64 (b : Nat)] w fun e w' => e = .returned (.int .i64 (dih a b : Nat)) ∧ w' = w := by
  obtain ⟨R, hR⟩ : ∃ R, R = dih a b := ⟨_, rfl⟩
  rw [← hR]
  unfold dih at hR
  by_cases h1 : a < 5
  · have i1 : (a : Int) < 5 := by omega
    obtain ⟨s, hs⟩ : ∃ s, s = a + b := ⟨_, rfl⟩
    have ws : IntKind.i64.wrap ((a : Int) + (b : Int)) = (s : Int) := wrpT (by omega) (by omega)
    obtain ⟨m, hm⟩ : ∃ m, m = s % 5 := ⟨_, rfl⟩
    have wm : Int.tmod (s : Int) 5 = (m : Int) := by rw [hm]; rfl
    rw [if_pos h1] at hR
    by_cases h2 : b < 5
    · have i2 : (b : Int) < 5 := by omega
      have HV : Hid (R = m) := by rw [if_pos h2] at hR; show R = m; omega
      clear hs hm hR
      go_enter Try.func101, Try.ntmps101
      go_wp2
      go_ret
      exact ⟨by rw [HV.out]; rfl, rfl⟩
    · have i2 : ¬ (b : Int) < 5 := by omega
      have HV : Hid (R = m + 5) := by rw [if_neg h2] at hR; show R = m + 5; omega
      have wR : IntKind.i64.wrap ((m : Int) + 5) = (R : Int) := wrpT (by rw [HV.out]; omega) (by rw [HV.out]; omega)
      clear hs hm hR
      go_enter Try.func101, Try.ntmps101
      go_wp2
      go_ret
      exact ⟨rfl, rfl⟩
  · have i1 : ¬ (a : Int) < 5 := by omega
    rw [if_neg h1] at hR
    by_cases h2 : b < 5
    · have i2 : (b : Int) < 5 := by omega
      rw [if_pos h2] at hR
      obtain ⟨s, hs⟩ : ∃ s, s = a - b := ⟨_, rfl⟩
      have ws : IntKind.i64.wrap ((a : Int) - (b : Int)) = (s : Int) := wrpT (by omega) (by omega)
      obtain ⟨m, hm⟩ : ∃ m, m = s % 5 := ⟨_, rfl⟩
      have wm : Int.tmod (s : Int) 5 = (m : Int) := by rw [hm]; rfl
      have HV : Hid (R = m + 5) := by show R = m + 5; omega
      have wR : IntKind.i64.wrap ((m : Int) + 5) = (R : Int) := wrpT (by rw [HV.out]; omega) (by rw [HV.out]; omega)
      clear hs hm hR
      go_enter Try.func101, Try.ntmps101
      go_wp2
      go_ret
      exact ⟨rfl, rfl⟩
    · have i2 : ¬ (b : Int) < 5 := by omega
      rw [if_neg h2] at hR
      obtain ⟨s, hs⟩ : ∃ s : Int, s = (a : Int) - (b : Int) := ⟨_, rfl⟩
      have ws : IntKind.i64.wrap ((a : Int) - (b : Int)) = s := by rw [IntWalk.i64_left, ← hs]; exact IntWalk.wrap64_in _ (by omega)
      obtain ⟨s2, hs2⟩ : ∃ s2, s2 = a + 5 - b := ⟨_, rfl⟩
      have ws2 : IntKind.i64.wrap (s + 5) = (s2 : Int) := wrpT (by omega) (by omega)
      have wm : Int.tmod (s2 : Int) 5 = (R : Int) := by rw [hR, ← hs2]; rfl
      clear hs hs2 hR
      go_enter Try.func101, Try.ntmps101
      go_wp2
      go_ret
      exact ⟨rfl, rfl⟩

/-- A number's cell. -/
def nvl (x : Nat) : Value := .int .i64 (x : Nat)
/-- The group's part of the tables, of the first rows. -/
structure GrpT (a b : Nat) (g : Nat → Value) : Prop where
  grp : ∀ i j, i < 10 → j < 10 → (i < a ∨ (i = a ∧ j < b)) → g (i * 10 + j) = nvl (dih i j)
  ends : ∀ i, i < 10 → (i < a ∨ (i = a ∧ dnv i < b)) → g (100 + i) = nvl (dnv i)

set_option maxHeartbeats 4000000 in
set_option maxRecDepth 100000 in
theorem layGroup_any {T : Nat} {f : Nat → Value} {w : World} (hR : RowF T 290 95 f w) :
    Calls Try.prog 80 #[.pointer (some ⟨T, 0, none⟩)] w fun e w' => e = .returned (.tuple #[]) ∧ ∃ g, RowF T 290 95 g w' ∧ GrpT 10 0 g ∧ (∀ o, 110 ≤ o → g o = f o) ∧ w.grownBy w' (some T) := by
  have HF : Hid (RowF T 290 95 f w) := hR
  clear hR
  go_enter Try.func80, Try.ntmps80
  go_wp2
  go_loopw [5] (fun vi wr => ∃ (a : Nat) (g : Nat → Value), a ≤ 10 ∧ vi = .int .i64 (a : Nat) ∧ Hid (RowF T 290 95 g wr ∧ GrpT a 0 g ∧ (∀ o, 110 ≤ o → g o = f o) ∧ w.grownBy wr (some T))) (fun vi _ => 10 - (intOf vi).toNat)
  case atStart => exact ⟨0, f, by omega, rfl, HF.out, ⟨fun i j _ _ h => by omega, fun i _ h => by omega⟩, fun _ _ => rfl, grown_refl _ _⟩
  case round =>
    obtain ⟨a, g, ha, rfl, HG⟩ := hrel
    rename World => wr
    by_cases hlt : a < 10
    · have hib : (a : Int) < 10 := by omega
      have hib0 : (0 : Int) ≤ (a : Int) := by omega
      go_wp2
      go_loopw [8] (fun vi wx => ∃ (b : Nat) (g : Nat → Value), b ≤ 10 ∧ vi = .int .i64 (b : Nat) ∧ Hid (RowF T 290 95 g wx ∧ GrpT a b g ∧ (∀ o, 110 ≤ o → g o = f o) ∧ w.grownBy wx (some T))) (fun vi _ => 10 - (intOf vi).toNat)
      case atStart => exact ⟨0, g, by omega, rfl, HG.out⟩
      case round =>
        obtain ⟨b, g2, hb, rfl, HJ⟩ := hrel
        rename World => wx
        by_cases hltb : b < 10
        · have hjb : (b : Int) < 10 := by omega
          have hjb0 : (0 : Int) ≤ (b : Int) := by omega
          obtain ⟨R, hRd⟩ : ∃ R, R = dih a b := ⟨_, rfl⟩
          have HC := together_any hlt hltb wx
          rw [← hRd] at HC
          replace HC : Hid (Calls Try.prog 101 #[.int .i64 (a : Nat), .int .i64 (b : Nat)] wx fun e w' => e = .returned (.int .i64 (R : Nat)) ∧ w' = wx) := HC
          have hcell := HJ.out.1.cell (a * 10 + b) (by omega)
          have hfree := HJ.out.1.free (a * 10 + b)
          obtain ⟨ws, hws⟩ : ∃ ws, ws = wx.setCell ⟨T, a * 10 + b, none⟩ (.int .i64 (R : Nat)) := ⟨_, rfl⟩
          have HS : Hid (RowF T 290 95 (upd g2 (a * 10 + b) (nvl R)) ws ∧ w.grownBy ws (some T)) := by
            rw [hws]; exact ⟨HJ.out.1.store _ _, grown_set HJ.out.2.2.2 _ _⟩
          have HU : Hid (∀ i j, i < 10 → j < 10 → (i < a ∨ (i = a ∧ j < b + 1)) → upd g2 (a * 10 + b) (nvl R) (i * 10 + j) = nvl (dih i j)) := by
            intro i j hi hj h
            by_cases e : i = a ∧ j = b
            · rw [e.1, e.2, upd_at, hRd]
            · rw [upd_ne _ _ _ (by omega)]; exact HJ.out.2.1.grp i j hi hj (by omega)
          have HD : Hid (dnv a < 10 ∧ (R = 0 ↔ b = dnv a)) := ⟨dnv_lt a hlt, by rw [hRd]; exact dnv_iff a hlt b hltb⟩
          by_cases hz : R = 0
          · have hzb : ((R : Int) == 0) = true := by rw [hz]; rfl
            have hbv : b = dnv a := HD.out.2.1 hz
            have hcell2 := HS.out.1.cell (100 + a) (by omega)
            have hfree2 := HS.out.1.free (100 + a)
            obtain ⟨wt, hwt⟩ : ∃ wt, wt = ws.setCell ⟨T, 100 + a, none⟩ (.int .i64 (b : Nat)) := ⟨_, rfl⟩
            have HT : Hid (RowF T 290 95 (upd (upd g2 (a * 10 + b) (nvl R)) (100 + a) (nvl b)) wt ∧ GrpT a (b + 1) (upd (upd g2 (a * 10 + b) (nvl R)) (100 + a) (nvl b)) ∧ (∀ o, 110 ≤ o → upd (upd g2 (a * 10 + b) (nvl R)) (100 + a) (nvl b) o = f o) ∧ w.grownBy wt (some T)) := by
              rw [hwt]
              refine ⟨HS.out.1.store _ _, ⟨fun i j hi hj h => ?_, fun i hi h => ?_⟩, fun o ho => ?_, grown_set HS.out.2 _ _⟩
              · rw [upd_ne _ _ _ (by omega)]; exact HU.out i j hi hj h
              · by_cases e : i = a
                · rw [e, upd_at, hbv]
                · rw [upd_ne _ _ _ (by omega), upd_ne _ _ _ (by omega)]; exact HJ.out.2.1.ends i hi (by omega)
              · rw [upd_ne _ _ _ (by omega), upd_ne _ _ _ (by omega)]; exact HJ.out.2.2.1 o ho
            clear hz hbv hRd
            rw [hws] at hcell2 hfree2 hwt
            clear hws
            go_wp2_with (go_at_call 101; refine HC.out.mono ?_; rintro e w' ⟨rfl, hw⟩; have hw := hw.symm; subst hw)
            try rw [← hwt]
            clear hwt hcell hfree hcell2 hfree2
            go_roundw
            case rel => exact ⟨b + 1, _, by omega, by go_num, HT.out⟩
            case measure => simp [intOf]; omega
          · have hzb : ((R : Int) == 0) = false := by rw [beq_eq_false_iff_ne]; omega
            have HT : Hid (RowF T 290 95 (upd g2 (a * 10 + b) (nvl R)) ws ∧ GrpT a (b + 1) (upd g2 (a * 10 + b) (nvl R)) ∧ (∀ o, 110 ≤ o → upd g2 (a * 10 + b) (nvl R) o = f o) ∧ w.grownBy ws (some T)) := by
              refine ⟨HS.out.1, ⟨HU.out, fun i hi h => ?_⟩, fun o ho => ?_, HS.out.2⟩
              · rw [upd_ne _ _ _ (by omega)]
                refine HJ.out.2.1.ends i hi ?_
                by_cases e : i = a
                · subst e
                  right
                  have h2 : ¬ b = dnv i := fun e => hz (HD.out.2.2 e)
                  omega
                · omega
              · rw [upd_ne _ _ _ (by omega)]; exact HJ.out.2.2.1 o ho
            clear hz hRd
            go_wp2_with (go_at_call 101; refine HC.out.mono ?_; rintro e w' ⟨rfl, hw⟩; have hw := hw.symm; subst hw)
            try rw [← hws]
            clear hws hcell hfree
            go_roundw
            case rel => exact ⟨b + 1, _, by omega, by go_num, HT.out⟩
            case measure => simp [intOf]; omega
        · have hjb : ¬ (b : Int) < 10 := by omega
          have HT : Hid (GrpT (a + 1) 0 g2) := ⟨fun i j hi hj h => HJ.out.2.1.grp i j hi hj (by omega), fun i hi h => HJ.out.2.1.ends i hi (by
            have := dnv_lt i hi
            omega)⟩
          go_wp2
          go_roundw
          case rel => exact ⟨a + 1, g2, by omega, by go_num, HJ.out.1, HT.out, HJ.out.2.2⟩
          case measure => simp [intOf]; omega
    · have hib : ¬ (a : Int) < 10 := by omega
      have hae : a = 10 := by omega
      have HT : Hid (GrpT 10 0 g) := by rw [← hae]; exact HG.out.2.1
      clear hae
      go_wp2
      exact bodyPost_end (results_none rfl _ _ _) rfl ⟨rfl, g, HG.out.1, HT.out, HG.out.2.2.1, HG.out.2.2.2⟩
end Go.Proofs.Ytonjkpakbmbafaa
