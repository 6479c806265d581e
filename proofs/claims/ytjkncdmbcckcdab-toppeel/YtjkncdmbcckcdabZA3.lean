/- Texts of ours, one behind the other: A3 A4 A5. -/
import Derived.Test.YtjkncdmbcckcdabZA1
import Derived.RegionTactic
import Derived.BigRegion
/- The calls that make a field's table, one by one: opposites. -/
namespace Go.Proofs.Ytjkncdmbcckcdab
open Go.RowKit

/-- Sums are below q, and of each element there is at most one opposite. -/
def SumsOk (p q : Nat) : Prop := (∀ a b, a < q → b < q → sumD p q a b < q) ∧ (∀ a b c, a < q → b < q → c < q → sumD p q a b = 0 → sumD p q a c = 0 → b = c)

theorem neg_step (x a y p : Nat) (hx : x ≤ 28672) (hp : 2 ≤ p) (hp2 : p ≤ 64) (h4 : (p - a / y % p) % p * y ≤ 64 * 64) (ha : a < 64) :
    wrap64 ((x : Int) + wrap64 ((wrap64 ((p : Int) - (wrap64 ((a : Int) / (y : Int))).tmod (p : Int))).tmod (p : Int) * (y : Int))) = ((x + (p - a / y % p) % p * y : Nat) : Int) := by
  rw [w_quo a y (by omega)]
  have hm : a / y % p < p := Nat.mod_lt _ (by omega)
  have e0 : ((a / y : Nat) : Int).tmod (p : Int) = ((a / y % p : Nat) : Int) := rfl
  have e1 : wrap64 ((p : Int) - ((a / y % p : Nat) : Int)) = ((p - a / y % p : Nat) : Int) := by
    rw [show (p : Int) - ((a / y % p : Nat) : Int) = ((p - a / y % p : Nat) : Int) from by omega]
    exact w_nat _ (by omega)
  rw [e0, e1]
  have e2 : (((p - a / y % p : Nat) : Int).tmod (p : Int) * (y : Int)) = (((p - a / y % p) % p * y : Nat) : Int) := rfl
  rw [e2, w_nat _ (by omega)]
  exact w_nat (x + (p - a / y % p) % p * y) (by omega)

set_option maxHeartbeats 1000000 in
theorem opposite_any (T p q a : Nat) (w : World) (hp : 2 ≤ p) (hp2 : p ≤ 64) (hq : q ≤ 64) (ha : a < q) (htwo : Two p q)
    (hc0 : w.cell? ⟨T, 0, none⟩ = some (.int .i64 q)) (hc1 : w.cell? ⟨T, 1, none⟩ = some (.int .i64 p)) :
    Calls Try.prog 77 #[.pointer (some ⟨T, 0, none⟩), .int .i64 a] w fun e w' => e = .returned (.int .i64 (negD p q a)) ∧ ∃ n, w' = w.drewN n := by
  by_cases h2 : p = 2
  · have HV : Hid (negD p q a = a) := (htwo h2).2 a ha
    have hz : ((p : Int) == 2) = true := by rw [h2]; rfl
    clear htwo h2
    go_enter Try.func77, Try.ntmps77
    go_wp2
    go_ret
    exact ⟨ret_int (by rw [HV.out]), 0, rfl⟩
  have hz : ((p : Int) == 2) = false := by rw [beq_eq_false_iff_ne]; omega
  clear htwo h2
  have hD := negD_le p q a (by omega) hp2 hq
  go_enter Try.func77, Try.ntmps77
  go_wp2
  go_loopw [5, 6] (fun s u wr => ∃ j x y : Nat, 1 ≤ y ∧ y ≤ 4096 ∧ x ≤ 28672 ∧ 2 ^ j ≤ y ∧ s = .int .i64 x ∧ u = .int .i64 y ∧ Hid (x + negFrom p q a (7 - j) y = negD p q a) ∧ ∃ n, wr = w.drewN n) (fun _ u _ => 64 - (intOf u).toNat)
  case atStart => exact ⟨0, 0, 1, by omega, by omega, by omega, by omega, rfl, rfl, by simp [Hid, negD], 0, rfl⟩
  case round =>
    obtain ⟨j, x, y, hy1, hy, hx, hj, rfl, rfl, HS, n, rfl⟩ := hrel
    by_cases hlt : y < q
    · have HJ : Hid (2 ^ j ≤ y) := hj
      clear hj
      have h1 : a / y ≤ 64 := Nat.le_trans (Nat.div_le_self _ _) (by omega)
      have h3 : (p - a / y % p) % p < p := Nat.mod_lt _ (by omega)
      have h4 : (p - a / y % p) % p * y ≤ 64 * 64 := Nat.mul_le_mul (by omega) (by omega)
      have h5 : y * p ≤ 64 * 64 := Nat.mul_le_mul (by omega) (by omega)
      have h6 := mul_gt y p hy1 hp
      have h7 : a / y % p < p := Nat.mod_lt _ (by omega)
      have HR : Hid (j < 7 ∧ 2 ^ (j + 1) ≤ y * p ∧ x + (p - a / y % p) % p * y + negFrom p q a (7 - (j + 1)) (y * p) = negD p q a) := by
        have hj7 : j < 7 := by
          rcases Nat.lt_or_ge j 7 with h | h
          · exact h
          · have : 2 ^ 7 ≤ 2 ^ j := Nat.pow_le_pow_right (by omega) h
            have := HJ.out
            omega
        refine ⟨hj7, by rw [Nat.pow_succ]; exact Nat.mul_le_mul HJ.out hp, ?_⟩
        have := HS.out
        rw [show 7 - j = (7 - (j + 1)) + 1 from by omega, negFrom_lo p q a _ y hlt] at this
        omega
      clear HJ
      go_wp2
      go_quiet (fail)
      go_wp2
      go_roundw
      case rel => exact ⟨j + 1, x + (p - a / y % p) % p * y, y * p, by omega, by omega, by have := HR.out.2.2; omega, HR.out.2.1, by rw [neg_step x a y p hx hp hp2 h4 (by omega)], by go_num, HR.out.2.2, _, rfl⟩
      case measure =>
        show 64 - (((y * p : Nat) : Int)).toNat < 64 - ((y : Nat) : Int).toNat
        rw [Int.toNat_natCast, Int.toNat_natCast]; omega
    · have HV : Hid (x = negD p q a) := by have := HS.out; rw [negFrom_hi _ _ _ _ _ hlt] at this; show x = _; omega
      go_wp2
      go_ret
      exact ⟨ret_int (by rw [HV.out]), _, rfl⟩
end Go.Proofs.Ytjkncdmbcckcdab

/- The calls that make a field's table, one by one: an element times x (timesX). -/
namespace Go.Proofs.Ytjkncdmbcckcdab
open Go.RowKit

/-- What a table has to hold for sums: its size, its prime. -/
structure TabS (p q : Nat) (g : Nat → Value) : Prop where
  c0 : g 0 = .int .i64 q
  c1 : g 1 = .int .i64 p
  two : Two p q

theorem TabS.congr {p q : Nat} {f g : Nat → Value} (h : TabS p q f) (e : ∀ o, o < 5 → o ≠ 2 → o ≠ 3 → o ≠ 4 → g o = f o) : TabS p q g :=
  ⟨(e 0 (by omega) (by omega) (by omega) (by omega)).trans h.c0, (e 1 (by omega) (by omega) (by omega) (by omega)).trans h.c1, h.two⟩

set_option maxHeartbeats 2000000 in
theorem timesX_any (T p q a low : Nat) (f : Nat → Value) (w : World) (hp1 : 2 ≤ p) (hp2 : p ≤ 64) (hq0 : 1 ≤ q) (hq : q ≤ 64) (ha : a < q) (hl : low < q)
    (hsum : ∀ a b, a < q → b < q → sumD p q a b < q) (hneg : ∀ a, a < q → negD p q a < q)
    (hr : RowF T 133 83 f w) (ht : TabS p q f) :
    Calls Try.prog 73 #[.pointer (some ⟨T, 0, none⟩), .int .i64 a, .int .i64 low] w fun e w' => e = .returned (.int .i64 (timesX p q low a)) ∧ ∃ n, w' = w.drewN n := by
  have hc0 : w.cell? ⟨T, 0, none⟩ = some (.int .i64 q) := by rw [hr.cell 0 (by omega), ht.c0]
  have hc1 : w.cell? ⟨T, 1, none⟩ = some (.int .i64 p) := by rw [hr.cell 1 (by omega), ht.c1]
  have HR : Hid (Two p q) := ht.two
  have HS : Hid (∀ a b, a < q → b < q → sumD p q a b < q) := hsum
  have hn := hneg low hl
  clear hr ht hsum hneg
  have h1 : a * p ≤ 64 * 64 := Nat.mul_le_mul (by omega) (by omega)
  have h2 : a * p / q ≤ 64 * 64 := Nat.le_trans (Nat.div_le_self _ _) h1
  have h3 : a * p % q < q := Nat.mod_lt _ (by omega)
  have h4 : (a : Int) * (p : Int) ≤ 4096 := by rw [← Int.natCast_mul]; omega
  have h5 : 0 ≤ (a : Int) * (p : Int) := by rw [← Int.natCast_mul]; omega
  go_enter Try.func73, Try.ntmps73
  go_wp2
  go_quiet (fail)
  go_wp2
  go_loopw [8, 32] (fun r i wr => ∃ k x : Nat, k ≤ a * p / q ∧ x < q ∧ r = .int .i64 x ∧ i = .int .i64 k ∧ Hid (x = again (fun r => sumD p q r (negD p q low)) k (a * p % q)) ∧ ∃ n, wr = w.drewN n) (fun _ i _ => a * p / q - (intOf i).toNat)
  case atStart => exact ⟨0, a * p % q, Nat.zero_le _, h3, rfl, rfl, rfl, nq, rfl⟩
  case round =>
    obtain ⟨k, x, hk, hx, rfl, rfl, HX, n, rfl⟩ := hrel
    have hs := HS.out x (negD p q low) hx hn
    by_cases hlt : k < a * p / q
    · have hi : (k : Int) < (a : Int) * (p : Int) / (q : Int) := by rw [← Int.natCast_mul, ← Int.natCast_ediv]; omega
      go_wp2_with fail
      refine (opposite_any T p q low _ hp1 hp2 hq hl HR.out (by exact hc0) (by exact hc1)).mono ?_
      rintro e w' ⟨rfl, n1, rfl⟩
      go_wp2_with fail
      refine (sum_any T p q x (negD p q low) _ hp1 hp2 hq hx hn HR.out (by exact hc0) (by exact hc1)).mono ?_
      rintro e w' ⟨rfl, n2, rfl⟩
      go_wp2
      go_roundw
      case rel => exact ⟨k + 1, sumD p q x (negD p q low), by omega, hs, by go_num, rfl, by rw [HX.out]; rfl, _, by first | rfl | rw [World.drewN_drewN] | rw [World.drewN_drewN, World.drewN_drewN]⟩
      case measure => simp [intOf]; omega
    · have hi : ¬ (k : Int) < (a : Int) * (p : Int) / (q : Int) := by rw [← Int.natCast_mul, ← Int.natCast_ediv]; omega
      have HV : Hid (x = timesX p q low a) := by have : k = a * p / q := by omega
                                                 subst this; exact HX.out
      go_wp2
      go_ret
      exact ⟨ret_int (by rw [HV.out]), _, rfl⟩
end Go.Proofs.Ytjkncdmbcckcdab

/- The calls that make a field's table, one by one: the powers of what step makes of 1 (layPowers). -/
namespace Go.Proofs.Ytjkncdmbcckcdab
open Go.RowKit

/-- What layPowers has laid so far. -/
structure Pows (st : Nat → Nat) (n : Nat) (g : Nat → Value) : Prop where
  pow : ∀ k, k < n → g (5 + k) = .int .i64 (again st k 1)
  log : ∀ k, k < n → g (69 + again st k 1) = .int .i64 k
  no : ∀ x, x < 64 → (∀ k, k < n → again st k 1 ≠ x) → g (69 + x) = .int .i64 (-1)

theorem Pows.congr {st : Nat → Nat} {n : Nat} {f g : Nat → Value} (h : Pows st n f) (e : ∀ o, 5 ≤ o → g o = f o) : Pows st n g :=
  ⟨fun k hk => (e _ (by omega)).trans (h.pow k hk), fun k hk => (e _ (by omega)).trans (h.log k hk), fun x hx hn => (e _ (by omega)).trans (h.no x hx hn)⟩

theorem full_step {st : Nat → Nat} {k x : Nat} (h : Full st k) (hx : x = again st k 1) (h0 : ¬ x = 0) (hj : ∀ j, j < k → again st j 1 ≠ x) : Full st (k + 1) := by
  intro i hi
  by_cases e : i = k
  · subst e; exact ⟨by rw [← hx]; exact h0, fun j hji => by rw [← hx]; exact hj j hji⟩
  · exact h i (by omega)

theorem pows_step {st : Nat → Nat} {k x : Nat} {g : Nat → Value} (hk : k < 64) (hx64 : x < 64) (hx : x = again st k 1) (hj : ∀ j, j < k → again st j 1 ≠ x) (h : Pows st k g) :
    Pows st (k + 1) (upd (upd g (5 + k) (.int .i64 x)) (69 + x) (.int .i64 k)) := by
  refine ⟨fun i hi => ?_, fun i hi => ?_, fun y hy hn => ?_⟩
  · rw [upd_ne _ _ _ (by omega)]
    by_cases e : i = k
    · subst e; rw [upd_at, hx]
    · rw [upd_ne _ _ _ (by omega)]; exact h.pow i (by omega)
  · by_cases e : i = k
    · subst e; rw [← hx, upd_at]
    · have := hj i (by omega)
      rw [upd_ne _ _ _ (by omega), upd_ne _ _ _ (by omega)]; exact h.log i (by omega)
  · have h1 := hn k (by omega)
    rw [← hx] at h1
    rw [upd_ne _ _ _ (by omega), upd_ne _ _ _ (by omega)]
    exact h.no y hy fun j hj => hn j (by omega)

theorem run112 (args : Array Value) (w1 : World) : Sem.run Try.prog (callFunc 71 args) w1 = .ok (.enter 71 args) w1 := by
  go_simp
theorem run113 (args : Array Value) (w1 : World) : Sem.run Try.prog (callFunc 72 args) w1 = .ok (.enter 72 args) w1 := by
  go_simp

set_option maxHeartbeats 2000000 in
set_option maxRecDepth 100000 in
theorem layPowers_any (T K q : Nat) (cp : Array Value) (st : Nat → Nat) (f : Nat → Value) (w : World) (hq2 : 2 ≤ q) (hq : q ≤ 64) (hst : ∀ a, a < q → st a < q)
    (hrun : ∀ (args : Array Value) (w1 : World), Sem.run Try.prog (callFunc K args) w1 = .ok (.enter K args) w1)
    (hr : RowF T 133 83 f w) (h0 : f 0 = .int .i64 q)
    (hstep : ∀ (a : Nat) (g : Nat → Value) (w1 : World), a < q → RowF T 133 83 g w1 → (∀ o, o < 5 → g o = f o) → w.grownBy w1 (some T) →
      Calls Try.prog K (#[.int .i64 a] ++ cp) w1 fun e w' => e = .returned (.int .i64 (st a)) ∧ ∃ n, w' = w1.drewN n) :
    Calls Try.prog 70 #[.pointer (some ⟨T, 0, none⟩), .func (.func K) #[] cp] w fun e w' => ∃ g, RowF T 133 83 g w' ∧ (∀ o, o < 5 → g o = f o) ∧ w.grownBy w' (some T) ∧
      ((Full st (q - 1) ∧ Pows st (q - 1) g ∧ e = .returned (.bool true)) ∨ (¬ Full st (q - 1) ∧ e = .returned (.bool false))) := by
  have HR : Hid (RowF T 133 83 f w) := hr
  have H0 : Hid (f 0 = .int .i64 q) := h0
  have HT : Hid (∀ a, a < q → st a < q) := hst
  have HP : Hid (∀ (a : Nat) (g : Nat → Value) (w1 : World), a < q → RowF T 133 83 g w1 → (∀ o, o < 5 → g o = f o) → w.grownBy w1 (some T) →
      Calls Try.prog K (#[.int .i64 a] ++ cp) w1 fun e w' => e = .returned (.int .i64 (st a)) ∧ ∃ n, w' = w1.drewN n) := hstep
  clear hr h0 hst hstep
  go_enter Try.func70, Try.ntmps70
  go_wp2
  go_loopw [8] (fun i wr => ∃ (k : Nat) (g : Nat → Value), k ≤ 64 ∧ i = .int .i64 k ∧ RowF T 133 83 g wr ∧ (∀ o, o < 5 → g o = f o) ∧ (∀ x, x < k → g (69 + x) = .int .i64 (-1)) ∧ w.grownBy wr (some T)) (fun i _ => 64 - (intOf i).toNat)
  case atStart => exact ⟨0, f, by omega, rfl, HR.out, fun _ _ => rfl, fun x hx => by omega, grown_refl _ _⟩
  case round =>
    obtain ⟨k, g, hk, rfl, hrow, hsame, hno, hgrow⟩ := hrel
    have hfree : ∀ o, wr.frozen? ⟨T, o, none⟩ = false := hrow.free
    have hc0 : wr.cell? ⟨T, 0, none⟩ = some (.int .i64 q) := by rw [hrow.cell 0 (by omega), hsame 0 (by omega), H0.out]
    have HG : Hid (RowF T 133 83 g wr ∧ (∀ o, o < 5 → g o = f o) ∧ (∀ x, x < k → g (69 + x) = .int .i64 (-1)) ∧ w.grownBy wr (some T)) := ⟨hrow, hsame, hno, hgrow⟩
    clear hrow hsame hno hgrow
    by_cases hlt : k < 64
    · have hcs : wr.cell? ⟨T, 69 + k, none⟩ = some (g (69 + k)) := HG.out.1.cell _ (by omega)
      go_wp2
      go_roundw
      case rel => exact ⟨k + 1, _, by omega, by go_num, HG.out.1.store _ _, fun o ho => (upd_ne _ _ _ (by omega)).trans (HG.out.2.1 o ho), fun x hx => if e : x = k then by rw [e, upd_at] else (upd_ne _ _ _ (by omega)).trans (HG.out.2.2.1 x (by omega)), grown_set HG.out.2.2.2 _ _⟩
      case measure => simp [intOf]; omega
    · have HK : Hid (∀ x, x < 64 → g (69 + x) = .int .i64 (-1)) := fun x hx => HG.out.2.2.1 x (by omega)
      clear hfree
      go_wp2
      go_loopw [6, 22] (fun a i wr => ∃ (k x : Nat) (g : Nat → Value), k ≤ q - 1 ∧ x < q ∧ i = .int .i64 k ∧ a = .int .i64 x ∧ Hid (x = again st k 1) ∧ RowF T 133 83 g wr ∧ (∀ o, o < 5 → g o = f o) ∧ Full st k ∧ Pows st k g ∧ w.grownBy wr (some T)) (fun _ i _ => q - (intOf i).toNat)
      case atStart => exact ⟨0, 1, g, by omega, by omega, rfl, rfl, rfl, HG.out.1, HG.out.2.1, fun k hk => by omega, ⟨fun k hk => by omega, fun k hk => by omega, fun x hx _ => HK.out x hx⟩, HG.out.2.2.2⟩
      case round =>
        clear HG hc0 HK
        obtain ⟨k, x, g, hk, hx, rfl, rfl, HX, hrow, hsame, hfull, hpows, hgrow⟩ := hrel
        have hfree : ∀ o, wr.frozen? ⟨T, o, none⟩ = false := hrow.free
        have HG : Hid (RowF T 133 83 g wr ∧ (∀ o, o < 5 → g o = f o) ∧ Full st k ∧ Pows st k g ∧ w.grownBy wr (some T)) := ⟨hrow, hsame, hfull, hpows, hgrow⟩
        clear hrow hsame hfull hpows hgrow
        by_cases hlt : k < q - 1
        · by_cases hx0 : x = 0
          · have HN : Hid (¬ Full st (q - 1)) := fun h => (h k hlt).1 (by rw [← HX.out, hx0])
            subst hx0
            go_wp2
            go_ret
            exact ⟨g, HG.out.1, HG.out.2.1, HG.out.2.2.2.2, Or.inr ⟨HN.out, rfl⟩⟩
          · have hb0 : ((x : Int) == 0) = false := by rw [beq_eq_false_iff_ne]; exact_mod_cast hx0
            by_cases hseen : ∃ j, j < k ∧ again st j 1 = x
            · obtain ⟨j, hj, hjx⟩ := hseen
              have hcl : wr.cell? ⟨T, 69 + x, none⟩ = some (.int .i64 j) := by rw [HG.out.1.cell _ (by omega), ← hjx, HG.out.2.2.2.1.log j hj]
              have hb1 : ((j : Int) != -1) = true := by rw [bne_iff_ne]; omega
              have HN : Hid (¬ Full st (q - 1)) := fun h => (h k hlt).2 j hj (by rw [hjx]; exact HX.out)
              clear hjx
              go_wp2
              go_ret
              exact ⟨g, HG.out.1, HG.out.2.1, HG.out.2.2.2.2, Or.inr ⟨HN.out, rfl⟩⟩
            · have hcl : wr.cell? ⟨T, 69 + x, none⟩ = some (.int .i64 (-1)) := by rw [HG.out.1.cell _ (by omega), HG.out.2.2.2.1.no x (by omega) (fun j hj e => hseen ⟨j, hj, e⟩)]
              have hcp : wr.cell? ⟨T, 5 + k, none⟩ = some (g (5 + k)) := HG.out.1.cell _ (by omega)
              have HJ : Hid (∀ j, j < k → again st j 1 ≠ x) := fun j hj e => hseen ⟨j, hj, e⟩
              clear hseen
              go_wp2
              go_region
              go_wp2_with fail
              refine (HP.out x _ _ hx ((HG.out.1.store _ _).store _ _).drew (fun o ho => ((upd_ne _ _ _ (by omega)).trans (upd_ne _ _ _ (by omega))).trans (HG.out.2.1 o ho)) (grown_drew (grown_set (grown_set HG.out.2.2.2.2 _ _) _ _))).mono ?_
              rintro e w' ⟨rfl, n, rfl⟩
              go_wp2
              go_roundw
              case rel => exact ⟨k + 1, st x, _, by omega, HT.out x hx, by go_num, by go_num, by rw [HX.out]; rfl, ((HG.out.1.store _ _).store _ _).drewN _, fun o ho => ((upd_ne _ _ _ (by omega)).trans (upd_ne _ _ _ (by omega))).trans (HG.out.2.1 o ho), full_step HG.out.2.2.1 HX.out hx0 HJ.out, pows_step (by omega) (by omega) HX.out HJ.out HG.out.2.2.2.1, grown_drewN (grown_set (grown_set HG.out.2.2.2.2 _ _) _ _) _⟩
              case measure => simp [intOf]; omega
        · have e : k = q - 1 := by omega
          have HF : Hid (Full st (q - 1) ∧ Pows st (q - 1) g) := by rw [← e]; exact ⟨HG.out.2.2.1, HG.out.2.2.2.1⟩
          clear e
          go_wp2
          go_ret
          exact ⟨g, HG.out.1, HG.out.2.1, HG.out.2.2.2.2, Or.inl ⟨HF.out.1, HF.out.2, rfl⟩⟩
end Go.Proofs.Ytjkncdmbcckcdab
