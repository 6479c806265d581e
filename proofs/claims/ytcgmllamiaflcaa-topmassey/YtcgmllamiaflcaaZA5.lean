/- The calls that make a field's table, one by one: the powers of what step makes of 1 (layPowers). -/
import Derived.Test.YtcgmllamiaflcaaZA3
import Derived.RegionTactic
import Derived.BigRegion
namespace Go.Proofs.Ytcgmllamiaflcaa
open Go.RowKit

/-- What layPowers has laid so far. -/
structure Pows (st : Nat → Nat) (n : Nat) (g : Nat → Value) : Prop where
  pow : ∀ k, k < n → g (5 + k) = .int .i64 (again st k 1)
  log : ∀ k, k < n → g (69 + again st k 1) = .int .i64 k
  no : ∀ x, x < 64 → (∀ k, k < n → again st k 1 ≠ x) → g (69 + x) = .int .i64 (-1)

theorem Pows.congr {st : Nat → Nat} {n : Nat} {f g : Nat → Value} (h : Pows st n f) (e : ∀ o, 5 ≤ o → g o = f o) : Pows st n g :=
  ⟨fun k hk => (e _ (by omega)).trans (h.pow k hk), fun k hk => (e _ (by omega)).trans (h.log k hk), fun x hx hn => (e _ (by omega)).trans (h.no x hx hn)⟩

theorem full_step {st : Nat → Nat} {k x : Nat} (h : Full st k) (hx : x = again st k 1) (h0 : ¬ x = 0) (hj : ∀ j, j < k → again st j 1 ≠ x) : Full st (k + 1) := by
  intro i hi
  by_cases e : i = k
  · subst e; exact ⟨by rw [← hx]; exact h0, fun j hji => by rw [← hx]; exact hj j hji⟩
  · exact h i (by omega)

theorem pows_step {st : Nat → Nat} {k x : Nat} {g : Nat → Value} (hk : k < 64) (hx64 : x < 64) (hx : x = again st k 1) (hj : ∀ j, j < k → again st j 1 ≠ x) (h : Pows st k g) :
    Pows st (k + 1) (upd (upd g (5 + k) (.int .i64 x)) (69 + x) (.int .i64 k)) := by
  refine ⟨fun i hi => ?_, fun i hi => ?_, fun y hy hn => ?_⟩
  · rw [upd_ne _ _ _ (by omega)]
    by_cases e : i = k
    · subst e; rw [upd_at, hx]
    · rw [upd_ne _ _ _ (by omega)]; exact h.pow i (by omega)
  · by_cases e : i = k
    · subst e; rw [← hx, upd_at]
    · have := hj i (by omega)
      rw [upd_ne _ _ _ (by omega), upd_ne _ _ _ (by omega)]; exact h.log i (by omega)
  · have h1 := hn k (by omega)
    rw [← hx] at h1
    rw [upd_ne _ _ _ (by omega), upd_ne _ _ _ (by omega)]
    exact h.no y hy fun j hj => hn j (by omega)

theorem run112 (args : Array Value) (w1 : World) : Sem.run Try.prog (callFunc 95 args) w1 = .ok (.enter 95 args) w1 := by
  go_simp
theorem run113 (args : Array Value) (w1 : World) : Sem.run Try.prog (callFunc 96 args) w1 = .ok (.enter 96 args) w1 := by
  go_simp

set_option maxHeartbeats 2000000 in
set_option maxRecDepth 100000 in
theorem layPowers_any (T K q : Nat) (cp : Array Value) (st : Nat → Nat) (f : Nat → Value) (w : World) (hq2 : 2 ≤ q) (hq : q ≤ 64) (hst : ∀ a, a < q → st a < q)
    (hrun : ∀ (args : Array Value) (w1 : World), Sem.run Try.prog (callFunc K args) w1 = .ok (.enter K args) w1)
    (hr : RowF T 133 59 f w) (h0 : f 0 = .int .i64 q)
    (hstep : ∀ (a : Nat) (g : Nat → Value) (w1 : World), a < q → RowF T 133 59 g w1 → (∀ o, o < 5 → g o = f o) → w.grownBy w1 (some T) →
      Calls Try.prog K (#[.int .i64 a] ++ cp) w1 fun e w' => e = .returned (.int .i64 (st a)) ∧ ∃ n, w' = w1.drewN n) :
    Calls Try.prog 94 #[.pointer (some ⟨T, 0, none⟩), .func (.func K) #[] cp] w fun e w' => ∃ g, RowF T 133 59 g w' ∧ (∀ o, o < 5 → g o = f o) ∧ w.grownBy w' (some T) ∧
      ((Full st (q - 1) ∧ Pows st (q - 1) g ∧ e = .returned (.bool true)) ∨ (¬ Full st (q - 1) ∧ e = .returned (.bool false))) := by
  have HR : Hid (RowF T 133 59 f w) := hr
  have H0 : Hid (f 0 = .int .i64 q) := h0
  have HT : Hid (∀ a, a < q → st a < q) := hst
  have HP : Hid (∀ (a : Nat) (g : Nat → Value) (w1 : World), a < q → RowF T 133 59 g w1 → (∀ o, o < 5 → g o = f o) → w.grownBy w1 (some T) →
      Calls Try.prog K (#[.int .i64 a] ++ cp) w1 fun e w' => e = .returned (.int .i64 (st a)) ∧ ∃ n, w' = w1.drewN n) := hstep
  clear hr h0 hst hstep
  go_enter Try.func94, Try.ntmps94
  go_wp2
  go_loopw [8] (fun i wr => ∃ (k : Nat) (g : Nat → Value), k ≤ 64 ∧ i = .int .i64 k ∧ RowF T 133 59 g wr ∧ (∀ o, o < 5 → g o = f o) ∧ (∀ x, x < k → g (69 + x) = .int .i64 (-1)) ∧ w.grownBy wr (some T)) (fun i _ => 64 - (intOf i).toNat)
  case atStart => exact ⟨0, f, by omega, rfl, HR.out, fun _ _ => rfl, fun x hx => by omega, grown_refl _ _⟩
  case round =>
    obtain ⟨k, g, hk, rfl, hrow, hsame, hno, hgrow⟩ := hrel
    have hfree : ∀ o, wr.frozen? ⟨T, o, none⟩ = false := hrow.free
    have hc0 : wr.cell? ⟨T, 0, none⟩ = some (.int .i64 q) := by rw [hrow.cell 0 (by omega), hsame 0 (by omega), H0.out]
    have HG : Hid (RowF T 133 59 g wr ∧ (∀ o, o < 5 → g o = f o) ∧ (∀ x, x < k → g (69 + x) = .int .i64 (-1)) ∧ w.grownBy wr (some T)) := ⟨hrow, hsame, hno, hgrow⟩
    clear hrow hsame hno hgrow
    by_cases hlt : k < 64
    · have hcs : wr.cell? ⟨T, 69 + k, none⟩ = some (g (69 + k)) := HG.out.1.cell _ (by omega)
      go_wp2
      go_roundw
      case rel => exact ⟨k + 1, _, by omega, by go_num, HG.out.1.store _ _, fun o ho => (upd_ne _ _ _ (by omega)).trans (HG.out.2.1 o ho), fun x hx => if e : x = k then by rw [e, upd_at] else (upd_ne _ _ _ (by omega)).trans (HG.out.2.2.1 x (by omega)), grown_set HG.out.2.2.2 _ _⟩
      case measure => simp [intOf]; omega
    · have HK : Hid (∀ x, x < 64 → g (69 + x) = .int .i64 (-1)) := fun x hx => HG.out.2.2.1 x (by omega)
      clear hfree
      go_wp2
      go_loopw [6, 22] (fun a i wr => ∃ (k x : Nat) (g : Nat → Value), k ≤ q - 1 ∧ x < q ∧ i = .int .i64 k ∧ a = .int .i64 x ∧ Hid (x = again st k 1) ∧ RowF T 133 59 g wr ∧ (∀ o, o < 5 → g o = f o) ∧ Full st k ∧ Pows st k g ∧ w.grownBy wr (some T)) (fun _ i _ => q - (intOf i).toNat)
      case atStart => exact ⟨0, 1, g, by omega, by omega, rfl, rfl, rfl, HG.out.1, HG.out.2.1, fun k hk => by omega, ⟨fun k hk => by omega, fun k hk => by omega, fun x hx _ => HK.out x hx⟩, HG.out.2.2.2⟩
      case round =>
        clear HG hc0 HK
        obtain ⟨k, x, g, hk, hx, rfl, rfl, HX, hrow, hsame, hfull, hpows, hgrow⟩ := hrel
        have hfree : ∀ o, wr.frozen? ⟨T, o, none⟩ = false := hrow.free
        have HG : Hid (RowF T 133 59 g wr ∧ (∀ o, o < 5 → g o = f o) ∧ Full st k ∧ Pows st k g ∧ w.grownBy wr (some T)) := ⟨hrow, hsame, hfull, hpows, hgrow⟩
        clear hrow hsame hfull hpows hgrow
        by_cases hlt : k < q - 1
        · by_cases hx0 : x = 0
          · have HN : Hid (¬ Full st (q - 1)) := fun h => (h k hlt).1 (by rw [← HX.out, hx0])
            subst hx0
            go_wp2
            go_ret
            exact ⟨g, HG.out.1, HG.out.2.1, HG.out.2.2.2.2, Or.inr ⟨HN.out, rfl⟩⟩
          · have hb0 : ((x : Int) == 0) = false := by rw [beq_eq_false_iff_ne]; exact_mod_cast hx0
            by_cases hseen : ∃ j, j < k ∧ again st j 1 = x
            · obtain ⟨j, hj, hjx⟩ := hseen
              have hcl : wr.cell? ⟨T, 69 + x, none⟩ = some (.int .i64 j) := by rw [HG.out.1.cell _ (by omega), ← hjx, HG.out.2.2.2.1.log j hj]
              have hb1 : ((j : Int) != -1) = true := by rw [bne_iff_ne]; omega
              have HN : Hid (¬ Full st (q - 1)) := fun h => (h k hlt).2 j hj (by rw [hjx]; exact HX.out)
              clear hjx
              go_wp2
              go_ret
              exact ⟨g, HG.out.1, HG.out.2.1, HG.out.2.2.2.2, Or.inr ⟨HN.out, rfl⟩⟩
            · have hcl : wr.cell? ⟨T, 69 + x, none⟩ = some (.int .i64 (-1)) := by rw [HG.out.1.cell _ (by omega), HG.out.2.2.2.1.no x (by omega) (fun j hj e => hseen ⟨j, hj, e⟩)]
              have hcp : wr.cell? ⟨T, 5 + k, none⟩ = some (g (5 + k)) := HG.out.1.cell _ (by omega)
              have HJ : Hid (∀ j, j < k → again st j 1 ≠ x) := fun j hj e => hseen ⟨j, hj, e⟩
              clear hseen
              go_wp2
              go_region
              go_wp2_with fail
              refine (HP.out x _ _ hx ((HG.out.1.store _ _).store _ _).drew (fun o ho => ((upd_ne _ _ _ (by omega)).trans (upd_ne _ _ _ (by omega))).trans (HG.out.2.1 o ho)) (grown_drew (grown_set (grown_set HG.out.2.2.2.2 _ _) _ _))).mono ?_
              rintro e w' ⟨rfl, n, rfl⟩
              go_wp2
              go_roundw
              case rel => exact ⟨k + 1, st x, _, by omega, HT.out x hx, by go_num, by go_num, by rw [HX.out]; rfl, ((HG.out.1.store _ _).store _ _).drewN _, fun o ho => ((upd_ne _ _ _ (by omega)).trans (upd_ne _ _ _ (by omega))).trans (HG.out.2.1 o ho), full_step HG.out.2.2.1 HX.out hx0 HJ.out, pows_step (by omega) (by omega) HX.out HJ.out HG.out.2.2.2.1, grown_drewN (grown_set (grown_set HG.out.2.2.2.2 _ _) _ _) _⟩
              case measure => simp [intOf]; omega
        · have e : k = q - 1 := by omega
          have HF : Hid (Full st (q - 1) ∧ Pows st (q - 1) g) := by rw [← e]; exact ⟨HG.out.2.2.1, HG.out.2.2.2.1⟩
          clear e
          go_wp2
          go_ret
          exact ⟨g, HG.out.1, HG.out.2.1, HG.out.2.2.2.2, Or.inl ⟨HF.out.1, HF.out.2, rfl⟩⟩
end Go.Proofs.Ytcgmllamiaflcaa
