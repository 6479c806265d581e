/- Weights: the law's walk of MacWilliams' transform (printed by make/kb7.py). -/
import Derived.Test.YtnjbnamcedfjaaaZKB6
import Derived.Test.YtnjbnamcedfjaaaZL1
namespace Go.Proofs.Ytnjbnamcedfjaaa
open Go.RowKit Go.Sort

theorem outB_in {z : Nat → Int} {M : Int} : ∀ {n : Nat}, (∀ j, j < n → 0 ≤ z j ∧ z j ≤ M) → outB z M n = false
  | 0, _ => rfl
  | n + 1, h => by
    show (outB z M n || (decide (z n < 0) || decide (M < z n))) = false
    have h2 := h n (by omega)
    rw [outB_in (fun j hj => h j (by omega)), decide_eq_false (by omega), decide_eq_false (by omega)]; rfl
theorem outB_out {z : Nat → Int} {M : Int} {n j : Nat} (hj : j < n) (h : z j < 0 ∨ M < z j) : outB z M n = true := by
  cases e : outB z M n
  · have := outB_no e j hj; omega
  · rfl
theorem rpow_is (q n : Nat) (hq : 2 ≤ q) (hq2 : q ≤ 64) (hn : n ≤ 1000) (hp : q ^ n ≤ 1073741824) (w : World) :
    Calls Try.prog 34 #[.int .i64 (q : Nat), .int .i64 (n : Nat)] w fun e w' => e = .returned (.int .i64 (q ^ n : Nat)) ∧ w' = w := by
  refine (rpower_any q n hq hq2 (by omega) (by omega) w).mono ?_
  rintro e w' ⟨v, rfl, hw, h⟩
  rw [Int.toNat_natCast] at h
  rcases h with h | h
  · exact ⟨by rw [h.2], hw⟩
  · omega
theorem RowZ.slcB {g N cap : Nat} {z : Nat → Int} {w : World} (h : RowZ g N z w) (h0 : 0 < N) (hN : N ≤ 1000000) : SliceI (.slice (some ⟨g, 0, none⟩) N cap) (zl N z) w := by
  refine Or.inr ⟨fun e => ?_, by rw [zl_len]; exact hN, g, 0, cap, by rw [zl_len], fun j hj => ?_⟩
  · have := zl_len N z
    rw [e] at this
    simp at this
    omega
  · rw [zl_len] at hj
    rw [Nat.zero_add, zl_getD _ _ _ hj]
    exact h.cell j hj

set_option maxHeartbeats 2000000 in
set_option maxRecDepth 100000 in
theorem lt_err (q E0 : Int) (h0 : E0 ≠ 0) (ao : Option Addr) (N cap : Nat) (hN : N ≤ 100) {w : World}
    (hR : ∀ wx, Calls Try.prog 8 #[.int .i64 q, .int .i64 ((N : Int) - 1)] wx fun e w' => e = .returned (.int .i64 E0) ∧ Below wx.heap.size wx w')
    (hD : ∀ wx, Calls Try.prog 45 #[.int .i64 q, .slice ao N cap] wx fun e w' => e = .returned (.tuple #[.slice none 0 0, .int .i64 E0]) ∧ Below wx.heap.size wx w') :
    Calls Try.prog 14 #[.int .i64 q, .slice ao N cap] w fun e w' => e = .returned (.bool true) ∧ Below w.heap.size w w' := by
  have HR : Hid (∀ wx, Calls Try.prog 8 #[.int .i64 q, .int .i64 ((N : Int) - 1)] wx fun e w' => e = .returned (.int .i64 E0) ∧ Below wx.heap.size wx w') := hR
  have HD : Hid (∀ wx, Calls Try.prog 45 #[.int .i64 q, .slice ao N cap] wx fun e w' => e = .returned (.tuple #[.slice none 0 0, .int .i64 E0]) ∧ Below wx.heap.size wx w') := hD
  have HE : Hid (E0 ≠ 0) := h0
  have hz : (E0 == 0) = false := by rw [beq_eq_false_iff_ne]; exact h0
  have hz2 : decide (E0 = 0) = false := by rw [decide_eq_false_iff_not]; exact h0
  clear hR hD
  go_enter Try.func14, Try.ntmps14
  go_wp2_with fail
  refine (HR.out _).mono ?_
  rintro e w1 ⟨rfl, hb⟩
  have H1 : Hid (Below w.heap.size w w1) := hb
  clear hb
  go_wp2
  go_loopw [6, 7, 8] (fun ve va vi wr => ve = .int .i64 E0 ∧ va = .int .i64 0 ∧ vi = .int .i64 0 ∧ wr = w1) (fun _ _ _ _ => 0)
  case atStart => exact ⟨rfl, rfl, rfl, rfl⟩
  case round =>
    obtain ⟨rfl, rfl, rfl, hw⟩ := hrel
    have hw := hw.symm
    subst hw
    by_cases hN0 : (0 : Int) ≤ (N : Int) - 1
    · go_wp2_with fail
      refine (HD.out _).mono ?_
      rintro e w2 ⟨rfl, hb⟩
      have H2 : Hid (Below w.heap.size w w2) := bel_up' H1.out hb
      clear hb
      go_wp2_with fail
      refine (list_err2 E0 HE.out _ _ _ _).mono ?_
      rintro e w3 ⟨rfl, hw⟩
      have hw := hw.symm
      subst hw
      go_wp2
      go_ret
      exact ⟨rfl, H2.out⟩
    · go_wp2_with fail
      refine (HD.out _).mono ?_
      rintro e w2 ⟨rfl, hb⟩
      have H2 : Hid (Below w.heap.size w w2) := bel_up' H1.out hb
      clear hb
      go_wp2_with fail
      refine (list_err2 E0 HE.out _ _ _ _).mono ?_
      rintro e w3 ⟨rfl, hw⟩
      have hw := hw.symm
      subst hw
      go_wp2
      go_ret
      exact ⟨rfl, H2.out⟩

theorem wD_tog' {q n N : Nat} (hN : N = n + 1) (hQ : 2 ≤ q ∧ q ≤ 64) (hp : q ^ n ≤ 1073741824) {ao : Option Addr} {cap : Nat} {f : Nat → Int} {E : Int} (hE : tge f (q ^ n) N = E ∧ E ≠ 0) {w : World} (hX : Arg ao N cap f w) (hC : ∀ wx, Calls Try.prog 11 #[.int .i64 (q : Nat), .int .i64 (n : Nat)] wx fun e w' => e = .returned (.int .i64 0) ∧ Below wx.heap.size wx w') :
    Calls Try.prog 45 #[.int .i64 (q : Nat), .slice ao N cap] w fun e w' => e = .returned (.tuple #[.slice none 0 0, .int .i64 E]) ∧ Below w.heap.size w w' := by
  subst hN
  have h := wD_tog hQ.1 hQ.2 hp (by rw [hE.1]; exact hE.2) hX hC
  rw [hE.1] at h
  exact h
theorem wD_ok' {q n N : Nat} (hN : N = n + 1) (hQ : 2 ≤ q ∧ q ≤ 64) (hp : q ^ n ≤ 1073741824) {ao : Option Addr} {cap : Nat} {f : Nat → Int} (hE : tge f (q ^ n) N = 0) {w : World} (hX : Arg ao N cap f w) (hC : ∀ wx, Calls Try.prog 11 #[.int .i64 (q : Nat), .int .i64 (n : Nat)] wx fun e w' => e = .returned (.int .i64 0) ∧ Below wx.heap.size wx w') :
    Calls Try.prog 45 #[.int .i64 (q : Nat), .slice ao N cap] w (DuP n (dlm q n f) (tsm f N) w) := by
  subst hN
  exact wD_ok hQ.1 hQ.2 hp hE hX hC
theorem rT_any' {q n N : Nat} (hN : N = n + 1) (hQ : 2 ≤ q ∧ q ≤ 64) (hp : q ^ n ≤ 1073741824) {ao : Option Addr} {cap : Nat} {f : Nat → Int} (hE : tge f (q ^ n) N = 0) {S : Int} (hS : S = tsm f N) {w : World} (hX : Arg ao N cap f w) :
    Calls Try.prog 44 #[.int .i64 (q : Nat), .slice ao N cap, .int .i64 S] w (TuP n (dlm q n f) (tsm f N) w) := by
  subst hN
  rw [hS]
  exact rT_any hQ.1 hQ.2 hp hE hX

def LtI (N P : Nat) (f : Nat → Int) (ao : Option Addr) (cap : Nat) (w : World) (ve va vi : Value) (wr : World) : Prop := ∃ (i : Nat) (s : Int) (b : Bool), i ≤ N ∧ ve = .int .i64 (if b = true then 2 else 0) ∧ va = .int .i64 s ∧ vi = .int .i64 (i : Nat) ∧ Hid ((b = false → s = tsm f i ∧ ∀ j, j < i → 0 ≤ f j ∧ f j ≤ (P : Int)) ∧ (b = true → outB f P N = true)) ∧ Hid (Below w.heap.size w wr ∧ Arg ao N cap f wr)

set_option maxHeartbeats 4000000 in
set_option maxRecDepth 100000 in
theorem lt_ok {q n : Nat} (hq : 2 ≤ q) (hq2 : q ≤ 64) (hp : q ^ n ≤ 1073741824) {ao : Option Addr} {cap : Nat} {f : Nat → Int} {w : World} (hX : Arg ao (n + 1) cap f w)
    (hR : ∀ wx, Calls Try.prog 8 #[.int .i64 (q : Nat), .int .i64 (n : Nat)] wx fun e w' => e = .returned (.int .i64 0) ∧ Below wx.heap.size wx w')
    (hC : ∀ wx, Calls Try.prog 11 #[.int .i64 (q : Nat), .int .i64 (n : Nat)] wx fun e w' => e = .returned (.int .i64 0) ∧ Below wx.heap.size wx w') :
    Calls Try.prog 14 #[.int .i64 (q : Nat), .slice ao (n + 1 : Nat) cap] w fun e w' => e = .returned (.bool true) ∧ Below w.heap.size w w' := by
  obtain ⟨N, hN0⟩ : ∃ N, N = n + 1 := ⟨_, rfl⟩
  rw [← hN0] at hX ⊢
  have hn1 : (N : Int) - 1 = (n : Int) := by omega
  have hn30 : n ≤ 30 := pow30 hq hp
  have hN31 : N ≤ 31 := by omega
  have HG : Hid (N = n + 1 ∧ (2 ≤ q ∧ q ≤ 64) ∧ q ^ n ≤ 1073741824 ∧ (N = n + 1)) := ⟨hN0, ⟨hq, hq2⟩, hp, hN0⟩
  have HR : Hid (∀ wx, Calls Try.prog 8 #[.int .i64 (q : Nat), .int .i64 (n : Nat)] wx fun e w' => e = .returned (.int .i64 0) ∧ Below wx.heap.size wx w') := hR
  have HC : Hid (∀ wx, Calls Try.prog 11 #[.int .i64 (q : Nat), .int .i64 (n : Nat)] wx fun e w' => e = .returned (.int .i64 0) ∧ Below wx.heap.size wx w') := hC
  have HX : Hid (Arg ao N cap f w) := hX
  obtain ⟨P, hP⟩ : ∃ P, P = q ^ n := ⟨_, rfl⟩
  have HPw : Hid (∀ ww : World, Calls Try.prog 34 #[.int .i64 (q : Nat), .int .i64 (n : Nat)] ww fun e w' => e = .returned (.int .i64 (P : Nat)) ∧ w' = ww) := fun ww => by
    rw [hP]; exact rpow_is q n hq hq2 (by omega) hp ww
  have hPb : P ≤ 1073741824 := by rw [hP]; exact hp
  have HPq : Hid (P = q ^ n) := hP
  clear hR hC hX hP hp hN0
  go_enter Try.func14, Try.ntmps14
  go_wp2_with fail
  refine (HR.out _).mono ?_
  rintro e w1 ⟨rfl, hb⟩
  have H1 : Hid (Below w.heap.size w w1 ∧ Arg ao N cap f w1) := ⟨hb, HX.out.below hb⟩
  clear hb
  go_wp2
  go_loopw [6, 7, 8] (fun ve va vi wr => LtI N P f ao cap w ve va vi wr) (fun _ _ vi _ => N - (intOf vi).toNat)
  case atStart => exact ⟨0, 0, false, by omega, rfl, rfl, rfl, ⟨fun _ => ⟨rfl, fun j hj => absurd hj (by omega)⟩, fun h => by cases h⟩, H1.out⟩
  case round =>
    obtain ⟨i, s, b, hi, rfl, rfl, rfl, HI, HW⟩ := hrel
    rename World => wr
    clear H1 HR HX
    cases b
    · rw [if_neg (by simp)]
      have HB : Hid (s = tsm f i ∧ ∀ j, j < i → 0 ≤ f j ∧ f j ≤ (P : Int)) := HI.out.1 rfl
      clear HI
      have hsb : 0 ≤ s ∧ s ≤ 34359738368 := by
        rw [HB.out.1]
        have h1 := tsm_nn (fun j hj => (HB.out.2 j hj).1) i (Nat.le_refl _)
        have h2 := tsm_cap (fun j hj => (HB.out.2 j hj).2) i (Nat.le_refl _)
        have h3 : i * P ≤ 32 * 1073741824 := Nat.mul_le_mul (by omega) hPb
        omega
      by_cases hlt : i < N
      · have hib : (i : Int) ≤ (n : Int) := by have := HG.out.1; omega
        have hiN : (i : Int) < (N : Int) := by omega
        have hi0 : (0 : Int) ≤ (i : Int) := by omega
        obtain ⟨y, hy⟩ : ∃ y, y = f i := ⟨_, rfl⟩
        obtain ⟨b, off, hao, c0⟩ := HW.out.2.sl i hlt
        subst hao
        rw [← hy] at c0
        have HPq2 : Hid (∀ d, Calls Try.prog 34 #[.int .i64 (q : Nat), .int .i64 (n : Nat)] (wr.drewN d) fun e w' => e = .returned (.int .i64 (P : Nat)) ∧ ∃ k, w' = (wr.drewN d).drewN k) := fun d => (HPw.out _).mono (fun e w' h => ⟨h.1, 0, by rw [h.2]; rfl⟩)
        have HY : Hid (y = f i) := hy
        clear hy
        by_cases hneg : y < 0
        · have HO : Hid (outB f P N = true) := outB_out hlt (Or.inl (by rw [← HY.out]; exact hneg))
          go_wp2
          go_quiet (first | (go_at_call 34; exact Calls.quiet_of (HPq2.out _)))
          go_wp2
          go_roundw
          case rel => exact ⟨i + 1, s, true, by omega, by first | rfl | simp, rfl, by go_num, ⟨(fun h => by cases h), fun _ => HO.out⟩, below_drewN2 HW.out.1 _, HW.out.2.below (below_drewN2 (Below.refl _ _) _)⟩
          case measure => simp [intOf]; omega
        · by_cases hgt : (P : Int) < y
          · have hgt2 : y > (P : Int) := hgt
            have HO : Hid (outB f P N = true) := outB_out hlt (Or.inr (by rw [← HY.out]; exact hgt))
            go_wp2
            go_quiet (first | (go_at_call 34; exact Calls.quiet_of (HPq2.out _)))
            go_wp2
            go_roundw
            case rel => exact ⟨i + 1, s, true, by omega, by first | rfl | simp, rfl, by go_num, ⟨(fun h => by cases h), fun _ => HO.out⟩, below_drewN2 HW.out.1 _, HW.out.2.below (below_drewN2 (Below.refl _ _) _)⟩
            case measure => simp [intOf]; omega
          · have hgt2 : ¬ y > (P : Int) := hgt
            have HS : Hid (s + y = tsm f (i + 1) ∧ ∀ j, j < i + 1 → 0 ≤ f j ∧ f j ≤ (P : Int)) := by
              refine ⟨by rw [tsm_succ, HB.out.1, HY.out], fun j hj => ?_⟩
              by_cases e : j = i
              · rw [e, ← HY.out]; omega
              · exact HB.out.2 j (by omega)
            go_wp2
            go_quiet (first | (go_at_call 34; exact Calls.quiet_of (HPq2.out _)))
            go_wp2
            go_roundw
            case rel => exact ⟨i + 1, s + y, false, by omega, by first | rfl | simp, by first | rfl | go_num, by go_num, ⟨fun _ => HS.out, fun h => by cases h⟩, below_drewN2 HW.out.1 _, HW.out.2.below (below_drewN2 (Below.refl _ _) _)⟩
            case measure => simp [intOf]; omega
      · have hib : ¬ (i : Int) ≤ (n : Int) := by have := HG.out.1; omega
        have hie : i = N := by omega
        subst hie
        have HE : Hid (tge f (q ^ n) i = if (P : Int) < s then 2 else if s = 0 then 5 else 0) := by
          show tge f (q ^ n) i = _
          unfold tge
          rw [← HPq.out, outB_in HB.out.2, HB.out.1, if_neg (by simp)]
        by_cases hgt : (P : Int) < s
        · have hgt2 : s > (P : Int) := hgt
          have HE2 : Hid (tge f (q ^ n) i = 2 ∧ (2 : Int) ≠ 0) := ⟨by rw [HE.out, if_pos hgt], by decide⟩
          go_wp2_with fail
          refine (HPw.out _).mono ?_
          rintro e w2 ⟨rfl, hw⟩
          have hw := hw.symm
          subst hw
          go_wp2_with fail
          refine (wD_tog' HG.out.1 HG.out.2.1 HG.out.2.2.1 HE2.out HW.out.2 HC.out).mono ?_
          rintro e w2 ⟨rfl, hb⟩
          have H2 : Hid (Below w.heap.size w w2) := bel_up' HW.out.1 hb
          clear hb
          go_wp2_with fail
          refine (list_err2 2 (by decide) _ _ _ _).mono ?_
          rintro e w3 ⟨rfl, hw⟩
          have hw := hw.symm
          subst hw
          go_wp2
          go_ret
          exact ⟨rfl, H2.out⟩
        · have hgt2 : ¬ s > (P : Int) := hgt
          by_cases hs0 : s = 0
          · have HE2 : Hid (tge f (q ^ n) i = 5 ∧ (5 : Int) ≠ 0) := ⟨by rw [HE.out, if_neg hgt, if_pos hs0], by decide⟩
            clear HE HB
            subst hs0
            go_wp2_with fail
            refine (HPw.out _).mono ?_
            rintro e w2 ⟨rfl, hw⟩
            have hw := hw.symm
            subst hw
            go_wp2_with fail
            refine (wD_tog' HG.out.1 HG.out.2.1 HG.out.2.2.1 HE2.out HW.out.2 HC.out).mono ?_
            rintro e w2 ⟨rfl, hb⟩
            have H2 : Hid (Below w.heap.size w w2) := bel_up' HW.out.1 hb
            clear hb
            go_wp2_with fail
            refine (list_err2 5 (by decide) _ _ _ _).mono ?_
            rintro e w3 ⟨rfl, hw⟩
            have hw := hw.symm
            subst hw
            go_wp2
            go_ret
            exact ⟨rfl, H2.out⟩
          · have HE2 : Hid (tge f (q ^ n) i = 0) := by show _ = _; rw [HE.out, if_neg hgt, if_neg hs0]
            have hz : (s == 0) = false := by rw [beq_eq_false_iff_ne]; exact hs0
            have hz2 : decide (s = 0) = false := by rw [decide_eq_false_iff_not]; exact hs0
            go_wp2_with fail
            refine (HPw.out _).mono ?_
            rintro e w2 ⟨rfl, hw⟩
            have hw := hw.symm
            subst hw
            go_wp2_with fail
            refine (rT_any' HG.out.1 HG.out.2.1 HG.out.2.2.1 HE2.out HB.out.1 HW.out.2).mono ?_
            rintro e w2 ⟨hb, hc⟩
            have H2 : Hid (Below w.heap.size w w2 ∧ Arg ao i cap f w2) := ⟨bel_up' HW.out.1 hb, HW.out.2.below hb⟩
            clear hb
            rcases hc with ⟨hgood, v, rfl, hown⟩ | ⟨hbad, rfl⟩
            · have HV : Hid (KI v (zl (n + 1) fun k => (dlm q n f k).tdiv (tsm f i)) w2 ∧ ∀ k, k ≤ n → dgd (dlm q n f k) (tsm f i)) := ⟨hown.ki (by rw [zl_len]; omega), hgood⟩
              clear hown hgood
              go_wp2_with fail
              refine (wD_ok' HG.out.1 HG.out.2.1 HG.out.2.2.1 HE2.out H2.out.2 HC.out).mono ?_
              rintro e w3 ⟨hb, hc⟩
              have H3 : Hid (Below w.heap.size w w3 ∧ KI v (zl (n + 1) fun k => (dlm q n f k).tdiv (tsm f i)) w3) := ⟨bel_up' H2.out.1 hb, HV.out.1.below hb⟩
              clear hb
              rcases hc with ⟨_, g, cp, rfl, hg, hrow⟩ | ⟨hbad, rfl⟩
              · have HL : Hid (Calls Try.prog 25 #[.slice (some ⟨g, 0, none⟩) (n + 1 : Nat) cp, .int .i64 0, v, .int .i64 0] w3 fun r w' => r = .returned (.bool true) ∧ ∃ n, w' = w3.drewN n) := list_same (hrow.slcB (by omega) (by omega)) H3.out.2.1
                clear hrow hg
                go_wp2_with fail
                refine HL.out.mono ?_
                rintro e w4 ⟨rfl, nd, rfl⟩
                go_wp2
                go_ret
                exact ⟨rfl, below_drewN2 H3.out.1 _⟩
              · obtain ⟨k, hk, hn⟩ := hbad
                exact absurd (HV.out.2 k hk) hn
            · have HBd : Hid (∃ k, k ≤ n ∧ ¬ dgd (dlm q n f k) (tsm f i)) := hbad
              clear hbad
              go_wp2_with fail
              refine (wD_ok' HG.out.1 HG.out.2.1 HG.out.2.2.1 HE2.out H2.out.2 HC.out).mono ?_
              rintro e w3 ⟨hb, hc⟩
              have H3 : Hid (Below w.heap.size w w3) := bel_up' H2.out.1 hb
              clear hb
              rcases hc with ⟨hgood, _⟩ | ⟨_, rfl⟩
              · obtain ⟨k, hk, hn⟩ := HBd.out
                exact absurd (hgood k hk) hn
              · go_wp2_with fail
                refine (list_err2 3 (by decide) _ _ _ _).mono ?_
                rintro e w4 ⟨rfl, hw⟩
                have hw := hw.symm
                subst hw
                go_wp2
                go_ret
                exact ⟨rfl, H3.out⟩
    · rw [if_pos rfl]
      have HE2 : Hid (tge f (q ^ n) N = 2 ∧ (2 : Int) ≠ 0) := ⟨by unfold tge; rw [← HPq.out, if_pos (HI.out.2 rfl)], by decide⟩
      clear HI
      by_cases hib : (i : Int) ≤ (n : Int)
      · skip
        go_wp2_with fail
        refine (wD_tog' HG.out.1 HG.out.2.1 HG.out.2.2.1 HE2.out HW.out.2 HC.out).mono ?_
        rintro e w2 ⟨rfl, hb⟩
        have H2 : Hid (Below w.heap.size w w2) := bel_up' HW.out.1 hb
        clear hb
        go_wp2_with fail
        refine (list_err2 2 (by decide) _ _ _ _).mono ?_
        rintro e w3 ⟨rfl, hw⟩
        have hw := hw.symm
        subst hw
        go_wp2
        go_ret
        exact ⟨rfl, H2.out⟩
      · skip
        go_wp2_with fail
        refine (wD_tog' HG.out.1 HG.out.2.1 HG.out.2.2.1 HE2.out HW.out.2 HC.out).mono ?_
        rintro e w2 ⟨rfl, hb⟩
        have H2 : Hid (Below w.heap.size w w2) := bel_up' HW.out.1 hb
        clear hb
        go_wp2_with fail
        refine (list_err2 2 (by decide) _ _ _ _).mono ?_
        rintro e w3 ⟨rfl, hw⟩
        have hw := hw.symm
        subst hw
        go_wp2
        go_ret
        exact ⟨rfl, H2.out⟩

/-- The law's turned, whatever it is given. -/
theorem lt_any (q : Int) {ao : Option Addr} {N cap : Nat} {f : Nat → Int} (hN : N ≤ 100) {w : World} (hX : Arg ao N cap f w) :
    Calls Try.prog 14 #[.int .i64 q, .slice ao N cap] w fun e w' => e = .returned (.bool true) ∧ Below w.heap.size w w' := by
  by_cases hq : ∃ D ∈ fieldsL, (D.q : Int) = q
  · obtain ⟨D, hD, rfl⟩ := hq
    by_cases h0 : D.wck ((N : Int) - 1) = 0
    · obtain ⟨m, hm, h1, h2, h3⟩ := wck_ok (fld hD) h0
      have hNm : N = m + 1 := by omega
      subst hNm
      have hw0 : D.wck (m : Int) = 0 := by rw [← hm]; exact h0
      refine lt_ok (fld hD).q2 (fld hD).q64 h3 hX (fun wx => ?_) (fun wx => ?_)
      · have h := rcount_any hD (m : Int) (by omega) wx
        rw [hw0] at h; exact h
      · have h := wcheck_any hD (m : Int) (by omega) wx
        rw [hw0] at h; exact h
    · exact lt_err D.q _ h0 ao N cap hN (fun wx => rcount_any hD _ (by omega) wx) (fun wx => wD_err D.q _ h0 ao N cap (by omega) (fun wy => wcheck_any hD _ (by omega) wy))
  · have hn : ∀ D ∈ fieldsL, (D.q : Int) ≠ q := fun D hD he => hq ⟨D, hD, he⟩
    exact lt_err q 1 (by decide) ao N cap hN (fun wx => rcount_none q hn _ wx) (fun wx => wD_err q 1 (by decide) ao N cap (by omega) (fun wy => wcheck_none q hn _ wy))
end Go.Proofs.Ytnjbnamcedfjaaa
