/- Trellises: Encode. -/
import Derived.Test.YtlljaliemldjkaaZKV3
import Derived.Test.YtlljaliemldjkaaZKE21
namespace Go.Proofs.Ytlljaliemldjkaa
open Go.RowKit Go.Sort

theorem allP_mk {p : Int → Bool} {z : Nat → Int} : ∀ n, (∀ j, j < n → p (z j) = true) → allP p z n = true
  | 0, _ => rfl
  | n + 1, h => by
    show (allP p z n && p (z n)) = true
    rw [allP_mk n (fun j hj => h j (by omega)), h n (by omega)]; rfl
theorem two_or {x b : Nat} (hb : b ≤ 1) : x * 2 ||| b = 2 * x + b := by
  have h := Nat.two_pow_add_eq_or_of_lt (i := 1) (b := b) (by omega) x
  rw [Nat.pow_one] at h
  rw [Nat.mul_comm x 2, ← h]
set_option maxHeartbeats 2000000 in
set_option maxRecDepth 100000 in
theorem tencode_e1 {E : Int} (hE : E ≠ 0) {ao bo : Option Addr} {R ca n cb : Nat} {w : World} (hC : Calls Try.prog 10 #[.slice ao R ca] w fun e w' => e = .returned (.int .i64 E) ∧ w' = w) :
    Calls Try.prog 9 #[.slice ao R ca, .slice bo n cb] w fun e w' => e = .returned (.tuple #[.slice none 0 0, .int .i64 E]) ∧ w' = w := by
  have HC : Hid (Calls Try.prog 10 #[.slice ao R ca] w fun e w' => e = .returned (.int .i64 E) ∧ w' = w) := hC
  have hz : (E != 0) = true := bne_iff_ne.2 hE
  clear hC
  go_enter Try.func9, Try.ntmps9
  go_wp2_with fail
  refine HC.out.mono ?_
  rintro e w' ⟨rfl, hw⟩
  have hw := hw.symm
  subst hw
  go_wp2
  go_ret2
  exact ⟨rfl, rfl⟩
set_option maxHeartbeats 2000000 in
set_option maxRecDepth 100000 in
theorem tencode_e2 {ao bo : Option Addr} {R ca n cb : Nat} {w : World} (hC : Calls Try.prog 10 #[.slice ao R ca] w fun e w' => e = .returned (.int .i64 0) ∧ w' = w) (hn : 20 < n) :
    Calls Try.prog 9 #[.slice ao R ca, .slice bo n cb] w fun e w' => e = .returned (.tuple #[.slice none 0 0, .int .i64 4]) ∧ w' = w := by
  have HC : Hid (Calls Try.prog 10 #[.slice ao R ca] w fun e w' => e = .returned (.int .i64 0) ∧ w' = w) := hC
  have hz : (20 : Int) < (n : Int) := by omega
  clear hC
  go_enter Try.func9, Try.ntmps9
  go_wp2_with fail
  refine HC.out.mono ?_
  rintro e w' ⟨rfl, hw⟩
  have hw := hw.symm
  subst hw
  go_wp2
  go_ret2
  exact ⟨rfl, rfl⟩
set_option maxHeartbeats 2000000 in
set_option maxRecDepth 100000 in
theorem tencode_e3 {ao bo : Option Addr} {R ca n cb : Nat} {y : Nat → Int} {w : World} (hC : Calls Try.prog 10 #[.slice ao R ca] w fun e w' => e = .returned (.int .i64 0) ∧ w' = w) (hn : n ≤ 20) (hY : SlZ bo n y w) (hb : allP isbt y n = false) :
    Calls Try.prog 9 #[.slice ao R ca, .slice bo n cb] w fun e w' => e = .returned (.tuple #[.slice none 0 0, .int .i64 2]) ∧ w' = w := by
  have HC : Hid (Calls Try.prog 10 #[.slice ao R ca] w fun e w' => e = .returned (.int .i64 0) ∧ w' = w) := hC
  have HB : Hid (Calls Try.prog 26 #[.slice bo n cb] w fun e w' => e = .returned (.bool false) ∧ w' = w) := by rw [← hb]; exact bAll_any hY (by omega)
  have hz : ¬ (20 : Int) < (n : Int) := by omega
  clear hC hY hb
  go_enter Try.func9, Try.ntmps9
  go_wp2_with fail
  refine HC.out.mono ?_
  rintro e w' ⟨rfl, hw⟩
  have hw := hw.symm
  subst hw
  go_wp2_with fail
  refine HB.out.mono ?_
  rintro e w' ⟨rfl, hw⟩
  have hw := hw.symm
  subst hw
  go_wp2
  go_ret2
  exact ⟨rfl, rfl⟩
set_option maxHeartbeats 16000000 in
set_option maxRecDepth 100000 in
theorem tencode_ok {ao bo : Option Addr} {R ca n cb : Nat} {z m : Nat → Nat} {w : World} (hX : RlA ao R z w) (hM : BtA bo n m w) (hn : n ≤ 20) :
    Calls Try.prog 9 #[.slice ao R ca, .slice bo n cb] w fun e w' => ∃ v, e = .returned (.tuple #[v, .int .i64 0]) ∧ OwnI w.heap.size v (sgL z R m n (R * (n + mmr z R))) w' ∧ Below w.heap.size w w' := by
  have HX : Hid (RlA ao R z w ∧ BtA bo n m w) := ⟨hX, hM⟩
  have hR3 := hX.rz.few
  have HC : Hid (Calls Try.prog 10 #[.slice ao R ca] w fun e w' => e = .returned (.int .i64 0) ∧ w' = w) := by
    have h := tcheck_any (ca := ca) hX.rz.sl (by omega)
    have e : tck R (fun i => ((z i : Nat) : Int)) = 0 := by
      unfold tck
      have h1 := hX.rz.one
      rw [if_neg (by omega), if_pos (allP_mk R fun i hi => decide_eq_true (by have := hX.rz.lo i hi; have := hX.rz.hi i hi; omega))]
    rw [e] at h
    exact h
  have HB : Hid (Calls Try.prog 26 #[.slice bo n cb] w fun e w' => e = .returned (.bool true) ∧ w' = w) := by
    have h := bAll_any (cap := cb) hM.sl (by omega)
    rw [allP_mk n (fun i hi => decide_eq_true (by have := hM.bit i hi; omega))] at h
    exact h
  obtain ⟨M, hMe⟩ : ∃ M, M = mmr z R := ⟨_, rfl⟩
  have hM4 : M ≤ 4 := by rw [hMe]; exact mmr_le z R
  have HMm : Hid (Calls Try.prog 27 #[.slice ao R ca] w fun e w' => e = .returned (.int .i64 (M : Nat)) ∧ w' = w) := by rw [hMe]; exact tmemory_any hX.rz
  rw [← hMe]
  obtain ⟨T, hT⟩ : ∃ T, T = n + M := ⟨_, rfl⟩
  have hTw : IntKind.i64.wrap ((n : Int) + (M : Int)) = (T : Int) := wrap_to (by omega) (by omega)
  have hT24 : T ≤ 24 := by omega
  have hz : ¬ (20 : Int) < (n : Int) := by omega
  rw [← hT]
  clear hX hM hMe hT
  go_enter Try.func9, Try.ntmps9
  go_wp2_with fail
  refine HC.out.mono ?_
  rintro e w' ⟨rfl, hw⟩
  have hw := hw.symm
  subst hw
  go_wp2_with fail
  refine HB.out.mono ?_
  rintro e w' ⟨rfl, hw⟩
  have hw := hw.symm
  subst hw
  go_wp2_with fail
  refine HMm.out.mono ?_
  rintro e w' ⟨rfl, hw⟩
  have hw := hw.symm
  subst hw
  go_wp2
  go_loopw [7, 8, 28] (fun vl vx vi wr => ∃ i x : Nat, vx = .int .i64 (x : Nat) ∧ vi = .int .i64 (i : Nat) ∧ i ≤ T ∧ Hid (x = snm m n i ∧ OwnI w.heap.size vl (sgL z R m n (R * i)) wr ∧ Below w.heap.size w wr)) (fun _ _ vi _ => T - (intOf vi).toNat)
  case atStart => exact ⟨0, 0, rfl, rfl, by omega, rfl, OwnI.nil _ _, Below.refl _ _⟩
  case round =>
    obtain ⟨i, x, rfl, rfl, hi, HI⟩ := hrel
    rename World => wr
    by_cases hlt : i < T
    · have hib : (i : Int) < (T : Int) := by omega
      have hib0 : (0 : Int) ≤ (i : Int) := by omega
      have hxb : x < 16777216 := by
        rw [HI.out.1]
        exact Nat.lt_of_lt_of_le (snm_lt HX.out.2.bit i) (Nat.le_trans (Nat.pow_le_pow_right (by omega) (show i ≤ 24 by omega)) (by decide))
      have hMx := HX.out.2.below HI.out.2.2
      by_cases hin : i < n
      · have hinb : (i : Int) < (n : Int) := by omega
        obtain ⟨b2, off2, e2, hc2⟩ := hMx.sl i hin
        subst e2
        obtain ⟨y, hy⟩ : ∃ y, y = m i := ⟨_, rfl⟩
        replace hc2 : wr.cell? ⟨b2, off2 + i, none⟩ = some (.int .i64 (y : Nat)) := by rw [hy]; exact hc2
        have hy1 : y ≤ 1 := by rw [hy]; exact hMx.bit i hin
        obtain ⟨x1, hx1⟩ : ∃ x1, x1 = 2 * x + y := ⟨_, rfl⟩
        have hx1b : x1 < 33554432 := by omega
        have hor : bits BinOp.or IntKind.i64 ((x : Int) * 2) (y : Int) = (x1 : Int) := by
          have e : (x : Int) * 2 = ((x * 2 : Nat) : Int) := by omega
          rw [e, or_i64n (by omega) (by omega), two_or hy1, hx1]
        have HX1 : Hid (x1 = snm m n (i + 1)) := by show x1 = 2 * snm m n i + _; rw [if_pos hin, ← HI.out.1, hx1, hy]
        clear hy hx1 hMx
        go_wp2
        go_loopw [7, 45] (fun vl vk wx => ∃ k : Nat, vk = .int .i64 (k : Nat) ∧ k ≤ R ∧ Hid (OwnI w.heap.size vl (sgL z R m n (R * i + k)) wx ∧ Below w.heap.size w wx)) (fun _ vk _ => R - (intOf vk).toNat)
        case atStart => exact ⟨0, rfl, by omega, HI.out.2.1, HI.out.2.2⟩
        case round =>
          obtain ⟨k, rfl, hk, HK⟩ := hrel
          rename World => wx
          by_cases hkl : k < R
          · have hkb : (k : Int) < (R : Int) := by omega
            have hkb0 : (0 : Int) ≤ (k : Int) := by omega
            have hRx := HX.out.1.below HK.out.2
            obtain ⟨b, off, e1, hcell⟩ := hRx.rz.sl k hkl
            obtain ⟨v, hv⟩ : ∃ v, v = z k := ⟨_, rfl⟩
            replace hcell : wx.cell? ⟨b, off + k, none⟩ = some (.int .i64 (v : Nat)) := by rw [hv]; exact hcell
            have hvb : v ≤ 31 := by rw [hv]; exact hRx.rz.hi k hkl
            obtain ⟨t, ht⟩ : ∃ t, t = sgb v x1 := ⟨_, rfl⟩
            have HSg : Hid (Calls Try.prog 28 #[.int .i64 (v : Nat), .int .i64 (x1 : Nat)] wx fun e w' => e = .returned (.int .i64 (t : Nat)) ∧ w' = wx) := by rw [ht]; exact tsign_any hvb (by omega) wx
            have HN : Hid (sgL z R m n (R * i + (k + 1)) = sgL z R m n (R * i + k) ++ [((t : Nat) : Int)]) := by
              rw [sgL_next hkl, ← hv, ← HX1.out, ht]; exact rfl
            have hll : (sgL z R m n (R * i + k)).length ≤ 1000000 := by
              rw [sgL_len]
              have : R * i ≤ 3 * 24 := Nat.mul_le_mul hR3 (by omega)
              omega
            have hsz := HK.out.2.size
            subst e1
            clear hv hRx ht
            go_wp2_with fail
            refine HSg.out.mono ?_
            rintro e w4 ⟨rfl, hw⟩
            have hw := hw.symm
            subst hw
            go_wp2_with (at_builtin; refine append_int rfl _ _ rfl w.heap.size _ (sgL z R m n (R * i + k)) rfl (HK.out.1.alloc _) ⟨_, 0, none⟩ 1 (t : Nat) rfl (by simp) hll (by simp; omega) ?_; intro v2 w3 hown3 hgrow3)
            have HN3 : Hid (OwnI w.heap.size v2 (sgL z R m n (R * i + (k + 1))) w3 ∧ Below w.heap.size w w3) := ⟨by rw [HN.out]; exact hown3, (HK.out.2.alloc hsz _).grown hgrow3 (by simp; omega) (fun q hq => (HK.out.1.lt q hq).1)⟩
            clear hown3 hgrow3
            try go_wp2
            go_roundw
            case rel => exact ⟨k + 1, by go_num, by omega, HN3.out⟩
            case measure => simp [intOf]; omega
          · have hkb : ¬ (k : Int) < (R : Int) := by omega
            have hke : R = k := by omega
            have HN : Hid (sgL z R m n (R * i + k) = sgL z R m n (R * (i + 1))) := by show sgL _ _ _ _ _ = _; rw [Nat.mul_add, Nat.mul_one, hke]
            clear hke
            go_wp2
            go_roundw
            case rel => exact ⟨i + 1, x1, by first | rfl | rw [hor], by go_num, by omega, HX1.out, by rw [← HN.out]; exact HK.out.1, HK.out.2⟩
            case measure => simp [intOf]; omega
      · have hinb : ¬ (i : Int) < (n : Int) := by omega
        obtain ⟨x1, hx1⟩ : ∃ x1, x1 = 2 * x := ⟨_, rfl⟩
        have hx1b : x1 < 33554432 := by omega
        have hor : (x : Int) * 2 = (x1 : Int) := by omega
        have HX1 : Hid (x1 = snm m n (i + 1)) := by show x1 = 2 * snm m n i + _; rw [if_neg hin, ← HI.out.1, hx1]; rfl
        clear hx1 hMx
        go_wp2
        go_loopw [7, 45] (fun vl vk wx => ∃ k : Nat, vk = .int .i64 (k : Nat) ∧ k ≤ R ∧ Hid (OwnI w.heap.size vl (sgL z R m n (R * i + k)) wx ∧ Below w.heap.size w wx)) (fun _ vk _ => R - (intOf vk).toNat)
        case atStart => exact ⟨0, rfl, by omega, HI.out.2.1, HI.out.2.2⟩
        case round =>
          obtain ⟨k, rfl, hk, HK⟩ := hrel
          rename World => wx
          by_cases hkl : k < R
          · have hkb : (k : Int) < (R : Int) := by omega
            have hkb0 : (0 : Int) ≤ (k : Int) := by omega
            have hRx := HX.out.1.below HK.out.2
            obtain ⟨b, off, e1, hcell⟩ := hRx.rz.sl k hkl
            obtain ⟨v, hv⟩ : ∃ v, v = z k := ⟨_, rfl⟩
            replace hcell : wx.cell? ⟨b, off + k, none⟩ = some (.int .i64 (v : Nat)) := by rw [hv]; exact hcell
            have hvb : v ≤ 31 := by rw [hv]; exact hRx.rz.hi k hkl
            obtain ⟨t, ht⟩ : ∃ t, t = sgb v x1 := ⟨_, rfl⟩
            have HSg : Hid (Calls Try.prog 28 #[.int .i64 (v : Nat), .int .i64 (x1 : Nat)] wx fun e w' => e = .returned (.int .i64 (t : Nat)) ∧ w' = wx) := by rw [ht]; exact tsign_any hvb (by omega) wx
            have HN : Hid (sgL z R m n (R * i + (k + 1)) = sgL z R m n (R * i + k) ++ [((t : Nat) : Int)]) := by
              rw [sgL_next hkl, ← hv, ← HX1.out, ht]; exact rfl
            have hll : (sgL z R m n (R * i + k)).length ≤ 1000000 := by
              rw [sgL_len]
              have : R * i ≤ 3 * 24 := Nat.mul_le_mul hR3 (by omega)
              omega
            have hsz := HK.out.2.size
            subst e1
            clear hv hRx ht
            go_wp2_with fail
            refine HSg.out.mono ?_
            rintro e w4 ⟨rfl, hw⟩
            have hw := hw.symm
            subst hw
            go_wp2_with (at_builtin; refine append_int rfl _ _ rfl w.heap.size _ (sgL z R m n (R * i + k)) rfl (HK.out.1.alloc _) ⟨_, 0, none⟩ 1 (t : Nat) rfl (by simp) hll (by simp; omega) ?_; intro v2 w3 hown3 hgrow3)
            have HN3 : Hid (OwnI w.heap.size v2 (sgL z R m n (R * i + (k + 1))) w3 ∧ Below w.heap.size w w3) := ⟨by rw [HN.out]; exact hown3, (HK.out.2.alloc hsz _).grown hgrow3 (by simp; omega) (fun q hq => (HK.out.1.lt q hq).1)⟩
            clear hown3 hgrow3
            try go_wp2
            go_roundw
            case rel => exact ⟨k + 1, by go_num, by omega, HN3.out⟩
            case measure => simp [intOf]; omega
          · have hkb : ¬ (k : Int) < (R : Int) := by omega
            have hke : R = k := by omega
            have HN : Hid (sgL z R m n (R * i + k) = sgL z R m n (R * (i + 1))) := by show sgL _ _ _ _ _ = _; rw [Nat.mul_add, Nat.mul_one, hke]
            clear hke
            go_wp2
            go_roundw
            case rel => exact ⟨i + 1, x1, by first | rfl | rw [hor], by go_num, by omega, HX1.out, by rw [← HN.out]; exact HK.out.1, HK.out.2⟩
            case measure => simp [intOf]; omega
    · have hib : ¬ (i : Int) < (T : Int) := by omega
      have hie : i = T := by omega
      subst hie
      go_wp2
      go_ret2
      exact ⟨_, rfl, HI.out.2⟩
end Go.Proofs.Ytlljaliemldjkaa
