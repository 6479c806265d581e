/- Texts of ours, one behind the other: KV26 KV27. -/
import Derived.Test.YtlljaliemldjkaaZS87
import Derived.Test.YtlljaliemldjkaaZR5
/- Trellises: Odds, where there are some. -/
namespace Go.Proofs.Ytlljaliemldjkaa
open Go.RowKit Go.Sort

/-- A quotient, as a float. -/
def qfl (x y : Nat) : Nat := (Ieee.double.div (Ieee.double.nearest false x 0) (Ieee.double.nearest false y 0)).getD 0
theorem qfl_ok {x y : Nat} (hx : x ≤ 576460752303423488) (hy : 1 ≤ y) (hy2 : y ≤ 576460752303423488) : Ieee.double.div (Ieee.double.nearest false x 0) (Ieee.double.nearest false y 0) = some (qfl x y) ∧ Ieee.double.order (qfl x y) (qfl x y) = some .eq := by
  obtain ⟨r, h1, h2⟩ := quo_num hx hy hy2
  unfold qfl
  rw [h1]
  exact ⟨rfl, h2⟩
theorem near_int (x : Nat) : floatOfInt .f64 ((x : Nat) : Int) = Ieee.double.nearest false x 0 := by
  show Ieee.double.nearest (decide (((x : Nat) : Int) < 0)) ((x : Nat) : Int).natAbs 0 = _
  rw [decide_eq_false (by omega), Int.natAbs_natCast]

set_option maxHeartbeats 8000000 in
set_option maxRecDepth 100000 in
theorem todds_ok {ao so : Option Addr} {R ca l sc N al : Nat} {a b : Int} {o : Nat → Nat} {w : World} (hN : N ≤ 20) (hal : 1 ≤ al) (hal2 : al ≤ 576460752303423488) (ho : ∀ j, j < N → o j ≤ 576460752303423488) (hC : Calls Try.prog 24 #[.slice ao R ca, .slice so l sc, .int .i64 a, .int .i64 b] w fun e w' => ∃ v, e = .returned (.tuple #[v, .int .i64 (al : Nat), .int .i64 0]) ∧ OwnI w.heap.size v (zl N fun j => ((o j : Nat) : Int)) w' ∧ Below w.heap.size w w') :
    Calls Try.prog 34 #[.slice ao R ca, .slice so l sc, .int .i64 a, .int .i64 b] w fun e w' => ∃ g, e = .returned (.tuple #[.slice (some ⟨g, 0, none⟩) N N, .int .i64 0]) ∧ RowF g N 57 (fun j => .float .f64 (qfl (o j) al)) w' ∧ w.heap.size ≤ g ∧ Below w.heap.size w w' := by
  have HC : Hid (Calls Try.prog 24 #[.slice ao R ca, .slice so l sc, .int .i64 a, .int .i64 b] w fun e w' => ∃ v, e = .returned (.tuple #[v, .int .i64 (al : Nat), .int .i64 0]) ∧ OwnI w.heap.size v (zl N fun j => ((o j : Nat) : Int)) w' ∧ Below w.heap.size w w') := hC
  have HO : Hid (∀ j, j < N → o j ≤ 576460752303423488) := ho
  have hz : ((al : Int) == 0) = false := beq_eq_false_iff_ne.2 (by omega)
  have hna := near_int al
  clear hC ho
  go_enter Try.func34, Try.ntmps34
  go_wp2_with fail
  refine HC.out.mono ?_
  rintro e w1 ⟨v, rfl, ho1, hb1⟩
  obtain ⟨vo, vc, rfl, hs1, hlt1⟩ := OwnI.slz ho1
  have H1 : Hid (SlZ vo N (fun j => ((o j : Nat) : Int)) w1 ∧ LtB vo w1.heap.size ∧ Below w.heap.size w w1) := ⟨hs1, hlt1, hb1⟩
  clear ho1 hs1 hlt1 hb1
  go_wp2_with (at_make; refine make_flt rfl _ _ rfl _ N rfl rfl rfl (by omega) ?_; intro w2 hrow2 hgrow2)
  have hb2 : Below w1.heap.size w1 w2 := below_grown hgrow2 (Nat.le_refl _) (fun k hk => by simp at hk)
  obtain ⟨g, hg⟩ : ∃ g, g = w1.heap.size := ⟨_, rfl⟩
  rw [← hg] at hrow2
  rw [← hg]
  have H2 : Hid (SlZ vo N (fun j => ((o j : Nat) : Int)) w2 ∧ RowF g N 57 (fun _ => .float .f64 0) w2 ∧ Below w.heap.size w w2 ∧ w.heap.size ≤ g ∧ LtB vo g) := ⟨H1.out.1.below hb2 H1.out.2.1, hrow2, bel_up' H1.out.2.2 hb2, by rw [hg]; exact H1.out.2.2.size, by rw [hg]; exact H1.out.2.1⟩
  clear hrow2 hgrow2 hb2 hg H1
  go_loopw [35] (fun vi wr => ∃ i : Nat, vi = .int .i64 (i : Nat) ∧ i ≤ N ∧ Hid (SlZ vo N (fun j => ((o j : Nat) : Int)) wr ∧ RowF g N 57 (fun j => if j < i then .float .f64 (qfl (o j) al) else .float .f64 0) wr ∧ Below w.heap.size w wr)) (fun vi _ => N - (intOf vi).toNat)
  case atStart => exact ⟨0, rfl, by omega, H2.out.1, H2.out.2.1, H2.out.2.2.1⟩
  case round =>
    obtain ⟨i, rfl, hi, HI⟩ := hrel
    rename World => wr
    by_cases hlt : i < N
    · have hib : (i : Int) < (N : Int) := by omega
      have hib0 : (0 : Int) ≤ (i : Int) := by omega
      obtain ⟨bv, ov, e1, hcv⟩ := HI.out.1 i hlt
      subst e1
      obtain ⟨x, hx⟩ : ∃ x, x = o i := ⟨_, rfl⟩
      replace hcv : wr.cell? ⟨bv, ov + i, none⟩ = some (.int .i64 (x : Nat)) := by rw [hx]; exact hcv
      have hnx := near_int x
      have hq := (qfl_ok (x := x) (y := al) (by rw [hx]; exact HO.out i hlt) hal hal2).1
      have hcf : wr.cell? ⟨g, i, none⟩ = some (.float .f64 0) := by
        have h := RowF.cell HI.out.2.1 i hlt
        rw [if_neg (by omega)] at h
        exact h
      have hfr := RowF.free HI.out.2.1 i
      have hru := fun w' : World => run_float_arith (P := Try.prog) w' .quo 57 .f64 (Ieee.double.nearest false x 0) (Ieee.double.nearest false al 0) (qfl x al) hq
      obtain ⟨ws, hws⟩ : ∃ ws, ws = wr.setCell ⟨g, i, none⟩ (.float .f64 (qfl x al)) := ⟨_, rfl⟩
      have HS : Hid (SlZ (some ⟨bv, ov, none⟩) N (fun j => ((o j : Nat) : Int)) ws ∧ RowF g N 57 (fun j => if j < i + 1 then .float .f64 (qfl (o j) al) else .float .f64 0) ws ∧ Below w.heap.size w ws) := by
        rw [hws]
        have hbg : bv < g := H2.out.2.2.2.2 _ rfl
        refine ⟨fun j hj => ?_, RowF.congr (RowF.store HI.out.2.1 i _) (fun j hj => ?_), HI.out.2.2.setCell H2.out.2.2.2.1 _⟩
        · obtain ⟨b', o', e', h'⟩ := HI.out.1 j hj
          cases e'
          refine ⟨_, _, rfl, ?_⟩
          have e := Below.heap_setCell wr ⟨g, i, none⟩ (.float .f64 (qfl x al)) bv (by show bv ≠ g; omega)
          unfold World.cell? at h' ⊢
          rw [e]; exact h'
        · unfold upd
          by_cases e : j = i
          · rw [if_pos e, if_pos (by omega), e, hx]
          · rw [if_neg e]
            show (if j < i then Value.float .f64 (qfl (o j) al) else .float .f64 0) = _
            by_cases e2 : j < i
            · rw [if_pos e2, if_pos (by omega)]
            · rw [if_neg e2, if_neg (by omega)]
      have hrs := run_store Try.prog wr ⟨g, i, none⟩ (.float .f64 (qfl x al)) .plain rfl
      clear hx hq
      go_wp2
      try rw [← hws]
      go_roundw
      case rel => exact ⟨i + 1, by go_num, by omega, HS.out⟩
      case measure => simp [intOf]; omega
    · have hib : ¬ (i : Int) < (N : Int) := by omega
      have HE : Hid (RowF g N 57 (fun j => .float .f64 (qfl (o j) al)) wr) := RowF.congr HI.out.2.1 (fun j hj => by rw [if_pos (by omega)])
      go_wp2
      go_ret2
      exact ⟨g, rfl, HE.out, H2.out.2.2.2.1, HI.out.2.2⟩
end Go.Proofs.Ytlljaliemldjkaa

/- Trellises: the law of what is spoken, where there is an error, or too many bits (printed by make/kv27.py). -/
namespace Go.Proofs.Ytlljaliemldjkaa
open Go.RowKit Go.Sort

set_option maxHeartbeats 4000000 in
set_option maxRecDepth 100000 in
theorem tspk_e {E : Int} (hE : E ≠ 0) {ao so : Option Addr} {R ca l sc n : Nat} {a b : Int} {w : World} (hC : ∀ wx, Below w.heap.size w wx → Calls Try.prog 24 #[.slice ao R ca, .slice so l sc, .int .i64 a, .int .i64 b] wx fun e w' => e = .returned (.tuple #[.slice none 0 0, .int .i64 0, .int .i64 E]) ∧ Below wx.heap.size wx w') (hO : ∀ wx, Below w.heap.size w wx → Calls Try.prog 34 #[.slice ao R ca, .slice so l sc, .int .i64 a, .int .i64 b] wx fun e w' => e = .returned (.tuple #[.slice none 0 0, .int .i64 E]) ∧ Below wx.heap.size wx w') :
    Calls Try.prog 16 #[.slice ao R ca, .slice so l sc, .int .i64 (n : Nat), .int .i64 a, .int .i64 b, .int .i64 E] w fun e w' => e = .returned (.bool true) ∧ Below w.heap.size w w' := by
  have HC : Hid (∀ wx, Below w.heap.size w wx → Calls Try.prog 24 #[.slice ao R ca, .slice so l sc, .int .i64 a, .int .i64 b] wx fun e w' => e = .returned (.tuple #[.slice none 0 0, .int .i64 0, .int .i64 E]) ∧ Below wx.heap.size wx w') := hC
  have HO : Hid (∀ wx, Below w.heap.size w wx → Calls Try.prog 34 #[.slice ao R ca, .slice so l sc, .int .i64 a, .int .i64 b] wx fun e w' => e = .returned (.tuple #[.slice none 0 0, .int .i64 E]) ∧ Below wx.heap.size wx w') := hO
  have hz : (E == 0) = false := beq_eq_false_iff_ne.2 hE
  have hz2 : (E != 0) = true := bne_iff_ne.2 hE
  clear hC hO
  go_enter Try.func16, Try.ntmps16
  go_wp2_with fail
  refine (HC.out w (Below.refl _ _)).mono ?_
  rintro e w1 ⟨rfl, hb1⟩
  have H1 : Hid (Below w.heap.size w w1) := hb1
  clear hb1
  go_wp2_with fail
  refine (list_err E hE w1).mono ?_
  rintro e w' ⟨rfl, hw⟩
  have hw := hw.symm
  subst hw
  go_wp2_with fail
  refine (HO.out w1 H1.out).mono ?_
  rintro e w2 ⟨rfl, hb2⟩
  have H2 : Hid (Below w.heap.size w w2) := bel_up' H1.out hb2
  clear hb2
  go_wp2
  go_ret
  exact ⟨by simp, H2.out⟩
set_option maxHeartbeats 8000000 in
set_option maxRecDepth 100000 in
theorem tspk_l {ao so : Option Addr} {R ca l sc n : Nat} {a b : Int} {w : World} (hbad : a < 0 ∨ b < a ∨ b < 1 ∨ 4 < b ∨ 24 < l) (hC : ∀ wx, Below w.heap.size w wx → Calls Try.prog 24 #[.slice ao R ca, .slice so l sc, .int .i64 a, .int .i64 b] wx fun e w' => e = .returned (.tuple #[.slice none 0 0, .int .i64 0, .int .i64 4]) ∧ Below wx.heap.size wx w') (hO : ∀ wx, Below w.heap.size w wx → Calls Try.prog 34 #[.slice ao R ca, .slice so l sc, .int .i64 a, .int .i64 b] wx fun e w' => e = .returned (.tuple #[.slice none 0 0, .int .i64 4]) ∧ Below wx.heap.size wx w') :
    Calls Try.prog 16 #[.slice ao R ca, .slice so l sc, .int .i64 (n : Nat), .int .i64 a, .int .i64 b, .int .i64 0] w fun e w' => e = .returned (.bool true) ∧ Below w.heap.size w w' := by
  have HC : Hid (∀ wx, Below w.heap.size w wx → Calls Try.prog 24 #[.slice ao R ca, .slice so l sc, .int .i64 a, .int .i64 b] wx fun e w' => e = .returned (.tuple #[.slice none 0 0, .int .i64 0, .int .i64 4]) ∧ Below wx.heap.size wx w') := hC
  have HO : Hid (∀ wx, Below w.heap.size w wx → Calls Try.prog 34 #[.slice ao R ca, .slice so l sc, .int .i64 a, .int .i64 b] wx fun e w' => e = .returned (.tuple #[.slice none 0 0, .int .i64 4]) ∧ Below wx.heap.size wx w') := hO
  clear hC hO
  go_enter Try.func16, Try.ntmps16
  by_cases h0 : a < 0
  · have z0 : a < 0 := by omega
    clear hbad
    go_wp2_with fail
    refine (HC.out w (Below.refl _ _)).mono ?_
    rintro e w1 ⟨rfl, hb1⟩
    have H1 : Hid (Below w.heap.size w w1) := hb1
    clear hb1
    go_wp2_with fail
    refine (list_err 4 (by decide) w1).mono ?_
    rintro e w' ⟨rfl, hw⟩
    have hw := hw.symm
    subst hw
    go_wp2_with fail
    refine (HO.out w1 H1.out).mono ?_
    rintro e w2 ⟨rfl, hb2⟩
    have H2 : Hid (Below w.heap.size w w2) := bel_up' H1.out hb2
    clear hb2
    go_wp2
    go_ret
    exact ⟨by simp, H2.out⟩
  · have z0 : ¬ a < 0 := by omega
    by_cases h1 : b < a
    · have z1 : b < a := by omega
      clear hbad
      go_wp2_with fail
      refine (HC.out w (Below.refl _ _)).mono ?_
      rintro e w1 ⟨rfl, hb1⟩
      have H1 : Hid (Below w.heap.size w w1) := hb1
      clear hb1
      go_wp2_with fail
      refine (list_err 4 (by decide) w1).mono ?_
      rintro e w' ⟨rfl, hw⟩
      have hw := hw.symm
      subst hw
      go_wp2_with fail
      refine (HO.out w1 H1.out).mono ?_
      rintro e w2 ⟨rfl, hb2⟩
      have H2 : Hid (Below w.heap.size w w2) := bel_up' H1.out hb2
      clear hb2
      go_wp2
      go_ret
      exact ⟨by simp, H2.out⟩
    · have z1 : ¬ b < a := by omega
      by_cases h2 : b < 1
      · have z2 : b < 1 := by omega
        clear hbad
        go_wp2_with fail
        refine (HC.out w (Below.refl _ _)).mono ?_
        rintro e w1 ⟨rfl, hb1⟩
        have H1 : Hid (Below w.heap.size w w1) := hb1
        clear hb1
        go_wp2_with fail
        refine (list_err 4 (by decide) w1).mono ?_
        rintro e w' ⟨rfl, hw⟩
        have hw := hw.symm
        subst hw
        go_wp2_with fail
        refine (HO.out w1 H1.out).mono ?_
        rintro e w2 ⟨rfl, hb2⟩
        have H2 : Hid (Below w.heap.size w w2) := bel_up' H1.out hb2
        clear hb2
        go_wp2
        go_ret
        exact ⟨by simp, H2.out⟩
      · have z2 : ¬ b < 1 := by omega
        by_cases h3 : 4 < b
        · have z3 : 4 < b := by omega
          clear hbad
          go_wp2_with fail
          refine (HC.out w (Below.refl _ _)).mono ?_
          rintro e w1 ⟨rfl, hb1⟩
          have H1 : Hid (Below w.heap.size w w1) := hb1
          clear hb1
          go_wp2_with fail
          refine (list_err 4 (by decide) w1).mono ?_
          rintro e w' ⟨rfl, hw⟩
          have hw := hw.symm
          subst hw
          go_wp2_with fail
          refine (HO.out w1 H1.out).mono ?_
          rintro e w2 ⟨rfl, hb2⟩
          have H2 : Hid (Below w.heap.size w w2) := bel_up' H1.out hb2
          clear hb2
          go_wp2
          go_ret
          exact ⟨by simp, H2.out⟩
        · have z3 : ¬ 4 < b := by omega
          by_cases h4 : 24 < l
          · have z4 : (24 : Int) < (l : Int) := by omega
            clear hbad
            go_wp2_with fail
            refine (HC.out w (Below.refl _ _)).mono ?_
            rintro e w1 ⟨rfl, hb1⟩
            have H1 : Hid (Below w.heap.size w w1) := hb1
            clear hb1
            go_wp2_with fail
            refine (list_err 4 (by decide) w1).mono ?_
            rintro e w' ⟨rfl, hw⟩
            have hw := hw.symm
            subst hw
            go_wp2_with fail
            refine (HO.out w1 H1.out).mono ?_
            rintro e w2 ⟨rfl, hb2⟩
            have H2 : Hid (Below w.heap.size w w2) := bel_up' H1.out hb2
            clear hb2
            go_wp2
            go_ret
            exact ⟨by simp, H2.out⟩
          · have z4 : ¬ (24 : Int) < (l : Int) := by omega
            exact absurd hbad (by omega)
set_option maxHeartbeats 4000000 in
set_option maxRecDepth 100000 in
theorem tspk_m {ao so : Option Addr} {R ca l sc n : Nat} {a b : Int} {w : World} (ha : 0 ≤ a) (hab : a ≤ b) (hb1 : 1 ≤ b) (hb4 : b ≤ 4) (hl : l ≤ 24) (hn : 10 < n) :
    Calls Try.prog 16 #[.slice ao R ca, .slice so l sc, .int .i64 (n : Nat), .int .i64 a, .int .i64 b, .int .i64 0] w fun e w' => e = .returned (.bool true) ∧ Below w.heap.size w w' := by
  have z0 : ¬ a < 0 := by omega
  have z1 : ¬ b < a := by omega
  have z2 : ¬ b < 1 := by omega
  have z3 : ¬ 4 < b := by omega
  have z4 : ¬ (24 : Int) < (l : Int) := by omega
  have z5 : (10 : Int) < (n : Int) := by omega
  go_enter Try.func16, Try.ntmps16
  go_wp2
  go_ret
  exact ⟨by simp, Below.refl _ _⟩
end Go.Proofs.Ytlljaliemldjkaa
