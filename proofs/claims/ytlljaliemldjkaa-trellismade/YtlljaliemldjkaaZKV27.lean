/- Texts of ours, one behind the other: KV27 KV28. -/
import Derived.Test.YtlljaliemldjkaaZS87
import Derived.Test.YtlljaliemldjkaaZR5
/- Trellises: the law of what is spoken, where there is an error, or too many bits (printed by make/kv27.py). -/
namespace Go.Proofs.Ytlljaliemldjkaa
open Go.RowKit Go.Sort

set_option maxHeartbeats 4000000 in
set_option maxRecDepth 100000 in
theorem tspk_e {E : Int} (hE : E ≠ 0) {ao so : Option Addr} {R ca l sc n : Nat} {a b : Int} {w : World} (hC : ∀ wx, Below w.heap.size w wx → Calls Try.prog 24 #[.slice ao R ca, .slice so l sc, .int .i64 a, .int .i64 b] wx fun e w' => e = .returned (.tuple #[.slice none 0 0, .int .i64 0, .int .i64 E]) ∧ Below wx.heap.size wx w') (hO : ∀ wx, Below w.heap.size w wx → Calls Try.prog 34 #[.slice ao R ca, .slice so l sc, .int .i64 a, .int .i64 b] wx fun e w' => e = .returned (.tuple #[.slice none 0 0, .int .i64 E]) ∧ Below wx.heap.size wx w') :
    Calls Try.prog 16 #[.slice ao R ca, .slice so l sc, .int .i64 (n : Nat), .int .i64 a, .int .i64 b, .int .i64 E] w fun e w' => e = .returned (.bool true) ∧ Below w.heap.size w w' := by
  have HC : Hid (∀ wx, Below w.heap.size w wx → Calls Try.prog 24 #[.slice ao R ca, .slice so l sc, .int .i64 a, .int .i64 b] wx fun e w' => e = .returned (.tuple #[.slice none 0 0, .int .i64 0, .int .i64 E]) ∧ Below wx.heap.size wx w') := hC
  have HO : Hid (∀ wx, Below w.heap.size w wx → Calls Try.prog 34 #[.slice ao R ca, .slice so l sc, .int .i64 a, .int .i64 b] wx fun e w' => e = .returned (.tuple #[.slice none 0 0, .int .i64 E]) ∧ Below wx.heap.size wx w') := hO
  have hz : (E == 0) = false := beq_eq_false_iff_ne.2 hE
  have hz2 : (E != 0) = true := bne_iff_ne.2 hE
  clear hC hO
  go_enter Try.func16, Try.ntmps16
  go_wp2_with fail
  refine (HC.out w (Below.refl _ _)).mono ?_
  rintro e w1 ⟨rfl, hb1⟩
  have H1 : Hid (Below w.heap.size w w1) := hb1
  clear hb1
  go_wp2_with fail
  refine (list_err E hE w1).mono ?_
  rintro e w' ⟨rfl, hw⟩
  have hw := hw.symm
  subst hw
  go_wp2_with fail
  refine (HO.out w1 H1.out).mono ?_
  rintro e w2 ⟨rfl, hb2⟩
  have H2 : Hid (Below w.heap.size w w2) := bel_up' H1.out hb2
  clear hb2
  go_wp2
  go_ret
  exact ⟨by simp, H2.out⟩
set_option maxHeartbeats 8000000 in
set_option maxRecDepth 100000 in
theorem tspk_l {ao so : Option Addr} {R ca l sc n : Nat} {a b : Int} {w : World} (hbad : a < 0 ∨ b < a ∨ b < 1 ∨ 4 < b ∨ 24 < l) (hC : ∀ wx, Below w.heap.size w wx → Calls Try.prog 24 #[.slice ao R ca, .slice so l sc, .int .i64 a, .int .i64 b] wx fun e w' => e = .returned (.tuple #[.slice none 0 0, .int .i64 0, .int .i64 4]) ∧ Below wx.heap.size wx w') (hO : ∀ wx, Below w.heap.size w wx → Calls Try.prog 34 #[.slice ao R ca, .slice so l sc, .int .i64 a, .int .i64 b] wx fun e w' => e = .returned (.tuple #[.slice none 0 0, .int .i64 4]) ∧ Below wx.heap.size wx w') :
    Calls Try.prog 16 #[.slice ao R ca, .slice so l sc, .int .i64 (n : Nat), .int .i64 a, .int .i64 b, .int .i64 0] w fun e w' => e = .returned (.bool true) ∧ Below w.heap.size w w' := by
  have HC : Hid (∀ wx, Below w.heap.size w wx → Calls Try.prog 24 #[.slice ao R ca, .slice so l sc, .int .i64 a, .int .i64 b] wx fun e w' => e = .returned (.tuple #[.slice none 0 0, .int .i64 0, .int .i64 4]) ∧ Below wx.heap.size wx w') := hC
  have HO : Hid (∀ wx, Below w.heap.size w wx → Calls Try.prog 34 #[.slice ao R ca, .slice so l sc, .int .i64 a, .int .i64 b] wx fun e w' => e = .returned (.tuple #[.slice none 0 0, .int .i64 4]) ∧ Below wx.heap.size wx w') := hO
  clear hC hO
  go_enter Try.func16, Try.ntmps16
  by_cases h0 : a < 0
  · have z0 : a < 0 := by omega
    clear hbad
    go_wp2_with fail
    refine (HC.out w (Below.refl _ _)).mono ?_
    rintro e w1 ⟨rfl, hb1⟩
    have H1 : Hid (Below w.heap.size w w1) := hb1
    clear hb1
    go_wp2_with fail
    refine (list_err 4 (by decide) w1).mono ?_
    rintro e w' ⟨rfl, hw⟩
    have hw := hw.symm
    subst hw
    go_wp2_with fail
    refine (HO.out w1 H1.out).mono ?_
    rintro e w2 ⟨rfl, hb2⟩
    have H2 : Hid (Below w.heap.size w w2) := bel_up' H1.out hb2
    clear hb2
    go_wp2
    go_ret
    exact ⟨by simp, H2.out⟩
  · have z0 : ¬ a < 0 := by omega
    by_cases h1 : b < a
    · have z1 : b < a := by omega
      clear hbad
      go_wp2_with fail
      refine (HC.out w (Below.refl _ _)).mono ?_
      rintro e w1 ⟨rfl, hb1⟩
      have H1 : Hid (Below w.heap.size w w1) := hb1
      clear hb1
      go_wp2_with fail
      refine (list_err 4 (by decide) w1).mono ?_
      rintro e w' ⟨rfl, hw⟩
      have hw := hw.symm
      subst hw
      go_wp2_with fail
      refine (HO.out w1 H1.out).mono ?_
      rintro e w2 ⟨rfl, hb2⟩
      have H2 : Hid (Below w.heap.size w w2) := bel_up' H1.out hb2
      clear hb2
      go_wp2
      go_ret
      exact ⟨by simp, H2.out⟩
    · have z1 : ¬ b < a := by omega
      by_cases h2 : b < 1
      · have z2 : b < 1 := by omega
        clear hbad
        go_wp2_with fail
        refine (HC.out w (Below.refl _ _)).mono ?_
        rintro e w1 ⟨rfl, hb1⟩
        have H1 : Hid (Below w.heap.size w w1) := hb1
        clear hb1
        go_wp2_with fail
        refine (list_err 4 (by decide) w1).mono ?_
        rintro e w' ⟨rfl, hw⟩
        have hw := hw.symm
        subst hw
        go_wp2_with fail
        refine (HO.out w1 H1.out).mono ?_
        rintro e w2 ⟨rfl, hb2⟩
        have H2 : Hid (Below w.heap.size w w2) := bel_up' H1.out hb2
        clear hb2
        go_wp2
        go_ret
        exact ⟨by simp, H2.out⟩
      · have z2 : ¬ b < 1 := by omega
        by_cases h3 : 4 < b
        · have z3 : 4 < b := by omega
          clear hbad
          go_wp2_with fail
          refine (HC.out w (Below.refl _ _)).mono ?_
          rintro e w1 ⟨rfl, hb1⟩
          have H1 : Hid (Below w.heap.size w w1) := hb1
          clear hb1
          go_wp2_with fail
          refine (list_err 4 (by decide) w1).mono ?_
          rintro e w' ⟨rfl, hw⟩
          have hw := hw.symm
          subst hw
          go_wp2_with fail
          refine (HO.out w1 H1.out).mono ?_
          rintro e w2 ⟨rfl, hb2⟩
          have H2 : Hid (Below w.heap.size w w2) := bel_up' H1.out hb2
          clear hb2
          go_wp2
          go_ret
          exact ⟨by simp, H2.out⟩
        · have z3 : ¬ 4 < b := by omega
          by_cases h4 : 24 < l
          · have z4 : (24 : Int) < (l : Int) := by omega
            clear hbad
            go_wp2_with fail
            refine (HC.out w (Below.refl _ _)).mono ?_
            rintro e w1 ⟨rfl, hb1⟩
            have H1 : Hid (Below w.heap.size w w1) := hb1
            clear hb1
            go_wp2_with fail
            refine (list_err 4 (by decide) w1).mono ?_
            rintro e w' ⟨rfl, hw⟩
            have hw := hw.symm
            subst hw
            go_wp2_with fail
            refine (HO.out w1 H1.out).mono ?_
            rintro e w2 ⟨rfl, hb2⟩
            have H2 : Hid (Below w.heap.size w w2) := bel_up' H1.out hb2
            clear hb2
            go_wp2
            go_ret
            exact ⟨by simp, H2.out⟩
          · have z4 : ¬ (24 : Int) < (l : Int) := by omega
            exact absurd hbad (by omega)
set_option maxHeartbeats 4000000 in
set_option maxRecDepth 100000 in
theorem tspk_m {ao so : Option Addr} {R ca l sc n : Nat} {a b : Int} {w : World} (ha : 0 ≤ a) (hab : a ≤ b) (hb1 : 1 ≤ b) (hb4 : b ≤ 4) (hl : l ≤ 24) (hn : 10 < n) :
    Calls Try.prog 16 #[.slice ao R ca, .slice so l sc, .int .i64 (n : Nat), .int .i64 a, .int .i64 b, .int .i64 0] w fun e w' => e = .returned (.bool true) ∧ Below w.heap.size w w' := by
  have z0 : ¬ a < 0 := by omega
  have z1 : ¬ b < a := by omega
  have z2 : ¬ b < 1 := by omega
  have z3 : ¬ 4 < b := by omega
  have z4 : ¬ (24 : Int) < (l : Int) := by omega
  have z5 : (10 : Int) < (n : Int) := by omega
  go_enter Try.func16, Try.ntmps16
  go_wp2
  go_ret
  exact ⟨by simp, Below.refl _ _⟩
end Go.Proofs.Ytlljaliemldjkaa

/- Trellises: the law of what is spoken, whole. -/
namespace Go.Proofs.Ytlljaliemldjkaa
open Go.RowKit Go.Sort

set_option maxHeartbeats 8000000 in
set_option maxRecDepth 100000 in
theorem tspk_ok {ao so : Option Addr} {R ca l sc n al : Nat} {a b : Int} {on : Nat → Nat} {w : World} (ha : 0 ≤ a) (hab : a ≤ b) (hb1 : 1 ≤ b) (hb4 : b ≤ 4) (hl : l ≤ 24) (hn : n ≤ 10) (hal : al ≤ 576460752303423488) (hon : ∀ j, j < n → on j ≤ 576460752303423488)
    (hS : ∀ wx, Below w.heap.size w wx → Calls Try.prog 33 #[.slice ao R ca, .slice so l sc, .int .i64 (n : Nat), .int .i64 a, .int .i64 b] wx fun e w' => ∃ v, e = .returned (.tuple #[v, .int .i64 (al : Nat)]) ∧ OwnI wx.heap.size v (zl n fun j => ((on j : Nat) : Int)) w' ∧ Below wx.heap.size wx w')
    (hC : ∀ wx, Below w.heap.size w wx → Calls Try.prog 24 #[.slice ao R ca, .slice so l sc, .int .i64 a, .int .i64 b] wx fun e w' => ∃ v, e = .returned (.tuple #[v, .int .i64 (al : Nat), .int .i64 0]) ∧ OwnI wx.heap.size v (zl n fun j => ((on j : Nat) : Int)) w' ∧ Below wx.heap.size wx w') :
    Calls Try.prog 16 #[.slice ao R ca, .slice so l sc, .int .i64 (n : Nat), .int .i64 a, .int .i64 b, .int .i64 0] w fun e w' => e = .returned (.bool true) ∧ Below w.heap.size w w' := by
  have z0 : ¬ a < 0 := by omega
  have z1 : ¬ b < a := by omega
  have z2 : ¬ b < 1 := by omega
  have z3 : ¬ 4 < b := by omega
  have z4 : ¬ (24 : Int) < (l : Int) := by omega
  have z5 : ¬ (10 : Int) < (n : Int) := by omega
  have HS : Hid (∀ wx, Below w.heap.size w wx → Calls Try.prog 33 #[.slice ao R ca, .slice so l sc, .int .i64 (n : Nat), .int .i64 a, .int .i64 b] wx fun e w' => ∃ v, e = .returned (.tuple #[v, .int .i64 (al : Nat)]) ∧ OwnI wx.heap.size v (zl n fun j => ((on j : Nat) : Int)) w' ∧ Below wx.heap.size wx w') := hS
  have HC : Hid (∀ wx, Below w.heap.size w wx → Calls Try.prog 24 #[.slice ao R ca, .slice so l sc, .int .i64 a, .int .i64 b] wx fun e w' => ∃ v, e = .returned (.tuple #[v, .int .i64 (al : Nat), .int .i64 0]) ∧ OwnI wx.heap.size v (zl n fun j => ((on j : Nat) : Int)) w' ∧ Below wx.heap.size wx w') := hC
  have HO : Hid (∀ j, j < n → on j ≤ 576460752303423488) := hon
  have haa : ((al : Int) != (al : Int)) = false := by simp
  clear hS hC hon ha hab hb1 hb4 hl
  go_enter Try.func16, Try.ntmps16
  go_wp2_with fail
  refine (HS.out w (Below.refl _ _)).mono ?_
  rintro e w1 ⟨v1, rfl, ho1, hb1⟩
  obtain ⟨o1, c1, rfl, hs1, hlt1⟩ := OwnI.slz ho1
  have H1 : Hid (OwnI w.heap.size (.slice o1 n c1) (zl n fun j => ((on j : Nat) : Int)) w1 ∧ SlZ o1 n (fun j => ((on j : Nat) : Int)) w1 ∧ LtB o1 w1.heap.size ∧ Below w.heap.size w w1) := ⟨ho1, hs1, hlt1, hb1⟩
  clear ho1 hs1 hlt1 hb1
  go_wp2_with fail
  refine (HC.out w1 H1.out.2.2.2).mono ?_
  rintro e w2 ⟨v2, rfl, ho2, hb2⟩
  have H2 : Hid (SlZ o1 n (fun j => ((on j : Nat) : Int)) w2 ∧ LtB o1 w2.heap.size ∧ Below w.heap.size w w2) := ⟨H1.out.2.1.below hb2 H1.out.2.2.1, H1.out.2.2.1.mono hb2.size, bel_up' H1.out.2.2.2 hb2⟩
  have HL : Hid (Calls Try.prog 11 #[v2, .int .i64 0, .slice o1 n c1, .int .i64 0] w2 fun r w' => r = .returned (.bool true) ∧ ∃ n, w' = w2.drewN n) := list_same (ho2.slice (by rw [zl_len]; omega)) ((H1.out.1.below hb2 fun q hq => (H1.out.1.lt q hq).2).slice (by rw [zl_len]; omega))
  clear ho2 hb2
  go_wp2_with fail
  refine HL.out.mono ?_
  rintro e w3 ⟨rfl, d3, hw3⟩
  have H3 : Hid (SlZ o1 n (fun j => ((on j : Nat) : Int)) w3 ∧ LtB o1 w3.heap.size ∧ Below w.heap.size w w3) := by rw [hw3]; exact ⟨H2.out.1, H2.out.2.1, below_drewN2 H2.out.2.2 d3⟩
  clear hw3 HL
  by_cases h0 : al = 0
  · subst h0
    go_wp2_with fail
    refine (todds_z (N := n) (o := on) (HC.out w3 H3.out.2.2)).mono ?_
    rintro e w4 ⟨rfl, hb4⟩
    have H4 : Hid (Below w.heap.size w w4) := bel_up' H3.out.2.2 hb4
    clear hb4
    go_wp2
    go_ret
    exact ⟨by simp, H4.out⟩
  · have h0z : ((al : Int) == 0) = false := beq_eq_false_iff_ne.2 (by omega)
    have hnn : ((n : Int) != (n : Int)) = false := by simp
    have hna := near_int al
    go_wp2_with fail
    refine (todds_ok (N := n) (al := al) (o := on) (by omega) (by omega) hal HO.out (HC.out w3 H3.out.2.2)).mono ?_
    rintro e w4 ⟨g, rfl, hrow4, hg4, hb4⟩
    have H4 : Hid (SlZ o1 n (fun j => ((on j : Nat) : Int)) w4 ∧ RowF g n 57 (fun j => .float .f64 (qfl (on j) al)) w4 ∧ Below w.heap.size w w4) := ⟨H3.out.1.below hb4 H3.out.2.1, hrow4, bel_up' H3.out.2.2 hb4⟩
    clear hrow4 hg4 hb4
    go_wp2
    go_loopw [19] (fun vi wr => ∃ i : Nat, vi = .int .i64 (i : Nat) ∧ i ≤ n ∧ Hid (∃ d, wr = w4.drewN d)) (fun vi _ => n - (intOf vi).toNat)
    case atStart => exact ⟨0, rfl, by omega, 0, rfl⟩
    case round =>
      obtain ⟨i, rfl, hi, HI⟩ := hrel
      rename World => wr
      by_cases hlt : i < n
      · have hib : (i : Int) < (n : Int) := by omega
        have hib0 : (0 : Int) ≤ (i : Int) := by omega
        obtain ⟨bv, ov, e1, hcv⟩ := H4.out.1 i hlt
        subst e1
        obtain ⟨x, hx⟩ : ∃ x, x = on i := ⟨_, rfl⟩
        replace hcv : wr.cell? ⟨bv, ov + i, none⟩ = some (.int .i64 (x : Nat)) := by obtain ⟨d, hd⟩ := HI.out; rw [hd, hx]; exact hcv
        have hcf : wr.cell? ⟨g, i, none⟩ = some (.float .f64 (qfl x al)) := by obtain ⟨d, hd⟩ := HI.out; rw [hd, hx]; exact RowF.cell H4.out.2.1 i hlt
        have hnx := near_int x
        have hq := qfl_ok (x := x) (y := al) (by rw [hx]; exact HO.out i hlt) (by omega) hal
        have hru := fun w' : World => run_float_arith (P := Try.prog) w' .quo 57 .f64 (Ieee.double.nearest false x 0) (Ieee.double.nearest false al 0) (qfl x al) hq.1
        have hfe : Ieee.double.order (qfl x al) (qfl x al) = some .eq := hq.2
        have HW : Hid (∀ e, Hid (∃ e', wr.drewN e = w4.drewN e')) := fun e => by
          obtain ⟨d, hd⟩ := HI.out
          exact ⟨_, by rw [hd, World.drewN_drewN]⟩
        have hfq : (FloatKind.f64.format.order (qfl x al) (qfl x al) != some Ordering.eq) = false := by show (Ieee.double.order (qfl x al) (qfl x al) != some Ordering.eq) = false; rw [hfe]; rfl
        clear hx hq
        go_wp2
        go_quiet (fail)
        go_wp2
        go_roundw
        case rel => exact ⟨i + 1, by go_num, by omega, (HW.out _).out⟩
        case measure => simp [intOf]; omega
      · have hib : ¬ (i : Int) < (n : Int) := by omega
        have HE : Hid (Below w.heap.size w wr) := by obtain ⟨d, hd⟩ := HI.out; rw [hd]; exact below_drewN2 H4.out.2.2 d
        go_wp2
        go_ret
        exact ⟨by simp, HE.out⟩
end Go.Proofs.Ytlljaliemldjkaa
