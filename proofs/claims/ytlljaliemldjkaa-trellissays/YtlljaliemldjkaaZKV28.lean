/- Texts of ours, one behind the other: KV28 KV29. -/
import Derived.Test.YtlljaliemldjkaaZKV26
import Derived.Test.YtlljaliemldjkaaZKV24
import Derived.Test.YtlljaliemldjkaaZKV22
import Derived.Test.YtlljaliemldjkaaZS33
/- Trellises: the law of what is spoken, whole. -/
namespace Go.Proofs.Ytlljaliemldjkaa
open Go.RowKit Go.Sort

set_option maxHeartbeats 8000000 in
set_option maxRecDepth 100000 in
theorem tspk_ok {ao so : Option Addr} {R ca l sc n al : Nat} {a b : Int} {on : Nat → Nat} {w : World} (ha : 0 ≤ a) (hab : a ≤ b) (hb1 : 1 ≤ b) (hb4 : b ≤ 4) (hl : l ≤ 24) (hn : n ≤ 10) (hal : al ≤ 576460752303423488) (hon : ∀ j, j < n → on j ≤ 576460752303423488)
    (hS : ∀ wx, Below w.heap.size w wx → Calls Try.prog 33 #[.slice ao R ca, .slice so l sc, .int .i64 (n : Nat), .int .i64 a, .int .i64 b] wx fun e w' => ∃ v, e = .returned (.tuple #[v, .int .i64 (al : Nat)]) ∧ OwnI wx.heap.size v (zl n fun j => ((on j : Nat) : Int)) w' ∧ Below wx.heap.size wx w')
    (hC : ∀ wx, Below w.heap.size w wx → Calls Try.prog 24 #[.slice ao R ca, .slice so l sc, .int .i64 a, .int .i64 b] wx fun e w' => ∃ v, e = .returned (.tuple #[v, .int .i64 (al : Nat), .int .i64 0]) ∧ OwnI wx.heap.size v (zl n fun j => ((on j : Nat) : Int)) w' ∧ Below wx.heap.size wx w') :
    Calls Try.prog 16 #[.slice ao R ca, .slice so l sc, .int .i64 (n : Nat), .int .i64 a, .int .i64 b, .int .i64 0] w fun e w' => e = .returned (.bool true) ∧ Below w.heap.size w w' := by
  have z0 : ¬ a < 0 := by omega
  have z1 : ¬ b < a := by omega
  have z2 : ¬ b < 1 := by omega
  have z3 : ¬ 4 < b := by omega
  have z4 : ¬ (24 : Int) < (l : Int) := by omega
  have z5 : ¬ (10 : Int) < (n : Int) := by omega
  have HS : Hid (∀ wx, Below w.heap.size w wx → Calls Try.prog 33 #[.slice ao R ca, .slice so l sc, .int .i64 (n : Nat), .int .i64 a, .int .i64 b] wx fun e w' => ∃ v, e = .returned (.tuple #[v, .int .i64 (al : Nat)]) ∧ OwnI wx.heap.size v (zl n fun j => ((on j : Nat) : Int)) w' ∧ Below wx.heap.size wx w') := hS
  have HC : Hid (∀ wx, Below w.heap.size w wx → Calls Try.prog 24 #[.slice ao R ca, .slice so l sc, .int .i64 a, .int .i64 b] wx fun e w' => ∃ v, e = .returned (.tuple #[v, .int .i64 (al : Nat), .int .i64 0]) ∧ OwnI wx.heap.size v (zl n fun j => ((on j : Nat) : Int)) w' ∧ Below wx.heap.size wx w') := hC
  have HO : Hid (∀ j, j < n → on j ≤ 576460752303423488) := hon
  have haa : ((al : Int) != (al : Int)) = false := by simp
  clear hS hC hon ha hab hb1 hb4 hl
  go_enter Try.func16, Try.ntmps16
  go_wp2_with fail
  refine (HS.out w (Below.refl _ _)).mono ?_
  rintro e w1 ⟨v1, rfl, ho1, hb1⟩
  obtain ⟨o1, c1, rfl, hs1, hlt1⟩ := OwnI.slz ho1
  have H1 : Hid (OwnI w.heap.size (.slice o1 n c1) (zl n fun j => ((on j : Nat) : Int)) w1 ∧ SlZ o1 n (fun j => ((on j : Nat) : Int)) w1 ∧ LtB o1 w1.heap.size ∧ Below w.heap.size w w1) := ⟨ho1, hs1, hlt1, hb1⟩
  clear ho1 hs1 hlt1 hb1
  go_wp2_with fail
  refine (HC.out w1 H1.out.2.2.2).mono ?_
  rintro e w2 ⟨v2, rfl, ho2, hb2⟩
  have H2 : Hid (SlZ o1 n (fun j => ((on j : Nat) : Int)) w2 ∧ LtB o1 w2.heap.size ∧ Below w.heap.size w w2) := ⟨H1.out.2.1.below hb2 H1.out.2.2.1, H1.out.2.2.1.mono hb2.size, bel_up' H1.out.2.2.2 hb2⟩
  have HL : Hid (Calls Try.prog 11 #[v2, .int .i64 0, .slice o1 n c1, .int .i64 0] w2 fun r w' => r = .returned (.bool true) ∧ ∃ n, w' = w2.drewN n) := list_same (ho2.slice (by rw [zl_len]; omega)) ((H1.out.1.below hb2 fun q hq => (H1.out.1.lt q hq).2).slice (by rw [zl_len]; omega))
  clear ho2 hb2
  go_wp2_with fail
  refine HL.out.mono ?_
  rintro e w3 ⟨rfl, d3, hw3⟩
  have H3 : Hid (SlZ o1 n (fun j => ((on j : Nat) : Int)) w3 ∧ LtB o1 w3.heap.size ∧ Below w.heap.size w w3) := by rw [hw3]; exact ⟨H2.out.1, H2.out.2.1, below_drewN2 H2.out.2.2 d3⟩
  clear hw3 HL
  by_cases h0 : al = 0
  · subst h0
    go_wp2_with fail
    refine (todds_z (N := n) (o := on) (HC.out w3 H3.out.2.2)).mono ?_
    rintro e w4 ⟨rfl, hb4⟩
    have H4 : Hid (Below w.heap.size w w4) := bel_up' H3.out.2.2 hb4
    clear hb4
    go_wp2
    go_ret
    exact ⟨by simp, H4.out⟩
  · have h0z : ((al : Int) == 0) = false := beq_eq_false_iff_ne.2 (by omega)
    have hnn : ((n : Int) != (n : Int)) = false := by simp
    have hna := near_int al
    go_wp2_with fail
    refine (todds_ok (N := n) (al := al) (o := on) (by omega) (by omega) hal HO.out (HC.out w3 H3.out.2.2)).mono ?_
    rintro e w4 ⟨g, rfl, hrow4, hg4, hb4⟩
    have H4 : Hid (SlZ o1 n (fun j => ((on j : Nat) : Int)) w4 ∧ RowF g n 57 (fun j => .float .f64 (qfl (on j) al)) w4 ∧ Below w.heap.size w w4) := ⟨H3.out.1.below hb4 H3.out.2.1, hrow4, bel_up' H3.out.2.2 hb4⟩
    clear hrow4 hg4 hb4
    go_wp2
    go_loopw [19] (fun vi wr => ∃ i : Nat, vi = .int .i64 (i : Nat) ∧ i ≤ n ∧ Hid (∃ d, wr = w4.drewN d)) (fun vi _ => n - (intOf vi).toNat)
    case atStart => exact ⟨0, rfl, by omega, 0, rfl⟩
    case round =>
      obtain ⟨i, rfl, hi, HI⟩ := hrel
      rename World => wr
      by_cases hlt : i < n
      · have hib : (i : Int) < (n : Int) := by omega
        have hib0 : (0 : Int) ≤ (i : Int) := by omega
        obtain ⟨bv, ov, e1, hcv⟩ := H4.out.1 i hlt
        subst e1
        obtain ⟨x, hx⟩ : ∃ x, x = on i := ⟨_, rfl⟩
        replace hcv : wr.cell? ⟨bv, ov + i, none⟩ = some (.int .i64 (x : Nat)) := by obtain ⟨d, hd⟩ := HI.out; rw [hd, hx]; exact hcv
        have hcf : wr.cell? ⟨g, i, none⟩ = some (.float .f64 (qfl x al)) := by obtain ⟨d, hd⟩ := HI.out; rw [hd, hx]; exact RowF.cell H4.out.2.1 i hlt
        have hnx := near_int x
        have hq := qfl_ok (x := x) (y := al) (by rw [hx]; exact HO.out i hlt) (by omega) hal
        have hru := fun w' : World => run_float_arith (P := Try.prog) w' .quo 57 .f64 (Ieee.double.nearest false x 0) (Ieee.double.nearest false al 0) (qfl x al) hq.1
        have hfe : Ieee.double.order (qfl x al) (qfl x al) = some .eq := hq.2
        have HW : Hid (∀ e, Hid (∃ e', wr.drewN e = w4.drewN e')) := fun e => by
          obtain ⟨d, hd⟩ := HI.out
          exact ⟨_, by rw [hd, World.drewN_drewN]⟩
        have hfq : (FloatKind.f64.format.order (qfl x al) (qfl x al) != some Ordering.eq) = false := by show (Ieee.double.order (qfl x al) (qfl x al) != some Ordering.eq) = false; rw [hfe]; rfl
        clear hx hq
        go_wp2
        go_quiet (fail)
        go_wp2
        go_roundw
        case rel => exact ⟨i + 1, by go_num, by omega, (HW.out _).out⟩
        case measure => simp [intOf]; omega
      · have hib : ¬ (i : Int) < (n : Int) := by omega
        have HE : Hid (Below w.heap.size w wr) := by obtain ⟨d, hd⟩ := HI.out; rw [hd]; exact below_drewN2 H4.out.2.2 d
        go_wp2
        go_ret
        exact ⟨by simp, HE.out⟩
end Go.Proofs.Ytlljaliemldjkaa

/- Trellises: the law of what is spoken, put together. -/
namespace Go.Proofs.Ytlljaliemldjkaa
open Go.RowKit Go.Sort

theorem cpt_le {z : Nat → Nat} {R : Nat} {y : Nat → Int} {a b n M : Nat} (hab : a ≤ b) (hb : b ≤ 4) (hl : R * (n + M) ≤ 24) (u : Nat) : cpt z R y a b n M u ≤ 281474976710656 := by
  unfold cpt
  rw [cpp_prN]
  have h1 := prN_le (f := spc z R y a b (dgs 2 n u) n) (fun j => spc_le hab hb j) (R * (n + M))
  have h2 : (4 : Nat) ^ (R * (n + M)) ≤ 4 ^ 24 := Nat.pow_le_pow_right (by decide) hl
  have h3 : (4 : Nat) ^ 24 = 281474976710656 := by decide
  omega
theorem shE_few {z : Nat → Nat} {R : Nat} {y : Nat → Int} {a b n M : Nat} (hab : a ≤ b) (hb : b ≤ 4) (hl : R * (n + M) ≤ 24) (hn : n ≤ 10) : shE z R y a b n M 0 ≤ 576460752303423488 ∧ ∀ j, j < n → shE z R y a b n M (1 + j) ≤ 576460752303423488 := by
  have hp : (2 : Nat) ^ n ≤ 1024 := Nat.le_trans (Nat.pow_le_pow_right (by decide) hn) (by decide)
  have hm : 2 ^ n * 281474976710656 ≤ 1024 * 281474976710656 := Nat.mul_le_mul_right _ hp
  constructor
  · rw [shE_all]
    have h := smN_le (f := cpt z R y a b n M) (C := 281474976710656) (2 ^ n) (fun u _ => cpt_le hab hb hl u)
    omega
  · intro j hj
    rw [shE_one hj]
    have h := smN_le (f := fun u => cpt z R y a b n M u * dgs 2 n u j) (C := 281474976710656) (2 ^ n) (fun u _ => by
      have h1 := cpt_le (z := z) (y := y) hab hb hl u
      have h2 := dgs_le1 n u j
      have h3 : cpt z R y a b n M u * dgs 2 n u j ≤ cpt z R y a b n M u * 1 := Nat.mul_le_mul_left _ h2
      show cpt z R y a b n M u * dgs 2 n u j ≤ _
      omega)
    omega
/-- What is spoken, whatever the signs are. -/
theorem tspk_any {ao so : Option Addr} {R ca l sc : Nat} {a b : Int} {z : Nat → Nat} {y : Nat → Int} {w : World} (hX : RlA ao R z w) (hY : SlZ so l y w) (hYl : LtB so w.heap.size) (hl : l ≤ 300) :
    Calls Try.prog 16 #[.slice ao R ca, .slice so l sc, .int .i64 (lgN (mmr z R) R l y : Nat), .int .i64 a, .int .i64 b, .int .i64 (lgE (mmr z R) R l y)] w fun e w' => e = .returned (.bool true) ∧ Below w.heap.size w w' := by
  have hL : ∀ wx, Below w.heap.size w wx → Calls Try.prog 13 #[.slice ao R ca, .slice so l sc] wx fun e w' => e = .returned (.tuple #[.int .i64 (lgN (mmr z R) R l y : Nat), .int .i64 (lgE (mmr z R) R l y)]) ∧ ∃ d, w' = wx.drewN d := fun wx hb => tlength_any (hX.below hb).rz (hY.below hb hYl) (by omega)
  by_cases hE : lgE (mmr z R) R l y = 0
  · obtain ⟨g1, g2, g3⟩ := lgE_ok hE
    obtain ⟨N, hN⟩ : ∃ N, N = lgN (mmr z R) R l y := ⟨_, rfl⟩
    rw [hE, ← hN] at hL
    rw [← hN] at g1 g2
    rw [hE, ← hN]
    by_cases hbad : a < 0 ∨ b < a ∨ b < 1 ∨ 4 < b ∨ 24 < l
    · have hC : ∀ wx, Below w.heap.size w wx → Calls Try.prog 24 #[.slice ao R ca, .slice so l sc, .int .i64 a, .int .i64 b] wx fun e w' => e = .returned (.tuple #[.slice none 0 0, .int .i64 0, .int .i64 4]) ∧ Below wx.heap.size wx w' := fun wx hb => tch_lim (fun wy hy => hL wy (bel_up' hb hy)) (by omega)
      exact tspk_l hbad hC (fun wx hb => todds_e (by decide) (hC wx hb))
    · by_cases hn : 10 < N
      · exact tspk_m (by omega) (by omega) (by omega) (by omega) (by omega) hn
      · obtain ⟨a', rfl⟩ : ∃ a' : Nat, a = (a' : Int) := ⟨a.toNat, by omega⟩
        obtain ⟨b', rfl⟩ : ∃ b' : Nat, b = (b' : Int) := ⟨b.toNat, by omega⟩
        have hf := shE_few (z := z) (R := R) (y := y) (a := a') (b := b') (n := N) (M := mmr z R) (by omega) (by omega) (by rw [← g1]; omega) (by omega)
        refine tspk_ok (al := shE z R y a' b' N (mmr z R) 0) (on := fun j => shE z R y a' b' N (mmr z R) (1 + j)) (by omega) (by omega) (by omega) (by omega) (by omega) (by omega) hf.1 hf.2 (fun wx hb => ?_) (fun wx hb => ?_)
        · exact rspoken_any (hX.below hb) (hY.below hb hYl) (hYl.mono hb.size) g1 (by omega) (by omega) (by omega) (by omega)
        · exact tch_ok (hX.below hb) (hY.below hb hYl) (hYl.mono hb.size) (by omega) hE hN.symm (by omega) (by omega) (by omega) (by omega)
  · have hn0 : lgN (mmr z R) R l y = 0 := by unfold lgN; rw [if_neg hE]
    rw [hn0] at hL ⊢
    have hC : ∀ wx, Below w.heap.size w wx → Calls Try.prog 24 #[.slice ao R ca, .slice so l sc, .int .i64 a, .int .i64 b] wx fun e w' => e = .returned (.tuple #[.slice none 0 0, .int .i64 0, .int .i64 (lgE (mmr z R) R l y)]) ∧ Below wx.heap.size wx w' := fun wx hb => tch_e hE (fun wy hy => hL wy (bel_up' hb hy))
    exact tspk_e hE hC (fun wx hb => todds_e hE (hC wx hb))
/-- And where the rules are none. -/
theorem tspk_bad {E : Int} (hE : E ≠ 0) {ao so : Option Addr} {R ca l sc : Nat} {a b : Int} {w : World} (hC : ∀ wx, Below w.heap.size w wx → Calls Try.prog 10 #[.slice ao R ca] wx fun e w' => e = .returned (.int .i64 E) ∧ w' = wx) :
    Calls Try.prog 16 #[.slice ao R ca, .slice so l sc, .int .i64 0, .int .i64 a, .int .i64 b, .int .i64 E] w fun e w' => e = .returned (.bool true) ∧ Below w.heap.size w w' := by
  have hL : ∀ wx, Below w.heap.size w wx → Calls Try.prog 13 #[.slice ao R ca, .slice so l sc] wx fun e w' => e = .returned (.tuple #[.int .i64 0, .int .i64 E]) ∧ ∃ d, w' = wx.drewN d := fun wx hb => (tlength_e1 hE (hC wx hb)).mono fun _ _ ⟨h1, h2⟩ => ⟨h1, 0, h2⟩
  have hC2 : ∀ wx, Below w.heap.size w wx → Calls Try.prog 24 #[.slice ao R ca, .slice so l sc, .int .i64 a, .int .i64 b] wx fun e w' => e = .returned (.tuple #[.slice none 0 0, .int .i64 0, .int .i64 E]) ∧ Below wx.heap.size wx w' := fun wx hb => tch_e hE (fun wy hy => hL wy (bel_up' hb hy))
  exact tspk_e (n := 0) hE hC2 (fun wx hb => todds_e hE (hC2 wx hb))
/-- The likeliest, whatever the signs are. -/
theorem tlik_any {ao mo so : Option Addr} {R ca ml mc l sc : Nat} {z : Nat → Nat} {x y : Nat → Int} {w : World} (hX : RlA ao R z w) (hM : SlZ mo ml x w) (hMl : LtB mo w.heap.size) (hml : ml ≤ 300) (hY : SlZ so l y w) (hYl : LtB so w.heap.size) (hl : l ≤ 300) :
    Calls Try.prog 15 #[.slice ao R ca, .slice mo ml mc, .slice so l sc, .int .i64 (lgN (mmr z R) R l y : Nat), .int .i64 (lgE (mmr z R) R l y)] w fun e w' => e = .returned (.bool true) ∧ Below w.heap.size w w' := by
  by_cases hE : lgE (mmr z R) R l y = 0
  · rw [hE]
    exact tlik_ok hX hM hMl hml hY hYl hl hE rfl
  · have hn0 : lgN (mmr z R) R l y = 0 := by unfold lgN; rw [if_neg hE]
    have hL : ∀ wx, Below w.heap.size w wx → Calls Try.prog 13 #[.slice ao R ca, .slice so l sc] wx fun e w' => e = .returned (.tuple #[.int .i64 0, .int .i64 (lgE (mmr z R) R l y)]) ∧ ∃ d, w' = wx.drewN d := fun wx hb => by
      have h := tlength_any (ca := ca) (sc := sc) (hX.below hb).rz (hY.below hb hYl) (by omega)
      rw [hn0] at h
      exact h
    exact tlik_e hE (tvit_e hE hL)
end Go.Proofs.Ytlljaliemldjkaa
