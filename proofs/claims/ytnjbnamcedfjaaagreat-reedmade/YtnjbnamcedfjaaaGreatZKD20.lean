/- ReedMade: the walk of the statement, whatever raw numbers it is given (printed by make/kd20.py). -/
import Derived.Test.YtnjbnamcedfjaaaGreatZKD19
import Derived.Test.YtnjbnamcedfjaaaGreatZZ1
import Derived.Test.YtnjbnamcedfjaaaGreatZS13
namespace Go.Proofs.YtnjbnamcedfjaaaGreat
open Go.RowKit Go.Sort

set_option maxHeartbeats 1000000 in
theorem reedMade_long {ao : Option Addr} {n ca : Nat} (q x k t l : Int) (w : World) (hn : ¬ n ≤ 256) (hn2 : n ≤ 17592186044416) :
    Calls Tryz.prog 3 #[.slice ao n ca, .int .i64 q, .int .i64 x, .int .i64 k, .int .i64 t, .int .i64 l] w fun r w' => r = .returned (.bool true) ∧ Below w.heap.size w w' := by
  have h1 : (256 : Int) < (n : Int) := by omega
  go_enter Tryz.func3, Tryz.ntmps3
  go_wp2
  go_ret
  exact ⟨rfl, Below.refl _ _⟩

/-- A word of whatever numbers. -/
def RmI (T N g base : Nat) (w3 : World) (vi : Value) (wx : World) : Prop := ∃ (i : Nat) (y : Nat → Int), i ≤ T ∧ vi = .int .i64 (i : Nat) ∧ Hid (RowZ g N y wx ∧ Below base w3 wx)

set_option maxHeartbeats 16000000 in
set_option maxRecDepth 100000 in
theorem reedMade_walk {ao : Option Addr} {n ca : Nat} {z : Nat → Int} (q x k t l : Int) {w : World} (ha : Arg ao n ca z w) (hn : n ≤ 256) (hq : I64 q) (hx : I64 x) (hk : I64 k) (ht : I64 t) (hl : I64 l) :
    Calls Tryz.prog 3 #[.slice ao n ca, .int .i64 q, .int .i64 x, .int .i64 k, .int .i64 t, .int .i64 l] w fun r w' => r = .returned (.bool true) ∧ Below w.heap.size w w' := by
  obtain ⟨D, hD, hDq⟩ := sizeOf_field q
  obtain ⟨N0, hN0, hN1⟩ := pick_in (m := x) (k := 20) (by omega)
  have h64 := (fld hD).q64
  have h2q := (fld hD).q2
  have HA : Hid (Arg ao n ca z w ∧ D ∈ fieldsL ∧ I64 l ∧ I64 t) := ⟨ha, hD, hl, ht⟩
  have HS : Hid (∀ w : World, Calls Tryz.prog 4 #[.int .i64 q] w fun e w' => e = .returned (.int .i64 D.q) ∧ Below w.heap.size w w') := fun w => by rw [← hDq]; exact sizeOf_any q w hq.1 hq.2
  have HPi : Hid (∀ (x : Int) (k : Nat), I64 x → 1 ≤ k → k ≤ 1000 → ∃ M : Nat, M < k ∧ ∀ w : World, Calls Tryz.prog 5 #[.int .i64 x, .int .i64 k] w fun e w' => e = .returned (.int .i64 M) ∧ w' = w) := fun x k hx h1 h2 => by
    obtain ⟨M, hM, hMk⟩ := pick_in (m := x) (k := k) (by omega)
    exact ⟨M, hMk, fun w => by rw [← hM]; exact pick_any x k w hx.1 hx.2 (by omega) (by omega)⟩
  have HP1 : Hid (∀ w : World, Calls Tryz.prog 5 #[.int .i64 x, .int .i64 20] w fun e w' => e = .returned (.int .i64 N0) ∧ w' = w) := fun w => by rw [← hN0]; exact pick_any x 20 w hx.1 hx.2 (by omega) (by omega)
  obtain ⟨N1, hNe⟩ : ∃ N1, N1 = 1 + N0 := ⟨_, rfl⟩
  have hwN : IntKind.i64.wrap (1 + (N0 : Int)) = (N1 : Int) := wrap_to (by omega) (by omega)
  have hNb : 1 ≤ N1 ∧ N1 ≤ 20 := by omega
  have HK : Hid (∀ N : Nat, 1 ≤ N → N ≤ 64 → ∃ K : Nat, 1 ≤ K ∧ K ≤ N ∧ ∃ K0 : Nat, IntKind.i64.wrap (1 + (K0 : Int)) = (K : Int) ∧ ∀ w : World, Calls Tryz.prog 5 #[.int .i64 k, .int .i64 N] w fun e w' => e = .returned (.int .i64 K0) ∧ w' = w) := fun N h1 h2 => by
    obtain ⟨K0, hK0, hK1⟩ := pick_in (m := k) (k := N) (by omega)
    exact ⟨1 + K0, by omega, by omega, K0, wrap_to (by omega) (by omega), fun w => by rw [← hK0]; exact pick_any k N w hk.1 hk.2 (by omega) (by omega)⟩
  have HPl : Hid (∀ N : Nat, N ≤ D.q → ∀ w2, Below w.heap.size w w2 → Calls Tryz.prog 6 #[.slice ao n ca, .int .i64 D.q, .int .i64 N] w2 fun e w' => ∃ g c, e = .returned (.slice (some ⟨g, 0, none⟩) N D.q) ∧ Row g D.q c w' ∧ Perm' D.q c ∧ Below w2.heap.size w2 w') := fun N hN w2 hb2 => by
    refine (places_any (HA.out.1.below hb2) (by omega) D.q N (by omega) (by omega) hN).mono ?_
    rintro e w' ⟨g, c, h1, _, h2, h3, h4⟩
    exact ⟨g, c, h1, h2, h3, h4⟩
  have HNu : Hid (∀ K : Nat, K ≤ 64 → ∀ w2, Below w.heap.size w w2 → Calls Tryz.prog 7 #[.slice ao n ca, .int .i64 3, .int .i64 D.q, .int .i64 K] w2 fun e w' => ∃ co cc u, e = .returned (.slice co K cc) ∧ Arg co K cc u w' ∧ Blw D.q K u ∧ Below w2.heap.size w2 w') := fun K hK w2 hb2 => by
    refine (numbers_any (HA.out.1.below hb2) (by omega) 3 D.q K (by omega) (by omega) (by omega) (by omega)).mono ?_
    rintro e w' ⟨v, u, rfl, ho, hbl, hb⟩
    obtain ⟨co, cc, rfl, hA⟩ := ho.argL
    exact ⟨co, cc, u, rfl, hA.arg (by omega), hbl, hb⟩
  have hnb : ¬ (256 : Int) < (n : Int) := by omega
  have HFd : Hid (∀ w1, Calls Tryz.prog 8 #[.int .i64 D.q] w1 fun e w' => ∃ gm cm, e = .returned (.tuple #[.agg #[.int .i64 D.q, .int .i64 D.p, .int .i64 D.m, .int .i64 D.gen, .slice (some ⟨gm, 0, none⟩) (D.m + 1) cm], .int .i64 0]) ∧ ModAt D (.slice (some ⟨gm, 0, none⟩) (D.m + 1) cm) D.md w' ∧ Below w1.heap.size w1 w') := fun w1 => rfield_sl HA.out.2.1 w1
  clear hD hDq hN0 ha hq hx hk hNe hl ht
  go_enter Tryz.func3, Tryz.ntmps3
  go_wp2_with fail
  refine (HS.out w).mono ?_
  rintro e w1 ⟨rfl, hb1⟩
  have HB1 : Hid (Below w.heap.size w w1) := hb1
  clear hb1
  go_wp2_with fail
  refine (HP1.out w1).mono ?_
  rintro e w' ⟨rfl, hw⟩
  have hw := hw.symm
  subst hw
  by_cases hNq : D.q < N1
  · have hNi : ((D.q : Nat) : Int) < (N1 : Int) := by omega
    have hNN : 1 ≤ D.q ∧ D.q ≤ 64 ∧ D.q ≤ D.q := by omega
    obtain ⟨K, hK1, hK2, K0, hwK, hPk⟩ := HK.out D.q hNN.1 hNN.2.1
    have HPk : Hid (∀ w : World, Calls Tryz.prog 5 #[.int .i64 k, .int .i64 (D.q : Nat)] w fun e w' => e = .returned (.int .i64 K0) ∧ w' = w) := hPk
    clear hPk
    go_wp2_with fail
    refine (HPl.out D.q hNN.2.2 w1 HB1.out).mono ?_
    rintro e w2 ⟨gx, c, rfl, hrow2, hperm, hb2⟩
    have H2 : Hid (Below w.heap.size w w2 ∧ Sl (some ⟨gx, 0, none⟩) D.q c w2 ∧ LtB (some ⟨gx, 0, none⟩) w2.heap.size ∧ (∀ i, i < D.q → c i < D.q) ∧ ∀ i j, i < D.q → j < D.q → i ≠ j → c i ≠ c j) := by
      refine ⟨bel_up' HB1.out hb2, hrow2.sl hNN.2.2, fun a ha => by cases ha; exact hrow2.lt, fun i hi => hperm.1 i (by omega), fun i j hi hj hij => ?_⟩
      rcases Nat.lt_or_ge i j with h | h
      · exact hperm.2 i j h (by omega)
      · exact fun e => hperm.2 j i (by omega) (by omega) e.symm
    clear hrow2 hperm hb2
    go_wp2_with fail
    refine (HPk.out w2).mono ?_
    rintro e w' ⟨rfl, hw⟩
    have hw := hw.symm
    subst hw
    go_wp2_with fail
    refine (HNu.out K (by omega) w2 H2.out.1).mono ?_
    rintro e w3 ⟨uo, uc, u, rfl, hA3, hbl3, hb3⟩
    obtain ⟨a, hae⟩ : ∃ a, a = zc K u := ⟨_, rfl⟩
    have H3 : Hid (Below w2.heap.size w2 w3 ∧ Below w.heap.size w w3 ∧ Arg uo K uc u w3 ∧ El D a ∧ Sl uo K a w3) := by
      have h1 := blw_chk hbl3 (show K ≤ 128 by omega)
      exact ⟨hb3, bel_up' H2.out.1 hb3, hA3, by rw [hae]; exact zc_el (fld HA.out.2.1) h1, by rw [hae]; exact zc_sl h1 hA3.sl⟩
    clear hA3 hbl3 hb3 hae
    go_wp2_with fail
    refine (HFd.out w3).mono ?_
    rintro x w4 ⟨gm, cm, rfl, hM4, hb4⟩
    obtain ⟨w5, hw5⟩ : ∃ w5, w5 = w4.alloc (.cells #[.int .i64 D.q, .int .i64 D.p, .int .i64 D.m, .int .i64 D.gen, .slice (some ⟨gm, 0, none⟩) (D.m + 1) cm] 28) := ⟨_, rfl⟩
    have H5 : Hid (Below w3.heap.size w3 w5 ∧ ModAt D (.slice (some ⟨gm, 0, none⟩) (D.m + 1) cm) D.md w5) := by
      have hb5 : Below w4.heap.size w4 w5 := by rw [hw5]; exact (Below.refl _ _).alloc (Nat.le_refl _) _
      exact ⟨bel_up' hb4 hb5, hM4.below hb5⟩
    clear hM4 hb4
    have HVl : Hid (Calls Tryz.prog 9 #[.agg #[.int .i64 D.q, .int .i64 D.p, .int .i64 D.m, .int .i64 D.gen, .slice (some ⟨gm, 0, none⟩) (D.m + 1) cm], .slice (some ⟨gx, 0, none⟩) D.q D.q, .slice uo K uc] w5 fun e w' => ∃ g yc y, e = .returned (.slice (some ⟨g, 0, none⟩) D.q yc) ∧ D.q ≤ yc ∧ yc ≤ 9223372036854775807 ∧ w5.heap.size ≤ g ∧ RowZ g D.q y w' ∧ Below w5.heap.size w5 w') := by
      have hb25 := bel_up' H3.out.1 H5.out.1
      refine (rvals_any HA.out.2.1 D.gen gm cm hNN.2.1 (by omega) (H2.out.2.1.below hb25 H2.out.2.2.1) (H3.out.2.2.2.2.below H5.out.1 H3.out.2.2.1.lt) (H2.out.2.2.1.mono hb25.size) (H3.out.2.2.1.lt.mono H5.out.1.size) H2.out.2.2.2.1 H3.out.2.2.2.1 H5.out.2).mono ?_
      rintro e w' ⟨v, rfl, hv, hb'⟩
      obtain ⟨g, cap, f, e1, g1, g2, g3, g4, g5, g6⟩ := hv.row D.q (zl_len _ _) (by omega)
      subst e1
      exact ⟨g, cap, _, rfl, g3, by unfold maxLen at g4; omega, g1, ⟨cap, f, g5, g3, fun k hk => by rw [g6 k hk, zl_getD _ _ k hk]⟩, hb'⟩
    go_wp2_with fail
    rw [← hw5]
    clear hw5
    refine HVl.out.mono ?_
    rintro e w6 ⟨g, yc, y, rfl, hyc1, hyc2, hg, hrow6, hb6⟩
    have H6 : Hid (RowZ g D.q y w6 ∧ Below w3.heap.size w3 w6 ∧ w3.heap.size ≤ g) := ⟨hrow6, bel_up' H5.out.1 hb6, by have := H5.out.1.size; omega⟩
    clear hrow6 hb6 hg HVl
    obtain ⟨X1, hX1⟩ : ∃ X1, X1 = D.q / 2 := ⟨_, rfl⟩
    have hX1w : Int.tdiv ((D.q : Nat) : Int) 2 = (X1 : Int) := by rw [Int.tdiv_eq_ediv_of_nonneg (by omega)]; omega
    obtain ⟨X2, hX2⟩ : ∃ X2, X2 = X1 + 2 := ⟨_, rfl⟩
    obtain ⟨X3, hX3⟩ : ∃ X3, X3 = X1 + 1 := ⟨_, rfl⟩
    have hX2w : (X1 : Int) + 2 = (X2 : Int) := by omega
    have hX3w : (X1 : Int) + 1 = (X3 : Int) := by omega
    have hwX2 : IntKind.i64.wrap (X2 : Int) = (X2 : Int) := wrap_ka (by omega) (by omega)
    have hwX3 : IntKind.i64.wrap (X3 : Int) = (X3 : Int) := wrap_ka (by omega) (by omega)
    obtain ⟨T, hTx, hPt⟩ := HPi.out t X2 HA.out.2.2.2 (by omega) (by omega)
    have HPt : Hid (∀ w : World, Calls Tryz.prog 5 #[.int .i64 t, .int .i64 (X2 : Nat)] w fun e w' => e = .returned (.int .i64 (T : Nat)) ∧ w' = w) := hPt
    obtain ⟨U, hUx, hPu⟩ := HPi.out l X3 HA.out.2.2.1 (by omega) (by omega)
    have HPu : Hid (∀ w : World, Calls Tryz.prog 5 #[.int .i64 l, .int .i64 (X3 : Nat)] w fun e w' => e = .returned (.int .i64 (U : Nat)) ∧ w' = w) := hPu
    have hX64 : X1 ≤ 64 := by omega
    have hT64 : T ≤ 70 := by omega
    have hU64 : U ≤ 70 := by omega
    clear hPt hPu hX1 hX2 hX3 hTx hUx
    go_wp2_with fail
    refine (HPt.out w6).mono ?_
    rintro e w' ⟨rfl, hw⟩
    have hw := hw.symm
    subst hw
    go_wp2_with fail
    refine (HPu.out w6).mono ?_
    rintro e w' ⟨rfl, hw⟩
    have hw := hw.symm
    subst hw
    have HRaw : Hid (∀ (j : Nat) wx, j ≤ 1000 → Below w3.heap.size w3 wx → Calls Tryz.prog 10 #[.slice ao n ca, .int .i64 (j : Nat)] wx fun e w' => (∃ r, e = .returned (.int .i64 r) ∧ I64 r) ∧ ∃ k, w' = wx.drewN k) := fun j wx hj hb => raw_any (HA.out.1.below (bel_up' H3.out.2.1 hb)) (by omega) j (by omega)
    go_wp2
    go_loopw [18] (fun vi wx => RmI T D.q g w3.heap.size w3 vi wx) (fun vi _ => T - (intOf vi).toNat)
    case atStart => exact ⟨0, y, by omega, rfl, H6.out.1, H6.out.2.1⟩
    case round =>
      obtain ⟨i, y, hi, rfl, HI⟩ := hrel
      rename World => wA
      by_cases hlt : i < T
      · have hib : (i : Int) < (T : Int) := by omega
        obtain ⟨j1, hj1⟩ : ∃ j1, j1 = 40 + i := ⟨_, rfl⟩
        have hj1w : 40 + (i : Int) = (j1 : Int) := by omega
        have hj1b : j1 ≤ 200 := by omega
        have hwj1 : IntKind.i64.wrap (j1 : Int) = (j1 : Int) := wrap_ka (by omega) (by omega)
        obtain ⟨j2, hj2⟩ : ∃ j2, j2 = 60 + i := ⟨_, rfl⟩
        have hj2w : 60 + (i : Int) = (j2 : Int) := by omega
        have hj2b : j2 ≤ 200 := by omega
        have hwj2 : IntKind.i64.wrap (j2 : Int) = (j2 : Int) := wrap_ka (by omega) (by omega)
        clear hj1 hj2
        go_wp2_with fail
        refine (HRaw.out j1 wA (by omega) HI.out.2).mono ?_
        rintro e w7 ⟨⟨r1, rfl, hr1⟩, d7, hw7⟩
        have H7 : Hid (Below wA.heap.size wA w7) := by rw [hw7]; exact below_drewN2 (Below.refl _ _) d7
        clear hw7
        obtain ⟨v1, hv1, hP1⟩ := HPi.out r1 D.q hr1 (by omega) (by omega)
        have HP7 : Hid (∀ w : World, Calls Tryz.prog 5 #[.int .i64 r1, .int .i64 (D.q : Nat)] w fun e w' => e = .returned (.int .i64 (v1 : Nat)) ∧ w' = w) := hP1
        clear hP1
        go_wp2_with fail
        refine (HP7.out w7).mono ?_
        rintro e w' ⟨rfl, hw⟩
        have hw := hw.symm
        subst hw
        go_wp2_with fail
        refine (HRaw.out j2 w7 (by omega) (bel_up' HI.out.2 H7.out)).mono ?_
        rintro e w8 ⟨⟨r2, rfl, hr2⟩, d8, hw8⟩
        have H8 : Hid (Below wA.heap.size wA w8) := by rw [hw8]; exact below_drewN2 H7.out d8
        clear hw8
        obtain ⟨v2, hv2, hP2⟩ := HPi.out r2 D.q hr2 (by omega) (by omega)
        have HP8 : Hid (∀ w : World, Calls Tryz.prog 5 #[.int .i64 r2, .int .i64 (D.q : Nat)] w fun e w' => e = .returned (.int .i64 (v2 : Nat)) ∧ w' = w) := hP2
        clear hP2
        go_wp2_with fail
        refine (HP8.out w8).mono ?_
        rintro e w' ⟨rfl, hw⟩
        have hw := hw.symm
        subst hw
        have hrow8 := HI.out.1.below H8.out (by obtain ⟨cap, f, h1, _⟩ := HI.out.1; exact h1.lt)
        have hcc := hrow8.cell v1 hv1
        have hff := hrow8.free v1
        obtain ⟨yv, hyv⟩ : ∃ yv, yv = y v1 := ⟨_, rfl⟩
        rw [← hyv] at hcc
        have hv1b : (v1 : Int) < ((D.q : Nat) : Int) := by omega
        have hv10 : (0 : Int) ≤ (v1 : Int) := by omega
        have HR : Hid (RmI T D.q g w3.heap.size w3 (.int .i64 ((i : Nat) + 1 : Int)) (w8.setCell ⟨g, v1, none⟩ (.int .i64 ((v2 : Nat) : Int)))) := ⟨i + 1, fun j => if j = v1 then ((v2 : Nat) : Int) else y j, by omega, rfl, hrow8.store v1 _ (fun j _ => rfl), (bel_up' HI.out.2 H8.out).setCell H6.out.2.2 _⟩
        clear hrow8 hyv
        go_wp2
        go_roundw
        case rel => exact HR.out
        case measure => simp [intOf]; omega
      · have hib : ¬ (i : Int) < (T : Int) := by omega
        have HI2 : Hid (RowZ g D.q y wA ∧ Below w3.heap.size w3 wA) := HI.out
        clear HI
        go_wp2
        go_loopw [19] (fun vi wx => RmI U D.q g w3.heap.size w3 vi wx) (fun vi _ => U - (intOf vi).toNat)
        case atStart => exact ⟨0, y, by omega, rfl, HI2.out⟩
        case round =>
          clear HI2
          obtain ⟨i2, y2, hi2, rfl, HI⟩ := hrel
          rename World => wB
          by_cases hlt2 : i2 < U
          · have hib2 : (i2 : Int) < (U : Int) := by omega
            obtain ⟨j1, hj1⟩ : ∃ j1, j1 = 80 + i2 := ⟨_, rfl⟩
            have hj1w : 80 + (i2 : Int) = (j1 : Int) := by omega
            have hj1b : j1 ≤ 200 := by omega
            have hwj1 : IntKind.i64.wrap (j1 : Int) = (j1 : Int) := wrap_ka (by omega) (by omega)
            clear hj1
            go_wp2_with fail
            refine (HRaw.out j1 wB (by omega) HI.out.2).mono ?_
            rintro e w8 ⟨⟨r1, rfl, hr1⟩, d8, hw8⟩
            have H8 : Hid (Below wB.heap.size wB w8) := by rw [hw8]; exact below_drewN2 (Below.refl _ _) d8
            clear hw8
            obtain ⟨v1, hv1, hP1⟩ := HPi.out r1 D.q hr1 (by omega) (by omega)
            have HP7 : Hid (∀ w : World, Calls Tryz.prog 5 #[.int .i64 r1, .int .i64 (D.q : Nat)] w fun e w' => e = .returned (.int .i64 (v1 : Nat)) ∧ w' = w) := hP1
            clear hP1
            go_wp2_with fail
            refine (HP7.out w8).mono ?_
            rintro e w' ⟨rfl, hw⟩
            have hw := hw.symm
            subst hw
            have hrow8 := HI.out.1.below H8.out (by obtain ⟨cap, f, h1, _⟩ := HI.out.1; exact h1.lt)
            have hcc := hrow8.cell v1 hv1
            have hff := hrow8.free v1
            obtain ⟨yv, hyv⟩ : ∃ yv, yv = y2 v1 := ⟨_, rfl⟩
            rw [← hyv] at hcc
            have hv1b : (v1 : Int) < ((D.q : Nat) : Int) := by omega
            have hv10 : (0 : Int) ≤ (v1 : Int) := by omega
            have HR : Hid (RmI U D.q g w3.heap.size w3 (.int .i64 ((i2 : Nat) + 1 : Int)) (w8.setCell ⟨g, v1, none⟩ (.int .i64 (-1)))) := ⟨i2 + 1, fun j => if j = v1 then -1 else y2 j, by omega, rfl, hrow8.store v1 _ (fun j _ => rfl), (bel_up' HI.out.2 H8.out).setCell H6.out.2.2 _⟩
            clear hrow8 hyv
            go_wp2
            go_roundw
            case rel => exact HR.out
            case measure => simp [intOf]; omega
          · have hib2 : ¬ (i2 : Int) < (U : Int) := by omega
            have HRs : Hid (Calls Tryz.prog 11 #[.int .i64 D.q, .slice (some ⟨gx, 0, none⟩) D.q D.q, .int .i64 (K : Nat), .slice uo K uc, .slice (some ⟨g, 0, none⟩) D.q yc] wB fun x w' => x = .returned (.bool true) ∧ Below wB.heap.size wB w') := by
              have hb2 := bel_up' H3.out.1 HI.out.2
              have h1 : Arg (some ⟨gx, 0, none⟩) D.q D.q (fun j => ((c j : Nat) : Int)) wB := ⟨(H2.out.2.1.below hb2 H2.out.2.2.1).z, H2.out.2.2.1.mono hb2.size, by omega, fun e => (by cases e), hNN.2.2, by omega⟩
              have h2 : Arg (some ⟨g, 0, none⟩) D.q yc y2 wB := ⟨fun j hj => ⟨g, 0, rfl, by rw [Nat.zero_add]; exact HI.out.1.cell j hj⟩, fun x hx => by cases hx; obtain ⟨cap, f, h1, _⟩ := HI.out.1; exact h1.lt, by omega, fun e => (by cases e), hyc1, hyc2⟩
              exact reedSays_field HA.out.2.1 (K : Nat) h1 (H3.out.2.2.1.below HI.out.2) h2 (by omega)
            have HB9 : Hid (Below w.heap.size w wB) := bel_up' H3.out.2.1 HI.out.2
            clear HI
            go_wp2_with fail
            refine HRs.out.mono ?_
            rintro x w9 ⟨rfl, hb9⟩
            have H9 : Hid (Below w.heap.size w w9) := bel_up' HB9.out hb9
            clear hb9
            go_wp2
            go_ret
            exact ⟨rfl, H9.out⟩
  · have hNi : ¬ ((D.q : Nat) : Int) < (N1 : Int) := by omega
    have hNN : 1 ≤ N1 ∧ N1 ≤ 64 ∧ N1 ≤ D.q := by omega
    obtain ⟨K, hK1, hK2, K0, hwK, hPk⟩ := HK.out N1 hNN.1 hNN.2.1
    have HPk : Hid (∀ w : World, Calls Tryz.prog 5 #[.int .i64 k, .int .i64 (N1 : Nat)] w fun e w' => e = .returned (.int .i64 K0) ∧ w' = w) := hPk
    clear hPk
    go_wp2_with fail
    refine (HPl.out N1 hNN.2.2 w1 HB1.out).mono ?_
    rintro e w2 ⟨gx, c, rfl, hrow2, hperm, hb2⟩
    have H2 : Hid (Below w.heap.size w w2 ∧ Sl (some ⟨gx, 0, none⟩) N1 c w2 ∧ LtB (some ⟨gx, 0, none⟩) w2.heap.size ∧ (∀ i, i < N1 → c i < D.q) ∧ ∀ i j, i < N1 → j < N1 → i ≠ j → c i ≠ c j) := by
      refine ⟨bel_up' HB1.out hb2, hrow2.sl hNN.2.2, fun a ha => by cases ha; exact hrow2.lt, fun i hi => hperm.1 i (by omega), fun i j hi hj hij => ?_⟩
      rcases Nat.lt_or_ge i j with h | h
      · exact hperm.2 i j h (by omega)
      · exact fun e => hperm.2 j i (by omega) (by omega) e.symm
    clear hrow2 hperm hb2
    go_wp2_with fail
    refine (HPk.out w2).mono ?_
    rintro e w' ⟨rfl, hw⟩
    have hw := hw.symm
    subst hw
    go_wp2_with fail
    refine (HNu.out K (by omega) w2 H2.out.1).mono ?_
    rintro e w3 ⟨uo, uc, u, rfl, hA3, hbl3, hb3⟩
    obtain ⟨a, hae⟩ : ∃ a, a = zc K u := ⟨_, rfl⟩
    have H3 : Hid (Below w2.heap.size w2 w3 ∧ Below w.heap.size w w3 ∧ Arg uo K uc u w3 ∧ El D a ∧ Sl uo K a w3) := by
      have h1 := blw_chk hbl3 (show K ≤ 128 by omega)
      exact ⟨hb3, bel_up' H2.out.1 hb3, hA3, by rw [hae]; exact zc_el (fld HA.out.2.1) h1, by rw [hae]; exact zc_sl h1 hA3.sl⟩
    clear hA3 hbl3 hb3 hae
    go_wp2_with fail
    refine (HFd.out w3).mono ?_
    rintro x w4 ⟨gm, cm, rfl, hM4, hb4⟩
    obtain ⟨w5, hw5⟩ : ∃ w5, w5 = w4.alloc (.cells #[.int .i64 D.q, .int .i64 D.p, .int .i64 D.m, .int .i64 D.gen, .slice (some ⟨gm, 0, none⟩) (D.m + 1) cm] 28) := ⟨_, rfl⟩
    have H5 : Hid (Below w3.heap.size w3 w5 ∧ ModAt D (.slice (some ⟨gm, 0, none⟩) (D.m + 1) cm) D.md w5) := by
      have hb5 : Below w4.heap.size w4 w5 := by rw [hw5]; exact (Below.refl _ _).alloc (Nat.le_refl _) _
      exact ⟨bel_up' hb4 hb5, hM4.below hb5⟩
    clear hM4 hb4
    have HVl : Hid (Calls Tryz.prog 9 #[.agg #[.int .i64 D.q, .int .i64 D.p, .int .i64 D.m, .int .i64 D.gen, .slice (some ⟨gm, 0, none⟩) (D.m + 1) cm], .slice (some ⟨gx, 0, none⟩) N1 D.q, .slice uo K uc] w5 fun e w' => ∃ g yc y, e = .returned (.slice (some ⟨g, 0, none⟩) N1 yc) ∧ N1 ≤ yc ∧ yc ≤ 9223372036854775807 ∧ w5.heap.size ≤ g ∧ RowZ g N1 y w' ∧ Below w5.heap.size w5 w') := by
      have hb25 := bel_up' H3.out.1 H5.out.1
      refine (rvals_any HA.out.2.1 D.gen gm cm hNN.2.1 (by omega) (H2.out.2.1.below hb25 H2.out.2.2.1) (H3.out.2.2.2.2.below H5.out.1 H3.out.2.2.1.lt) (H2.out.2.2.1.mono hb25.size) (H3.out.2.2.1.lt.mono H5.out.1.size) H2.out.2.2.2.1 H3.out.2.2.2.1 H5.out.2).mono ?_
      rintro e w' ⟨v, rfl, hv, hb'⟩
      obtain ⟨g, cap, f, e1, g1, g2, g3, g4, g5, g6⟩ := hv.row N1 (zl_len _ _) (by omega)
      subst e1
      exact ⟨g, cap, _, rfl, g3, by unfold maxLen at g4; omega, g1, ⟨cap, f, g5, g3, fun k hk => by rw [g6 k hk, zl_getD _ _ k hk]⟩, hb'⟩
    go_wp2_with fail
    rw [← hw5]
    clear hw5
    refine HVl.out.mono ?_
    rintro e w6 ⟨g, yc, y, rfl, hyc1, hyc2, hg, hrow6, hb6⟩
    have H6 : Hid (RowZ g N1 y w6 ∧ Below w3.heap.size w3 w6 ∧ w3.heap.size ≤ g) := ⟨hrow6, bel_up' H5.out.1 hb6, by have := H5.out.1.size; omega⟩
    clear hrow6 hb6 hg HVl
    obtain ⟨X1, hX1⟩ : ∃ X1, X1 = N1 / 2 := ⟨_, rfl⟩
    have hX1w : Int.tdiv ((N1 : Nat) : Int) 2 = (X1 : Int) := by rw [Int.tdiv_eq_ediv_of_nonneg (by omega)]; omega
    obtain ⟨X2, hX2⟩ : ∃ X2, X2 = X1 + 2 := ⟨_, rfl⟩
    obtain ⟨X3, hX3⟩ : ∃ X3, X3 = X1 + 1 := ⟨_, rfl⟩
    have hX2w : (X1 : Int) + 2 = (X2 : Int) := by omega
    have hX3w : (X1 : Int) + 1 = (X3 : Int) := by omega
    have hwX2 : IntKind.i64.wrap (X2 : Int) = (X2 : Int) := wrap_ka (by omega) (by omega)
    have hwX3 : IntKind.i64.wrap (X3 : Int) = (X3 : Int) := wrap_ka (by omega) (by omega)
    obtain ⟨T, hTx, hPt⟩ := HPi.out t X2 HA.out.2.2.2 (by omega) (by omega)
    have HPt : Hid (∀ w : World, Calls Tryz.prog 5 #[.int .i64 t, .int .i64 (X2 : Nat)] w fun e w' => e = .returned (.int .i64 (T : Nat)) ∧ w' = w) := hPt
    obtain ⟨U, hUx, hPu⟩ := HPi.out l X3 HA.out.2.2.1 (by omega) (by omega)
    have HPu : Hid (∀ w : World, Calls Tryz.prog 5 #[.int .i64 l, .int .i64 (X3 : Nat)] w fun e w' => e = .returned (.int .i64 (U : Nat)) ∧ w' = w) := hPu
    have hX64 : X1 ≤ 64 := by omega
    have hT64 : T ≤ 70 := by omega
    have hU64 : U ≤ 70 := by omega
    clear hPt hPu hX1 hX2 hX3 hTx hUx
    go_wp2_with fail
    refine (HPt.out w6).mono ?_
    rintro e w' ⟨rfl, hw⟩
    have hw := hw.symm
    subst hw
    go_wp2_with fail
    refine (HPu.out w6).mono ?_
    rintro e w' ⟨rfl, hw⟩
    have hw := hw.symm
    subst hw
    have HRaw : Hid (∀ (j : Nat) wx, j ≤ 1000 → Below w3.heap.size w3 wx → Calls Tryz.prog 10 #[.slice ao n ca, .int .i64 (j : Nat)] wx fun e w' => (∃ r, e = .returned (.int .i64 r) ∧ I64 r) ∧ ∃ k, w' = wx.drewN k) := fun j wx hj hb => raw_any (HA.out.1.below (bel_up' H3.out.2.1 hb)) (by omega) j (by omega)
    go_wp2
    go_loopw [18] (fun vi wx => RmI T N1 g w3.heap.size w3 vi wx) (fun vi _ => T - (intOf vi).toNat)
    case atStart => exact ⟨0, y, by omega, rfl, H6.out.1, H6.out.2.1⟩
    case round =>
      obtain ⟨i, y, hi, rfl, HI⟩ := hrel
      rename World => wA
      by_cases hlt : i < T
      · have hib : (i : Int) < (T : Int) := by omega
        obtain ⟨j1, hj1⟩ : ∃ j1, j1 = 40 + i := ⟨_, rfl⟩
        have hj1w : 40 + (i : Int) = (j1 : Int) := by omega
        have hj1b : j1 ≤ 200 := by omega
        have hwj1 : IntKind.i64.wrap (j1 : Int) = (j1 : Int) := wrap_ka (by omega) (by omega)
        obtain ⟨j2, hj2⟩ : ∃ j2, j2 = 60 + i := ⟨_, rfl⟩
        have hj2w : 60 + (i : Int) = (j2 : Int) := by omega
        have hj2b : j2 ≤ 200 := by omega
        have hwj2 : IntKind.i64.wrap (j2 : Int) = (j2 : Int) := wrap_ka (by omega) (by omega)
        clear hj1 hj2
        go_wp2_with fail
        refine (HRaw.out j1 wA (by omega) HI.out.2).mono ?_
        rintro e w7 ⟨⟨r1, rfl, hr1⟩, d7, hw7⟩
        have H7 : Hid (Below wA.heap.size wA w7) := by rw [hw7]; exact below_drewN2 (Below.refl _ _) d7
        clear hw7
        obtain ⟨v1, hv1, hP1⟩ := HPi.out r1 N1 hr1 (by omega) (by omega)
        have HP7 : Hid (∀ w : World, Calls Tryz.prog 5 #[.int .i64 r1, .int .i64 (N1 : Nat)] w fun e w' => e = .returned (.int .i64 (v1 : Nat)) ∧ w' = w) := hP1
        clear hP1
        go_wp2_with fail
        refine (HP7.out w7).mono ?_
        rintro e w' ⟨rfl, hw⟩
        have hw := hw.symm
        subst hw
        go_wp2_with fail
        refine (HRaw.out j2 w7 (by omega) (bel_up' HI.out.2 H7.out)).mono ?_
        rintro e w8 ⟨⟨r2, rfl, hr2⟩, d8, hw8⟩
        have H8 : Hid (Below wA.heap.size wA w8) := by rw [hw8]; exact below_drewN2 H7.out d8
        clear hw8
        obtain ⟨v2, hv2, hP2⟩ := HPi.out r2 D.q hr2 (by omega) (by omega)
        have HP8 : Hid (∀ w : World, Calls Tryz.prog 5 #[.int .i64 r2, .int .i64 (D.q : Nat)] w fun e w' => e = .returned (.int .i64 (v2 : Nat)) ∧ w' = w) := hP2
        clear hP2
        go_wp2_with fail
        refine (HP8.out w8).mono ?_
        rintro e w' ⟨rfl, hw⟩
        have hw := hw.symm
        subst hw
        have hrow8 := HI.out.1.below H8.out (by obtain ⟨cap, f, h1, _⟩ := HI.out.1; exact h1.lt)
        have hcc := hrow8.cell v1 hv1
        have hff := hrow8.free v1
        obtain ⟨yv, hyv⟩ : ∃ yv, yv = y v1 := ⟨_, rfl⟩
        rw [← hyv] at hcc
        have hv1b : (v1 : Int) < ((N1 : Nat) : Int) := by omega
        have hv10 : (0 : Int) ≤ (v1 : Int) := by omega
        have HR : Hid (RmI T N1 g w3.heap.size w3 (.int .i64 ((i : Nat) + 1 : Int)) (w8.setCell ⟨g, v1, none⟩ (.int .i64 ((v2 : Nat) : Int)))) := ⟨i + 1, fun j => if j = v1 then ((v2 : Nat) : Int) else y j, by omega, rfl, hrow8.store v1 _ (fun j _ => rfl), (bel_up' HI.out.2 H8.out).setCell H6.out.2.2 _⟩
        clear hrow8 hyv
        go_wp2
        go_roundw
        case rel => exact HR.out
        case measure => simp [intOf]; omega
      · have hib : ¬ (i : Int) < (T : Int) := by omega
        have HI2 : Hid (RowZ g N1 y wA ∧ Below w3.heap.size w3 wA) := HI.out
        clear HI
        go_wp2
        go_loopw [19] (fun vi wx => RmI U N1 g w3.heap.size w3 vi wx) (fun vi _ => U - (intOf vi).toNat)
        case atStart => exact ⟨0, y, by omega, rfl, HI2.out⟩
        case round =>
          clear HI2
          obtain ⟨i2, y2, hi2, rfl, HI⟩ := hrel
          rename World => wB
          by_cases hlt2 : i2 < U
          · have hib2 : (i2 : Int) < (U : Int) := by omega
            obtain ⟨j1, hj1⟩ : ∃ j1, j1 = 80 + i2 := ⟨_, rfl⟩
            have hj1w : 80 + (i2 : Int) = (j1 : Int) := by omega
            have hj1b : j1 ≤ 200 := by omega
            have hwj1 : IntKind.i64.wrap (j1 : Int) = (j1 : Int) := wrap_ka (by omega) (by omega)
            clear hj1
            go_wp2_with fail
            refine (HRaw.out j1 wB (by omega) HI.out.2).mono ?_
            rintro e w8 ⟨⟨r1, rfl, hr1⟩, d8, hw8⟩
            have H8 : Hid (Below wB.heap.size wB w8) := by rw [hw8]; exact below_drewN2 (Below.refl _ _) d8
            clear hw8
            obtain ⟨v1, hv1, hP1⟩ := HPi.out r1 N1 hr1 (by omega) (by omega)
            have HP7 : Hid (∀ w : World, Calls Tryz.prog 5 #[.int .i64 r1, .int .i64 (N1 : Nat)] w fun e w' => e = .returned (.int .i64 (v1 : Nat)) ∧ w' = w) := hP1
            clear hP1
            go_wp2_with fail
            refine (HP7.out w8).mono ?_
            rintro e w' ⟨rfl, hw⟩
            have hw := hw.symm
            subst hw
            have hrow8 := HI.out.1.below H8.out (by obtain ⟨cap, f, h1, _⟩ := HI.out.1; exact h1.lt)
            have hcc := hrow8.cell v1 hv1
            have hff := hrow8.free v1
            obtain ⟨yv, hyv⟩ : ∃ yv, yv = y2 v1 := ⟨_, rfl⟩
            rw [← hyv] at hcc
            have hv1b : (v1 : Int) < ((N1 : Nat) : Int) := by omega
            have hv10 : (0 : Int) ≤ (v1 : Int) := by omega
            have HR : Hid (RmI U N1 g w3.heap.size w3 (.int .i64 ((i2 : Nat) + 1 : Int)) (w8.setCell ⟨g, v1, none⟩ (.int .i64 (-1)))) := ⟨i2 + 1, fun j => if j = v1 then -1 else y2 j, by omega, rfl, hrow8.store v1 _ (fun j _ => rfl), (bel_up' HI.out.2 H8.out).setCell H6.out.2.2 _⟩
            clear hrow8 hyv
            go_wp2
            go_roundw
            case rel => exact HR.out
            case measure => simp [intOf]; omega
          · have hib2 : ¬ (i2 : Int) < (U : Int) := by omega
            have HRs : Hid (Calls Tryz.prog 11 #[.int .i64 D.q, .slice (some ⟨gx, 0, none⟩) N1 D.q, .int .i64 (K : Nat), .slice uo K uc, .slice (some ⟨g, 0, none⟩) N1 yc] wB fun x w' => x = .returned (.bool true) ∧ Below wB.heap.size wB w') := by
              have hb2 := bel_up' H3.out.1 HI.out.2
              have h1 : Arg (some ⟨gx, 0, none⟩) N1 D.q (fun j => ((c j : Nat) : Int)) wB := ⟨(H2.out.2.1.below hb2 H2.out.2.2.1).z, H2.out.2.2.1.mono hb2.size, by omega, fun e => (by cases e), hNN.2.2, by omega⟩
              have h2 : Arg (some ⟨g, 0, none⟩) N1 yc y2 wB := ⟨fun j hj => ⟨g, 0, rfl, by rw [Nat.zero_add]; exact HI.out.1.cell j hj⟩, fun x hx => by cases hx; obtain ⟨cap, f, h1, _⟩ := HI.out.1; exact h1.lt, by omega, fun e => (by cases e), hyc1, hyc2⟩
              exact reedSays_field HA.out.2.1 (K : Nat) h1 (H3.out.2.2.1.below HI.out.2) h2 (by omega)
            have HB9 : Hid (Below w.heap.size w wB) := bel_up' H3.out.2.1 HI.out.2
            clear HI
            go_wp2_with fail
            refine HRs.out.mono ?_
            rintro x w9 ⟨rfl, hb9⟩
            have H9 : Hid (Below w.heap.size w w9) := bel_up' HB9.out hb9
            clear hb9
            go_wp2
            go_ret
            exact ⟨rfl, H9.out⟩
end Go.Proofs.YtnjbnamcedfjaaaGreat
