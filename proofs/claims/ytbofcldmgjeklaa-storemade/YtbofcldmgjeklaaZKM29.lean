/- StoreMade: the walk of the statement, whatever raw numbers it is given (printed by make/km29.py). -/
import Derived.Test.YtbofcldmgjeklaaZKM27
import Derived.Test.YtbofcldmgjeklaaZO3
import Derived.Test.YtbofcldmgjeklaaZQ5
namespace Go.Proofs.Ytbofcldmgjeklaa
open Go.RowKit Go.Sort

/-- What a round reads that works out a help. -/
def HlS (B : Nat) (D : FD) (gm cm bs os gA bA cA d x : Nat) (w : World) : Prop :=
  w.cell? ⟨B, 0, none⟩ = some (.int .i64 D.q) ∧ w.cell? ⟨B, 1, none⟩ = some (.int .i64 D.p) ∧ w.cell? ⟨B, 2, none⟩ = some (.int .i64 D.m) ∧ w.cell? ⟨B, 3, none⟩ = some (.int .i64 D.gen) ∧ w.cell? ⟨B, 4, none⟩ = some (.slice (some ⟨gm, 0, none⟩) (D.m + 1) cm) ∧ w.cell? ⟨bs, os, none⟩ = some (.int .i64 (x : Nat)) ∧ w.cell? ⟨gA, x, none⟩ = some (.slice (some ⟨bA, 0, none⟩) d cA)

set_option maxHeartbeats 1000000 in
theorem storeMade_long {ao : Option Addr} {n ca : Nat} (q a k d lost : Int) (turned : Bool) (w : World) (hn : ¬ n ≤ 256) (hn2 : n ≤ 17592186044416) :
    Calls Try.prog 4 #[.slice ao n ca, .int .i64 q, .int .i64 a, .int .i64 k, .int .i64 d, .int .i64 lost, .bool turned] w fun r w' => r = .returned (.bool true) ∧ Below w.heap.size w w' := by
  have h1 : (256 : Int) < (n : Int) := by omega
  go_enter Try.func4, Try.ntmps4
  go_wp2
  go_ret
  exact ⟨rfl, Below.refl _ _⟩

set_option maxHeartbeats 16000000 in
set_option maxRecDepth 100000 in
theorem storeMade_walk {ao : Option Addr} {n ca : Nat} {z : Nat → Int} (q a k d lost : Int) (turned : Bool) {w : World} (ha : Arg ao n ca z w) (hn : n ≤ 256) (hq : I64 q) (haa : I64 a) (hk : I64 k) (hd : I64 d) :
    Calls Try.prog 4 #[.slice ao n ca, .int .i64 q, .int .i64 a, .int .i64 k, .int .i64 d, .int .i64 lost, .bool turned] w fun r w' => r = .returned (.bool true) ∧ Below w.heap.size w w' := by
  obtain ⟨M, hM0, hM1⟩ := lpick_small q (k := 9) (by omega)
  obtain ⟨D, hD, hDq, hQ1, hQ2⟩ := smq_field M hM1
  obtain ⟨Q1, hQQ⟩ : ∃ Q1, D.q = Q1 + 1 := ⟨D.q - 1, by omega⟩
  obtain ⟨N0, hN0, hN1⟩ := lpick_small a (k := Q1) (by omega)
  obtain ⟨N2, hN2⟩ : ∃ N2, N2 = 2 + N0 := ⟨_, rfl⟩
  obtain ⟨nn, hnn⟩ : ∃ nn, nn = if 10 < N2 then 10 else N2 := ⟨_, rfl⟩
  have hnb : 2 ≤ nn ∧ nn ≤ 10 ∧ nn ≤ D.q := by
    rw [hnn]
    split <;> omega
  obtain ⟨n1, hn1⟩ : ∃ n1, nn = n1 + 1 := ⟨nn - 1, by omega⟩
  obtain ⟨D0, hD0, hD1⟩ := lpick_small d (k := n1) (by omega)
  obtain ⟨dd, hdd⟩ : ∃ dd, dd = 1 + D0 := ⟨_, rfl⟩
  obtain ⟨K0, hK0, hK1⟩ := lpick_small k (k := dd) (by omega)
  obtain ⟨kk, hkk⟩ : ∃ kk, kk = 1 + K0 := ⟨_, rfl⟩
  obtain ⟨d1, hd1⟩ : ∃ d1, dd = d1 + 1 := ⟨dd - 1, by omega⟩
  obtain ⟨fz, hfz⟩ : ∃ fz, fz = fsz kk dd := ⟨_, rfl⟩
  have hb : 1 ≤ kk ∧ kk ≤ dd ∧ dd ≤ 9 ∧ dd < nn := by omega
  obtain ⟨b1, b2, b3, b4⟩ := hb
  have hfzb : fz ≤ 1000 := by have h := fsz_le b2 (show dd ≤ 15 by omega); rw [hfz]; unfold fsz; omega
  have HA : Hid (Arg ao n ca z w ∧ D ∈ fieldsL) := ⟨ha, hD⟩
  have HP1 : Hid (∀ w : World, Calls Try.prog 19 #[.int .i64 q, .int .i64 9] w fun e w' => e = .returned (.int .i64 (M : Nat)) ∧ w' = w) := fun w => by rw [← hM0]; exact pick_any q 9 w hq.1 hq.2 (by omega) (by omega)
  have HP2 : Hid (∀ w : World, Calls Try.prog 19 #[.int .i64 a, .int .i64 (Q1 : Nat)] w fun e w' => e = .returned (.int .i64 (N0 : Nat)) ∧ w' = w) := fun w => by rw [← hN0]; exact pick_any a Q1 w haa.1 haa.2 (by omega) (by omega)
  have HP3 : Hid (∀ w : World, Calls Try.prog 19 #[.int .i64 d, .int .i64 (n1 : Nat)] w fun e w' => e = .returned (.int .i64 (D0 : Nat)) ∧ w' = w) := fun w => by rw [← hD0]; exact pick_any d n1 w hd.1 hd.2 (by omega) (by omega)
  have HP4 : Hid (∀ w : World, Calls Try.prog 19 #[.int .i64 k, .int .i64 (dd : Nat)] w fun e w' => e = .returned (.int .i64 (K0 : Nat)) ∧ w' = w) := fun w => by rw [← hK0]; exact pick_any k dd w hk.1 hk.2 (by omega) (by omega)
  have hw1 : IntKind.i64.wrap ((D.q : Int) - 1) = (Q1 : Int) := wrap_to (by omega) (by omega)
  have hw2 : IntKind.i64.wrap (2 + (N0 : Int)) = (N2 : Int) := wrap_to (by omega) (by omega)
  have hw3 : IntKind.i64.wrap ((nn : Int) - 1) = (n1 : Int) := wrap_to (by omega) (by omega)
  have hw4 : IntKind.i64.wrap (1 + (D0 : Int)) = (dd : Int) := wrap_to (by omega) (by omega)
  have hw5 : IntKind.i64.wrap (1 + (K0 : Int)) = (kk : Int) := wrap_to (by omega) (by omega)
  have hnb0 : ¬ (256 : Int) < (n : Int) := by omega
  have hM2 : (M : Int) < 9 := by omega
  have HN2 : Hid (nn = if 10 < N2 then 10 else N2) := hnn
  have HDd : Hid (dd = d1 + 1) := hd1
  have HFz : Hid (fz = fsz kk dd) := hfz
  obtain ⟨wB, hwB⟩ : ∃ wB, wB = w.alloc (.cells #[.int .i64 3, .int .i64 4, .int .i64 5, .int .i64 7, .int .i64 8, .int .i64 9, .int .i64 11, .int .i64 13, .int .i64 16] 3) := ⟨_, rfl⟩
  have hcB : wB.cell? ⟨w.heap.size, M, none⟩ = some (.int .i64 (D.q : Nat)) := by
    rw [hwB, cell_of_row _ _ _ _ _ (0, 0) (two_new _), smq_cell M hM1, hDq]
  have HB : Hid (Below w.heap.size w wB) := by rw [hwB]; exact (Below.refl _ _).alloc (Nat.le_refl _) _
  clear hM0 hN0 hK0 hD0 ha hq haa hk hd hQQ hN2 hnn hn1 hdd hkk hd1 hfz hD hDq hM1
  go_enter Try.func4, Try.ntmps4
  go_wp2_with fail
  rw [← hwB]
  clear hwB
  refine (HP1.out wB).mono ?_
  rintro e w' ⟨rfl, hw⟩
  have hw := hw.symm
  subst hw
  go_wp2_with fail
  refine (HP2.out wB).mono ?_
  rintro e w' ⟨rfl, hw⟩
  have hw := hw.symm
  subst hw
  clear hcB
  go_upto_if 45 with fail
  go_cut [2] (fun v2 wx => v2 = .int .i64 (nn : Nat) ∧ wx = wB)
  case first =>
    by_cases c : 10 < N2
    · have hc : (10 : Int) < (N2 : Int) := by omega
      have he : nn = 10 := by rw [HN2.out, if_pos c]
      have HE : Hid ((nn : Int) = 10) := by show (nn : Int) = 10; omega
      clear he
      go_wp2
      go_meet
      case rel => exact ⟨by rw [HE.out], rfl⟩
    · have hc : ¬ (10 : Int) < (N2 : Int) := by omega
      have HE : Hid ((nn : Int) = (N2 : Int)) := by show (nn : Int) = (N2 : Int); rw [HN2.out, if_neg c]
      go_wp2
      go_meet
      case rel => exact ⟨by rw [HE.out], rfl⟩
  case rest =>
    obtain ⟨hv2, hwc⟩ := hcut
    subst hv2
    have hwc := hwc.symm
    subst hwc
    go_wp2_with fail
    refine (HP3.out wB).mono ?_
    rintro e w' ⟨rfl, hw⟩
    have hw := hw.symm
    subst hw
    go_wp2_with fail
    refine (HP4.out wB).mono ?_
    rintro e w' ⟨rfl, hw⟩
    have hw := hw.symm
    subst hw
    go_wp2_with fail
    refine (rfield_sl HA.out.2 wB).mono ?_
    rintro e w3 ⟨gm, cm, rfl, hM3, hb3⟩
    unfold rf
    obtain ⟨wb, hwb⟩ : ∃ wb, wb = w3.alloc (.cells #[.int .i64 D.q, .int .i64 D.p, .int .i64 D.m, .int .i64 D.gen, .slice (some ⟨gm, 0, none⟩) (D.m + 1) cm] 31) := ⟨_, rfl⟩
    have hbb : Below w3.heap.size w3 wb := by rw [hwb]; exact (Below.refl _ _).alloc (Nat.le_refl _) _
    have HW : Hid (Box w3.heap.size D D.gen (.slice (some ⟨gm, 0, none⟩) (D.m + 1) cm) wb ∧ ModAt D (.slice (some ⟨gm, 0, none⟩) (D.m + 1) cm) D.md wb ∧ D ∈ fieldsL ∧ Below w.heap.size w wb ∧ Arg ao n ca z wb ∧ w3.heap.size < wb.heap.size) := ⟨by rw [hwb]; exact box_new D D.gen _ w3, hM3.below hbb, HA.out.2, bel_up' (bel_up' HB.out hb3) hbb, HA.out.1.below (bel_up' (bel_up' HB.out hb3) hbb), by rw [hwb]; simp⟩
    have HBx : Hid (∀ wx, Below wb.heap.size wb wx → Box w3.heap.size D D.gen (.slice (some ⟨gm, 0, none⟩) (D.m + 1) cm) wx) := fun wx hb => HW.out.1.below (B := wb.heap.size) hb HW.out.2.2.2.2.2
    have HFs : Hid (Calls Try.prog 12 #[.int .i64 (kk : Nat), .int .i64 (dd : Nat)] wb fun e w' => e = .returned (.int .i64 (fz : Nat)) ∧ w' = wb) := by
      show Calls _ _ _ _ _
      rw [HFz.out]; exact fileSize_any b2 (by omega) wb
    clear hM3 hb3 hbb
    go_wp2_with fail
    rw [← hwb]
    clear hwb
    refine HFs.out.mono ?_
    rintro e w' ⟨rfl, hw⟩
    have hw := hw.symm
    subst hw
    go_wp2_with fail
    refine (numbers_any HW.out.2.2.2.2.1 (by omega) 0 D.q fz (by omega) (by omega) (by omega) (by omega)).mono ?_
    rintro e w4 ⟨v4, y4, rfl, ho4, hbl4, hb4⟩
    obtain ⟨fo, fc, rfl, hA4⟩ := ho4.argL
    have H4 : Hid (ArgL fo fz fc y4 w4 ∧ Blw D.q fz y4 ∧ Below wb.heap.size wb w4) := ⟨hA4, hbl4, hb4⟩
    clear ho4 hA4 hbl4 hb4
    have HEl : Hid (El D (zc fz y4)) := fun j => by
      unfold zc
      split
      · rename_i hj
        have := H4.out.2.1 j hj
        omega
      · exact zero_lt' (fld HA.out.2)
    have HWr : Hid (Calls Try.prog 14 #[.agg #[.int .i64 D.q, .int .i64 D.p, .int .i64 D.m, .int .i64 D.gen, .slice (some ⟨gm, 0, none⟩) (D.m + 1) cm], .int .i64 (nn : Nat), .int .i64 (kk : Nat), .int .i64 (dd : Nat), .slice fo fz fc] w4 fun e w' => ∃ v, e = .returned v ∧ LLs w4.heap.size v (rl nn d1 (wrt D kk dd (zc fz y4))) w' ∧ Below w4.heap.size w4 w') := by
      have hsl : Sl fo fz (zc fz y4) w4 := fun j hj => by
        obtain ⟨b, off, e, hc⟩ := H4.out.1.sl j hj
        refine ⟨b, off, e, ?_⟩
        rw [hc]
        have := H4.out.2.1 j hj
        unfold zc
        rw [if_pos hj, show ((y4 j).toNat : Int) = y4 j by omega]
      show Calls _ _ _ _ _
      have h := rwritten_any (fc := fc) (c := zc fz y4) HA.out.2 D.gen gm cm (n := nn) (k := kk) (d := dd) (d1 := d1) HDd.out b1 b2 (by omega) (by omega) (by omega) HEl.out (by rw [← HFz.out]; exact hsl) H4.out.1.lt (HW.out.2.1.below H4.out.2.2)
      rw [← HFz.out] at h
      exact h
    obtain ⟨x0, x1, x2, x3, x4⟩ := HBx.out w4 H4.out.2.2
    go_wp2_with fail
    refine HWr.out.mono ?_
    rintro e w5 ⟨v5, rfl, hl5, hb5⟩
    obtain ⟨aA, cAA, hv5⟩ := hl5.slice
    rw [rl_len] at hv5
    subst hv5
    have H5 : Hid (LLs w4.heap.size (.slice aA nn cAA) (rl nn d1 (wrt D kk dd (zc fz y4))) w5 ∧ Below wb.heap.size wb w5 ∧ ArgL fo fz fc y4 w5) := ⟨hl5, bel_up' H4.out.2.2 hb5, argL_below H4.out.1 hb5⟩
    clear hl5 hb5 x0 x1 x2 x3 x4
    go_wp2_with fail
    refine (places_any (HW.out.2.2.2.2.1.below H5.out.2.1) (by omega) D.q D.q (by omega) (by omega) (Nat.le_refl _)).mono ?_
    rintro e w6 ⟨gP, cP, rfl, _, hrP, hpm, hb6⟩
    have H6 : Hid (Row gP D.q cP w6 ∧ Perm' D.q cP ∧ Below wb.heap.size wb w6 ∧ Below w5.heap.size w5 w6) := ⟨hrP, hpm, bel_up' H5.out.2.1 hb6, hb6⟩
    clear hrP hpm hb6
    go_wp2
    go_loopw [21, 22] (fun vs vi wr => ∃ i : Nat, i ≤ D.q ∧ vi = .int .i64 (i : Nat) ∧ Hid (OwnI w6.heap.size vs (blN nn cP i) wr ∧ Below w6.heap.size w6 wr)) (fun _ vi _ => D.q - (intOf vi).toNat)
    case atStart => exact ⟨0, by omega, rfl, OwnI.nil _ _, Below.refl _ _⟩
    case round =>
      obtain ⟨i, hi, rfl, HI⟩ := hrel
      rename World => wr
      by_cases hlt : i < D.q
      · have hib : (i : Int) < (D.q : Int) := by omega
        have hcp := (H6.out.1.below HI.out.2 H6.out.1.lt).cell i hlt
        obtain ⟨y, hy⟩ : ∃ y, y = cP i := ⟨_, rfl⟩
        rw [← hy] at hcp
        have hsz := HI.out.2.size
        have hln := blN_le nn cP i
        by_cases c : y < nn
        · have hc : (y : Int) < (nn : Int) := by omega
          have HV : Hid (blN nn cP (i + 1) = blN nn cP i ++ [((y : Nat) : Int)]) := by
            show (if cP i < nn then _ else _) = _
            rw [if_pos (by omega), hy]
          have HLn : Hid ((blN nn cP i).length ≤ 1000) := by show (blN nn cP i).length ≤ 1000; omega
          clear hy hln
          go_wp2_with (at_builtin; refine append_int rfl _ _ rfl w6.heap.size _ (blN nn cP i) rfl (HI.out.1.alloc _) ⟨_, 0, none⟩ 1 (y : Nat) rfl (by simp) (by have := HLn.out; omega) (by simp; omega) ?_; intro v7 w7 hown7 hgrow7)
          go_roundw
          case rel => exact ⟨i + 1, by omega, by go_num, by rw [HV.out]; exact hown7, (HI.out.2.alloc hsz _).grown hgrow7 (by simp; omega) (fun x hx => (HI.out.1.lt x hx).1)⟩
          case measure => simp [intOf]; omega
        · have hc : ¬ (y : Int) < (nn : Int) := by omega
          have HV : Hid (blN nn cP (i + 1) = blN nn cP i) := by
            show (if cP i < nn then _ else _) = _
            rw [if_neg (by omega)]
          clear hy hln
          go_wp2
          go_roundw
          case rel => exact ⟨i + 1, by omega, by go_num, by rw [HV.out]; exact HI.out⟩
          case measure => simp [intOf]; omega
      · have hib : ¬ (i : Int) < (D.q : Int) := by omega
        have e : D.q = i := by omega
        obtain ⟨sm, hsm⟩ : ∃ sm : Nat → Int, ∀ j, sm j = (blN nn cP D.q).getD j 0 := ⟨_, fun _ => rfl⟩
        obtain ⟨L, hL⟩ : ∃ L, L = (blN nn cP D.q).length := ⟨_, rfl⟩
        have hLb : nn ≤ L ∧ L ≤ 16 := by
          have h1 := blN_many H6.out.2.1 (show nn ≤ D.q by omega)
          have h2 := blN_le nn cP D.q
          omega
        have hzl : blN nn cP D.q = zl L sm := list_ext_getD _ _ (by rw [zl_len, hL]) (fun j hj => by rw [zl_getD L sm j (by omega), hsm])
        have HSm : Hid (∀ j, j < L → ∃ x : Nat, sm j = (x : Int) ∧ x < nn) := fun j hj => by
          refine blN_mem (c := cP) (i := D.q) ?_
          rw [hzl]
          exact List.mem_map.2 ⟨j, List.mem_range.2 hj, rfl⟩
        have hOs : OwnI w6.heap.size u21 (zl L sm) wr := by rw [← hzl, e]; exact HI.out.1
        obtain ⟨so, sc, rfl, hsA⟩ := hOs.argL
        obtain ⟨gS, hgS⟩ : ∃ gS, so = some ⟨gS, 0, none⟩ := by
          rcases hOs.2 with ⟨h1, h2⟩ | ⟨g, cap, cur, hv, _⟩
          · rw [zl_len] at h2; omega
          · rw [zl_len] at hv
            cases hv; exact ⟨g, rfl⟩
        subst hgS
        have HS : Hid (ArgL (some ⟨gS, 0, none⟩) L sc sm wr ∧ Below w6.heap.size w6 wr) := ⟨hsA, HI.out.2⟩
        obtain ⟨lx, hlx, hlx2⟩ := HSm.out (L - 1) (by omega)
        obtain ⟨L1, hL1⟩ : ∃ L1, L = L1 + 1 := ⟨L - 1, by omega⟩
        rw [show L - 1 = L1 by omega] at hlx
        obtain ⟨bs, os, e9, hcl⟩ := hsA.sl L1 (by omega)
        cases e9
        rw [hlx, Nat.zero_add] at hcl
        have hL1b : (L1 : Int) < (L : Int) := by omega
        have hwL : IntKind.i64.wrap ((L : Int) - 1) = (L1 : Int) := wrap_to (by omega) (by omega)
        obtain ⟨hLa, hLc⟩ := hLb
        have hscL : L ≤ sc := hsA.le
        have hkL : (kk : Int) ≤ (L : Int) := by omega
        have hdL : (dd : Int) ≤ (L : Int) := by omega
        clear hL hzl hOs hsA HI hsm e hlx hL1
        go_wp2
        clear hcl
        go_loopw [23, 24] (fun vh vi wt => ∃ i : Nat, i ≤ kk ∧ vi = .int .i64 (i : Nat) ∧ Hid (∃ Lh : List (Nat × (Nat → Nat)), LLs wr.heap.size vh Lh wt ∧ Lh.length = i ∧ (∀ p ∈ Lh, p.1 = d1) ∧ Below wr.heap.size wr wt)) (fun _ vi _ => kk - (intOf vi).toNat)
        case atStart => exact ⟨0, by omega, rfl, [], LLs.nil _ _, rfl, fun p hp => (by cases hp), Below.refl _ _⟩
        case round =>
          obtain ⟨i, hi, rfl, HI⟩ := hrel
          rename World => wt
          by_cases hlt : i < kk
          · have hib : (i : Int) < (kk : Int) := by omega
            have hil : (i : Int) < (L : Int) := by omega
            obtain ⟨Lh, hLh, hLl, hLp, hbt⟩ := HI.out
            obtain ⟨b', o', e', hcs⟩ := (argL_below HS.out.1 hbt).sl i (by omega)
            cases e'
            obtain ⟨x, hx, hxn⟩ := HSm.out i (by omega)
            rw [hx, Nat.zero_add] at hcs
            have hxb : (x : Int) < (nn : Int) := by omega
            have hb5t : Below w5.heap.size w5 wt := bel_up' (bel_up' H6.out.2.2.2 HS.out.2) hbt
            obtain ⟨g8, b8, cp8, e8, hc8, hr8⟩ := (H5.out.1.below hb5t (Nat.le_refl _)).atE (rl_get nn d1 (wrt D kk dd (zc fz y4)) x hxn)
            subst e8
            obtain ⟨l, hl1, hl2⟩ := hLh
            have HL : Hid (OwnV wr.heap.size u23 l wt ∧ Elms l Lh wt ∧ Lh.length = i ∧ (∀ p ∈ Lh, p.1 = d1) ∧ Below wr.heap.size wr wt ∧ l.length ≤ 1000) := ⟨hl1, hl2, hLl, hLp, hbt, by rw [hl2.1, hLl]; omega⟩
            have HE : Hid (Elm (.slice (some ⟨b8, 0, none⟩) (d1 + 1) cp8) (d1, wrt D kk dd (zc fz y4) x) wt) := hr8
            have hsz := hbt.size
            clear hl1 hl2 hLl hLp hx hr8 hb5t hbt HI
            go_wp2_with (at_builtin; refine append_sl rfl _ _ rfl wr.heap.size _ l rfl (HL.out.1.alloc _) ⟨wt.heap.size, 0, none⟩ 1 (.slice (some ⟨b8, 0, none⟩) (d1 + 1) cp8) rfl rfl (by simp) (by have := HL.out.2.2.2.2.2; omega) (by simp; omega) ?_; intro v7 w7 hown7 hgrow7)
            go_roundw
            case rel =>
              have hba2 : Below wt.heap.size wt (wt.alloc (.cells #[.slice (some ⟨b8, 0, none⟩) (d1 + 1) cp8] 22)) := (Below.refl _ _).alloc (Nat.le_refl _) _
              refine ⟨i + 1, by omega, by go_num, Lh ++ [(d1, wrt D kk dd (zc fz y4) x)], LLs.push (HL.out.1.alloc _) (HL.out.2.1.below hba2 (Nat.le_refl _)) (HE.out.below hba2 (Nat.le_refl _)) hown7 hgrow7, by rw [List.length_append, HL.out.2.2.1]; rfl, fun p hp => ?_, ?_⟩
              · rcases List.mem_append.1 hp with h1 | h1
                · exact HL.out.2.2.2.1 p h1
                · rw [List.mem_singleton.1 h1]
              · refine (bel_up' HL.out.2.2.2.2.1 hba2).trans (below_grown hgrow7 (by simp; omega) (fun x hx => ?_))
                rcases HL.out.1.2 with ⟨h1, _⟩ | ⟨g, cap, cur, hv, hg, _⟩
                · rw [h1] at hx; cases hx
                · rw [hv] at hx; cases hx; exact hg
            case measure => simp [intOf]; omega
          · have hib : ¬ (i : Int) < (kk : Int) := by omega
            obtain ⟨Lh, hLh, hLl, hLp, hbt⟩ := HI.out
            have hik : i = kk := by omega
            obtain ⟨ho, hc, hvh⟩ := hLh.slice
            rw [hLl, hik] at hvh
            subst hvh
            have HL : Hid (LLs wr.heap.size (.slice ho kk hc) Lh wt ∧ Lh.length = kk ∧ (∀ p ∈ Lh, p.1 = d1) ∧ Below wr.heap.size wr wt) := ⟨hLh, by omega, hLp, hbt⟩
            clear hLh hLl hLp hbt HI hik
            go_upto_if 115 with fail
            go_cut [23] (fun v23 wx => v23 = .slice ho kk hc ∧ Hid ((∃ A C Z, MatO ho kk A (fun _ => dd) C Z wx) ∧ Below wr.heap.size wr wx))
            case first =>
              cases turned with
              | false =>
                have HE : Hid (∃ A C Z, MatO ho kk A (fun _ => dd) C Z wt) := by
                  rw [HDd.out]; exact have_keep HL.out.1 HL.out.2.1 (by omega) HL.out.2.2.1
                go_wp2
                go_meet
                case rel => exact ⟨rfl, HE.out, HL.out.2.2.2⟩
              | true =>
                have hbw : Below wb.heap.size wb wt := bel_up' (bel_up' H6.out.2.2.1 HS.out.2) HL.out.2.2.2
                have HNm := numbers_any (HW.out.2.2.2.2.1.below hbw) (by omega) 9 D.q dd (by omega) (by omega) (by omega) (by omega)
                replace HNm : Hid (Calls Try.prog 20 #[.slice ao n ca, .int .i64 9, .int .i64 D.q, .int .i64 (dd : Nat)] wt fun e w' => ∃ v y, e = .returned v ∧ OwnI wt.heap.size v (zl dd y) w' ∧ Blw D.q dd y ∧ Below wt.heap.size wt w') := HNm
                clear hbw
                go_wp2_with fail
                refine HNm.out.mono ?_
                rintro e w7 ⟨v7, y7, rfl, ho7, _, hb7⟩
                have ho8 : OwnI wr.heap.size v7 (zl (d1 + 1) y7) w7 := by rw [← HDd.out]; exact ho7.mono HL.out.2.2.2.size
                obtain ⟨g0, e0, hg0, ⟨u0, hu0⟩, hf0, hMO⟩ := have_set (HL.out.1.below hb7 (Nat.le_refl _)) HL.out.2.1 (by omega) HL.out.2.2.1 ho8
                subst e0
                have HM7 : Hid ((∃ A C Z, MatO (some ⟨g0, 0, none⟩) kk A (fun _ => dd) C Z (w7.setCell ⟨g0, 0, none⟩ v7)) ∧ Below wr.heap.size wr (w7.setCell ⟨g0, 0, none⟩ v7)) := ⟨by rw [HDd.out]; exact hMO, (bel_up' HL.out.2.2.2 hb7).setCell hg0 _⟩
                have hk0 : (0 : Int) < (kk : Int) := by omega
                obtain ⟨bn, cn, rfl, _⟩ := ho7.argL
                clear ho7 ho8 hb7 hMO
                go_wp2
                go_meet
                case rel => exact ⟨rfl, HM7.out⟩
            case rest =>
              obtain ⟨hv23, HC⟩ := hcut
              subst hv23
              obtain ⟨A, C, Z, hMO⟩ := HC.out.1
              have HMO : Hid (MatO ho kk A (fun _ => dd) C Z wc ∧ Below wr.heap.size wr wc ∧ Below wb.heap.size wb wc) := ⟨hMO, HC.out.2, bel_up' (bel_up' H6.out.2.2.1 HS.out.2) HC.out.2⟩
              clear hMO HC HL
              have hlq : lx < D.q := by omega
              go_wp2
              go_loopw [25, 26] (fun vh vi wr => ∃ i : Nat, i ≤ dd ∧ vi = .int .i64 (i : Nat) ∧ Hid ((∃ y : Nat → Int, OwnI wc.heap.size vh (zl i y) wr) ∧ Below wc.heap.size wc wr ∧ Below wb.heap.size wb wr)) (fun _ vi _ => dd - (intOf vi).toNat)
              case atStart => exact ⟨0, by omega, rfl, ⟨fun _ => 0, OwnI.nil _ _⟩, Below.refl _ _, HMO.out.2.2⟩
              case round =>
                obtain ⟨i, hi, rfl, HG⟩ := hrel
                rename World => wh
                have hbs : Below wr.heap.size wr wh := bel_up' HMO.out.2.1 HG.out.2.1
                by_cases hlt : i < dd
                · have hib : (i : Int) < (dd : Int) := by omega
                  have hil : (i : Int) < (L : Int) := by omega
                  have hi0 : (0 : Int) ≤ (i : Int) := by omega
                  obtain ⟨b', o', e', hcs⟩ := (argL_below HS.out.1 hbs).sl i (by omega)
                  cases e'
                  obtain ⟨x, hx, hxn⟩ := HSm.out i (by omega)
                  rw [hx, Nat.zero_add] at hcs
                  have hxb : (x : Int) < (nn : Int) := by omega
                  have hx0 : (0 : Int) ≤ (x : Int) := by omega
                  have hb5t : Below w5.heap.size w5 wh := bel_up' (bel_up' H6.out.2.2.2 HS.out.2) hbs
                  obtain ⟨gA, bA, cA, e8, hc8, hr8⟩ := (H5.out.1.below hb5t (Nat.le_refl _)).atE (rl_get nn d1 (wrt D kk dd (zc fz y4)) x hxn)
                  subst e8
                  have HRw : Hid (Row bA (d1 + 1) (wrt D kk dd (zc fz y4) x) wh) := hr8.row
                  have HRq : Hid (∀ i, wrt D kk dd (zc fz y4) x i < D.q) := fun i => ev_lt (fld HA.out.2) _ _ _
                  obtain ⟨V, hV⟩ : ∃ V, V = dot D (wrt D kk dd (zc fz y4) x) (D.xp lx) (d1 + 1) := ⟨_, rfl⟩
                  have HVe : Hid (V = dot D (wrt D kk dd (zc fz y4) x) (D.xp lx) (d1 + 1)) := hV
                  have HPw : Hid (∀ q, Calls Try.prog 23 #[.agg #[.int .i64 D.q, .int .i64 D.p, .int .i64 D.m, .int .i64 D.gen, .slice (some ⟨gm, 0, none⟩) (D.m + 1) cm], .int .i64 (lx : Nat), .int .i64 (dd : Nat)] (wh.drewN q) fun e w' => ∃ v, e = .returned v ∧ OwnI wh.heap.size v (zl dd fun j => ((D.xp lx j : Nat) : Int)) w' ∧ Below wh.heap.size (wh.drewN q) w') := fun q => rpowers_any HA.out.2 D.gen gm cm hlq (by omega) ((HW.out.2.1.below HG.out.2.2).below (below_drewN2 (Below.refl _ _) q))
                  have HSk : Hid (∀ wx, Below wh.heap.size wh wx → HlS w3.heap.size D gm cm gS i gA bA cA (d1 + 1) x wx) := fun wx hb => by
                    obtain ⟨c0, c1, c2, c3, c4⟩ := HBx.out wx (bel_up' HG.out.2.2 hb)
                    exact ⟨c0, c1, c2, c3, c4, ((bcell hb).1 _ _ (cell_lt hcs)).trans hcs, ((bcell hb).1 _ _ (cell_lt hc8)).trans hc8⟩
                  have hS0 : HlS w3.heap.size D gm cm gS i gA bA cA (d1 + 1) x wh.drew := HSk.out _ (below_drewN2 (Below.refl _ _) 1)
                  clear hV hr8 hb5t hbs hx hcs hc8
                  go_wp2
                  refine wp_region_noPanic ?_
                  refine wp_region_L (S := HlS w3.heap.size D gm cm gS i gA bA cA (d1 + 1) x) [] (by kernel_rfl) ?_
                  refine wpAnyL_take (i := 0) (v := ?_) (by rw [List.getElem?_toArray]; rfl) (by decide +kernel) (by decide +kernel) (by decide +kernel) (by decide +kernel) (by decide +kernel) (fun _ _ _ h => h) hS0 (Or.inl ⟨by rfl, ?_⟩) ?_
                  rotate_left
                  · intro wz hSz; obtain ⟨z0, z1, z2, z3, z4, z5, z6⟩ := hSz; go_simp; first | done | with_reducible rfl | (simp only [hi0, hil, hx0, hxb, and_self, if_true, Int.toNat_natCast]; first | done | with_reducible rfl) | (simp [hi0, hil, hx0, hxb]; first | done | with_reducible rfl)
                  try simp only [Act.put, List.setIfInBounds_toArray, List.set_cons_zero, List.set_cons_succ]
                  refine wpAnyL_take (i := 1) (v := ?_) (by rw [List.getElem?_toArray]; rfl) (by decide +kernel) (by decide +kernel) (by decide +kernel) (by decide +kernel) (by decide +kernel) (fun _ _ _ h => h) hS0 (Or.inl ⟨by rfl, ?_⟩) ?_
                  rotate_left
                  · intro wz hSz; obtain ⟨z0, z1, z2, z3, z4, z5, z6⟩ := hSz; go_simp; first | done | with_reducible rfl | (simp only [hi0, hil, hx0, hxb, and_self, if_true, Int.toNat_natCast]; first | done | with_reducible rfl) | (simp [hi0, hil, hx0, hxb]; first | done | with_reducible rfl)
                  try simp only [Act.put, List.setIfInBounds_toArray, List.set_cons_zero, List.set_cons_succ]
                  refine wpAnyL_take (i := 2) (v := ?_) (by rw [List.getElem?_toArray]; rfl) (by decide +kernel) (by decide +kernel) (by decide +kernel) (by decide +kernel) (by decide +kernel) (fun _ _ _ h => h) hS0 (Or.inl ⟨by rfl, ?_⟩) ?_
                  rotate_left
                  · intro wz hSz; obtain ⟨z0, z1, z2, z3, z4, z5, z6⟩ := hSz; go_simp; first | done | with_reducible rfl | (simp only [hi0, hil, hx0, hxb, and_self, if_true, Int.toNat_natCast]; first | done | with_reducible rfl) | (simp [hi0, hil, hx0, hxb]; first | done | with_reducible rfl)
                  try simp only [Act.put, List.setIfInBounds_toArray, List.set_cons_zero, List.set_cons_succ]
                  refine wpAnyL_take (i := 3) (v := ?_) (by rw [List.getElem?_toArray]; rfl) (by decide +kernel) (by decide +kernel) (by decide +kernel) (by decide +kernel) (by decide +kernel) (fun _ _ _ h => h) hS0 (Or.inl ⟨by rfl, ?_⟩) ?_
                  rotate_left
                  · intro wz hSz; obtain ⟨z0, z1, z2, z3, z4, z5, z6⟩ := hSz; go_simp; first | done | with_reducible rfl | (simp only [hi0, hil, hx0, hxb, and_self, if_true, Int.toNat_natCast]; first | done | with_reducible rfl) | (simp [hi0, hil, hx0, hxb]; first | done | with_reducible rfl)
                  try simp only [Act.put, List.setIfInBounds_toArray, List.set_cons_zero, List.set_cons_succ]
                  refine wpAnyL_take (i := 4) (v := ?_) (by rw [List.getElem?_toArray]; rfl) (by decide +kernel) (by decide +kernel) (by decide +kernel) (by decide +kernel) (by decide +kernel) (fun _ _ _ h => h) hS0 (Or.inl ⟨by rfl, ?_⟩) ?_
                  rotate_left
                  · intro wz hSz; obtain ⟨z0, z1, z2, z3, z4, z5, z6⟩ := hSz; go_simp; first | done | with_reducible rfl | (simp only [hi0, hil, hx0, hxb, and_self, if_true, Int.toNat_natCast]; first | done | with_reducible rfl) | (simp [hi0, hil, hx0, hxb]; first | done | with_reducible rfl)
                  try simp only [Act.put, List.setIfInBounds_toArray, List.set_cons_zero, List.set_cons_succ]
                  refine wpAnyL_take (i := 5) (v := ?_) (by rw [List.getElem?_toArray]; rfl) (by decide +kernel) (by decide +kernel) (by decide +kernel) (by decide +kernel) (by decide +kernel) (fun _ _ _ h => h) hS0 (Or.inl ⟨by rfl, ?_⟩) ?_
                  rotate_left
                  · intro wz hSz; obtain ⟨z0, z1, z2, z3, z4, z5, z6⟩ := hSz; go_simp; first | done | with_reducible rfl | (simp only [hi0, hil, hx0, hxb, and_self, if_true, Int.toNat_natCast]; first | done | with_reducible rfl) | (simp [hi0, hil, hx0, hxb]; first | done | with_reducible rfl)
                  try simp only [Act.put, List.setIfInBounds_toArray, List.set_cons_zero, List.set_cons_succ]
                  refine wpAnyL_take (i := 6) (v := ?_) (by rw [List.getElem?_toArray]; rfl) (by decide +kernel) (by decide +kernel) (by decide +kernel) (by decide +kernel) (by decide +kernel) (fun _ _ _ h => h) hS0 (Or.inl ⟨by rfl, ?_⟩) ?_
                  rotate_left
                  · intro wz hSz; obtain ⟨z0, z1, z2, z3, z4, z5, z6⟩ := hSz; go_simp; first | done | with_reducible rfl | (simp only [hi0, hil, hx0, hxb, and_self, if_true, Int.toNat_natCast]; first | done | with_reducible rfl) | (simp [hi0, hil, hx0, hxb]; first | done | with_reducible rfl)
                  try simp only [Act.put, List.setIfInBounds_toArray, List.set_cons_zero, List.set_cons_succ]
                  refine wpAnyL_take (i := 7) (v := ?_) (by rw [List.getElem?_toArray]; rfl) (by decide +kernel) (by decide +kernel) (by decide +kernel) (by decide +kernel) (by decide +kernel) (fun _ _ _ h => h) hS0 (Or.inl ⟨by rfl, ?_⟩) ?_
                  rotate_left
                  · intro wz hSz; obtain ⟨z0, z1, z2, z3, z4, z5, z6⟩ := hSz; go_simp; first | done | with_reducible rfl | (simp only [hi0, hil, hx0, hxb, and_self, if_true, Int.toNat_natCast]; first | done | with_reducible rfl) | (simp [hi0, hil, hx0, hxb]; first | done | with_reducible rfl)
                  try simp only [Act.put, List.setIfInBounds_toArray, List.set_cons_zero, List.set_cons_succ]
                  refine wpAnyL_take (i := 8) (v := ?_) (by rw [List.getElem?_toArray]; rfl) (by decide +kernel) (by decide +kernel) (by decide +kernel) (by decide +kernel) (by decide +kernel) (fun _ _ _ h => h) hS0 (Or.inl ⟨by rfl, ?_⟩) ?_
                  rotate_left
                  · intro wz hSz; obtain ⟨z0, z1, z2, z3, z4, z5, z6⟩ := hSz; go_simp; first | done | with_reducible rfl | (simp only [hi0, hil, hx0, hxb, and_self, if_true, Int.toNat_natCast]; first | done | with_reducible rfl) | (simp [hi0, hil, hx0, hxb]; first | done | with_reducible rfl)
                  try simp only [Act.put, List.setIfInBounds_toArray, List.set_cons_zero, List.set_cons_succ]
                  refine wpAnyL_take (i := 9) (v := ?_) (by rw [List.getElem?_toArray]; rfl) (by decide +kernel) (by decide +kernel) (by decide +kernel) (by decide +kernel) (by decide +kernel) (fun _ _ _ h => h) hS0 (Or.inl ⟨by rfl, ?_⟩) ?_
                  rotate_left
                  · intro wz hSz; obtain ⟨z0, z1, z2, z3, z4, z5, z6⟩ := hSz; go_simp; first | done | with_reducible rfl | (simp only [hi0, hil, hx0, hxb, and_self, if_true, Int.toNat_natCast]; first | done | with_reducible rfl) | (simp [hi0, hil, hx0, hxb]; first | done | with_reducible rfl)
                  try simp only [Act.put, List.setIfInBounds_toArray, List.set_cons_zero, List.set_cons_succ]
                  refine wpAnyL_take (i := 10) (v := ?_) (by rw [List.getElem?_toArray]; rfl) (by decide +kernel) (by decide +kernel) (by decide +kernel) (by decide +kernel) (by decide +kernel) (fun _ _ _ h => h) hS0 (Or.inl ⟨by rfl, ?_⟩) ?_
                  rotate_left
                  · intro wz hSz; obtain ⟨z0, z1, z2, z3, z4, z5, z6⟩ := hSz; go_simp; first | done | with_reducible rfl | (simp only [hi0, hil, hx0, hxb, and_self, if_true, Int.toNat_natCast]; first | done | with_reducible rfl) | (simp [hi0, hil, hx0, hxb]; first | done | with_reducible rfl)
                  try simp only [Act.put, List.setIfInBounds_toArray, List.set_cons_zero, List.set_cons_succ]
                  refine wpAnyL_one (i := 11) (by kernel_rfl) (by rw [List.getElem?_toArray]; rfl) (fun K hK => ?_)
                  have HK : Hid _ := hK
                  clear hK
                  go_simp
                  refine (HPw.out 1).mono ?_
                  rintro e w2 ⟨v2, rfl, hown2, hb2⟩
                  replace hb2 : Below wh.heap.size wh w2 := ⟨hb2.os, hb2.tape, hb2.output, hb2.size, hb2.block⟩
                  have HB2 : Hid (Below wh.heap.size wh w2) := hb2
                  obtain ⟨po, pc, rfl, hpa⟩ := hown2.argN (by omega)
                  have HDt : Hid (Calls Try.prog 22 #[.agg #[.int .i64 D.q, .int .i64 D.p, .int .i64 D.m, .int .i64 D.gen, .slice (some ⟨gm, 0, none⟩) (D.m + 1) cm], .slice (some ⟨bA, 0, none⟩) (d1 + 1) cA, .slice po dd pc] w2 fun e w' => e = .returned (.int .i64 (V : Nat)) ∧ Below w2.heap.size w2 w') := by
                    have hd := HDd.out
                    show Calls _ _ _ _ _
                    rw [HVe.out]
                    have hpa2 : Arg po (d1 + 1) pc (fun j => ((D.xp lx j : Nat) : Int)) w2 := by rw [← hd]; exact hpa
                    have e : Value.slice po dd pc = .slice po (d1 + 1) pc := by rw [hd]
                    rw [e]
                    exact rdot_any HW.out.2.2.1 D.gen gm cm (by omega) (fun i _ => HRq.out i) (fun i _ => xp_lt (fld HW.out.2.2.1) _ _) ((HRw.out.below HB2.out HRw.out.lt).sl (Nat.le_refl _)) (fun a ha => by cases ha; have := HRw.out.lt; have := HB2.out.size; show bA < _; omega) hpa2.sl hpa2.lt (HW.out.2.1.below (bel_up' HG.out.2.2 HB2.out))
                  have hS2 := HSk.out w2 HB2.out
                  clear hown2 hb2 hpa
                  refine HK.out _ _ (fun _ => hS2) ?_
                  clear HK K
                  refine wpAnyL_one (i := 12) (by kernel_rfl) (by rw [List.getElem?_toArray]; rfl) (fun K hK => ?_)
                  have HK : Hid _ := hK
                  clear hK
                  go_simp
                  refine HDt.out.mono ?_
                  rintro e wv ⟨rfl, hb3⟩
                  have HB3 : Hid (Below wh.heap.size wh wv) := bel_up' HB2.out hb3
                  have hS3 := HSk.out wv HB3.out
                  clear hb3
                  refine HK.out _ _ (fun _ => hS3) ?_
                  clear HK K
                  refine wpAnyL_one (i := 13) (by kernel_rfl) (by rw [List.getElem?_toArray]; rfl) (fun K hK => ?_)
                  have HK : Hid _ := hK
                  clear hK
                  go_simp
                  refine HK.out _ _ (fun _ => hS3) ?_
                  clear HK K
                  refine wpAnyL_done (by kernel_rfl) (NoPanic.normal ?_)
                  clear hS2 hS3 hS0
                  obtain ⟨y, hy⟩ := HG.out.1
                  have HO : Hid (OwnI wc.heap.size u25 (zl i y) wv ∧ Below wc.heap.size wc wv ∧ Below wb.heap.size wb wv) := ⟨hy.below HB3.out (fun x hx => (hy.lt x hx).2), bel_up' HG.out.2.1 HB3.out, bel_up' HG.out.2.2 HB3.out⟩
                  have hsz := HO.out.2.1.size
                  have hsb := HMO.out.2.2.size
                  clear hy
                  go_wp2_with (at_builtin; refine append_int rfl _ _ rfl wc.heap.size _ (zl i y) rfl (HO.out.1.alloc _) ⟨_, 0, none⟩ 1 (V : Nat) rfl (by simp) (by rw [zl_len]; omega) (by simp; omega) ?_; intro v7 w7 hown7 hgrow7)
                  go_roundw
                  case rel =>
                    refine ⟨i + 1, by omega, by go_num, ⟨fun j => if j = i then (V : Int) else y j, ?_⟩, (HO.out.2.1.alloc hsz _).grown hgrow7 (by simp; omega) (fun x hx => (HO.out.1.lt x hx).1), (HO.out.2.2.alloc (by omega) _).grown hgrow7 (by simp; omega) (fun x hx => by have := (HO.out.1.lt x hx).1; omega)⟩
                    rw [zl_succ, if_pos rfl]
                    have e : (zl i fun j => if j = i then (V : Int) else y j) = zl i y := zl_congr (fun j hj => if_neg (by omega))
                    rw [e]; exact hown7
                  case measure => simp [intOf]; omega
                · have hib : ¬ (i : Int) < (dd : Int) := by omega
                  obtain ⟨y, hy⟩ := HG.out.1
                  rw [show i = dd by omega] at hy
                  obtain ⟨bo, cb, rfl, hhA⟩ := hy.argL
                  have HF : Hid (ArgL fo fz fc y4 wh ∧ ArgL (some ⟨gS, 0, none⟩) L sc sm wh ∧ MatO ho kk A (fun _ => dd) C Z wh ∧ ArgL bo dd cb y wh ∧ Below w.heap.size w wh) := by
                    have hb5t : Below w5.heap.size w5 wh := bel_up' (bel_up' H6.out.2.2.2 HS.out.2) hbs
                    refine ⟨argL_below H5.out.2.2 hb5t, argL_below HS.out.1 hbs, ?_, hhA, bel_up' HW.out.2.2.2.1 HG.out.2.2⟩
                    have hm := HMO.out.1
                    exact ⟨fun i hi => by
                      obtain ⟨b, off, e, hc⟩ := hm.cell i hi
                      exact ⟨b, off, e, ((bcell HG.out.2.1).1 b (off + i) (cell_lt hc)).trans hc⟩, fun i hi => slz_below (hm.sl i hi) HG.out.2.1, hm.le, hm.cap, hm.nil⟩
                  have HSt : Hid (∀ wx kx, Below wh.heap.size wh wx → kx ≤ L → Calls Try.prog 3 #[.int .i64 D.q, .int .i64 (nn : Nat), .int .i64 (kk : Nat), .int .i64 (dd : Nat), .slice fo fz fc, .slice (some ⟨gS, 0, none⟩) kx sc, .slice ho kk hc, .int .i64 (lx : Nat), .slice bo dd cb] wx fun e w' => e = .returned (.bool true) ∧ Below wx.heap.size wx w') := fun wx kx hb hkx => by
                    have hm := HF.out.2.2.1
                    have hs := argL_below HF.out.2.1 hb
                    exact storeSays_walk D.q (nn : Nat) (kk : Nat) (dd : Nat) (lx : Nat) (argL_below HF.out.1 hb) (by omega) ⟨fun j hj => hs.sl j (by omega), hs.lt, hs.nil, by have := hs.le; omega, hs.cap⟩ (by omega) (⟨fun i hi => by
                      obtain ⟨b, off, e, hc⟩ := hm.cell i hi
                      exact ⟨b, off, e, ((bcell hb).1 b (off + i) (cell_lt hc)).trans hc⟩, fun i hi => slz_below (hm.sl i hi) hb, hm.le, hm.cap, hm.nil⟩ : MatO ho kk A (fun _ => dd) C Z wx) (by omega) (fun _ _ => by show dd ≤ _; omega) (argL_below HF.out.2.2.2.1 hb) (by omega)
                  clear hy hhA hbs
                  go_wp2_with fail
                  refine (HSt.out _ _ (Below.refl _ _) (by omega)).mono ?_
                  rintro e w8 ⟨rfl, hb8⟩
                  have HB8 : Hid (Below wh.heap.size wh w8) := hb8
                  clear hb8
                  go_wp2_with fail
                  refine (HSt.out _ _ HB8.out (by omega)).mono ?_
                  rintro e w9 ⟨rfl, hb9⟩
                  have HB9 : Hid (Below w.heap.size w w9) := bel_up' (bel_up' HF.out.2.2.2.2 HB8.out) hb9
                  clear hb9
                  go_wp2
                  go_ret
                  exact ⟨rfl, HB9.out⟩
end Go.Proofs.Ytbofcldmgjeklaa
