/- TopStore: the walk of the statement, whatever raw numbers it is given. -/
import Derived.Test.YtbofcldmgjeklabZKM19
import Derived.Test.YtbofcldmgjeklabZKM11
import Derived.Test.YtbofcldmgjeklabZW15
import Derived.Test.YtbofcldmgjeklabZL10
import Derived.Test.YtbofcldmgjeklabZQ2
import Derived.Test.YtbofcldmgjeklabZL1
import Derived.Test.YtbofcldmgjeklabZS1
import Derived.Deep.DeepCutAuto
namespace Go.Proofs.Ytbofcldmgjeklab
open Go.RowKit Go.Sort

def tmq (M : Nat) : Nat := [3, 4, 5, 7, 8, 9, 11, 13, 16, 25, 64].getD M 3
theorem tmq_cell (M : Nat) (hM : M < 11) : (#[Value.int .i64 3, .int .i64 4, .int .i64 5, .int .i64 7, .int .i64 8, .int .i64 9, .int .i64 11, .int .i64 13, .int .i64 16, .int .i64 25, .int .i64 64] : Array Value)[M]? = some (.int .i64 (tmq M : Nat)) := by
  match M, hM with
  | 0, _ => rfl
  | 1, _ => rfl
  | 2, _ => rfl
  | 3, _ => rfl
  | 4, _ => rfl
  | 5, _ => rfl
  | 6, _ => rfl
  | 7, _ => rfl
  | 8, _ => rfl
  | 9, _ => rfl
  | 10, _ => rfl
theorem tmq_field (M : Nat) (hM : M < 11) : ∃ D ∈ fieldsL, D.q = tmq M ∧ 3 ≤ D.q := by
  have h : ([3, 4, 5, 7, 8, 9, 11, 13, 16, 25, 64] : List Nat).all (fun z => fieldsL.any fun D => D.q == z) = true := by decide +kernel
  have hm : tmq M ∈ ([3, 4, 5, 7, 8, 9, 11, 13, 16, 25, 64] : List Nat) ∧ 3 ≤ tmq M := by
    have : M = 0 ∨ M = 1 ∨ M = 2 ∨ M = 3 ∨ M = 4 ∨ M = 5 ∨ M = 6 ∨ M = 7 ∨ M = 8 ∨ M = 9 ∨ M = 10 := by omega
    rcases this with rfl | rfl | rfl | rfl | rfl | rfl | rfl | rfl | rfl | rfl | rfl <;> decide
  have h2 := List.all_eq_true.1 h _ hm.1
  obtain ⟨D, hD, he⟩ := List.any_eq_true.1 h2
  have he := eq_of_beq he
  exact ⟨D, hD, he, by omega⟩
theorem tpick (m : Int) {k : Nat} (hk : 0 < k) : ∃ M : Nat, pick m (k : Int) = (M : Int) ∧ M < k := by
  have h1 := pick_lo m (k : Int) (by omega)
  have h2 := pick_hi m (k : Int) (by omega)
  exact ⟨(pick m (k : Int)).toNat, by omega, by omega⟩
theorem Fnd.like {D : FD} {k d : Nat} {xs xs' : Nat → Nat} {H H' Q : Nat → Nat → Nat} (hk : k ≤ d) (h : Fnd D k d xs H Q) (hx : ∀ t, t < k → xs t = xs' t) (hH : ∀ t j, t < k → j < d → H t j = H' t j) : Fnd D k d xs' H' Q :=
  ⟨h.el, h.bd, fun j h1 h2 => ⟨(h.far j h1 h2).1, fun t ht => by rw [← hx t ht, (h.far j h1 h2).2 t ht, hH t j ht h2]⟩, h.turn, fun j t h1 h2 => by rw [← hx t h2, h.mid j t h1 h2, hH t j h2 (by omega)]⟩
theorem ndc_zero {n : Nat} {c : Nat → Nat} {q : Nat} (h : Perm' q c) : ∀ m, m ≤ q → (∀ j, j < m → c j < n) → ndc n (fun j => ((c j : Nat) : Int)) m = 0
  | 0, _, _ => rfl
  | m + 1, hm, hc => by
    have h1 := ndc_zero h m (by omega) (fun j hj => hc j (by omega))
    show (if ndc n (fun j => ((c j : Nat) : Int)) m ≠ 0 then ndc n (fun j => ((c j : Nat) : Int)) m else if ¬ (0 ≤ ((c m : Nat) : Int) ∧ ((c m : Nat) : Int) < (n : Int)) then 10 else if ((c m : Nat) : Int) ∈ zl m (fun j => ((c j : Nat) : Int)) then 7 else 0) = 0
    have h2 := hc m (by omega)
    rw [if_neg (by rw [h1]; omega), if_neg (by omega), if_neg]
    intro hm2
    obtain ⟨j, hj, e⟩ := zl_mem.1 hm2
    exact h.2 j m hj (by omega) (by omega)
theorem nchk_el {D : FD} {n : Nat} {z : Nat → Int} (h : ∀ j, j < n → ∃ x : Nat, z j = (x : Int) ∧ x < D.q) : D.nchk n z (n : Nat) = 0 := by
  unfold FD.nchk
  rw [if_neg (by omega), if_neg]
  intro hb
  have := anyB_no (p := fun j => !D.has (z j)) n (fun j hj => by
    obtain ⟨x, e, hx⟩ := h j hj
    show (!D.has (z j)) = false
    rw [e, has_of_lt hx]; rfl)
  rw [hb] at this
  cases this
theorem zc_nn {n : Nat} (c : Nat → Nat) {j : Nat} (hj : j < n) : zc n (fun j => ((c j : Nat) : Int)) j = c j := by unfold zc; rw [if_pos hj]; exact Int.toNat_natCast _

set_option maxHeartbeats 4000000 in
set_option maxRecDepth 100000 in
theorem topStore_long {ao bo : Option Addr} {n ca l cb : Nat} (q a k d : Int) (w : World) (hn : ¬ n + l ≤ 256) (hn2 : n ≤ 17592186044416) (hl2 : l ≤ 17592186044416) :
    Calls Try.prog 4 #[.slice ao n ca, .int .i64 q, .int .i64 a, .int .i64 k, .int .i64 d, .slice bo l cb] w fun r w' => r = .returned (.bool true) ∧ Below w.heap.size w w' := by
  have h1 : (256 : Int) < (n : Int) + (l : Int) := by omega
  go_enter Try.func4, Try.ntmps4
  go_wp2
  go_ret
  exact ⟨rfl, Below.refl _ _⟩

set_option maxHeartbeats 16000000 in
set_option maxRecDepth 100000 in
theorem topStore_walk {ao bo : Option Addr} {n ca l cb : Nat} {z y : Nat → Int} (q a k d : Int) {w : World} (ha : Arg ao n ca z w) (hy : Arg bo l cb y w) (hn : n + l ≤ 256) (hq : I64 q) (haa : I64 a) (hk : I64 k) (hd : I64 d) :
    Calls Try.prog 4 #[.slice ao n ca, .int .i64 q, .int .i64 a, .int .i64 k, .int .i64 d, .slice bo l cb] w fun r w' => r = .returned (.bool true) ∧ Below w.heap.size w w' := by
  obtain ⟨M, hM0, hM1⟩ := tpick q (k := 11) (by omega)
  obtain ⟨D, hD, hDq, hQ1⟩ := tmq_field M hM1
  have hQ2 := (fld hD).q64
  obtain ⟨Q1, hQQ⟩ : ∃ Q1, D.q = Q1 + 1 := ⟨D.q - 1, by omega⟩
  obtain ⟨N0, hN0, hN1⟩ := tpick a (k := Q1) (by omega)
  obtain ⟨N2, hN2⟩ : ∃ N2, N2 = 2 + N0 := ⟨_, rfl⟩
  obtain ⟨nn, hnn⟩ : ∃ nn, nn = if 12 < N2 then 12 else N2 := ⟨_, rfl⟩
  have hnb : 2 ≤ nn ∧ nn ≤ 12 ∧ nn ≤ D.q := by
    rw [hnn]
    split <;> omega
  obtain ⟨n1, hn1⟩ : ∃ n1, nn = n1 + 1 := ⟨nn - 1, by omega⟩
  obtain ⟨D0, hD0, hD1⟩ := tpick d (k := n1) (by omega)
  obtain ⟨dd, hdd⟩ : ∃ dd, dd = 1 + D0 := ⟨_, rfl⟩
  obtain ⟨K0, hK0, hK1⟩ := tpick k (k := dd) (by omega)
  obtain ⟨kk, hkk⟩ : ∃ kk, kk = 1 + K0 := ⟨_, rfl⟩
  obtain ⟨d1, hd1⟩ : ∃ d1, dd = d1 + 1 := ⟨dd - 1, by omega⟩
  obtain ⟨fz, hfz⟩ : ∃ fz, fz = fsz kk dd := ⟨_, rfl⟩
  have hb : 1 ≤ kk ∧ kk ≤ dd ∧ dd ≤ 11 ∧ dd < nn ∧ dd ≤ n1 := by omega
  obtain ⟨b1, b2, b3, b4, b5⟩ := hb
  have hfzb : fz ≤ 1000 := by have h := fsz_le b2 (show dd ≤ 15 by omega); rw [hfz]; unfold fsz; omega
  have HA : Hid (Arg ao n ca z w ∧ D ∈ fieldsL ∧ Arg bo l cb y w) := ⟨ha, hD, hy⟩
  have HP1 : Hid (∀ w : World, Calls Try.prog 7 #[.int .i64 q, .int .i64 11] w fun e w' => e = .returned (.int .i64 (M : Nat)) ∧ w' = w) := fun w => by rw [← hM0]; exact pick_any q 11 w hq.1 hq.2 (by omega) (by omega)
  have HP2 : Hid (∀ w : World, Calls Try.prog 7 #[.int .i64 a, .int .i64 (Q1 : Nat)] w fun e w' => e = .returned (.int .i64 (N0 : Nat)) ∧ w' = w) := fun w => by rw [← hN0]; exact pick_any a Q1 w haa.1 haa.2 (by omega) (by omega)
  have HP3 : Hid (∀ w : World, Calls Try.prog 7 #[.int .i64 d, .int .i64 (n1 : Nat)] w fun e w' => e = .returned (.int .i64 (D0 : Nat)) ∧ w' = w) := fun w => by rw [← hD0]; exact pick_any d n1 w hd.1 hd.2 (by omega) (by omega)
  have HP4 : Hid (∀ w : World, Calls Try.prog 7 #[.int .i64 k, .int .i64 (dd : Nat)] w fun e w' => e = .returned (.int .i64 (K0 : Nat)) ∧ w' = w) := fun w => by rw [← hK0]; exact pick_any k dd w hk.1 hk.2 (by omega) (by omega)
  have hw1 : IntKind.i64.wrap ((D.q : Int) - 1) = (Q1 : Int) := wrap_to (by omega) (by omega)
  have hw2 : IntKind.i64.wrap (2 + (N0 : Int)) = (N2 : Int) := wrap_to (by omega) (by omega)
  have hw3 : IntKind.i64.wrap ((nn : Int) - 1) = (n1 : Int) := wrap_to (by omega) (by omega)
  have hw4 : IntKind.i64.wrap (1 + (D0 : Int)) = (dd : Int) := wrap_to (by omega) (by omega)
  have hw5 : IntKind.i64.wrap (1 + (K0 : Int)) = (kk : Int) := wrap_to (by omega) (by omega)
  have hnb0 : ¬ (256 : Int) < (n : Int) + (l : Int) := by omega
  have hM2 : (M : Int) < 11 := by omega
  have HN2 : Hid (nn = if 12 < N2 then 12 else N2) := hnn
  have HDd : Hid (dd = d1 + 1) := hd1
  have HN1 : Hid (nn = n1 + 1) := hn1
  have HFz : Hid (fz = fsz kk dd) := hfz
  obtain ⟨wB, hwB⟩ : ∃ wB, wB = w.alloc (.cells #[.int .i64 3, .int .i64 4, .int .i64 5, .int .i64 7, .int .i64 8, .int .i64 9, .int .i64 11, .int .i64 13, .int .i64 16, .int .i64 25, .int .i64 64] 3) := ⟨_, rfl⟩
  have hcB : wB.cell? ⟨w.heap.size, M, none⟩ = some (.int .i64 (D.q : Nat)) := by
    rw [hwB, cell_of_row _ _ _ _ _ (0, 0) (two_new _), tmq_cell M hM1, hDq]
  have HB : Hid (Below w.heap.size w wB) := by rw [hwB]; exact (Below.refl _ _).alloc (Nat.le_refl _) _
  clear hM0 hN0 hK0 hD0 ha hy hq haa hk hd hQQ hN2 hnn hn1 hdd hkk hd1 hfz hD hDq hM1
  go_enter Try.func4, Try.ntmps4
  go_wp2_with fail
  rw [← hwB]
  clear hwB
  refine (HP1.out wB).mono ?_
  rintro e w' ⟨rfl, hw⟩
  have hw := hw.symm
  subst hw
  go_wp2_with fail
  refine (HP2.out wB).mono ?_
  rintro e w' ⟨rfl, hw⟩
  have hw := hw.symm
  subst hw
  clear hcB
  go_upto_if 44 with fail
  go_cut [2] (fun v2 wx => v2 = .int .i64 (nn : Nat) ∧ wx = wB)
  case first =>
    by_cases c : 12 < N2
    · have hc : (12 : Int) < (N2 : Int) := by omega
      have he : nn = 12 := by rw [HN2.out, if_pos c]
      have HE : Hid ((nn : Int) = 12) := by show (nn : Int) = 12; omega
      clear he
      go_wp2
      go_meet
      case rel => exact ⟨by rw [HE.out], rfl⟩
    · have hc : ¬ (12 : Int) < (N2 : Int) := by omega
      have HE : Hid ((nn : Int) = (N2 : Int)) := by show (nn : Int) = (N2 : Int); rw [HN2.out, if_neg c]
      go_wp2
      go_meet
      case rel => exact ⟨by rw [HE.out], rfl⟩
  case rest =>
    obtain ⟨hv2, hwc⟩ := hcut
    subst hv2
    have hwc := hwc.symm
    subst hwc
    go_wp2_with fail
    refine (HP3.out wB).mono ?_
    rintro e w' ⟨rfl, hw⟩
    have hw := hw.symm
    subst hw
    go_wp2_with fail
    refine (HP4.out wB).mono ?_
    rintro e w' ⟨rfl, hw⟩
    have hw := hw.symm
    subst hw
    have HPz : Hid (D.plc (nn : Nat) (kk : Nat) (dd : Nat) = 0) := by
      show _ = _
      unfold FD.plc
      rw [if_neg (by omega), if_neg (by omega)]
    go_wp2_with fail
    refine (snew_any HA.out.2.1 (nn : Nat) (kk : Nat) (dd : Nat) wB).mono ?_
    rintro e w2 ⟨hb2, ⟨hne, _⟩ | ⟨_, B, F, T, g, rfl, hP, hF, _⟩⟩
    · exact absurd HPz.out hne
    have HW : Hid (PlA B F (nn : Nat) (kk : Nat) (dd : Nat) w2 ∧ FAt F T D g w2 ∧ Below w.heap.size w w2 ∧ Arg ao n ca z w2 ∧ Arg bo l cb y w2) := ⟨hP, hF, bel_up' HB.out hb2, HA.out.1.below (bel_up' HB.out hb2), HA.out.2.2.below (bel_up' HB.out hb2)⟩
    have HSz : Hid (Calls Try.prog 18 #[.pointer (some ⟨B, 0, none⟩)] w2 fun e w' => e = .returned (.int .i64 (fz : Nat)) ∧ ∃ j, w' = w2.drewN j) := by
      show Calls _ _ _ _ _
      rw [HFz.out]; exact psize_any hP b2 (by omega)
    clear hb2 hP hF
    go_wp2_with fail
    refine HSz.out.mono ?_
    rintro e w3 ⟨rfl, j3, hw3'⟩
    have HB3 : Hid (Below w2.heap.size w2 w3) := by rw [hw3']; exact below_drewN2 (Below.refl _ _) j3
    clear hw3'
    go_wp2_with fail
    refine (numbers_any (HW.out.2.2.2.1.below HB3.out) (by omega) 0 D.q fz (by omega) (by omega) (by omega) (by omega)).mono ?_
    rintro e w4 ⟨v4, y4, rfl, ho4, hbl4, hb4⟩
    obtain ⟨fo, fc, rfl, hA4⟩ := ho4.argL
    have H4 : Hid (Arg fo fz fc y4 w4 ∧ Blw D.q fz y4 ∧ Below w2.heap.size w2 w4) := ⟨hA4.arg (by omega), hbl4, bel_up' HB3.out hb4⟩
    clear ho4 hA4 hbl4 hb4
    obtain ⟨c, hc⟩ : ∃ c, c = zc fz y4 := ⟨_, rfl⟩
    have HNk : Hid (D.nchk fz y4 (fsz kk dd : Nat) = 0) := by
      show _ = _
      rw [← HFz.out]
      exact nchk_el (fun j hj => ⟨(y4 j).toNat, by have := H4.out.2.1 j hj; omega, by have := H4.out.2.1 j hj; omega⟩)
    have HCe : Hid (El D c ∧ c = zc fz y4) := ⟨by rw [hc]; exact zc_eln (fld HA.out.2.1) HNk.out, hc⟩
    have HWr : Hid (Calls Try.prog 19 #[.pointer (some ⟨B, 0, none⟩), .slice fo fz fc] w4 (WrP D nn kk dd fz y4 w4)) := swrite_any HA.out.2.1 (HW.out.1.below H4.out.2.2) (HW.out.2.1.below H4.out.2.2 HW.out.2.1.ltF HW.out.2.1.ltT) H4.out.1 (by omega) b2 (by omega) (by omega) (by omega)
    clear hc
    go_wp2_with fail
    refine HWr.out.mono ?_
    rintro e w5 ⟨hb5, ⟨hz5, _⟩ | ⟨_, G, h, rfl, hM5⟩⟩
    · exact absurd HNk.out hz5
    rw [← HCe.out.2] at hM5
    have H5 : Hid (Mx w4.heap.size G nn nn dd (wrt D kk dd c) h w5 ∧ Below w2.heap.size w2 w5 ∧ Arg fo fz fc y4 w5) := ⟨hM5, bel_up' H4.out.2.2 hb5, H4.out.1.below hb5⟩
    clear hb5 hM5
    go_wp2_with fail
    refine (places_any (HW.out.2.2.2.2.below H5.out.2.1) (by omega) nn nn (by omega) (by omega) (Nat.le_refl _)).mono ?_
    rintro e w6 ⟨gP, cP, rfl, _, hrP, hpm, hb6⟩
    have H6 : Hid (Row gP nn cP w6 ∧ Perm' nn cP ∧ Below w2.heap.size w2 w6 ∧ Mx w4.heap.size G nn nn dd (wrt D kk dd c) h w6 ∧ Arg fo fz fc y4 w6) := ⟨hrP, hpm, bel_up' H5.out.2.1 hb6, H5.out.1.below hb6, H5.out.2.2.below hb6⟩
    clear hrP hpm hb6
    go_wp2
    go_loopw [18, 19] (fun vh vi wr => ∃ i : Nat, i ≤ kk ∧ vi = .int .i64 (i : Nat) ∧ Hid (LLs w6.heap.size vh (rl i d1 fun a => wrt D kk dd c (cP a)) wr ∧ Below w6.heap.size w6 wr)) (fun _ vi _ => kk - (intOf vi).toNat)
    case atStart => exact ⟨0, by omega, rfl, LLs.nil _ _, Below.refl _ _⟩
    case round =>
      obtain ⟨i, hi, rfl, HI⟩ := hrel
      rename World => wr
      by_cases hlt : i < kk
      · have hib : (i : Int) < (kk : Int) := by omega
        have hin : (i : Int) < (nn : Int) := by omega
        have hcp := (H6.out.1.below HI.out.2 H6.out.1.lt).cell i (by omega)
        obtain ⟨x, hx⟩ : ∃ x, x = cP i := ⟨_, rfl⟩
        rw [← hx] at hcp
        have hxn : x < nn := by rw [hx]; exact H6.out.2.1.1 i (by omega)
        have hxb : (x : Int) < (nn : Int) := by omega
        have hMr := H6.out.2.2.2.1.below HI.out.2
        have hcx := hMr.cell x hxn
        have HE : Hid (Elm (.slice (some ⟨h x, 0, none⟩) dd dd) (d1, wrt D kk dd c x) wr) := by
          have hr := hMr.row x hxn
          have hd := HDd.out
          refine ⟨h x, dd, by rw [← hd], by show d1 + 1 ≤ dd; omega, by omega, ?_⟩
          show Row (h x) (d1 + 1) (wrt D kk dd c x) wr
          rw [← hd]; exact hr
        have HXe : Hid (x = cP i) := hx
        obtain ⟨ll, hl1, hl2⟩ := HI.out.1
        have HL : Hid (OwnV w6.heap.size u18 ll wr ∧ Elms ll (rl i d1 fun a => wrt D kk dd c (cP a)) wr ∧ ll.length ≤ 1000) := ⟨hl1, hl2, by rw [hl2.1, rl_len]; omega⟩
        have hsz := HI.out.2.size
        clear hx hMr hl1 hl2
        go_wp2_with (at_builtin; refine append_sl rfl _ _ rfl w6.heap.size _ ll rfl (HL.out.1.alloc _) ⟨wr.heap.size, 0, none⟩ 1 (.slice (some ⟨h x, 0, none⟩) dd dd) rfl rfl (by simp) (by have := HL.out.2.2; omega) (by simp; omega) ?_; intro v7 w7 hown7 hgrow7)
        go_roundw
        case rel =>
          have hba2 : Below wr.heap.size wr (wr.alloc (.cells #[.slice (some ⟨h x, 0, none⟩) dd dd] 22)) := (Below.refl _ _).alloc (Nat.le_refl _) _
          refine ⟨i + 1, by omega, by go_num, ?_, ?_⟩
          · rw [rl_succ, ← HXe.out]
            exact LLs.push (HL.out.1.alloc _) (HL.out.2.1.below hba2 (Nat.le_refl _)) (HE.out.below hba2 (Nat.le_refl _)) hown7 hgrow7
          · refine (bel_up' HI.out.2 hba2).trans (below_grown hgrow7 (by simp; omega) (fun x hx => ?_))
            rcases HL.out.1.2 with ⟨h1, _⟩ | ⟨g, cap, cur, hv, hg, _⟩
            · rw [h1] at hx; cases hx
            · rw [hv] at hx; cases hx; exact hg
        case measure => simp [intOf]; omega
      · have hib : ¬ (i : Int) < (kk : Int) := by omega
        have hl7 := HI.out.1
        rw [show i = kk by omega] at hl7
        obtain ⟨ho, hc, A, C, hv, hMz⟩ := hl7.matZN (by have := HDd.out; omega)
        subst hv
        have hrw := H6.out.1.below HI.out.2 H6.out.1.lt
        have hPw := HW.out.1.below (bel_up' H6.out.2.2.1 HI.out.2)
        have hFw := HW.out.2.1.below (bel_up' H6.out.2.2.1 HI.out.2) HW.out.2.1.ltF HW.out.2.1.ltT
        have HR : Hid (Calls Try.prog 21 #[.pointer (some ⟨B, 0, none⟩), .slice (some ⟨gP, 0, none⟩) kk nn, .slice ho kk hc] wr fun e w' => ∃ v, e = .returned (.tuple #[v, .int .i64 0]) ∧ OwnI wr.heap.size v (zl fz y4) w' ∧ Below wr.heap.size wr w') := by
          have hAp : Arg (some ⟨gP, 0, none⟩) kk nn (fun j => ((cP j : Nat) : Int)) wr := ⟨fun j hj => (hrw.sl (Nat.le_refl _)) j (by omega), fun x hx => (by cases hx; exact hrw.lt), by omega, fun e => (by cases e), by omega, by omega⟩
          refine (sread_any HA.out.2.1 (hc := hc) hPw hFw hAp hMz (by omega) (by omega) b1 b2 (by omega) (by omega)).mono ?_
          have hrd : rdc D kk (fun j => ((cP j : Nat) : Int)) kk (fun _ => d1 + 1) (fun i j => ((wrt D kk dd c (cP i) j : Nat) : Int)) (nn : Nat) (kk : Nat) (dd : Nat) = 0 := by
            unfold rdc ndchk
            rw [if_neg (show ¬ ((kk : Nat) : Int) ≠ (kk : Nat) by omega), ndc_zero H6.out.2.1 kk (by omega) (fun j hj => H6.out.2.1.1 j (by omega)), if_neg (by decide)]
            unfold hvm
            rw [if_neg (by omega)]
            have hv : ∀ m, hvc D (fun _ => d1 + 1) (fun i j => ((wrt D kk dd c (cP i) j : Nat) : Int)) (dd : Nat) m = 0 := fun m => by
              induction m with
              | zero => rfl
              | succ m ih =>
                show (if hvc D (fun _ => d1 + 1) (fun i j => ((wrt D kk dd c (cP i) j : Nat) : Int)) (dd : Nat) m ≠ 0 then _ else D.nchk (d1 + 1) (fun j => ((wrt D kk dd c (cP m) j : Nat) : Int)) (dd : Nat)) = 0
                rw [if_neg (by rw [ih]; omega), ← HDd.out]
                exact nchk_el (fun j _ => ⟨wrt D kk dd c (cP m) j, rfl, ev_lt (fld HA.out.2.1) _ _ _⟩)
            exact hv kk
          have hxq : ∀ i, i < kk → cP i < D.q := fun i hi => by have := H6.out.2.1.1 i (by omega); omega
          have hne : ∀ i j, i < kk → j < kk → i ≠ j → cP i ≠ cP j := fun i j hi hj hne e => by
            rcases Nat.lt_or_gt_of_ne hne with h1 | h1
            · exact H6.out.2.1.2 i j h1 (by omega) e
            · exact H6.out.2.1.2 j i h1 (by omega) e.symm
          rintro e w' ⟨hb', ⟨hz, _⟩ | ⟨_, Q, hQ, ho⟩⟩
          · exact absurd hrd hz
          have hQ2 : Fnd D kk dd cP (fun t j => wrt D kk dd c (cP t) j) Q := hQ.like b2 (fun t ht => zc_nn cP ht) (fun t j ht hj => by
            show zc (d1 + 1) (fun j => ((wrt D kk dd c (cP t) j : Nat) : Int)) j = _
            rw [zc_nn _ (by have := HDd.out; omega)])
          have hone := hQ2.one (fld HA.out.2.1) b2 hxq hne (Fnd.written (fld HA.out.2.1) cP b2 HCe.out.1)
          have hsm : Smt Q dd := fun i j hi hj => by
            rw [hone i hi, hone j (by omega)]
            exact smt_sqr kk dd c _ i j hi hj
          rcases ho with ⟨hs, _⟩ | ⟨_, v, c', rfl, hown, hpl⟩
          · exact absurd hsm hs
          refine ⟨v, rfl, ?_, hb'⟩
          have e1 : (zl (fsz kk dd) fun r => ((c' r : Nat) : Int)) = zl fz y4 := by
            rw [← HFz.out]
            refine zl_congr (fun r hr => ?_)
            rw [HFz.out, fsz_is] at hr
            obtain ⟨i, j, hi, hij, hj, e⟩ := plr_surj b2 hr
            have e2 : c' r = c r := by rw [← e, hpl i j hi hij hj, hone i (by omega), sqr_at c hi hij hj]
            rw [e2, HCe.out.2]
            have hr2 : r < fz := by rw [HFz.out, fsz_is]; exact hr
            have := H4.out.2.1 r hr2
            unfold zc
            rw [if_pos hr2]
            omega
          rw [← e1]; exact hown
        have hrn1 := hrw.cell n1 (by have := HN1.out; omega)
        clear hl7 hMz hPw hFw hrw
        have hknn : (kk : Int) ≤ (nn : Int) := by omega
        go_wp2_with fail
        refine HR.out.mono ?_
        rintro e w7 ⟨v7, rfl, ho7, hb7⟩
        have HSm : Hid (Calls Try.prog 13 #[v7, .slice fo fz fc] w7 fun e w' => e = .returned (.bool true) ∧ ∃ n, w' = w7.drewN n) := by
          have h1 := same_any (ho7.slice (by rw [zl_len]; omega)) (arg_sliceI ((H6.out.2.2.2.2.below HI.out.2).below hb7) (Nat.le_refl fz))
          rw [decide_eq_true rfl] at h1
          exact h1
        have H7 : Hid (Below w6.heap.size w6 w7) := bel_up' HI.out.2 hb7
        obtain ⟨fo7, fc7, rfl, _⟩ := ho7.argL
        clear ho7 hb7 HI
        go_wp2_with fail
        refine HSm.out.mono ?_
        rintro e w8 ⟨rfl, j8, hw8⟩
        have H8 : Hid (Below w6.heap.size w6 w8) := by rw [hw8]; exact below_drewN2 H7.out j8
        clear hw8 hrn1
        have hrw8 := H6.out.1.below H8.out H6.out.1.lt
        have hcn := hrw8.cell n1 (by have := HN1.out; omega)
        obtain ⟨lx, hlx⟩ : ∃ lx, lx = cP n1 := ⟨_, rfl⟩
        rw [← hlx] at hcn
        have HLx : Hid (lx = cP n1 ∧ lx < nn) := ⟨hlx, by rw [hlx]; exact H6.out.2.1.1 n1 (by have := HN1.out; omega)⟩
        have hn1b : (n1 : Int) < (nn : Int) := by have := HN1.out; omega
        clear hlx hrw8
        go_wp2
        clear hcn
        go_loopw [22, 23] (fun vh vi wt => ∃ i : Nat, i ≤ dd ∧ vi = .int .i64 (i : Nat) ∧ Hid (OwnI w8.heap.size vh (zl i fun t => ((D.ev (wrt D kk dd c (cP t)) lx dd : Nat) : Int)) wt ∧ Below w8.heap.size w8 wt)) (fun _ vi _ => dd - (intOf vi).toNat)
        case atStart => exact ⟨0, by omega, rfl, OwnI.nil _ _, Below.refl _ _⟩
        case round =>
          obtain ⟨i, hi, rfl, HG⟩ := hrel
          rename World => wt
          have hb6t : Below w6.heap.size w6 wt := bel_up' H8.out HG.out.2
          have hPw := HW.out.1.below (bel_up' H6.out.2.2.1 hb6t)
          have hFw := HW.out.2.1.below (bel_up' H6.out.2.2.1 hb6t) HW.out.2.1.ltF HW.out.2.1.ltT
          by_cases hlt : i < dd
          · have hib : (i : Int) < (dd : Int) := by omega
            have hin : (i : Int) < (nn : Int) := by omega
            have hcp := (H6.out.1.below hb6t H6.out.1.lt).cell i (by omega)
            obtain ⟨x, hx⟩ : ∃ x, x = cP i := ⟨_, rfl⟩
            rw [← hx] at hcp
            have hxn : x < nn := by rw [hx]; exact H6.out.2.1.1 i (by omega)
            have hxb : (x : Int) < (nn : Int) := by omega
            have hMr := H6.out.2.2.2.1.below hb6t
            have hcx := hMr.cell x hxn
            obtain ⟨V, hV⟩ : ∃ V, V = D.ev (wrt D kk dd c x) lx dd := ⟨_, rfl⟩
            have HHp : Hid (Calls Try.prog 22 #[.pointer (some ⟨B, 0, none⟩), .slice (some ⟨h x, 0, none⟩) dd dd, .int .i64 (lx : Nat)] wt fun e w' => e = .returned (.tuple #[.int .i64 (V : Nat), .int .i64 0]) ∧ Below wt.heap.size wt w') := by
              refine (shelp_any HA.out.2.1 hPw hFw ((hMr.row x hxn).sl (Nat.le_refl _)).z (by omega) (by omega) (by omega) (lx : Nat)).mono ?_
              have hz : hlc D dd (fun j => ((wrt D kk dd c x j : Nat) : Int)) (nn : Nat) (dd : Nat) (lx : Nat) = 0 := by
                have hnk : D.nchk dd (fun j => ((wrt D kk dd c x j : Nat) : Int)) (dd : Nat) = 0 := nchk_el (fun j _ => ⟨wrt D kk dd c x j, rfl, ev_lt (fld HA.out.2.1) _ _ _⟩)
                unfold hlc
                rw [hnk, if_neg (by decide), if_neg (by have := HLx.out.2; omega)]
              rintro e w' ⟨hb', ⟨hz2, _⟩ | ⟨_, rfl⟩⟩
              · exact absurd hz hz2
              · refine ⟨?_, hb'⟩
                rw [Int.toNat_natCast, ev_same (b := wrt D kk dd c x) lx dd (fun j hj => zc_nn _ hj), ← hV]
            have HVe : Hid (V = D.ev (wrt D kk dd c (cP i)) lx dd) := by show V = _; rw [hV, hx]
            clear hx hMr hV hPw hFw hb6t
            go_wp2_with fail
            refine HHp.out.mono ?_
            rintro e w9 ⟨rfl, hb9⟩
            have HO : Hid (OwnI w8.heap.size u22 (zl i fun t => ((D.ev (wrt D kk dd c (cP t)) lx dd : Nat) : Int)) w9 ∧ Below w8.heap.size w8 w9) := ⟨HG.out.1.below hb9 (fun x hx => (HG.out.1.lt x hx).2), bel_up' HG.out.2 hb9⟩
            have hsz := HO.out.2.size
            clear hb9
            go_wp2_with (at_builtin; refine append_int rfl _ _ rfl w8.heap.size _ (zl i fun t => ((D.ev (wrt D kk dd c (cP t)) lx dd : Nat) : Int)) rfl (HO.out.1.alloc _) ⟨_, 0, none⟩ 1 (V : Nat) rfl (by simp) (by rw [zl_len]; omega) (by simp; omega) ?_; intro v10 w10 hown10 hgrow10)
            go_roundw
            case rel => exact ⟨i + 1, by omega, by go_num, by rw [zl_succ, ← HVe.out]; exact hown10, (HO.out.2.alloc hsz _).grown hgrow10 (by simp; omega) (fun x hx => (HO.out.1.lt x hx).1)⟩
            case measure => simp [intOf]; omega
          · have hib : ¬ (i : Int) < (dd : Int) := by omega
            have ho10 := HG.out.1
            rw [show i = dd by omega] at ho10
            obtain ⟨bh, ch, rfl, hhA⟩ := ho10.argN (by omega)
            have hrw := H6.out.1.below hb6t H6.out.1.lt
            have hMr := H6.out.2.2.2.1.below hb6t
            have HMe : Hid (Calls Try.prog 23 #[.pointer (some ⟨B, 0, none⟩), .int .i64 (lx : Nat), .slice (some ⟨gP, 0, none⟩) dd nn, .slice bh dd ch] wt fun e w' => ∃ g, e = .returned (.tuple #[.slice (some ⟨g, 0, none⟩) dd dd, .int .i64 0]) ∧ Row g dd (wrt D kk dd c lx) w' ∧ Below wt.heap.size wt w') := by
              have hAp : Arg (some ⟨gP, 0, none⟩) dd nn (fun j => ((cP j : Nat) : Int)) wt := ⟨fun j hj => (hrw.sl (Nat.le_refl _)) j (by omega), fun x hx => (by cases hx; exact hrw.lt), by omega, fun e => (by cases e), by omega, by omega⟩
              refine (smend_any HA.out.2.1 hPw hFw hAp hhA (by omega) (by omega) (by omega) (by omega) (lx : Nat)).mono ?_
              have hz : mdc D dd (fun j => ((cP j : Nat) : Int)) dd (fun t => ((D.ev (wrt D kk dd c (cP t)) lx dd : Nat) : Int)) (nn : Nat) (dd : Nat) (lx : Nat) = 0 := by
                unfold mdc ndchk
                rw [if_neg (by have := HLx.out.2; omega), if_neg (show ¬ ((dd : Nat) : Int) ≠ (dd : Nat) by omega), ndc_zero H6.out.2.1 dd (by omega) (fun j hj => H6.out.2.1.1 j (by omega)), if_neg (by decide), if_neg]
                · exact nchk_el (fun j _ => ⟨_, rfl, ev_lt (fld HA.out.2.1) _ _ _⟩)
                · intro hm
                  obtain ⟨j, hj, e⟩ := zl_mem.1 hm
                  have e2 : cP j = cP n1 := by rw [← HLx.out.1]; omega
                  exact H6.out.2.1.2 j n1 (by omega) (by have := HN1.out; omega) e2
              rintro e w' ⟨hb', ⟨hz2, _⟩ | ⟨_, co, g2, rfl, _, hr, he, hbd, hv⟩⟩
              · exact absurd hz hz2
              · refine ⟨g2, rfl, ?_, hb'⟩
                have e : co = wrt D kk dd c lx := thr_one (fld HA.out.2.1) (xs := cP) (fun i hi => by have := H6.out.2.1.1 i (by omega); omega) (fun i j hi hj hne e => by
                  rcases Nat.lt_or_gt_of_ne hne with h1 | h1
                  · exact H6.out.2.1.2 i j h1 (by omega) e
                  · exact H6.out.2.1.2 j i h1 (by omega) e.symm) he (fun j => ev_lt (fld HA.out.2.1) _ _ _) hbd (wrt_bd (fld HA.out.2.1) kk dd c lx) (fun i hi => by
                  have h1 := hv i hi
                  rw [zc_nn cP hi, zc_nn _ hi] at h1
                  unfold FD.vl at h1
                  rw [ev_from (fld HA.out.2.1) _ hbd (show dd ≤ 1000 by omega)] at h1
                  rw [h1, helps_are (fld HA.out.2.1) HCe.out.1])
                rw [← e]; exact hr
            have hdnn : (dd : Int) ≤ (nn : Int) := by omega
            clear ho10 hhA hPw hFw hrw
            go_wp2_with fail
            refine HMe.out.mono ?_
            rintro e w11 ⟨gx, rfl, hr11, hb11⟩
            have hM11 := hMr.below hb11
            have hcl := hM11.cell lx HLx.out.2
            have HSm2 : Hid (Calls Try.prog 13 #[.slice (some ⟨gx, 0, none⟩) dd dd, .slice (some ⟨h lx, 0, none⟩) dd dd] w11 fun e w' => e = .returned (.bool true) ∧ ∃ n, w' = w11.drewN n) := by
              have h1 := same_any (arg_sliceI (row_arg hr11 (by omega)) (Nat.le_refl dd)) (arg_sliceI (row_arg (hM11.row lx HLx.out.2) (by omega)) (Nat.le_refl dd))
              rw [decide_eq_true rfl] at h1
              exact h1
            have H11 : Hid (Below w.heap.size w w11) := bel_up' HW.out.2.2.1 (bel_up' (bel_up' H6.out.2.2.1 hb6t) hb11)
            have hlxb : (lx : Int) < (nn : Int) := by have := HLx.out.2; omega
            clear hM11 hMr hb11 hr11 hb6t
            go_wp2_with fail
            refine HSm2.out.mono ?_
            rintro e w12 ⟨rfl, j12, hw12⟩
            have H12 : Hid (Below w.heap.size w w12) := by rw [hw12]; exact below_drewN2 H11.out j12
            clear hw12
            go_wp2
            go_ret
            exact ⟨rfl, H12.out⟩
end Go.Proofs.Ytbofcldmgjeklab
