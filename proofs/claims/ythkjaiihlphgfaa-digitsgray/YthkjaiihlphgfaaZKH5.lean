/- DigitsGray: whatever it is given (printed by make/kh5.py). -/
import Derived.Test.YthkjaiihlphgfaaZKH4
import Derived.Test.YthkjaiihlphgfaaZL1
namespace Go.Proofs.Ythkjaiihlphgfaa
open Go.RowKit Go.Sort

theorem slz_slI {ao : Option Addr} {n cap : Nat} {z : Nat → Int} {w : World} (h : SlZ ao n z w) (hn : n ≤ 1000000) : SliceI (.slice ao n cap) (zl n z) w := by
  by_cases h0 : n = 0
  · subst h0
    exact Or.inl ⟨rfl, ao, cap, rfl⟩
  · obtain ⟨b, off, rfl, _⟩ := h 0 (by omega)
    refine Or.inr ⟨fun e => ?_, by rw [zl_len]; exact hn, b, off, cap, by rw [zl_len], fun j hj => ?_⟩
    · have := congrArg List.length e
      rw [zl_len] at this
      exact h0 this
    · rw [zl_len] at hj
      obtain ⟨b', off', e, hc⟩ := h j hj
      cases e
      rw [zl_getD n z j hj]; exact hc

set_option maxHeartbeats 4000000 in
set_option maxRecDepth 100000 in
theorem digitsGray_long (k : Int) {ao lo : Option Addr} {n ca ln lc : Nat} (w : World) (h1 : n ≤ 17592186044416) (h2 : ln ≤ 17592186044416) (hlen : 100 < n + ln) :
    Calls Try.prog 7 #[.slice ao n ca, .int .i64 k, .slice lo ln lc] w fun e w' => e = .returned (.bool true) ∧ Below w.heap.size w w' := by
  obtain ⟨N1, hN1⟩ : ∃ N1, N1 = n + ln := ⟨_, rfl⟩
  have g1 : IntKind.i64.wrap ((n : Int) + (ln : Int)) = (N1 : Int) := wrap_to (by omega) (by omega)
  have g3 : (100 : Int) < (N1 : Int) := by omega
  clear hN1
  go_enter Try.func7, Try.ntmps7
  go_wp2
  go_ret
  exact ⟨rfl, Below.refl _ _⟩

set_option maxHeartbeats 16000000 in
set_option maxRecDepth 100000 in
theorem digitsGray_few (k : Int) {ao lo : Option Addr} {n ca ln lc : Nat} {z y : Nat → Int} {w : World} (hA : Arg ao n ca z w) (hY : SlZ lo ln y w) (hlen : n + ln ≤ 100) :
    Calls Try.prog 7 #[.slice ao n ca, .int .i64 k, .slice lo ln lc] w fun e w' => e = .returned (.bool true) ∧ Below w.heap.size w w' := by
  obtain ⟨N1, hN1⟩ : ∃ N1, N1 = n + ln := ⟨_, rfl⟩
  have g1 : IntKind.i64.wrap ((n : Int) + (ln : Int)) = (N1 : Int) := wrap_to (by omega) (by omega)
  have g3 : ¬ (100 : Int) < (N1 : Int) := by omega
  clear hN1
  obtain ⟨E0, hE0⟩ : ∃ E0, E0 = gchk n z := ⟨_, rfl⟩
  obtain ⟨AL, hAL⟩ : ∃ AL : Nat, AL = if E0 = 0 then prd n (szB z) else 0 := ⟨_, rfl⟩
  have hsm : Calls Try.prog 41 #[.slice ao n ca] w fun e w' => e = .returned (.tuple #[.int .i64 (AL : Nat), .int .i64 E0]) ∧ w' = w := by rw [hAL, hE0]; exact sizesMay_any hA.sl (by omega)
  have hck : Calls Try.prog 42 #[.slice ao n ca] w fun e w' => e = .returned (.int .i64 E0) ∧ w' = w := by rw [hE0]; exact dcheck_any hA.sl (by omega)
  have hgr : ∀ wx, Below w.heap.size w wx → Calls Try.prog 44 #[.slice ao n ca, .int .i64 k] wx (GrP (if gchk n z ≠ 0 then gchk n z else if k < 0 ∨ (prd n (szB z) : Nat) ≤ k then 10 else 0) (zl n fun t => ((gry n (szB z) k.toNat t : Nat) : Int)) wx) := fun wx hx => gray_any k (slz_below hA.sl hx) (by omega)
  have hpl : ∀ wx, Below w.heap.size w wx → Calls Try.prog 45 #[.slice ao n ca, .slice lo ln lc] wx fun e w' => e = .returned (.tuple #[.int .i64 ((if pchkG n ln z y = 0 then plc n (szB z) (szB y) else 0 : Nat) : Int), .int .i64 (pchkG n ln z y)]) ∧ ∃ d, w' = wx.drewN d := fun wx hx => place_any (slz_below hA.sl hx) (slz_below hY hx) (by omega) (by omega)
  have HSm : Hid (Calls Try.prog 41 #[.slice ao n ca] w fun e w' => e = .returned (.tuple #[.int .i64 (AL : Nat), .int .i64 E0]) ∧ w' = w) := hsm
  have HCk : Hid (Calls Try.prog 42 #[.slice ao n ca] w fun e w' => e = .returned (.int .i64 E0) ∧ w' = w) := hck
  clear hsm hck
  by_cases h0 : E0 = 0
  · have hg := gchk_ok (hE0.symm.trans h0)
    rw [if_pos h0] at hAL
    have hgz : gchk n z = 0 := hE0.symm.trans h0
    have hPb : AL ≤ 1024 := by rw [hAL]; exact hg.2.2.2
    have HF : Hid (Arg ao n ca z w ∧ SlZ lo ln y w ∧ szOk z n = true ∧ AL = prd n (szB z)) := ⟨hA, hY, hg.2.2.1, hAL⟩
    have HGr : Hid (∀ wx, Below w.heap.size w wx → Calls Try.prog 44 #[.slice ao n ca, .int .i64 k] wx (GrP (if k < 0 ∨ (AL : Nat) ≤ k then 10 else 0) (zl n fun t => ((gry n (szB z) k.toNat t : Nat) : Int)) wx)) := fun wx hx => by
      have h1 := hgr wx hx
      rw [if_neg (fun x => x hgz), ← hAL] at h1
      exact h1
    have HGs : Hid (Calls Try.prog 43 #[.slice ao n ca] w fun e w' => ∃ v vs, e = .returned v ∧ GrS w.heap.size n AL v vs (fun j t => ((gry n (szB z) j t : Nat) : Int)) w' ∧ Below w.heap.size w w') := by rw [hAL]; exact grays_any n hA hg.2.2.1 hg.2.1 hg.2.2.2
    have HPl : Hid ((ln ≠ n → ∀ wx, Below w.heap.size w wx → Calls Try.prog 45 #[.slice ao n ca, .slice lo ln lc] wx fun e w' => e = .returned (.tuple #[.int .i64 0, .int .i64 6]) ∧ ∃ d, w' = wx.drewN d) ∧
        (ln = n → plOk z y n = false → ∀ wx, Below w.heap.size w wx → Calls Try.prog 45 #[.slice ao n ca, .slice lo ln lc] wx fun e w' => e = .returned (.tuple #[.int .i64 0, .int .i64 2]) ∧ ∃ d, w' = wx.drewN d) ∧
        (ln = n → plOk z y n = true → ∀ wx, Below w.heap.size w wx → Calls Try.prog 45 #[.slice ao n ca, .slice lo ln lc] wx fun e w' => e = .returned (.tuple #[.int .i64 (plc n (szB z) (szB y) : Nat), .int .i64 0]) ∧ ∃ d, w' = wx.drewN d)) := by
      have un : pchkG n ln z y = if ln ≠ n then 6 else if plOk z y n = true then 0 else 2 := by unfold pchkG; rw [if_neg (fun x => x hgz)]
      refine ⟨fun h wx hx => ?_, fun h h2 wx hx => ?_, fun h h2 wx hx => ?_⟩
      · have h1 := hpl wx hx
        have u : pchkG n ln z y = 6 := by rw [un, if_pos h]
        rw [u, if_neg (by decide)] at h1
        exact h1
      · have h1 := hpl wx hx
        have u : pchkG n ln z y = 2 := by rw [un, if_neg (fun x => x h), h2]; rfl
        rw [u, if_neg (by decide)] at h1
        exact h1
      · have h1 := hpl wx hx
        have u : pchkG n ln z y = 0 := by rw [un, if_neg (fun x => x h), if_pos h2]
        rw [u, if_pos rfl] at h1
        exact h1
    have hn1 : 1 ≤ n := hg.1
    have hn10 : n ≤ 10 := hg.2.1
    clear hE0 hAL hg hgz hgr hpl hA hY
    subst h0
    go_enter Try.func7, Try.ntmps7
    go_wp2_with fail
    refine HSm.out.mono ?_
    rintro e w' ⟨rfl, hw⟩
    have hw := hw.symm
    subst hw
    go_wp2_with fail
    refine HCk.out.mono ?_
    rintro e w' ⟨rfl, hw⟩
    have hw := hw.symm
    subst hw
    go_wp2_with fail
    refine HGs.out.mono ?_
    rintro e w1 ⟨gv, gvs, rfl, hgs, hb1⟩
    obtain ⟨go, gcap, hgv⟩ : ∃ go gcap, gv = .slice go AL gcap := by
      obtain ⟨mo, mc, hv, _⟩ := hgs.own.open
      rw [vl_len] at hv
      exact ⟨mo, mc, hv⟩
    subst hgv
    have G1 : Hid (GrS w.heap.size n AL (.slice go AL gcap) gvs (fun j t => ((gry n (szB z) j t : Nat) : Int)) w1 ∧ Below w.heap.size w w1) := ⟨hgs, hb1⟩
    clear hgs hb1 HSm HCk HGs
    by_cases hk : k < 0
    · have HGe : Hid (Calls Try.prog 44 #[.slice ao n ca, .int .i64 k] w1 (GrP 10 (zl n fun t => ((gry n (szB z) k.toNat t : Nat) : Int)) w1)) := by
        have h1 := HGr.out w1 G1.out.2
        rw [if_pos (Or.inl hk)] at h1
        exact h1
      clear HGr
      go_wp2_with fail
      refine HGe.out.mono ?_
      rintro e w2 ⟨hb2, vo, vn, vc, rfl, hres⟩
      have hvn : vn = 0 := by
        rcases hres with ⟨_, h1⟩ | ⟨h1, _⟩
        · exact h1
        · exact absurd h1 (by decide)
      subst hvn
      have H2 : Hid (Below w1.heap.size w1 w2) := hb2
      clear hb2 hres HGe
      go_wp2_with fail
      refine (list_gen (e := 10) (Or.inl ⟨by decide, _, _, rfl⟩)).mono ?_
      rintro e w3 ⟨rfl, d3, hd3⟩
      have H3 : Hid (Below w1.heap.size w1 w3 ∧ Below w.heap.size w w3) := by
        have h1 : Below w1.heap.size w1 w3 := by rw [hd3]; exact below_drewN2 H2.out d3
        exact ⟨h1, bel_up' G1.out.2 h1⟩
      clear hd3 H2
      by_cases hln : ln = n
      · subst hln
        have zl0 : ((ln : Int) != (ln : Int)) = false := by simp
        go_wp2
        go_loopw [8, 14] (fun ve vi wr => ∃ (i : Nat) (ev : Int), i ≤ ln ∧ ve = .int .i64 ev ∧ vi = .int .i64 (i : Nat) ∧ Hid (((ev = 0 ∧ plOk z y i = true) ∨ (ev = 2 ∧ plOk z y ln = false)) ∧ Below w3.heap.size w3 wr)) (fun _ vi _ => ln - (intOf vi).toNat)
        case atStart => exact ⟨0, 0, by omega, rfl, rfl, Or.inl ⟨rfl, rfl⟩, Below.refl _ _⟩
        case round =>
          obtain ⟨i, ev, hi, rfl, rfl, HJ⟩ := hrel
          rename World => wr
          by_cases hin : i < ln
          · have hib : (i : Int) < (ln : Int) := by omega
            have hib0 : (0 : Int) ≤ (i : Int) := by omega
            by_cases he : ev = 0
            · subst he
              have hpo : plOk z y i = true := by rcases HJ.out.1 with ⟨_, h1⟩ | ⟨h1, _⟩; exact h1; exact absurd h1 (by decide)
              have hbr := bel_up' H3.out.2 HJ.out.2
              obtain ⟨ba, oa, hao, hca⟩ := (slz_below HF.out.1.sl hbr) i hin
              obtain ⟨bl, ol, hlo, hcl⟩ := (slz_below HF.out.2.1 hbr) i hin
              subst hao
              subst hlo
              obtain ⟨x, hx⟩ : ∃ x, x = z i := ⟨_, rfl⟩
              obtain ⟨v, hv⟩ : ∃ v, v = y i := ⟨_, rfl⟩
              rw [← hx] at hca
              rw [← hv] at hcl
              have HD : Hid (∀ d, Below w3.heap.size w3 (wr.drewN d)) := fun d => below_drewN2 HJ.out.2 d
              by_cases e0 : 0 ≤ v ∧ v < x
              · have HV : Hid (plOk z y (i + 1) = true) := plOk_yes hpo (by rw [← hx, ← hv]; exact e0)
                have e1 : ¬ v < 0 := by omega
                have e2 : ¬ x ≤ v := by omega
                have t1 : decide (v < 0) = false := decide_eq_false e1
                have t2 : decide (v ≥ x) = false := decide_eq_false e2
                have t2' : decide (x ≤ v) = false := decide_eq_false e2
                clear hx hv e0 hbr hpo
                go_wp2
                go_big_quiet (fail)
                go_wp2
                go_roundw
                case rel => exact ⟨i + 1, 0, by omega, rfl, by go_num, Or.inl ⟨rfl, HV.out⟩, HD.out _⟩
                case measure => simp [intOf]; omega
              · have HV : Hid (plOk z y ln = false) := plOk_no (i := i) (by rw [← hx, ← hv]; exact e0) ln hin
                by_cases e1 : v < 0
                · have t1 : decide (v < 0) = true := decide_eq_true e1
                  clear hx hv e0 hbr hpo
                  go_wp2
                  go_big_quiet (fail)
                  go_wp2
                  go_roundw
                  case rel => exact ⟨i + 1, 2, by omega, rfl, by go_num, Or.inr ⟨rfl, HV.out⟩, HD.out _⟩
                  case measure => simp [intOf]; omega
                · have e2 : x ≤ v := by omega
                  have t1 : decide (v < 0) = false := decide_eq_false e1
                  have t2 : decide (v ≥ x) = true := decide_eq_true e2
                  have t2' : decide (x ≤ v) = true := decide_eq_true e2
                  clear hx hv e0 hbr hpo
                  go_wp2
                  go_big_quiet (fail)
                  go_wp2
                  go_roundw
                  case rel => exact ⟨i + 1, 2, by omega, rfl, by go_num, Or.inr ⟨rfl, HV.out⟩, HD.out _⟩
                  case measure => simp [intOf]; omega
            · have he2 : ev = 2 := by rcases HJ.out.1 with ⟨h1, _⟩ | ⟨h1, _⟩; exact absurd h1 he; exact h1
              subst he2
              clear he
              have HP2 : Hid (∀ wx, Below w.heap.size w wx → Calls Try.prog 45 #[.slice ao ln ca, .slice lo ln lc] wx fun e w' => e = .returned (.tuple #[.int .i64 0, .int .i64 2]) ∧ ∃ d, w' = wx.drewN d) := HPl.out.2.1 (by first | trivial | rfl) (by rcases HJ.out.1 with ⟨h1, _⟩ | ⟨_, h1⟩; exact absurd h1 (by decide); exact h1)
              have HBr : Hid (Below w.heap.size w wr) := bel_up' H3.out.2 HJ.out.2
              go_wp2_with fail
              refine (HP2.out wr HBr.out).mono ?_
              rintro e wp ⟨rfl, d, hd⟩
              have HBp : Hid (Below w.heap.size w wp) := by rw [hd]; exact below_drewN2 HBr.out d
              clear hd
              go_wp2
              go_ret
              exact ⟨rfl, HBp.out⟩
          · have hib : ¬ (i : Int) < (ln : Int) := by omega
            by_cases he : ev = 0
            · subst he
              have hie : i = ln := by omega
              have HPo : Hid (plOk z y ln = true) := by
                rcases HJ.out.1 with ⟨_, h1⟩ | ⟨h1, _⟩
                · rw [hie] at h1; exact h1
                · exact absurd h1 (by decide)
              obtain ⟨pl, hpe⟩ : ∃ pl, pl = plc ln (szB z) (szB y) := ⟨_, rfl⟩
              have hs2 := szOk_at ln HF.out.2.2.1
              have hp2 := plOk_at ln HPo.out
              have hyb : ∀ j, j < ln → szB y j < szB z j := fun j hj => by
                have h1 := hp2 j hj
                have h2 := hs2 j hj
                unfold szB
                omega
              have hsb : ∀ j, j < ln → 1 ≤ szB z j := fun j hj => by have := hs2 j hj; unfold szB; omega
              have hplt : pl < AL := by rw [hpe, HF.out.2.2.2]; exact plc_lt _ _ _ hsb hyb
              have hz1 : zl ln (fun t => ((gry ln (szB z) pl t : Nat) : Int)) = zl ln y := zl_congr fun t ht => by
                rw [hpe, gry_plc ln (szB z) (szB y) hsb hyb t ht]
                have := hp2 t ht
                unfold szB
                omega
              have HP0 : Hid (∀ wx, Below w.heap.size w wx → Calls Try.prog 45 #[.slice ao ln ca, .slice lo ln lc] wx fun e w' => e = .returned (.tuple #[.int .i64 (pl : Nat), .int .i64 0]) ∧ ∃ d, w' = wx.drewN d) := by rw [hpe]; exact HPl.out.2.2 (by first | trivial | rfl) HPo.out
              have HZ1 : Hid (zl ln (fun t => ((gry ln (szB z) pl t : Nat) : Int)) = zl ln y) := hz1
              have HBr : Hid (Below w.heap.size w wr ∧ Below w1.heap.size w1 wr) := ⟨bel_up' H3.out.2 HJ.out.2, bel_up' H3.out.1 HJ.out.2⟩
              have hpb : (pl : Int) < (AL : Int) := by omega
              have hpb0 : (0 : Int) ≤ (pl : Int) := by omega
              clear hpe hie hs2 hp2 hyb hsb hz1
              go_wp2_with fail
              refine (HP0.out wr HBr.out.1).mono ?_
              rintro e wp ⟨rfl, d, hd⟩
              have HBp : Hid (Below w.heap.size w wp ∧ Below w1.heap.size w1 wp) := by rw [hd]; exact ⟨below_drewN2 HBr.out.1 d, below_drewN2 HBr.out.2 d⟩
              clear hd
              obtain ⟨gp, rp, rpc, hgo2, hcg2, hrow2⟩ := (G1.out.1.below HBp.out.2).at hplt
              subst hgo2
              have HSa : Hid (Calls Try.prog 33 #[.slice rp ln rpc, .slice lo ln lc] wp fun e w' => e = .returned (.bool true) ∧ ∃ d, w' = wp.drewN d) := by
                have h1 := same_any (slz_slI (cap := rpc) hrow2.sl (by omega)) (slz_slI (cap := lc) (slz_below HF.out.2.1 HBp.out.1) (by omega))
                rw [HZ1.out, decide_eq_true rfl] at h1
                exact h1
              clear hrow2 hplt
              go_wp2_with fail
              refine HSa.out.mono ?_
              rintro e wq ⟨rfl, d4, hd4⟩
              have HBq : Hid (Below w.heap.size w wq) := by rw [hd4]; exact below_drewN2 HBp.out.1 d4
              clear hd4 hcg2
              go_wp2
              go_ret
              exact ⟨rfl, HBq.out⟩
            · have he2 : ev = 2 := by rcases HJ.out.1 with ⟨h1, _⟩ | ⟨h1, _⟩; exact absurd h1 he; exact h1
              subst he2
              clear he
              have HP2 : Hid (∀ wx, Below w.heap.size w wx → Calls Try.prog 45 #[.slice ao ln ca, .slice lo ln lc] wx fun e w' => e = .returned (.tuple #[.int .i64 0, .int .i64 2]) ∧ ∃ d, w' = wx.drewN d) := HPl.out.2.1 (by first | trivial | rfl) (by rcases HJ.out.1 with ⟨h1, _⟩ | ⟨_, h1⟩; exact absurd h1 (by decide); exact h1)
              have HBr : Hid (Below w.heap.size w wr) := bel_up' H3.out.2 HJ.out.2
              go_wp2_with fail
              refine (HP2.out wr HBr.out).mono ?_
              rintro e wp ⟨rfl, d, hd⟩
              have HBp : Hid (Below w.heap.size w wp) := by rw [hd]; exact below_drewN2 HBr.out d
              clear hd
              go_wp2
              go_ret
              exact ⟨rfl, HBp.out⟩
      · have zl0 : ((ln : Int) != (n : Int)) = true := by rw [bne_iff_ne]; omega
        have HPd : Hid _ := HPl.out.1 hln
        clear hln
        go_wp2
        go_loopw [8, 14] (fun ve vi wr => ve = .int .i64 6 ∧ vi = .int .i64 0 ∧ Hid (wr = w3)) (fun _ _ _ => 0)
        case atStart => exact ⟨rfl, rfl, rfl⟩
        case round =>
          obtain ⟨rfl, rfl, HJ⟩ := hrel
          rename World => wr
          have hwr : wr = w3 := HJ.out
          subst hwr
          by_cases hl0 : ln = 0
          · have hlb : ¬ (0 : Int) < (ln : Int) := by omega
            clear hl0
            go_wp2_with fail
            refine (HPd.out wr H3.out.2).mono ?_
            rintro e wp ⟨rfl, d, hd⟩
            have HBp : Hid (Below w.heap.size w wp) := by rw [hd]; exact below_drewN2 H3.out.2 d
            clear hd
            go_wp2
            go_ret
            exact ⟨rfl, HBp.out⟩
          · have hlb : (0 : Int) < (ln : Int) := by omega
            clear hl0
            go_wp2_with fail
            refine (HPd.out wr H3.out.2).mono ?_
            rintro e wp ⟨rfl, d, hd⟩
            have HBp : Hid (Below w.heap.size w wp) := by rw [hd]; exact below_drewN2 H3.out.2 d
            clear hd
            go_wp2
            go_ret
            exact ⟨rfl, HBp.out⟩
    by_cases hk2 : (AL : Int) ≤ k
    · have HGe : Hid (Calls Try.prog 44 #[.slice ao n ca, .int .i64 k] w1 (GrP 10 (zl n fun t => ((gry n (szB z) k.toNat t : Nat) : Int)) w1)) := by
        have h1 := HGr.out w1 G1.out.2
        rw [if_pos (Or.inr hk2)] at h1
        exact h1
      clear HGr
      go_wp2_with fail
      refine HGe.out.mono ?_
      rintro e w2 ⟨hb2, vo, vn, vc, rfl, hres⟩
      have hvn : vn = 0 := by
        rcases hres with ⟨_, h1⟩ | ⟨h1, _⟩
        · exact h1
        · exact absurd h1 (by decide)
      subst hvn
      have H2 : Hid (Below w1.heap.size w1 w2) := hb2
      clear hb2 hres HGe
      go_wp2_with fail
      refine (list_gen (e := 10) (Or.inl ⟨by decide, _, _, rfl⟩)).mono ?_
      rintro e w3 ⟨rfl, d3, hd3⟩
      have H3 : Hid (Below w1.heap.size w1 w3 ∧ Below w.heap.size w w3) := by
        have h1 : Below w1.heap.size w1 w3 := by rw [hd3]; exact below_drewN2 H2.out d3
        exact ⟨h1, bel_up' G1.out.2 h1⟩
      clear hd3 H2
      by_cases hln : ln = n
      · subst hln
        have zl0 : ((ln : Int) != (ln : Int)) = false := by simp
        go_wp2
        go_loopw [8, 14] (fun ve vi wr => ∃ (i : Nat) (ev : Int), i ≤ ln ∧ ve = .int .i64 ev ∧ vi = .int .i64 (i : Nat) ∧ Hid (((ev = 0 ∧ plOk z y i = true) ∨ (ev = 2 ∧ plOk z y ln = false)) ∧ Below w3.heap.size w3 wr)) (fun _ vi _ => ln - (intOf vi).toNat)
        case atStart => exact ⟨0, 0, by omega, rfl, rfl, Or.inl ⟨rfl, rfl⟩, Below.refl _ _⟩
        case round =>
          obtain ⟨i, ev, hi, rfl, rfl, HJ⟩ := hrel
          rename World => wr
          by_cases hin : i < ln
          · have hib : (i : Int) < (ln : Int) := by omega
            have hib0 : (0 : Int) ≤ (i : Int) := by omega
            by_cases he : ev = 0
            · subst he
              have hpo : plOk z y i = true := by rcases HJ.out.1 with ⟨_, h1⟩ | ⟨h1, _⟩; exact h1; exact absurd h1 (by decide)
              have hbr := bel_up' H3.out.2 HJ.out.2
              obtain ⟨ba, oa, hao, hca⟩ := (slz_below HF.out.1.sl hbr) i hin
              obtain ⟨bl, ol, hlo, hcl⟩ := (slz_below HF.out.2.1 hbr) i hin
              subst hao
              subst hlo
              obtain ⟨x, hx⟩ : ∃ x, x = z i := ⟨_, rfl⟩
              obtain ⟨v, hv⟩ : ∃ v, v = y i := ⟨_, rfl⟩
              rw [← hx] at hca
              rw [← hv] at hcl
              have HD : Hid (∀ d, Below w3.heap.size w3 (wr.drewN d)) := fun d => below_drewN2 HJ.out.2 d
              by_cases e0 : 0 ≤ v ∧ v < x
              · have HV : Hid (plOk z y (i + 1) = true) := plOk_yes hpo (by rw [← hx, ← hv]; exact e0)
                have e1 : ¬ v < 0 := by omega
                have e2 : ¬ x ≤ v := by omega
                have t1 : decide (v < 0) = false := decide_eq_false e1
                have t2 : decide (v ≥ x) = false := decide_eq_false e2
                have t2' : decide (x ≤ v) = false := decide_eq_false e2
                clear hx hv e0 hbr hpo
                go_wp2
                go_big_quiet (fail)
                go_wp2
                go_roundw
                case rel => exact ⟨i + 1, 0, by omega, rfl, by go_num, Or.inl ⟨rfl, HV.out⟩, HD.out _⟩
                case measure => simp [intOf]; omega
              · have HV : Hid (plOk z y ln = false) := plOk_no (i := i) (by rw [← hx, ← hv]; exact e0) ln hin
                by_cases e1 : v < 0
                · have t1 : decide (v < 0) = true := decide_eq_true e1
                  clear hx hv e0 hbr hpo
                  go_wp2
                  go_big_quiet (fail)
                  go_wp2
                  go_roundw
                  case rel => exact ⟨i + 1, 2, by omega, rfl, by go_num, Or.inr ⟨rfl, HV.out⟩, HD.out _⟩
                  case measure => simp [intOf]; omega
                · have e2 : x ≤ v := by omega
                  have t1 : decide (v < 0) = false := decide_eq_false e1
                  have t2 : decide (v ≥ x) = true := decide_eq_true e2
                  have t2' : decide (x ≤ v) = true := decide_eq_true e2
                  clear hx hv e0 hbr hpo
                  go_wp2
                  go_big_quiet (fail)
                  go_wp2
                  go_roundw
                  case rel => exact ⟨i + 1, 2, by omega, rfl, by go_num, Or.inr ⟨rfl, HV.out⟩, HD.out _⟩
                  case measure => simp [intOf]; omega
            · have he2 : ev = 2 := by rcases HJ.out.1 with ⟨h1, _⟩ | ⟨h1, _⟩; exact absurd h1 he; exact h1
              subst he2
              clear he
              have HP2 : Hid (∀ wx, Below w.heap.size w wx → Calls Try.prog 45 #[.slice ao ln ca, .slice lo ln lc] wx fun e w' => e = .returned (.tuple #[.int .i64 0, .int .i64 2]) ∧ ∃ d, w' = wx.drewN d) := HPl.out.2.1 (by first | trivial | rfl) (by rcases HJ.out.1 with ⟨h1, _⟩ | ⟨_, h1⟩; exact absurd h1 (by decide); exact h1)
              have HBr : Hid (Below w.heap.size w wr) := bel_up' H3.out.2 HJ.out.2
              go_wp2_with fail
              refine (HP2.out wr HBr.out).mono ?_
              rintro e wp ⟨rfl, d, hd⟩
              have HBp : Hid (Below w.heap.size w wp) := by rw [hd]; exact below_drewN2 HBr.out d
              clear hd
              go_wp2
              go_ret
              exact ⟨rfl, HBp.out⟩
          · have hib : ¬ (i : Int) < (ln : Int) := by omega
            by_cases he : ev = 0
            · subst he
              have hie : i = ln := by omega
              have HPo : Hid (plOk z y ln = true) := by
                rcases HJ.out.1 with ⟨_, h1⟩ | ⟨h1, _⟩
                · rw [hie] at h1; exact h1
                · exact absurd h1 (by decide)
              obtain ⟨pl, hpe⟩ : ∃ pl, pl = plc ln (szB z) (szB y) := ⟨_, rfl⟩
              have hs2 := szOk_at ln HF.out.2.2.1
              have hp2 := plOk_at ln HPo.out
              have hyb : ∀ j, j < ln → szB y j < szB z j := fun j hj => by
                have h1 := hp2 j hj
                have h2 := hs2 j hj
                unfold szB
                omega
              have hsb : ∀ j, j < ln → 1 ≤ szB z j := fun j hj => by have := hs2 j hj; unfold szB; omega
              have hplt : pl < AL := by rw [hpe, HF.out.2.2.2]; exact plc_lt _ _ _ hsb hyb
              have hz1 : zl ln (fun t => ((gry ln (szB z) pl t : Nat) : Int)) = zl ln y := zl_congr fun t ht => by
                rw [hpe, gry_plc ln (szB z) (szB y) hsb hyb t ht]
                have := hp2 t ht
                unfold szB
                omega
              have HP0 : Hid (∀ wx, Below w.heap.size w wx → Calls Try.prog 45 #[.slice ao ln ca, .slice lo ln lc] wx fun e w' => e = .returned (.tuple #[.int .i64 (pl : Nat), .int .i64 0]) ∧ ∃ d, w' = wx.drewN d) := by rw [hpe]; exact HPl.out.2.2 (by first | trivial | rfl) HPo.out
              have HZ1 : Hid (zl ln (fun t => ((gry ln (szB z) pl t : Nat) : Int)) = zl ln y) := hz1
              have HBr : Hid (Below w.heap.size w wr ∧ Below w1.heap.size w1 wr) := ⟨bel_up' H3.out.2 HJ.out.2, bel_up' H3.out.1 HJ.out.2⟩
              have hpb : (pl : Int) < (AL : Int) := by omega
              have hpb0 : (0 : Int) ≤ (pl : Int) := by omega
              clear hpe hie hs2 hp2 hyb hsb hz1
              go_wp2_with fail
              refine (HP0.out wr HBr.out.1).mono ?_
              rintro e wp ⟨rfl, d, hd⟩
              have HBp : Hid (Below w.heap.size w wp ∧ Below w1.heap.size w1 wp) := by rw [hd]; exact ⟨below_drewN2 HBr.out.1 d, below_drewN2 HBr.out.2 d⟩
              clear hd
              obtain ⟨gp, rp, rpc, hgo2, hcg2, hrow2⟩ := (G1.out.1.below HBp.out.2).at hplt
              subst hgo2
              have HSa : Hid (Calls Try.prog 33 #[.slice rp ln rpc, .slice lo ln lc] wp fun e w' => e = .returned (.bool true) ∧ ∃ d, w' = wp.drewN d) := by
                have h1 := same_any (slz_slI (cap := rpc) hrow2.sl (by omega)) (slz_slI (cap := lc) (slz_below HF.out.2.1 HBp.out.1) (by omega))
                rw [HZ1.out, decide_eq_true rfl] at h1
                exact h1
              clear hrow2 hplt
              go_wp2_with fail
              refine HSa.out.mono ?_
              rintro e wq ⟨rfl, d4, hd4⟩
              have HBq : Hid (Below w.heap.size w wq) := by rw [hd4]; exact below_drewN2 HBp.out.1 d4
              clear hd4 hcg2
              go_wp2
              go_ret
              exact ⟨rfl, HBq.out⟩
            · have he2 : ev = 2 := by rcases HJ.out.1 with ⟨h1, _⟩ | ⟨h1, _⟩; exact absurd h1 he; exact h1
              subst he2
              clear he
              have HP2 : Hid (∀ wx, Below w.heap.size w wx → Calls Try.prog 45 #[.slice ao ln ca, .slice lo ln lc] wx fun e w' => e = .returned (.tuple #[.int .i64 0, .int .i64 2]) ∧ ∃ d, w' = wx.drewN d) := HPl.out.2.1 (by first | trivial | rfl) (by rcases HJ.out.1 with ⟨h1, _⟩ | ⟨_, h1⟩; exact absurd h1 (by decide); exact h1)
              have HBr : Hid (Below w.heap.size w wr) := bel_up' H3.out.2 HJ.out.2
              go_wp2_with fail
              refine (HP2.out wr HBr.out).mono ?_
              rintro e wp ⟨rfl, d, hd⟩
              have HBp : Hid (Below w.heap.size w wp) := by rw [hd]; exact below_drewN2 HBr.out d
              clear hd
              go_wp2
              go_ret
              exact ⟨rfl, HBp.out⟩
      · have zl0 : ((ln : Int) != (n : Int)) = true := by rw [bne_iff_ne]; omega
        have HPd : Hid _ := HPl.out.1 hln
        clear hln
        go_wp2
        go_loopw [8, 14] (fun ve vi wr => ve = .int .i64 6 ∧ vi = .int .i64 0 ∧ Hid (wr = w3)) (fun _ _ _ => 0)
        case atStart => exact ⟨rfl, rfl, rfl⟩
        case round =>
          obtain ⟨rfl, rfl, HJ⟩ := hrel
          rename World => wr
          have hwr : wr = w3 := HJ.out
          subst hwr
          by_cases hl0 : ln = 0
          · have hlb : ¬ (0 : Int) < (ln : Int) := by omega
            clear hl0
            go_wp2_with fail
            refine (HPd.out wr H3.out.2).mono ?_
            rintro e wp ⟨rfl, d, hd⟩
            have HBp : Hid (Below w.heap.size w wp) := by rw [hd]; exact below_drewN2 H3.out.2 d
            clear hd
            go_wp2
            go_ret
            exact ⟨rfl, HBp.out⟩
          · have hlb : (0 : Int) < (ln : Int) := by omega
            clear hl0
            go_wp2_with fail
            refine (HPd.out wr H3.out.2).mono ?_
            rintro e wp ⟨rfl, d, hd⟩
            have HBp : Hid (Below w.heap.size w wp) := by rw [hd]; exact below_drewN2 H3.out.2 d
            clear hd
            go_wp2
            go_ret
            exact ⟨rfl, HBp.out⟩
    · obtain ⟨K0, hK0⟩ : ∃ K0 : Nat, k = (K0 : Int) := ⟨k.toNat, by omega⟩
      have hkA : K0 < AL := by omega
      have HGe : Hid (Calls Try.prog 44 #[.slice ao n ca, .int .i64 k] w1 (GrP 0 (zl n fun t => ((gry n (szB z) K0 t : Nat) : Int)) w1)) := by
        have h1 := HGr.out w1 G1.out.2
        rw [if_neg (by omega), show k.toNat = K0 by omega] at h1
        exact h1
      subst hK0
      have hkb : (K0 : Int) < (AL : Int) := by omega
      have hkb0 : (0 : Int) ≤ (K0 : Int) := by omega
      obtain ⟨gg, ro, rc, hgo, hcg, hrow⟩ := G1.out.1.at hkA
      subst hgo
      have HRo : Hid (ArgL ro n rc (fun t => ((gry n (szB z) K0 t : Nat) : Int)) w1) := hrow
      clear hrow hkA HGr
      go_wp2_with fail
      clear hcg
      refine HGe.out.mono ?_
      rintro e w2 ⟨hb2, vo, vn, vc, rfl, hres⟩
      have H2 : Hid (Below w1.heap.size w1 w2 ∧ SliceI (.slice vo vn vc) (zl n fun t => ((gry n (szB z) K0 t : Nat) : Int)) w2 ∧ SliceI (.slice ro n rc) (zl n fun t => ((gry n (szB z) K0 t : Nat) : Int)) w2) := by
        refine ⟨hb2, ?_, slz_slI (slz_below HRo.out.sl hb2) (by omega)⟩
        rcases hres with ⟨h1, _⟩ | ⟨_, h1⟩
        · exact absurd rfl h1
        · exact h1
      clear hb2 hres HGe
      go_wp2_with fail
      refine (list_gen (e := 0) (Or.inr ⟨rfl, _, H2.out.2.1, H2.out.2.2⟩)).mono ?_
      rintro e w3 ⟨rfl, d3, hd3⟩
      have H3 : Hid (Below w1.heap.size w1 w3 ∧ Below w.heap.size w w3) := by
        have h1 : Below w1.heap.size w1 w3 := by rw [hd3]; exact below_drewN2 H2.out.1 d3
        exact ⟨h1, bel_up' G1.out.2 h1⟩
      clear hd3 H2
      by_cases hln : ln = n
      · subst hln
        have zl0 : ((ln : Int) != (ln : Int)) = false := by simp
        go_wp2
        go_loopw [8, 14] (fun ve vi wr => ∃ (i : Nat) (ev : Int), i ≤ ln ∧ ve = .int .i64 ev ∧ vi = .int .i64 (i : Nat) ∧ Hid (((ev = 0 ∧ plOk z y i = true) ∨ (ev = 2 ∧ plOk z y ln = false)) ∧ Below w3.heap.size w3 wr)) (fun _ vi _ => ln - (intOf vi).toNat)
        case atStart => exact ⟨0, 0, by omega, rfl, rfl, Or.inl ⟨rfl, rfl⟩, Below.refl _ _⟩
        case round =>
          obtain ⟨i, ev, hi, rfl, rfl, HJ⟩ := hrel
          rename World => wr
          by_cases hin : i < ln
          · have hib : (i : Int) < (ln : Int) := by omega
            have hib0 : (0 : Int) ≤ (i : Int) := by omega
            by_cases he : ev = 0
            · subst he
              have hpo : plOk z y i = true := by rcases HJ.out.1 with ⟨_, h1⟩ | ⟨h1, _⟩; exact h1; exact absurd h1 (by decide)
              have hbr := bel_up' H3.out.2 HJ.out.2
              obtain ⟨ba, oa, hao, hca⟩ := (slz_below HF.out.1.sl hbr) i hin
              obtain ⟨bl, ol, hlo, hcl⟩ := (slz_below HF.out.2.1 hbr) i hin
              subst hao
              subst hlo
              obtain ⟨x, hx⟩ : ∃ x, x = z i := ⟨_, rfl⟩
              obtain ⟨v, hv⟩ : ∃ v, v = y i := ⟨_, rfl⟩
              rw [← hx] at hca
              rw [← hv] at hcl
              have HD : Hid (∀ d, Below w3.heap.size w3 (wr.drewN d)) := fun d => below_drewN2 HJ.out.2 d
              by_cases e0 : 0 ≤ v ∧ v < x
              · have HV : Hid (plOk z y (i + 1) = true) := plOk_yes hpo (by rw [← hx, ← hv]; exact e0)
                have e1 : ¬ v < 0 := by omega
                have e2 : ¬ x ≤ v := by omega
                have t1 : decide (v < 0) = false := decide_eq_false e1
                have t2 : decide (v ≥ x) = false := decide_eq_false e2
                have t2' : decide (x ≤ v) = false := decide_eq_false e2
                clear hx hv e0 hbr hpo
                go_wp2
                go_big_quiet (fail)
                go_wp2
                go_roundw
                case rel => exact ⟨i + 1, 0, by omega, rfl, by go_num, Or.inl ⟨rfl, HV.out⟩, HD.out _⟩
                case measure => simp [intOf]; omega
              · have HV : Hid (plOk z y ln = false) := plOk_no (i := i) (by rw [← hx, ← hv]; exact e0) ln hin
                by_cases e1 : v < 0
                · have t1 : decide (v < 0) = true := decide_eq_true e1
                  clear hx hv e0 hbr hpo
                  go_wp2
                  go_big_quiet (fail)
                  go_wp2
                  go_roundw
                  case rel => exact ⟨i + 1, 2, by omega, rfl, by go_num, Or.inr ⟨rfl, HV.out⟩, HD.out _⟩
                  case measure => simp [intOf]; omega
                · have e2 : x ≤ v := by omega
                  have t1 : decide (v < 0) = false := decide_eq_false e1
                  have t2 : decide (v ≥ x) = true := decide_eq_true e2
                  have t2' : decide (x ≤ v) = true := decide_eq_true e2
                  clear hx hv e0 hbr hpo
                  go_wp2
                  go_big_quiet (fail)
                  go_wp2
                  go_roundw
                  case rel => exact ⟨i + 1, 2, by omega, rfl, by go_num, Or.inr ⟨rfl, HV.out⟩, HD.out _⟩
                  case measure => simp [intOf]; omega
            · have he2 : ev = 2 := by rcases HJ.out.1 with ⟨h1, _⟩ | ⟨h1, _⟩; exact absurd h1 he; exact h1
              subst he2
              clear he
              have HP2 : Hid (∀ wx, Below w.heap.size w wx → Calls Try.prog 45 #[.slice ao ln ca, .slice lo ln lc] wx fun e w' => e = .returned (.tuple #[.int .i64 0, .int .i64 2]) ∧ ∃ d, w' = wx.drewN d) := HPl.out.2.1 (by first | trivial | rfl) (by rcases HJ.out.1 with ⟨h1, _⟩ | ⟨_, h1⟩; exact absurd h1 (by decide); exact h1)
              have HBr : Hid (Below w.heap.size w wr) := bel_up' H3.out.2 HJ.out.2
              go_wp2_with fail
              refine (HP2.out wr HBr.out).mono ?_
              rintro e wp ⟨rfl, d, hd⟩
              have HBp : Hid (Below w.heap.size w wp) := by rw [hd]; exact below_drewN2 HBr.out d
              clear hd
              go_wp2
              go_ret
              exact ⟨rfl, HBp.out⟩
          · have hib : ¬ (i : Int) < (ln : Int) := by omega
            by_cases he : ev = 0
            · subst he
              have hie : i = ln := by omega
              have HPo : Hid (plOk z y ln = true) := by
                rcases HJ.out.1 with ⟨_, h1⟩ | ⟨h1, _⟩
                · rw [hie] at h1; exact h1
                · exact absurd h1 (by decide)
              obtain ⟨pl, hpe⟩ : ∃ pl, pl = plc ln (szB z) (szB y) := ⟨_, rfl⟩
              have hs2 := szOk_at ln HF.out.2.2.1
              have hp2 := plOk_at ln HPo.out
              have hyb : ∀ j, j < ln → szB y j < szB z j := fun j hj => by
                have h1 := hp2 j hj
                have h2 := hs2 j hj
                unfold szB
                omega
              have hsb : ∀ j, j < ln → 1 ≤ szB z j := fun j hj => by have := hs2 j hj; unfold szB; omega
              have hplt : pl < AL := by rw [hpe, HF.out.2.2.2]; exact plc_lt _ _ _ hsb hyb
              have hz1 : zl ln (fun t => ((gry ln (szB z) pl t : Nat) : Int)) = zl ln y := zl_congr fun t ht => by
                rw [hpe, gry_plc ln (szB z) (szB y) hsb hyb t ht]
                have := hp2 t ht
                unfold szB
                omega
              have HP0 : Hid (∀ wx, Below w.heap.size w wx → Calls Try.prog 45 #[.slice ao ln ca, .slice lo ln lc] wx fun e w' => e = .returned (.tuple #[.int .i64 (pl : Nat), .int .i64 0]) ∧ ∃ d, w' = wx.drewN d) := by rw [hpe]; exact HPl.out.2.2 (by first | trivial | rfl) HPo.out
              have HZ1 : Hid (zl ln (fun t => ((gry ln (szB z) pl t : Nat) : Int)) = zl ln y) := hz1
              have HBr : Hid (Below w.heap.size w wr ∧ Below w1.heap.size w1 wr) := ⟨bel_up' H3.out.2 HJ.out.2, bel_up' H3.out.1 HJ.out.2⟩
              have hpb : (pl : Int) < (AL : Int) := by omega
              have hpb0 : (0 : Int) ≤ (pl : Int) := by omega
              clear hpe hie hs2 hp2 hyb hsb hz1
              go_wp2_with fail
              refine (HP0.out wr HBr.out.1).mono ?_
              rintro e wp ⟨rfl, d, hd⟩
              have HBp : Hid (Below w.heap.size w wp ∧ Below w1.heap.size w1 wp) := by rw [hd]; exact ⟨below_drewN2 HBr.out.1 d, below_drewN2 HBr.out.2 d⟩
              clear hd
              obtain ⟨gp, rp, rpc, hgo2, hcg2, hrow2⟩ := (G1.out.1.below HBp.out.2).at hplt
              cases hgo2
              have HSa : Hid (Calls Try.prog 33 #[.slice rp ln rpc, .slice lo ln lc] wp fun e w' => e = .returned (.bool true) ∧ ∃ d, w' = wp.drewN d) := by
                have h1 := same_any (slz_slI (cap := rpc) hrow2.sl (by omega)) (slz_slI (cap := lc) (slz_below HF.out.2.1 HBp.out.1) (by omega))
                rw [HZ1.out, decide_eq_true rfl] at h1
                exact h1
              clear hrow2 hplt
              go_wp2_with fail
              refine HSa.out.mono ?_
              rintro e wq ⟨rfl, d4, hd4⟩
              have HBq : Hid (Below w.heap.size w wq) := by rw [hd4]; exact below_drewN2 HBp.out.1 d4
              clear hd4 hcg2
              go_wp2
              go_ret
              exact ⟨rfl, HBq.out⟩
            · have he2 : ev = 2 := by rcases HJ.out.1 with ⟨h1, _⟩ | ⟨h1, _⟩; exact absurd h1 he; exact h1
              subst he2
              clear he
              have HP2 : Hid (∀ wx, Below w.heap.size w wx → Calls Try.prog 45 #[.slice ao ln ca, .slice lo ln lc] wx fun e w' => e = .returned (.tuple #[.int .i64 0, .int .i64 2]) ∧ ∃ d, w' = wx.drewN d) := HPl.out.2.1 (by first | trivial | rfl) (by rcases HJ.out.1 with ⟨h1, _⟩ | ⟨_, h1⟩; exact absurd h1 (by decide); exact h1)
              have HBr : Hid (Below w.heap.size w wr) := bel_up' H3.out.2 HJ.out.2
              go_wp2_with fail
              refine (HP2.out wr HBr.out).mono ?_
              rintro e wp ⟨rfl, d, hd⟩
              have HBp : Hid (Below w.heap.size w wp) := by rw [hd]; exact below_drewN2 HBr.out d
              clear hd
              go_wp2
              go_ret
              exact ⟨rfl, HBp.out⟩
      · have zl0 : ((ln : Int) != (n : Int)) = true := by rw [bne_iff_ne]; omega
        have HPd : Hid _ := HPl.out.1 hln
        clear hln
        go_wp2
        go_loopw [8, 14] (fun ve vi wr => ve = .int .i64 6 ∧ vi = .int .i64 0 ∧ Hid (wr = w3)) (fun _ _ _ => 0)
        case atStart => exact ⟨rfl, rfl, rfl⟩
        case round =>
          obtain ⟨rfl, rfl, HJ⟩ := hrel
          rename World => wr
          have hwr : wr = w3 := HJ.out
          subst hwr
          by_cases hl0 : ln = 0
          · have hlb : ¬ (0 : Int) < (ln : Int) := by omega
            clear hl0
            go_wp2_with fail
            refine (HPd.out wr H3.out.2).mono ?_
            rintro e wp ⟨rfl, d, hd⟩
            have HBp : Hid (Below w.heap.size w wp) := by rw [hd]; exact below_drewN2 H3.out.2 d
            clear hd
            go_wp2
            go_ret
            exact ⟨rfl, HBp.out⟩
          · have hlb : (0 : Int) < (ln : Int) := by omega
            clear hl0
            go_wp2_with fail
            refine (HPd.out wr H3.out.2).mono ?_
            rintro e wp ⟨rfl, d, hd⟩
            have HBp : Hid (Below w.heap.size w wp) := by rw [hd]; exact below_drewN2 H3.out.2 d
            clear hd
            go_wp2
            go_ret
            exact ⟨rfl, HBp.out⟩
  · have z1 : (E0 == 0) = false := beq_eq_false_iff_ne.2 h0
    have z2 : (E0 != 0) = true := bne_iff_ne.2 h0
    have z3 : (E0 != E0) = false := by simp
    have z4 : (E0 == E0) = true := by simp
    rw [if_neg h0] at hAL
    have HGe : Hid (Calls Try.prog 44 #[.slice ao n ca, .int .i64 k] w (GrP E0 (zl n fun t => ((gry n (szB z) k.toNat t : Nat) : Int)) w)) := by
      have h1 := hgr w (Below.refl _ _)
      rw [← hE0, if_pos h0] at h1
      exact h1
    have HPd : Hid (∀ wx, Below w.heap.size w wx → Calls Try.prog 45 #[.slice ao n ca, .slice lo ln lc] wx fun e w' => e = .returned (.tuple #[.int .i64 0, .int .i64 E0]) ∧ ∃ d, w' = wx.drewN d) := fun wx hx => by
      have h1 := hpl wx hx
      have un : pchkG n ln z y = E0 := by unfold pchkG; rw [← hE0, if_pos h0]
      rw [un, if_neg h0] at h1
      exact h1
    have HE0 : Hid (E0 ≠ 0) := h0
    clear hE0 hAL hgr hpl hA hY h0
    go_enter Try.func7, Try.ntmps7
    go_wp2_with fail
    refine HSm.out.mono ?_
    rintro e w' ⟨rfl, hw⟩
    have hw := hw.symm
    subst hw
    go_wp2_with fail
    refine HCk.out.mono ?_
    rintro e w' ⟨rfl, hw⟩
    have hw := hw.symm
    subst hw
    go_wp2_with fail
    refine HGe.out.mono ?_
    rintro e w2 ⟨hb2, vo, vn, vc, rfl, hres⟩
    have hvn : vn = 0 := by
      rcases hres with ⟨_, h1⟩ | ⟨h1, _⟩
      · exact h1
      · exact absurd h1 HE0.out
    subst hvn
    have H2 : Hid (Below w.heap.size w w2) := hb2
    clear hb2 hres
    go_wp2_with fail
    refine (list_gen (e := E0) (Or.inl ⟨HE0.out, _, _, rfl⟩)).mono ?_
    rintro e w3 ⟨rfl, d3, hd3⟩
    have H3 : Hid (Below w.heap.size w w3) := by rw [hd3]; exact below_drewN2 H2.out d3
    clear hd3 H2
    go_wp2
    go_loopw [8, 14] (fun ve vi wr => ve = .int .i64 E0 ∧ vi = .int .i64 0 ∧ Hid (wr = w3)) (fun _ _ _ => 0)
    case atStart => exact ⟨rfl, rfl, rfl⟩
    case round =>
      obtain ⟨rfl, rfl, HJ⟩ := hrel
      rename World => wr
      have hwr : wr = w3 := HJ.out
      subst hwr
      by_cases hl0 : ln = 0
      · have hlb : ¬ (0 : Int) < (ln : Int) := by omega
        clear hl0
        go_wp2_with fail
        refine (HPd.out wr H3.out).mono ?_
        rintro e wp ⟨rfl, d, hd⟩
        have HBp : Hid (Below w.heap.size w wp) := by rw [hd]; exact below_drewN2 H3.out d
        clear hd
        go_wp2
        go_ret
        exact ⟨rfl, HBp.out⟩
      · have hlb : (0 : Int) < (ln : Int) := by omega
        clear hl0
        go_wp2_with fail
        refine (HPd.out wr H3.out).mono ?_
        rintro e wp ⟨rfl, d, hd⟩
        have HBp : Hid (Below w.heap.size w wp) := by rw [hd]; exact below_drewN2 H3.out d
        clear hd
        go_wp2
        go_ret
        exact ⟨rfl, HBp.out⟩

theorem digitsGray_walk (k : Int) {ao lo : Option Addr} {n ca ln lc : Nat} {z y : Nat → Int} {w : World} (hA : ArgL ao n ca z w) (hY : ArgL lo ln lc y w) (h1 : n ≤ 17592186044416) (h2 : ln ≤ 17592186044416) :
    Calls Try.prog 7 #[.slice ao n ca, .int .i64 k, .slice lo ln lc] w fun e w' => e = .returned (.bool true) ∧ Below w.heap.size w w' := by
  by_cases hlen : 100 < n + ln
  · exact digitsGray_long k w h1 h2 hlen
  · exact digitsGray_few k (hA.arg (by omega)) hY.sl (by omega)
end Go.Proofs.Ythkjaiihlphgfaa
