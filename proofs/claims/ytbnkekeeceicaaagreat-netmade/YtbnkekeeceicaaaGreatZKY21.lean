/- NetSays out of raw numbers (NetMade). -/
import Derived.Test.YtbnkekeeceicaaaGreatZKY19
import Derived.Test.YtbnkekeeceicaaaGreatZKG1
import Derived.Test.YtbnkekeeceicaaaGreatZL10
namespace Go.Proofs.YtbnkekeeceicaaaGreat
open Go.RowKit Go.Sort

theorem pick_nt (x : Int) (q : Nat) (hx : I64 x) (h1 : 1 ≤ q) (h2 : q ≤ 1000) : ∃ M : Nat, M < q ∧ ∀ w : World, Calls Tryz.prog 20 #[.int .i64 x, .int .i64 (q : Nat)] w fun e w' => e = .returned (.int .i64 (M : Nat)) ∧ w' = w := by
  have h3 := pick_lo x (q : Int) (by omega)
  have h4 := pick_hi x (q : Int) (by omega)
  exact ⟨(pick x (q : Int)).toNat, by omega, fun w => by rw [Int.toNat_of_nonneg h3]; exact pick_any x q w hx.1 hx.2 (by omega) (by omega)⟩
set_option maxHeartbeats 4000000 in
set_option maxRecDepth 100000 in
theorem netMade_long {ao : Option Addr} {n ca : Nat} (q nodes edges tx sk h : Int) (w : World) (hn : ¬ n ≤ 256) :
    Calls Tryz.prog 4 #[.slice ao n ca, .int .i64 q, .int .i64 nodes, .int .i64 edges, .int .i64 tx, .int .i64 sk, .int .i64 h] w fun e w' => e = .returned (.bool true) ∧ Below w.heap.size w w' := by
  have hnb : (256 : Int) < (n : Int) := by omega
  go_enter Tryz.func4, Tryz.ntmps4
  go_wp2
  go_ret
  exact ⟨rfl, Below.refl _ _⟩

set_option maxHeartbeats 16000000 in
set_option maxRecDepth 100000 in
theorem netMade_walk {ao : Option Addr} {n ca : Nat} {z : Nat → Int} (q nodes edges tx sk h : Int) {w : World} (ha : Arg ao n ca z w) (hn : n ≤ 256) (hq : I64 q) (hnd : I64 nodes) (heg : I64 edges) (htx : I64 tx) (hsk : I64 sk) (hh : I64 h) :
    Calls Tryz.prog 4 #[.slice ao n ca, .int .i64 q, .int .i64 nodes, .int .i64 edges, .int .i64 tx, .int .i64 sk, .int .i64 h] w fun e w' => e = .returned (.bool true) ∧ Below w.heap.size w w' := by
  obtain ⟨D, hD, hDq⟩ := sizeOf_field q
  obtain ⟨S0, hS0, hp1⟩ := pick_nt sk 4 hsk (by omega) (by omega)
  obtain ⟨H0, hH0, hp2⟩ := pick_nt h 4 hh (by omega) (by omega)
  obtain ⟨S1, hS1⟩ : ∃ S1, S1 = 1 + S0 := ⟨_, rfl⟩
  obtain ⟨H1, hH1⟩ : ∃ H1, H1 = 1 + H0 := ⟨_, rfl⟩
  have hwS : IntKind.i64.wrap (1 + (S0 : Int)) = (S1 : Int) := wrap_to (by omega) (by omega)
  have hwH : IntKind.i64.wrap (1 + (H0 : Int)) = (H1 : Int) := wrap_to (by omega) (by omega)
  have hSb : S1 ≤ 4 := by omega
  have HA : Hid (Arg ao n ca z w ∧ I64 tx) := ⟨ha, htx⟩
  have HP1 : Hid (∀ w : World, Calls Tryz.prog 20 #[.int .i64 sk, .int .i64 4] w fun e w' => e = .returned (.int .i64 (S0 : Nat)) ∧ w' = w) := hp1
  have HP2 : Hid (∀ w : World, Calls Tryz.prog 20 #[.int .i64 h, .int .i64 4] w fun e w' => e = .returned (.int .i64 (H0 : Nat)) ∧ w' = w) := hp2
  have HS : Hid (∀ w : World, Calls Tryz.prog 18 #[.int .i64 q] w fun e w' => e = .returned (.int .i64 D.q) ∧ Below w.heap.size w w') := fun w => by rw [← hDq]; exact sizeOf_any q w hq.1 hq.2
  have HNet : Hid (Calls Tryz.prog 17 #[.slice ao n ca, .int .i64 nodes, .int .i64 edges] w fun e w' => ∃ (k m ec : Nat) (eo : Option Addr) (F T : Nat → Int), e = .returned (.agg #[.int .i64 (k : Nat), .slice eo m ec]) ∧ EdZ eo m F T w' ∧ 2 ≤ k ∧ k ≤ 8 ∧ m ≤ 24 ∧ Below w.heap.size w w') := netOf_any nodes edges ha hn hnd heg
  have HPl : Hid (∀ k1 : Nat, 1 ≤ k1 → k1 ≤ 7 → ∀ wx, Below w.heap.size w wx → Calls Tryz.prog 19 #[.slice ao n ca, .int .i64 (k1 : Nat), .int .i64 (k1 : Nat)] wx fun e w' => ∃ g c, e = .returned (.slice (some ⟨g, 0, none⟩) k1 k1) ∧ wx.heap.size ≤ g ∧ Row g k1 c w' ∧ Perm' k1 c ∧ Below wx.heap.size wx w') := fun k1 h1 h7 wx hx => places_any (ha.below hx) (by omega) k1 k1 h1 (by omega) (Nat.le_refl _)
  have hnb : ¬ (256 : Int) < (n : Int) := by omega
  clear ha hD hDq hS0 hH0 hp1 hp2 hS1 hH1 hq hnd heg hh htx hsk
  go_enter Tryz.func4, Tryz.ntmps4
  go_wp2_with fail
  refine HNet.out.mono ?_
  rintro e w1 ⟨k, m, ec, eo, F, T, rfl, hE1, hk1, hk2, hm, hb1⟩
  obtain ⟨B, hB⟩ : ∃ B, B = w1.heap.size := ⟨_, rfl⟩
  obtain ⟨w2, hw2⟩ : ∃ w2, w2 = w1.alloc (.cells #[.int .i64 (k : Nat), .slice eo m ec] 24) := ⟨_, rfl⟩
  have hb12 : Below w1.heap.size w1 w2 := by rw [hw2]; exact (Below.refl _ _).alloc (Nat.le_refl _) _
  have G2 : Hid (EdZ eo m F T w2 ∧ NB B (k : Nat) (.slice eo m ec) w2 ∧ Below w.heap.size w w2) := ⟨hE1.below hb12, by rw [hw2, hB]; exact NB.new _ _ _, bel_up' hb1 hb12⟩
  clear hE1 hb1 hb12 HNet
  go_wp2_with fail
  rw [← hw2, ← hB]
  clear hw2 hB
  refine (HS.out w2).mono ?_
  rintro e w3 ⟨rfl, hb3⟩
  have G3 : Hid (EdZ eo m F T w3 ∧ NB B (k : Nat) (.slice eo m ec) w3 ∧ Below w.heap.size w w3) := ⟨G2.out.1.below hb3, G2.out.2.1.keep hb3, bel_up' G2.out.2.2 hb3⟩
  clear hb3 G2 HS
  obtain ⟨k1, hk1e⟩ : ∃ k1, k1 = k - 1 := ⟨_, rfl⟩
  have hwk : IntKind.i64.wrap ((k : Int) - 1) = (k1 : Int) := wrap_to (by omega) (by omega)
  have hkb : 1 ≤ k1 ∧ k1 ≤ 7 := by omega
  have HKk : Hid (k = k1 + 1) := by show _ = _; omega
  clear hk1e hk1 hk2
  obtain ⟨c0, c1⟩ := G3.out.2.1
  go_wp2_with fail
  clear c0 c1
  refine (HPl.out k1 hkb.1 hkb.2 w3 G3.out.2.2).mono ?_
  rintro e w4 ⟨g, c, rfl, hg, hR4, hPe, hb4⟩
  have G4 : Hid (EdZ eo m F T w4 ∧ NB B (k : Nat) (.slice eo m ec) w4 ∧ Below w.heap.size w w4 ∧ Row g k1 c w4 ∧ Perm' k1 c) := ⟨G3.out.1.below hb4, G3.out.2.1.keep hb4, bel_up' G3.out.2.2 hb4, hR4, hPe⟩
  clear hR4 hPe hb4 G3 HPl hg
  go_wp2
  go_loopw [17, 18] (fun v17 vi wr => ∃ i : Nat, i ≤ k1 ∧ i ≤ S1 ∧ vi = .int .i64 (i : Nat) ∧ Hid (OwnI w4.heap.size v17 (zl i fun j => ((c j : Nat) : Int) + 1) wr ∧ Below w4.heap.size w4 wr)) (fun _ vi _ => k1 - (RowKit.intOf vi).toNat)
  case atStart => exact ⟨0, by omega, by omega, rfl, OwnI.nil _ _, Below.refl _ _⟩
  case round =>
    obtain ⟨i, hi, his, rfl, HG⟩ := hrel
    rename World => wr
    by_cases hlt : i < k1
    · have hib : (i : Int) < (k1 : Int) := by omega
      have hib0 : (0 : Int) ≤ (i : Int) := by omega
      have hid : decide ((i : Int) < (k1 : Int)) = true := decide_eq_true hib
      go_wp2_with fail
      refine (HP1.out wr).mono ?_
      rintro e wn ⟨rfl, hwn⟩
      replace hwn := hwn.symm
      subst hwn
      by_cases hls : i < S1
      · have hsb : (i : Int) < (S1 : Int) := by omega
        have hsd : decide ((i : Int) < (S1 : Int)) = true := decide_eq_true hsb
        obtain ⟨x, hx⟩ : ∃ x, x = c i := ⟨_, rfl⟩
        have hcl : wr.cell? ⟨g, i, none⟩ = some (.int .i64 ((x : Nat) : Int)) := by
          rw [hx]; exact (G4.out.2.2.2.1.below HG.out.2 G4.out.2.2.2.1.lt).cell i hlt
        have hxb : x < k1 := by rw [hx]; exact G4.out.2.2.2.2.1 i hlt
        have hwx : IntKind.i64.wrap ((x : Int) + 1) = (x : Int) + 1 := by have h9 : IntKind.i64.wrap ((x : Int) + 1) = ((x + 1 : Nat) : Int) := wrap_to (by omega) (by omega); rw [h9]; omega
        have hsz := HG.out.2.size
        have HZ : Hid (zl (i + 1) (fun j => ((c j : Nat) : Int) + 1) = zl i (fun j => ((c j : Nat) : Int) + 1) ++ [(x : Int) + 1]) := by show _ = _; rw [zl_succ, hx]
        clear hx
        go_wp2_with (at_builtin; refine append_int rfl _ _ rfl w4.heap.size _ (zl i fun j => ((c j : Nat) : Int) + 1) rfl (HG.out.1.alloc _) ⟨_, 0, none⟩ 1 ((x : Int) + 1) rfl (by simp) (by rw [zl_len]; omega) (by simp; omega) ?_; intro v5 w5 hown5 hgrow5)
        have HR : Hid (OwnI w4.heap.size v5 (zl (i + 1) fun j => ((c j : Nat) : Int) + 1) w5 ∧ Below w4.heap.size w4 w5) := by
          have hal : Below wr.heap.size wr (wr.alloc (.cells #[.int .i64 ((x : Int) + 1)] 3)) := (Below.refl _ _).alloc (Nat.le_refl _) _
          refine ⟨by rw [HZ.out]; exact hown5, (bel_up' HG.out.2 hal).grown hgrow5 (by simp; omega) (fun q hq => (HG.out.1.lt q hq).1)⟩
        clear hown5 hgrow5 hcl
        go_roundw
        case rel => exact ⟨i + 1, by omega, by omega, by go_num, HR.out⟩
        case measure => simp [RowKit.intOf]; omega
      · have hsb : ¬ (i : Int) < (S1 : Int) := by omega
        have hsd : decide ((i : Int) < (S1 : Int)) = false := decide_eq_false hsb
        obtain ⟨so, sc, hv5, hAs⟩ := HG.out.1.argL
        subst hv5
        obtain ⟨t0, ht0, hp3⟩ := pick_nt tx k1 HA.out.2 hkb.1 (by omega)
        obtain ⟨t1, ht1⟩ : ∃ t1, t1 = 1 + t0 := ⟨_, rfl⟩
        have hwt : IntKind.i64.wrap (1 + (t0 : Int)) = (t1 : Int) := wrap_to (by omega) (by omega)
        have HP3 : Hid (∀ w : World, Calls Tryz.prog 20 #[.int .i64 tx, .int .i64 (k1 : Nat)] w fun e w' => e = .returned (.int .i64 (t0 : Nat)) ∧ w' = w) := hp3
        have HQ : Hid (∀ wx, Below wr.heap.size wr wx → Calls Tryz.prog 3 #[.int .i64 D.q, .agg #[.int .i64 (k : Nat), .slice eo m ec], .int .i64 (t1 : Nat), .slice so i sc, .int .i64 (H1 : Nat)] wx fun e w' => e = .returned (.bool true) ∧ Below wx.heap.size wx w') := fun wx hx => netSays_walk D.q (k : Nat) (t1 : Nat) (H1 : Nat) ((G4.out.1.below HG.out.2).below hx) (by omega) (hAs.below hx) (by omega)
        have HB : Hid (Below w.heap.size w wr) := bel_up' G4.out.2.2.1 HG.out.2
        have hnb5 := G4.out.2.1.keep HG.out.2
        obtain ⟨c0, c1⟩ := hnb5
        clear hAs hp3 ht1 ht0 HG G4
        go_wp2
        try go_upto_region 11 with fail
        refine quiet_tail 12 (by kernel_rfl) (by kernel_rfl) ?_
        simp only [List.take_succ_cons, List.take_zero, List.drop_succ_cons, List.drop_zero]
        repeat (go_big_quiet_step (first | (go_at_call_of 20 (Value.int .i64 tx); exact Calls.quiet_of_same (HP3.out _)) | (go_at_call_of 20 (Value.int .i64 h); exact Calls.quiet_of_same (HP2.out _))))
        refine wpQuiet_nil ?_
        intro _ hw'
        obtain ⟨nq, hw''⟩ := hw'
        subst hw''
        clear c0 c1
        go_wp2_with fail
        refine (HQ.out _ (below_drewN2 (Below.refl wr.heap.size wr) nq)).mono ?_
        rintro x w6 ⟨rfl, hb6⟩
        have H6 : Hid (Below w.heap.size w w6) := bel_up' (below_drewN2 HB.out nq) hb6
        clear hb6
        go_wp2
        go_ret
        exact ⟨rfl, H6.out⟩
    · have hib : ¬ (i : Int) < (k1 : Int) := by omega
      have hid : decide ((i : Int) < (k1 : Int)) = false := decide_eq_false hib
      obtain ⟨so, sc, hv5, hAs⟩ := HG.out.1.argL
      subst hv5
      obtain ⟨t0, ht0, hp3⟩ := pick_nt tx k1 HA.out.2 hkb.1 (by omega)
      obtain ⟨t1, ht1⟩ : ∃ t1, t1 = 1 + t0 := ⟨_, rfl⟩
      have hwt : IntKind.i64.wrap (1 + (t0 : Int)) = (t1 : Int) := wrap_to (by omega) (by omega)
      have HP3 : Hid (∀ w : World, Calls Tryz.prog 20 #[.int .i64 tx, .int .i64 (k1 : Nat)] w fun e w' => e = .returned (.int .i64 (t0 : Nat)) ∧ w' = w) := hp3
      have HQ : Hid (∀ wx, Below wr.heap.size wr wx → Calls Tryz.prog 3 #[.int .i64 D.q, .agg #[.int .i64 (k : Nat), .slice eo m ec], .int .i64 (t1 : Nat), .slice so i sc, .int .i64 (H1 : Nat)] wx fun e w' => e = .returned (.bool true) ∧ Below wx.heap.size wx w') := fun wx hx => netSays_walk D.q (k : Nat) (t1 : Nat) (H1 : Nat) ((G4.out.1.below HG.out.2).below hx) (by omega) (hAs.below hx) (by omega)
      have HB : Hid (Below w.heap.size w wr) := bel_up' G4.out.2.2.1 HG.out.2
      have hnb5 := G4.out.2.1.keep HG.out.2
      obtain ⟨c0, c1⟩ := hnb5
      clear hAs hp3 ht1 ht0 HG G4
      go_wp2
      try go_upto_region 11 with fail
      refine quiet_tail 12 (by kernel_rfl) (by kernel_rfl) ?_
      simp only [List.take_succ_cons, List.take_zero, List.drop_succ_cons, List.drop_zero]
      repeat (go_big_quiet_step (first | (go_at_call_of 20 (Value.int .i64 tx); exact Calls.quiet_of_same (HP3.out _)) | (go_at_call_of 20 (Value.int .i64 h); exact Calls.quiet_of_same (HP2.out _))))
      refine wpQuiet_nil ?_
      intro _ hw'
      obtain ⟨nq, hw''⟩ := hw'
      subst hw''
      clear c0 c1
      go_wp2_with fail
      refine (HQ.out _ (below_drewN2 (Below.refl wr.heap.size wr) nq)).mono ?_
      rintro x w6 ⟨rfl, hb6⟩
      have H6 : Hid (Below w.heap.size w w6) := bel_up' (below_drewN2 HB.out nq) hb6
      clear hb6
      go_wp2
      go_ret
      exact ⟨rfl, H6.out⟩
end Go.Proofs.YtbnkekeeceicaaaGreat
