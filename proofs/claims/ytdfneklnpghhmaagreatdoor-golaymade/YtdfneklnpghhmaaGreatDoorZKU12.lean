/- Texts of ours, one behind the other: KU12 KU13 KU14 KU15. -/
import Derived.Test.YtdfneklnpghhmaaGreatDoorZKU5
import Derived.Test.YtdfneklnpghhmaaGreatDoorZKL8
import Derived.Test.YtdfneklnpghhmaaGreatDoorZS31
/- Golay: the reference's Blocks. -/
namespace Go.Proofs.YtdfneklnpghhmaaGreatDoor
open Go.Shelf Go.RowKit Go.Lib Go.Sort

theorem pLs_next (p : Nat → Bool) (n : Nat) : pLs p (n + 1) = if p n = true then pLs p n ++ [n] else pLs p n := by
  unfold pLs
  rw [List.range_succ, List.filter_append]
  by_cases c : p n = true
  · rw [if_pos c, List.filter_cons_of_pos c]; rfl
  · rw [if_neg c, List.filter_cons_of_neg c]; simp
theorem pzl_push (P : List Nat) (x : Nat) : pzl (P ++ [x]) = pzl P ++ [(x : Int)] := by unfold pzl; rw [List.map_append]; rfl
theorem pzl_len (P : List Nat) : (pzl P).length = P.length := by unfold pzl; rw [List.length_map]

set_option maxHeartbeats 16000000 in
set_option maxRecDepth 100000 in
theorem rblocks_any {D : FD} (hD : D ∈ fieldsL) {ao : Option Addr} {m n n1 ca wt : Nat} {M : Nat → Nat → Nat} {w : World} (hm : m ≤ 1000) (hn : n ≤ 64) (hnn : n = n1 + 1) (hwt : wt ≤ 64) (hel : ∀ i, i < m → El D (M i) ∧ Bd (n1 + 1) (M i)) (hA : MatR ao m n1 M w) (hF : ∀ k R, Red D n m M k R → D.q ^ k ≤ 4096) :
    Calls Tryz.prog 7 #[.agg #[.int .i64 D.q, .int .i64 (n : Nat), .slice ao m ca], .int .i64 (wt : Nat)] w fun e w' => ∃ k R v B base, Red D n m M k R ∧ e = .returned v ∧ Inc B ∧ (∀ x, x ∈ B ↔ ∃ r, r < D.q ^ k ∧ wgr D R n k r = wt ∧ x = kyP (pLs (wnz D R k r) n)) ∧ B.length ≤ 4096 ∧ w.heap.size ≤ base ∧ KLm base v wt B w' ∧ Below w.heap.size w w' := by
  obtain ⟨w0, hw0⟩ : ∃ w0, w0 = w.alloc (.cells #[.int .i64 D.q, .int .i64 (n : Nat), .slice ao m ca] 24) := ⟨_, rfl⟩
  have hb0 : Below w.heap.size w w0 := by rw [hw0]; exact (Below.refl _ _).alloc (Nat.le_refl _) _
  have hcb0 : CB w.heap.size D.q n (.slice ao m ca) w0 := by rw [hw0]; exact CB.new _ _ _ _
  have HW : Hid (Below w.heap.size w w0 ∧ MatR ao m n1 M w0) := ⟨hb0, hA.below hb0⟩
  have HF : Hid (D ∈ fieldsL ∧ n = n1 + 1 ∧ (∀ i, i < m → El D (M i) ∧ Bd (n1 + 1) (M i)) ∧ ∀ k R, Red D n m M k R → D.q ^ k ≤ 4096) := ⟨hD, hnn, hel, hF⟩
  have h64 := (fld hD).q64
  have h2q := (fld hD).q2
  obtain ⟨q0, q1, q2⟩ := hcb0
  rw [hw0] at q0 q1 q2
  clear hD hA hb0 hel hF hnn
  go_enter Tryz.func7, Tryz.ntmps7
  go_wp2_with fail
  rw [← hw0]
  clear q0 q1 q2 hw0
  refine (made_any HF.out.1 hm hn HF.out.2.1 HF.out.2.2.1 HW.out.2).mono ?_
  rintro x w2 ⟨k, R, ro, rc, rfl, hll, hred, hb2⟩
  obtain ⟨N, hNe⟩ : ∃ N, N = D.q ^ k := ⟨_, rfl⟩
  have hN2 : N ≤ 4096 := by rw [hNe]; exact HF.out.2.2.2 k R hred
  have hk : k ≤ 64 := Nat.le_trans hred.le hn
  have H2 : Hid (Red D n m M k R ∧ N = D.q ^ k ∧ RL (.slice ro k rc) k n R w2 ∧ Below w.heap.size w w2) := ⟨hred, hNe, by rw [HF.out.2.1]; exact hll.rl, bel_up' HW.out.1 hb2⟩
  clear hll hred hb2 hNe
  go_wp2_with fail
  refine (rwords_any HF.out.1 HF.out.2.1 hn hk H2.out.2.1 hN2 H2.out.1.rows.1 H2.out.2.2.1).mono ?_
  rintro x w3 ⟨gl, cl, rfl, hwl, hb3⟩
  have H3 : Hid (WLb w2.heap.size gl N n (wdr D R k) w3 ∧ Below w.heap.size w w3) := ⟨hwl, bel_up' H2.out.2.2.2 hb3⟩
  clear hwl hb3
  go_wp2
  go_loopw [6, 7] (fun vo vi wr => ∃ (r : Nat), r ≤ N ∧ vi = .int .i64 r ∧ Hid (KLm w3.heap.size vo wt (rbk D R n k wt r) wr ∧ Below w3.heap.size w3 wr)) (fun _ vi _ => N - (intOf vi).toNat)
  case atStart => exact ⟨0, by omega, rfl, KLm.nil _ _ _, Below.refl _ _⟩
  case round =>
    obtain ⟨r, hr, rfl, HG⟩ := hrel
    rename World => wr
    by_cases hlt : r < N
    · have hib : (r : Int) < (N : Int) := by omega
      have hib0 : (0 : Int) ≤ (r : Int) := by omega
      obtain ⟨x, c, hcl, hxB, hc1, hc2, hrow⟩ := (H3.out.1.below HG.out.2).2 r hlt
      obtain ⟨t, ht⟩ : ∃ t, t = wgr D R n k r := ⟨_, rfl⟩
      have htn : t ≤ n := by rw [ht]; exact ct_most _ _
      have HWt : Hid (Calls Tryz.prog 22 #[.slice (some ⟨x, 0, none⟩) n c] wr fun e w' => e = .returned (.int .i64 (t : Nat)) ∧ Below wr.heap.size wr w') := by
        rw [ht]; exact rweight_any (a := fun i => ((wdr D R k r i : Nat) : Int)) (hrow.sl (Nat.le_refl _)).z (fun p hp => by cases hp; exact hrow.lt) (by omega)
      have HT : Hid (t = wgr D R n k r ∧ Row x n (wdr D R k r) wr) := ⟨ht, hrow⟩
      have hsz := HG.out.2.size
      clear ht hrow
      by_cases et : t = wt
      · have zt : ((t : Int) != (wt : Int)) = false := by rw [et]; simp
        go_wp2_with fail
        refine HWt.out.mono ?_
        rintro e w4 ⟨rfl, hb4⟩
        have hcl4 : w4.cell? ⟨gl, r, none⟩ = some (.slice (some ⟨x, 0, none⟩) n c) := (hb4.cell (p := ⟨gl, r, none⟩) (cell_lt hcl)).trans hcl
        have H4 : Hid (KLm w3.heap.size u6 wt (rbk D R n k wt r) w4 ∧ Below w3.heap.size w3 w4 ∧ Row x n (wdr D R k r) w4 ∧ w4.cell? ⟨gl, r, none⟩ = some (.slice (some ⟨x, 0, none⟩) n c)) := ⟨HG.out.1.below hb4, bel_up' HG.out.2 hb4, HT.out.2.below hb4 HT.out.2.lt, hcl4⟩
        have hsz4 := H4.out.2.1.size
        clear hb4 HWt hcl4 hcl
        go_wp2
        go_loopw [8, 9] (fun vl vj wx => ∃ (j : Nat), j ≤ n ∧ vj = .int .i64 j ∧ Hid (OwnI w4.heap.size vl (pzl (pLs (wnz D R k r) j)) wx ∧ Below w4.heap.size w4 wx)) (fun _ vj _ => n - (intOf vj).toNat)
        case atStart => exact ⟨0, by omega, rfl, OwnI.nil _ _, Below.refl _ _⟩
        case round =>
          obtain ⟨j, hj, rfl, HJ⟩ := hrel
          rename World => wx
          have hclx : wx.cell? ⟨gl, r, none⟩ = some (.slice (some ⟨x, 0, none⟩) n c) := (HJ.out.2.cell (p := ⟨gl, r, none⟩) (cell_lt H4.out.2.2.2)).trans H4.out.2.2.2
          have hszx := HJ.out.2.size
          by_cases hjn : j < n
          · have hjb : (j : Int) < (n : Int) := by omega
            have hjb0 : (0 : Int) ≤ (j : Int) := by omega
            have hcy := (H4.out.2.2.1.below HJ.out.2 H4.out.2.2.1.lt).cell j hjn
            obtain ⟨y, hy⟩ : ∃ y, y = wdr D R k r j := ⟨_, rfl⟩
            rw [← hy] at hcy
            have hpl : (pzl (pLs (wnz D R k r) j)).length ≤ 64 := by rw [pzl_len, pLs_len]; have := ct_most (wnz D R k r) j; omega
            by_cases ey : y = 0
            · have zy : ((y : Int) != 0) = false := by rw [ey]; rfl
              have HJ1 : Hid (OwnI w4.heap.size u8 (pzl (pLs (wnz D R k r) (j + 1))) wx ∧ Below w4.heap.size w4 wx) := by
                rw [pLs_next, if_neg (by show ¬ (!decide (((wdr D R k r j : Nat) : Int) = 0)) = true; rw [← hy, ey]; decide)]; exact HJ.out
              clear hy ey
              go_wp2
              go_roundw
              case rel => exact ⟨j + 1, by omega, by go_num, HJ1.out⟩
              case measure => simp [intOf]; omega
            · have zy : ((y : Int) != 0) = true := by rw [bne_iff_ne]; omega
              have HP1 : Hid (pzl (pLs (wnz D R k r) (j + 1)) = pzl (pLs (wnz D R k r) j) ++ [(j : Int)]) := by
                rw [pLs_next, if_pos (by show (!decide (((wdr D R k r j : Nat) : Int) = 0)) = true; rw [← hy, decide_eq_false (by omega)]; rfl), pzl_push]; exact rfl
              clear hy ey
              go_wp2_with (at_builtin; refine append_int rfl _ _ rfl w4.heap.size _ (pzl (pLs (wnz D R k r) j)) rfl (HJ.out.1.alloc _) ⟨_, 0, none⟩ 1 (j : Nat) rfl (by simp) (by omega) (by simp; omega) ?_; intro v5 w5 hown5 hgrow5)
              have HJ1 : Hid (OwnI w4.heap.size v5 (pzl (pLs (wnz D R k r) (j + 1))) w5 ∧ Below w4.heap.size w4 w5) := ⟨by rw [HP1.out]; exact hown5, (HJ.out.2.alloc hszx _).grown hgrow5 (by simp; omega) (fun q hq => (HJ.out.1.lt q hq).1)⟩
              clear hown5 hgrow5
              try go_wp2
              go_roundw
              case rel => exact ⟨j + 1, by omega, by go_num, HJ1.out⟩
              case measure => simp [intOf]; omega
          · have hjb : ¬ (j : Int) < (n : Int) := by omega
            have hje : n = j := by omega
            subst hje
            obtain ⟨lst, hov, hln, hels⟩ := H4.out.1.below HJ.out.2
            have hll : lst.length ≤ 1000000 := by rw [hln]; have := rbk_len D R n k wt r; omega
            have HV : Hid (OwnV w3.heap.size u6 lst wx ∧ lst.length = (rbk D R n k wt r).length ∧ (∀ (j : Nat) (u : Value) (d : Nat), lst[j]? = some u → (rbk D R n k wt r)[j]? = some d → WdL wt u d wx) ∧ WdL wt u8 (kyP (pLs (wnz D R k r) n)) wx ∧ Below w3.heap.size w3 wx) := ⟨hov, hln, hels, wdl_of HJ.out.1 (by rw [wnz_len, ← HT.out.1, et]) (fun z hz => by have := pLs_lt z hz; omega), bel_up' H4.out.2.1 HJ.out.2⟩
            have HNx : Hid (rbk D R n k wt (r + 1) = rbk D R n k wt r ++ [kyP (pLs (wnz D R k r) n)]) := by show (if _ then _ else _) = _; rw [if_pos (by rw [← HT.out.1, et])]
            clear hov hln hels
            obtain ⟨x8, c8, e8, _⟩ := wdl_words HV.out.2.2.2.1
            subst e8
            go_wp2_with (at_builtin; refine append_sl rfl _ _ rfl w3.heap.size u6 lst rfl (HV.out.1.below ((Below.refl _ _).alloc (Nat.le_refl _) _) (Nat.le_refl _)) ⟨wx.heap.size, 0, none⟩ 1 (.slice x8 wt c8) rfl rfl (by rw [cell_of_row _ _ _ _ _ (0, 0) (two_new _)]; rfl) hll (by simp; omega) ?_; intro v' w6 hown6 hg6)
            have hal : Below wx.heap.size wx (wx.alloc (.cells #[.slice x8 wt c8] 37)) := (Below.refl _ _).alloc (Nat.le_refl _) _
            have ho := HV.out.1.below hal (Nat.le_refl _)
            have H6 : Hid (KLm w3.heap.size v' wt (rbk D R n k wt (r + 1)) w6 ∧ Below w3.heap.size w3 w6) := by
              rw [HNx.out]
              have hp := klm_push ho HV.out.2.1 (fun j u d hu hd => (HV.out.2.2.1 j u d hu hd).below hal) (HV.out.2.2.2.1.below hal) hg6
              exact ⟨⟨_, hown6, hp.1, hp.2⟩, (bel_up' HV.out.2.2.2.2 hal).grown hg6 (by simp; omega) (fun q hq => ho.open_ge q hq)⟩
            clear hown6 hg6 hal ho
            try go_wp2
            go_roundw
            case rel => exact ⟨r + 1, by omega, by go_num, H6.out⟩
            case measure => simp [intOf]; omega
      · have zt : ((t : Int) != (wt : Int)) = true := by rw [bne_iff_ne]; omega
        go_wp2_with fail
        refine HWt.out.mono ?_
        rintro e w4 ⟨rfl, hb4⟩
        have H4 : Hid (KLm w3.heap.size u6 wt (rbk D R n k wt (r + 1)) w4 ∧ Below w3.heap.size w3 w4) := ⟨by show KLm _ _ _ (if _ then _ else _) _; rw [if_neg (by rw [← HT.out.1]; exact et)]; exact HG.out.1.below hb4, bel_up' HG.out.2 hb4⟩
        clear hb4 HWt
        go_wp2
        go_roundw
        case rel => exact ⟨r + 1, by omega, by go_num, H4.out⟩
        case measure => simp [intOf]; omega
    · have hib : ¬ (r : Int) < (N : Int) := by omega
      have hre : N = r := by omega
      subst hre
      have HSc : Hid (Calls Tryz.prog 23 #[u6] wr fun e w' => e = .returned (.tuple #[]) ∧ Below w3.heap.size w3 w' ∧ ∃ L, L.length = (rbk D R n k wt N).length ∧ KLm w3.heap.size u6 wt L w' ∧ (∀ i j, i < j → j < L.length → L.getD i 0 ≤ L.getD j 0) ∧ ∀ x, x ∈ L ↔ x ∈ rbk D R n k wt N) := rsort_klm hwt (by have := rbk_len D R n k wt N; omega) HG.out.1 HG.out.2 (Nat.le_refl _)
      have hK := rbk_len D R n k wt N
      obtain ⟨l, hl⟩ : ∃ l, l = (rbk D R n k wt N).length := ⟨_, rfl⟩
      rw [← hl] at hK
      rw [← hl] at HSc
      clear hl
      go_wp2_with fail
      refine HSc.out.mono ?_
      rintro e wH ⟨rfl, hbH, L, hM1, hM2, hM3, hM4⟩
      obtain ⟨so, sc, hv19⟩ := hM2.form
      rw [hM1] at hv19
      subst hv19
      have HH : Hid (Below w.heap.size w wH ∧ KLm w3.heap.size (.slice so l sc) wt L wH ∧ (∀ i j, i < j → j < L.length → L.getD i 0 ≤ L.getD j 0) ∧ (∀ x, x ∈ L ↔ x ∈ rbk D R n k wt N) ∧ L.length = l) := ⟨bel_up' H3.out.2 hbH, hM2, hM3, hM4, hM1⟩
      clear hbH hM1 hM2 hM3 hM4 HSc
      go_wp2
      go_loopw [10, 11] (fun vb vi wx => ∃ (i : Nat), i ≤ l ∧ vi = .int .i64 (i : Nat) ∧ Hid (KLm wH.heap.size vb wt (ddp L i) wx ∧ Below wH.heap.size wH wx)) (fun _ vi _ => l - (intOf vi).toNat)
      case atStart => exact ⟨0, by omega, rfl, KLm.nil _ _ _, Below.refl _ _⟩
      case round =>
        obtain ⟨i, hi, rfl, HI⟩ := hrel
        rename World => wI
        by_cases hlt : i < l
        · have hib : (i : Int) < (l : Int) := by omega
          have hib0 : (0 : Int) ≤ (i : Int) := by omega
          obtain ⟨g, x, cx, hso, hcx, hwx⟩ := (HH.out.2.1.below HI.out.2).item (j := i) (by rw [HH.out.2.2.2.2]; exact hlt)
          subst hso
          obtain ⟨lst, hov, hln, hels⟩ := HI.out.1
          have hll : lst.length ≤ 1000000 := by rw [hln]; have := ddp_len L i; omega
          have HV : Hid (OwnV wH.heap.size u10 lst wI ∧ lst.length = (ddp L i).length ∧ (∀ (j : Nat) (u : Value) (k : Nat), lst[j]? = some u → (ddp L i)[j]? = some k → WdL wt u k wI) ∧ WdL wt (.slice x wt cx) (L.getD i 0) wI) := ⟨hov, hln, hels, hwx⟩
          have hszI := HI.out.2.size
          clear hov hln hels
          by_cases h0 : i = 0
          · have zi : ((i : Int) == 0) = true := by rw [h0]; rfl
            have HNx : Hid (ddp L (i + 1) = ddp L i ++ [L.getD i 0]) := by show ddp L i ++ _ = _; rw [if_pos (Or.inl h0)]
            clear h0 hwx
            have HD : Hid (∀ d, OwnV wH.heap.size u10 lst (wI.drewN d) ∧ (∀ (j : Nat) (u : Value) (k : Nat), lst[j]? = some u → (ddp L i)[j]? = some k → WdL wt u k (wI.drewN d)) ∧ WdL wt (.slice x wt cx) (L.getD i 0) (wI.drewN d) ∧ Below wH.heap.size wH (wI.drewN d)) := fun d => ⟨HV.out.1.below (below_drewN2 (Below.refl _ _) d) (Nat.le_refl _), fun j u k hu hk => (HV.out.2.2.1 j u k hu hk).below (below_drewN2 (Below.refl _ _) d), HV.out.2.2.2.below (below_drewN2 (Below.refl _ _) d), below_drewN2 HI.out.2 d⟩
            go_wp2
            go_big_quiet (fail)
            generalize hwq : World.drewN wI _ = wQ
            have HQ : Hid (OwnV wH.heap.size u10 lst wQ ∧ (∀ (j : Nat) (u : Value) (k : Nat), lst[j]? = some u → (ddp L i)[j]? = some k → WdL wt u k wQ) ∧ WdL wt (.slice x wt cx) (L.getD i 0) wQ ∧ Below wH.heap.size wH wQ) := by rw [← hwq]; exact HD.out _
            have hcq : wQ.cell? ⟨g, i, none⟩ = some (.slice x wt cx) := by rw [← hwq]; exact hcx
            have hszq := HQ.out.2.2.2.size
            clear hwq hcx
            go_wp2_with (at_builtin; refine append_sl rfl _ _ rfl wH.heap.size u10 lst rfl (HQ.out.1.below ((Below.refl _ _).alloc (Nat.le_refl _) _) (Nat.le_refl _)) ⟨wQ.heap.size, 0, none⟩ 1 (.slice x wt cx) rfl rfl (by rw [cell_of_row _ _ _ _ _ (0, 0) (two_new _)]; rfl) hll (by simp; omega) ?_; intro v' w6 hown6 hg6)
            have hal : Below wQ.heap.size wQ (wQ.alloc (.cells #[.slice x wt cx] 37)) := (Below.refl _ _).alloc (Nat.le_refl _) _
            have ho := HQ.out.1.below hal (Nat.le_refl _)
            have H6 : Hid (KLm wH.heap.size v' wt (ddp L (i + 1)) w6 ∧ Below wH.heap.size wH w6) := by
              rw [HNx.out]
              have hp := klm_push ho HV.out.2.1 (fun j u k hu hk => (HQ.out.2.1 j u k hu hk).below hal) (HQ.out.2.2.1.below hal) hg6
              exact ⟨⟨_, hown6, hp.1, hp.2⟩, (bel_up' HQ.out.2.2.2 hal).grown hg6 (by simp; omega) (fun q hq => ho.open_ge q hq)⟩
            clear hown6 hg6 hal ho
            try go_wp2
            go_roundw
            case rel => exact ⟨i + 1, by omega, by go_num, H6.out⟩
            case measure => simp [intOf]; omega
          · have zi : ((i : Int) == 0) = false := beq_eq_false_iff_ne.2 (by omega)
            obtain ⟨i1, hi1⟩ : ∃ i1, i1 = i - 1 := ⟨_, rfl⟩
            have wi1 : IntKind.i64.wrap ((i : Int) - 1) = (i1 : Int) := wrap_to (by omega) (by omega)
            have hi1b : (i1 : Int) < (l : Int) := by omega
            have hi10 : (0 : Int) ≤ (i1 : Int) := by omega
            obtain ⟨g', x', cx', hso', hcx', hwx'⟩ := (HH.out.2.1.below HI.out.2).item (j := i1) (by rw [HH.out.2.2.2.2]; omega)
            cases hso'
            obtain ⟨t, ht⟩ : ∃ t, t = decide (L.getD i 0 = L.getD i1 0) := ⟨_, rfl⟩
            have HSq : Hid (∀ d, Calls Tryz.prog 24 #[.slice x wt cx, .slice x' wt cx'] (wI.drewN d) fun e w' => e = .returned (.bool t) ∧ ∃ n, w' = (wI.drewN d).drewN n) := fun d => by
              rw [ht]
              exact wdl_same (by omega) (hwx.below (below_drewN2 (Below.refl _ _) d)) (hwx'.below (below_drewN2 (Below.refl _ _) d))
            have HD : Hid (∀ d, OwnV wH.heap.size u10 lst (wI.drewN d) ∧ (∀ (j : Nat) (u : Value) (k : Nat), lst[j]? = some u → (ddp L i)[j]? = some k → WdL wt u k (wI.drewN d)) ∧ WdL wt (.slice x wt cx) (L.getD i 0) (wI.drewN d) ∧ Below wH.heap.size wH (wI.drewN d)) := fun d => ⟨HV.out.1.below (below_drewN2 (Below.refl _ _) d) (Nat.le_refl _), fun j u k hu hk => (HV.out.2.2.1 j u k hu hk).below (below_drewN2 (Below.refl _ _) d), HV.out.2.2.2.below (below_drewN2 (Below.refl _ _) d), below_drewN2 HI.out.2 d⟩
            cases t with
            | true =>
              have HNx : Hid (ddp L (i + 1) = ddp L i) := by
                show ddp L i ++ _ = _
                rw [if_neg (by rintro (e | e); exact h0 e; exact e (by rw [← hi1]; exact of_decide_eq_true ht.symm)), List.append_nil]
              have HR : Hid (∀ d, KLm wH.heap.size u10 wt (ddp L (i + 1)) (wI.drewN d) ∧ Below wH.heap.size wH (wI.drewN d)) := fun d => ⟨by rw [HNx.out]; exact HI.out.1.below (below_drewN2 (Below.refl _ _) d), below_drewN2 HI.out.2 d⟩
              clear h0 hwx hwx' ht hi1
              go_wp2
              go_big_quiet (first | (go_at_call 24; exact Calls.quiet_of (HSq.out _)))
              go_wp2
              go_roundw
              case rel => exact ⟨i + 1, by omega, by go_num, HR.out _⟩
              case measure => simp [intOf]; omega
            | false =>
              have HNx : Hid (ddp L (i + 1) = ddp L i ++ [L.getD i 0]) := by
                show ddp L i ++ _ = _
                rw [if_pos (Or.inr (by rw [← hi1]; exact of_decide_eq_false ht.symm))]
              clear h0 hwx hwx' ht hi1
              go_wp2
              go_big_quiet (first | (go_at_call 24; exact Calls.quiet_of (HSq.out _)))
              generalize hwq : World.drewN wI _ = wQ
              have HQ : Hid (OwnV wH.heap.size u10 lst wQ ∧ (∀ (j : Nat) (u : Value) (k : Nat), lst[j]? = some u → (ddp L i)[j]? = some k → WdL wt u k wQ) ∧ WdL wt (.slice x wt cx) (L.getD i 0) wQ ∧ Below wH.heap.size wH wQ) := by rw [← hwq]; exact HD.out _
              have hcq : wQ.cell? ⟨g, i, none⟩ = some (.slice x wt cx) := by rw [← hwq]; exact hcx
              have hszq := HQ.out.2.2.2.size
              clear hwq hcx
              go_wp2_with (at_builtin; refine append_sl rfl _ _ rfl wH.heap.size u10 lst rfl (HQ.out.1.below ((Below.refl _ _).alloc (Nat.le_refl _) _) (Nat.le_refl _)) ⟨wQ.heap.size, 0, none⟩ 1 (.slice x wt cx) rfl rfl (by rw [cell_of_row _ _ _ _ _ (0, 0) (two_new _)]; rfl) hll (by simp; omega) ?_; intro v' w6 hown6 hg6)
              have hal : Below wQ.heap.size wQ (wQ.alloc (.cells #[.slice x wt cx] 37)) := (Below.refl _ _).alloc (Nat.le_refl _) _
              have ho := HQ.out.1.below hal (Nat.le_refl _)
              have H6 : Hid (KLm wH.heap.size v' wt (ddp L (i + 1)) w6 ∧ Below wH.heap.size wH w6) := by
                rw [HNx.out]
                have hp := klm_push ho HV.out.2.1 (fun j u k hu hk => (HQ.out.2.1 j u k hu hk).below hal) (HQ.out.2.2.1.below hal) hg6
                exact ⟨⟨_, hown6, hp.1, hp.2⟩, (bel_up' HQ.out.2.2.2 hal).grown hg6 (by simp; omega) (fun q hq => ho.open_ge q hq)⟩
              clear hown6 hg6 hal ho
              try go_wp2
              go_roundw
              case rel => exact ⟨i + 1, by omega, by go_num, H6.out⟩
              case measure => simp [intOf]; omega
        · have hib : ¬ (i : Int) < (l : Int) := by omega
          have hil : i = L.length := by rw [HH.out.2.2.2.2]; omega
          have HR : Hid (∃ k R v B base, Red D n m M k R ∧ u10 = v ∧ Inc B ∧ (∀ x, x ∈ B ↔ ∃ r, r < D.q ^ k ∧ wgr D R n k r = wt ∧ x = kyP (pLs (wnz D R k r) n)) ∧ B.length ≤ 4096 ∧ w.heap.size ≤ base ∧ KLm base v wt B wI ∧ Below w.heap.size w wI) := by
            refine ⟨k, R, u10, ddp L i, wH.heap.size, H2.out.1, rfl, ddp_inc HH.out.2.2.1 i (by omega), fun x => ?_, by have := ddp_len L i; omega, HH.out.1.size, HI.out.1, bel_up' HH.out.1 HI.out.2⟩
            rw [ddp_mem, hil, getD_ex, HH.out.2.2.2.1, rbk_mem, H2.out.2.1]
          clear hil
          go_wp2
          go_ret
          obtain ⟨k, R, v, B, base, a1, a2, a3⟩ := HR.out
          subst a2
          first | exact ⟨k, R, a1, _, B, base, rfl, a3⟩ | exact ⟨k, R, a1, _, rfl, B, a3.1, a3.2.1, a3.2.2.1, base, a3.2.2.2⟩
end Go.Proofs.YtdfneklnpghhmaaGreatDoor

/- Golay: the sets of words of a weight, and the keys of their lists. -/
namespace Go.Proofs.YtdfneklnpghhmaaGreatDoor
open Go.RowKit Go.Sort

/-- A word's set. -/
def wst (D : FD) (R : Nat → Nat → Nat) (n k r : Nat) : Nat := nzs (wnz D R k r) n
/-- The sets of the first words that have a weight, as they come up. -/
def gsl (D : FD) (R : Nat → Nat → Nat) (n k wt : Nat) : Nat → List Nat
  | 0 => []
  | r + 1 => if wgr D R n k r = wt then addL (gsl D R n k wt r) (wst D R n k r) else gsl D R n k wt r
/-- How often each of them has come up. -/
def gsc (D : FD) (R : Nat → Nat → Nat) (n k wt : Nat) : Nat → Nat → Nat
  | 0 => fun _ => 0
  | r + 1 => if wgr D R n k r = wt then fun j => if j = wst D R n k r then gsc D R n k wt r (wst D R n k r) + 1 else gsc D R n k wt r j else gsc D R n k wt r
theorem gsc_le (D : FD) (R : Nat → Nat → Nat) (n k wt : Nat) : ∀ r j, gsc D R n k wt r j ≤ r
  | 0, j => Nat.le_refl 0
  | r + 1, j => by
    show (if wgr D R n k r = wt then fun j => if j = wst D R n k r then gsc D R n k wt r (wst D R n k r) + 1 else gsc D R n k wt r j else gsc D R n k wt r) j ≤ r + 1
    have h1 := gsc_le D R n k wt r j
    have h2 := gsc_le D R n k wt r (wst D R n k r)
    by_cases c : wgr D R n k r = wt
    · rw [if_pos c]
      show (if j = wst D R n k r then gsc D R n k wt r (wst D R n k r) + 1 else gsc D R n k wt r j) ≤ r + 1
      by_cases e : j = wst D R n k r
      · rw [if_pos e]; omega
      · rw [if_neg e]; omega
    · rw [if_neg c]; omega
theorem gsl_mem (D : FD) (R : Nat → Nat → Nat) (n k wt x : Nat) : ∀ N, x ∈ gsl D R n k wt N ↔ ∃ r, r < N ∧ wgr D R n k r = wt ∧ x = wst D R n k r
  | 0 => ⟨fun h => (by cases h), fun ⟨r, h, _⟩ => absurd h (by omega)⟩
  | N + 1 => by
    show x ∈ (if wgr D R n k N = wt then addL (gsl D R n k wt N) (wst D R n k N) else gsl D R n k wt N) ↔ _
    by_cases c : wgr D R n k N = wt
    · rw [if_pos c, addL_mem, gsl_mem D R n k wt x N]
      constructor
      · rintro (⟨r, h, a⟩ | a)
        · exact ⟨r, by omega, a⟩
        · exact ⟨N, by omega, c, a⟩
      · rintro ⟨r, h, a, b⟩
        by_cases e : r = N
        · rw [e] at b; exact Or.inr b
        · exact Or.inl ⟨r, by omega, a, b⟩
    · rw [if_neg c, gsl_mem D R n k wt x N]
      constructor
      · rintro ⟨r, h, a⟩; exact ⟨r, by omega, a⟩
      · rintro ⟨r, h, a, b⟩
        by_cases e : r = N
        · rw [e] at a; exact absurd a c
        · exact ⟨r, by omega, a, b⟩
theorem gsl_len (D : FD) (R : Nat → Nat → Nat) (n k wt : Nat) : ∀ r, (gsl D R n k wt r).length ≤ r
  | 0 => Nat.le_refl _
  | r + 1 => by
    show (if wgr D R n k r = wt then addL (gsl D R n k wt r) (wst D R n k r) else gsl D R n k wt r).length ≤ r + 1
    have := gsl_len D R n k wt r
    split
    · unfold addL
      split
      · omega
      · rw [List.length_append, List.length_singleton]; omega
    · omega
theorem wst_lt (D : FD) (R : Nat → Nat → Nat) {n : Nat} (k r : Nat) (hn : n ≤ 64) : wst D R n k r < 18446744073709551616 := Nat.lt_of_lt_of_le (nzs_lt _ n) (Nat.pow_le_pow_right (n := 2) (by omega) hn)
theorem wst_places (D : FD) (R : Nat → Nat → Nat) {n : Nat} (k r : Nat) (hn : n ≤ 64) : plN (wst D R n k r) = pLs (wnz D R k r) n := plN_nzs hn
theorem kyP_inj {P Q : List Nat} (hl : P.length = Q.length) (hP : ∀ x ∈ P, x < 64) (hQ : ∀ x ∈ Q, x < 64) (h : kyP P = kyP Q) : P = Q := by
  have lt : ∀ {P : List Nat}, (∀ x ∈ P, x < 64) → ∀ i, i < P.length → P.getD i 0 < 64 := fun {P} hP i hi => by
    rw [List.getD_eq_getElem?_getD, List.getElem?_eq_getElem hi]; exact hP _ (List.getElem_mem _)
  unfold kyP at h
  rw [← hl] at h
  have h2 := dnum_inj P.length (lt hP) (fun i hi => lt hQ i (by omega)) h
  apply List.ext_getElem hl
  intro i h1 h3
  have := h2 i h1
  rw [List.getD_eq_getElem?_getD, List.getElem?_eq_getElem h1, List.getD_eq_getElem?_getD, List.getElem?_eq_getElem h3] at this
  exact this
/-- In order, each once. -/
theorem inc_of {N : List Nat} (hs : List.Pairwise (fun a b => a ≤ b) N) (hn : N.Nodup) : Inc N := by
  have h := hs.and hn
  exact h.imp fun {a b} ⟨h1, h2⟩ => Nat.lt_of_le_of_ne h1 h2
end Go.Proofs.YtdfneklnpghhmaaGreatDoor

/- Golay: slices.SortFunc of lists of places, also of none. -/
namespace Go.Proofs.YtdfneklnpghhmaaGreatDoor
open Go.Shelf Go.RowKit Go.Lib Go.Sort

/-- slices.SortFunc of lists of m numbers: in order. -/
theorem ssort_klm {m base : Nat} {L : List Nat} (hm : m ≤ 64) (hL : L.length ≤ 5000) {v : Value} {w0 w : World} (hv : KLm base v m L w) (hb : Below w0.heap.size w0 w) (hbase : w0.heap.size ≤ base) :
    Calls Tryz.prog 31 #[v, .func (.func 32) #[] #[]] w fun e w' => e = .returned (.tuple #[]) ∧ Below w0.heap.size w0 w' ∧ ∃ N, N.length = L.length ∧ KLm base v m N w' ∧ List.Pairwise (fun a b => a ≤ b) N ∧ N.Perm L := by
  by_cases h0 : L.length = 0
  · have e0 := List.length_eq_zero_iff.1 h0
    subst e0
    obtain ⟨vo, vc, rfl⟩ := hv.form
    refine Calls.mono (AnyF.slices_SortFunc_none { sortL with } vo vc _ w) ?_
    rintro e w' ⟨rfl, rfl⟩
    exact ⟨rfl, hb, [], rfl, hv, List.Pairwise.nil, List.Perm.refl _⟩
  · obtain ⟨G, cap, vs, rfl, ho, hw⟩ := hv.rows (by omega)
    refine (ssortL_any hm (by omega) hL ho hw).mono ?_
    rintro e w' ⟨rfl, hs⟩
    obtain ⟨_, _, _, hbG, _⟩ := ho.bounds
    have hof : OfG G w w' := by obtain ⟨_, _, _, _, _, _, h⟩ := hs; exact h
    obtain ⟨N, hN1, hN2, hN3, hN4⟩ := hs.kls
    rw [getD_range] at hN2
    exact ⟨rfl, hof.bel _ _ hb (by omega), N, hN1, hN4, hN3, hN2⟩
end Go.Proofs.YtdfneklnpghhmaaGreatDoor

/- Golay: a range over the map of sets: what has come up, what is left. -/
namespace Go.Proofs.YtdfneklnpghhmaaGreatDoor
open Go.RowKit Go.Maps

/-- What is left of a range over a map of sets, where V have come up. -/
structure Lf (L V : List Nat) (left : Lit → Bool) : Prop where
  vis : ∀ x : Int, left (.int .u64 x) = true ↔ ∃ k ∈ L, x = ((k : Nat) : Int) ∧ k ∉ V
  sub : ∀ k ∈ V, k ∈ L
  nd : V.Nodup
theorem Lf.start {D : DataW Value} {L : List Nat} {c : Nat → Nat} (h : UgD D L c) : Lf L [] (Maps.has D) := ⟨fun x => by
  rw [h.has x]
  exact ⟨fun ⟨k, a, b⟩ => ⟨k, a, b, by simp⟩, fun ⟨k, a, b, _⟩ => ⟨k, a, b⟩⟩, fun k hk => (by cases hk), List.nodup_nil⟩
theorem u64_same (x y : Int) : (Lit.int .u64 x).sameKey (.int .u64 y) = true ↔ x = y := by
  first
    | simp [Lit.sameKey]
    | (unfold Lit.sameKey; simp)
theorem Lf.step {L V : List Nat} {left : Lit → Bool} (h : Lf L V left) {x : Int} (hx : left (.int .u64 x) = true) : ∃ k ∈ L, k ∉ V ∧ x = ((k : Nat) : Int) ∧ Lf L (V ++ [k]) (fun z => left z && !z.sameKey (.int .u64 x)) := by
  obtain ⟨k, hk, e, hV⟩ := (h.vis x).1 hx
  refine ⟨k, hk, hV, e, fun y => ?_, fun j hj => ?_, ?_⟩
  · show (left (.int .u64 y) && !(Lit.int .u64 y).sameKey (.int .u64 x)) = true ↔ _
    rw [Bool.and_eq_true, h.vis y, Bool.not_eq_true', ← Bool.not_eq_true, u64_same]
    constructor
    · rintro ⟨⟨j, a, b, c⟩, d⟩
      refine ⟨j, a, b, fun hj => ?_⟩
      rcases List.mem_append.1 hj with q | q
      · exact c q
      · rw [List.mem_singleton.1 q] at b
        exact d (by rw [b, e])
    · rintro ⟨j, a, b, c⟩
      refine ⟨⟨j, a, b, fun q => c (List.mem_append.2 (Or.inl q))⟩, fun q => c (List.mem_append.2 (Or.inr (List.mem_singleton.2 ?_)))⟩
      omega
  · rcases List.mem_append.1 hj with q | q
    · exact h.sub j q
    · rw [List.mem_singleton.1 q]; exact hk
  · rw [List.nodup_append]
    refine ⟨h.nd, by simp, fun a ha b hb q => hV ?_⟩
    rw [List.mem_singleton.1 hb] at q
    rw [← q]; exact ha
theorem Lf.done {L V : List Nat} {left : Lit → Bool} (h : Lf L V left) (h0 : ∀ z, left z = false) (hL : L.Nodup) : V.Perm L := by
  refine (List.perm_ext_iff_of_nodup h.nd hL).2 fun k => ⟨h.sub k, fun hk => ?_⟩
  by_cases c : k ∈ V
  · exact c
  · have := (h.vis ((k : Nat) : Int)).2 ⟨k, hk, rfl, c⟩
    rw [h0] at this
    cases this
theorem nd_lenL : ∀ {V L : List Nat}, V.Nodup → (∀ k ∈ V, k ∈ L) → V.length ≤ L.length
  | [], L, _, _ => Nat.zero_le _
  | a :: V, L, hn, hs => by
    obtain ⟨h1, h2⟩ := List.nodup_cons.1 hn
    have ha : a ∈ L := hs a (List.mem_cons_self ..)
    have h3 := nd_lenL (V := V) (L := L.erase a) h2 fun k hk => (List.mem_erase_of_ne (fun e => h1 (by rw [← e]; exact hk))).2 (hs k (List.mem_cons_of_mem _ hk))
    rw [List.length_erase_of_mem ha] at h3
    have h4 := List.length_pos_of_mem ha
    rw [List.length_cons]
    omega
theorem Lf.len {L V : List Nat} {left : Lit → Bool} (h : Lf L V left) : V.length ≤ L.length := nd_lenL h.nd h.sub
end Go.Proofs.YtdfneklnpghhmaaGreatDoor
