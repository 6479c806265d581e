/- Words with one number more (the reference's Extended). -/
import Derived.Test.YtjkncdmbcckcdaaZI16
namespace Go.Proofs.Ytjkncdmbcckcdaa
open Go.RowKit Go.Sort

set_option maxHeartbeats 16000000 in
set_option maxRecDepth 100000 in
theorem rext_any {D : FD} (hD : D ∈ fieldsL) {ao : Option Addr} {m n n1 ca : Nat} {M : Nat → Nat → Nat} {w : World} (hm : m ≤ 900) (hn : n ≤ 63) (hnn : n = n1 + 1) (hel : ∀ i, i < m → El D (M i) ∧ Bd n (M i)) (hA : MatR ao m n1 M w) :
    Calls Try.prog 71 #[.agg #[.int .i64 D.q, .int .i64 (n : Nat), .slice ao m ca]] w fun e w' => ∃ k R ro rc, e = .returned (.agg #[.int .i64 D.q, .int .i64 (n + 1 : Nat), .slice ro k rc]) ∧ LLs w.heap.size (.slice ro k rc) (rl k n R) w' ∧ Red D (n + 1) m (fun i => xtd D n (M i)) k R ∧ Below w.heap.size w w' := by
  obtain ⟨w0, hw0⟩ : ∃ w0, w0 = (w.alloc (.cells #[.int .i64 D.q, .int .i64 (n : Nat), .slice ao m ca] 49)).alloc (.cells #[.int .i64 0, .int .i64 0, .slice none 0 0] 49) := ⟨_, rfl⟩
  have HW : Hid (Below w.heap.size w w0 ∧ CB w.heap.size D.q n (.slice ao m ca) w0 ∧ RB (w.heap.size + 1) w0 ∧ RBt (w.heap.size + 1) w0 ∧ w0.heap.size = w.heap.size + 2) := by
    obtain ⟨h1, h2, h3, h4⟩ := two_boxes D.q n 0 0 (.slice ao m ca) (.slice none 0 0) w
    have h6 := RBt.new #[.int .i64 0, .int .i64 0, .slice none 0 0] (w.alloc (.cells #[.int .i64 D.q, .int .i64 (n : Nat), .slice ao m ca] 49))
    rw [show (w.alloc (.cells #[.int .i64 D.q, .int .i64 (n : Nat), .slice ao m ca] 49)).heap.size = w.heap.size + 1 by simp] at h6
    rw [hw0]; exact ⟨h1, h2, RB.of h3 h6, h6, h4⟩
  obtain ⟨va, hva1, hva2⟩ := hA.vals
  have HA : Hid (D ∈ fieldsL ∧ (∀ i, i < m → El D (M i) ∧ Bd n (M i)) ∧ SlV ao m va w ∧ (∀ i, i < m → Rwv (va i) n1 (M i) w) ∧ n = n1 + 1) := ⟨hD, hel, hva1, fun i hi => (hva2 i hi).1, hnn⟩
  obtain ⟨N1, hN1⟩ : ∃ N1, N1 = n + 1 := ⟨_, rfl⟩
  rw [← hN1]
  have HSub : Hid (((n : Nat) : Int) + 1 = ((N1 : Nat) : Int) ∧ N1 = n + 1) := ⟨by omega, hN1⟩
  clear hD hel hA hnn hN1 hva1 hva2
  obtain ⟨p0, p1, p2⟩ : CB w.heap.size D.q n (.slice ao m ca) w0 := HW.out.2.1
  have p0' := p0
  rw [hw0] at p0'
  go_enter Try.func71, Try.ntmps71
  go_wp2_with fail
  rw [← hw0]
  clear hw0 p0 p1 p2 p0'
  refine (rfield_sl HA.out.1 w0).mono ?_
  rintro e w1 ⟨gm, cm, rfl, hmod, hb1⟩
  unfold rf
  obtain ⟨wb, hwb⟩ : ∃ wb, wb = w1.alloc (.cells #[.int .i64 D.q, .int .i64 D.p, .int .i64 D.m, .int .i64 D.gen, .slice (some ⟨gm, 0, none⟩) (D.m + 1) cm] 27) := ⟨_, rfl⟩
  have hbb : Below w1.heap.size w1 wb := by rw [hwb]; exact (Below.refl _ _).alloc (Nat.le_refl _) _
  have H1 : Hid (Below w.heap.size w wb ∧ CB w.heap.size D.q n (.slice ao m ca) wb ∧ RB (w.heap.size + 1) wb ∧ RBt (w.heap.size + 1) wb ∧ ModAt D (.slice (some ⟨gm, 0, none⟩) (D.m + 1) cm) D.md wb ∧ Box w1.heap.size D D.gen (.slice (some ⟨gm, 0, none⟩) (D.m + 1) cm) wb ∧ w1.heap.size < wb.heap.size) := by
    have hb2 := bel_up' hb1 hbb
    exact ⟨bel_up' HW.out.1 hb2, HW.out.2.1.keep hb2, HW.out.2.2.1.keep hb2, HW.out.2.2.2.1.keep hb2, hmod.below hbb, by rw [hwb]; exact box_new D D.gen _ w1, by rw [hwb]; simp⟩
  clear hmod hb1 hbb HW
  go_wp2
  rw [← hwb]
  clear hwb
  go_loopw [5, 6] (fun vl vi wr => ∃ i : Nat, i ≤ m ∧ vi = .int .i64 i ∧ Hid (LLs wb.heap.size vl (rl i n fun i => xtd D n (M i)) wr ∧ Below wb.heap.size wb wr)) (fun _ vi _ => m - (intOf vi).toNat)
  case atStart => exact ⟨0, by omega, rfl, LLs.nil _ _, Below.refl _ _⟩
  case round =>
    obtain ⟨i, hi, rfl, HG⟩ := hrel
    rename World => wA
    obtain ⟨p0, p1, p2⟩ := H1.out.2.1.keep HG.out.2
    by_cases hlt : i < m
    · have hib : (i : Int) < (m : Int) := by omega
      have hib0 : (0 : Int) ≤ (i : Int) := by omega
      have HBW : Hid (Below w.heap.size w wA) := bel_up' H1.out.1 HG.out.2
      obtain ⟨u, hu0⟩ : ∃ u, u = va i := ⟨_, rfl⟩
      obtain ⟨xr, cx, hu, hsx, hlx, hnx, hle, hcap⟩ := (HA.out.2.2.2.1 i hlt)
      have hnn := HA.out.2.2.2.2
      rw [← hnn] at hu hsx hle
      have HX : Hid (va i = .slice xr n cx ∧ Sl xr n (M i) w ∧ LtB xr w.heap.size ∧ (xr = none → cx = 0) ∧ n ≤ cx ∧ cx ≤ 9223372036854775807) := ⟨hu, hsx, hlx, hnx, hle, hcap⟩
      clear hu hsx hlx hnx hle hcap hnn hu0 u
      go_wp2
      clear p0 p1 p2
      go_loopw [7, 8] (fun vs vk wr => ∃ k s : Nat, k ≤ n ∧ vk = .int .i64 k ∧ vs = .int .i64 (s : Nat) ∧ Hid (s = xng D (M i) k ∧ Below wA.heap.size wA wr)) (fun _ vk _ => n - (intOf vk).toNat)
      case atStart => exact ⟨0, 0, by omega, rfl, rfl, rfl, Below.refl _ _⟩
      case round =>
        obtain ⟨k, s, hk, rfl, rfl, HS⟩ := hrel
        rename World => wr
        have HBR : Hid (Below w.heap.size w wr ∧ Below wb.heap.size wb wr) := ⟨bel_up' HBW.out HS.out.2, bel_up' HG.out.2 HS.out.2⟩
        obtain ⟨p0, p1, p2⟩ := H1.out.2.1.keep HBR.out.2
        by_cases hlk : k < n
        · have hkb : (k : Int) < (n : Int) := by omega
          have hkb0 : (0 : Int) ≤ (k : Int) := by omega
          obtain ⟨bR, oR, hao, hcr⟩ := (HA.out.2.2.1.below HBR.out.1) i hlt
          subst hao
          rw [HX.out.1] at hcr
          obtain ⟨bx, ox, hx, hcx⟩ := (HX.out.2.1.below HBR.out.1 HX.out.2.2.1) k hlk
          subst hx
          obtain ⟨y, hy⟩ : ∃ y, y = M i k := ⟨_, rfl⟩
          rw [← hy] at hcx
          obtain ⟨t, ht⟩ : ∃ t, t = D.sb s y := ⟨_, rfl⟩
          have hyq : y < D.q := by rw [hy]; exact (HA.out.2.1 i hlt).1 k
          have hsq : s < D.q := by rw [HS.out.1]; exact xng_lt (fld HA.out.1) (HA.out.2.1 i hlt).1 k
          have hbx := H1.out.2.2.2.2.2.1.below HBR.out.2 H1.out.2.2.2.2.2.2
          have k0 := cell_regrown hbx.c0
          have k1 := cell_regrown hbx.c1
          have k2 := cell_regrown hbx.c2
          have k3 := cell_regrown hbx.c3
          have k4 := cell_regrown hbx.c4
          have k5 := cell_regrown p2
          have k6 := cell_regrown hcr
          have k7 := cell_regrown hcx
          have HC2 : Hid (∀ d os, Calls Try.prog 110 #[.agg #[.int .i64 D.q, .int .i64 D.p, .int .i64 D.m, .int .i64 D.gen, .slice (some ⟨gm, 0, none⟩) (D.m + 1) cm], .int .i64 (s : Nat), .int .i64 (y : Nat)] (grow (redrawn wr d) os) fun e w'' => e = .returned (.int .i64 (t : Nat)) ∧ ∃ p : Regrown, w'' = grow (redrawn wr p.d) p.os) := fun d os => by
            have h := rsub_any HA.out.1 D.gen (.slice (some ⟨gm, 0, none⟩) (D.m + 1) cm) (s : Nat) (y : Nat) (grow (redrawn wr d) os)
            rw [subZ_nat (fld HA.out.1) hsq hyq, ← ht] at h
            exact Calls.regrown_of h
          have HV : Hid (t = xng D (M i) (k + 1) ∧ Below wA.heap.size wA wr) := ⟨by rw [ht, hy, HS.out.1]; rfl, HS.out.2⟩
          clear hy ht hbx hcx hcr HS HBR hyq hsq
          go_wp2
          refine wp_region_quiet_below (by kernel_rfl) (by kernel_rfl) ?_
          repeat (go_big_quiet_step (first | (go_at_call 110; exact HC2.out _ _)))
          refine wpQuiet_nil ?_
          intro _ hw'
          obtain ⟨⟨dr, osr⟩, hw''⟩ := hw'
          subst hw''
          clear k0 k1 k2 k3 k4 k5 k6 k7 p0 p1 p2 HC2
          go_wp2
          go_roundw
          case rel => exact ⟨k + 1, t, by omega, by go_num, rfl, HV.out.1, bel_up' HV.out.2 (below_regrown wr dr osr)⟩
          case measure => simp [intOf]; omega
        · have hkb : ¬ (k : Int) < (n : Int) := by omega
          have hke : n = k := by omega
          subst hke
          obtain ⟨bR, oR, hao, hcr⟩ := (HA.out.2.2.1.below HBR.out.1) i hlt
          subst hao
          rw [HX.out.1] at hcr
          have HCp : Hid (Calls Try.prog 46 #[.slice xr n cx] wr fun e w' => ∃ v, e = .returned v ∧ OwnI wr.heap.size v (zl n fun j => ((M i j : Nat) : Int)) w' ∧ Below wr.heap.size wr w') := by
            exact copyI_any (HX.out.2.1.below HBR.out.1 HX.out.2.2.1) (by omega) HX.out.2.2.2.1 (HX.out.2.2.1.mono HBR.out.1.size)
          go_wp2_with fail
          clear p0 p1 p2 hcr
          refine HCp.out.mono ?_
          rintro e wB ⟨v1, rfl, ho1, hb1⟩
          have HB1 : Hid (OwnI wr.heap.size v1 (zl n fun j => ((M i j : Nat) : Int)) wB ∧ Below wr.heap.size wr wB) := ⟨ho1, hb1⟩
          have hsB := hb1.size
          have hl1 : (zl n fun j => ((M i j : Nat) : Int)).length ≤ 1000 := by rw [zl_len]; omega
          clear ho1 hb1
          go_wp2_with (first
            | (at_builtin
               refine append_int rfl _ _ rfl wr.heap.size _ (zl n fun j => ((M i j : Nat) : Int)) rfl (HB1.out.1.alloc _) ⟨_, 0, none⟩ 1 (s : Int) rfl (by simp) (by omega) (by simp; omega) ?_
               intro v5 w5 hown5 hgrow5
               have H5 : Hid (OwnI wr.heap.size v5 (zl (n + 1) fun j => ((xtd D n (M i) j : Nat) : Int)) w5 ∧ Below wr.heap.size wr w5) := by
                 refine ⟨?_, ((HB1.out.2.alloc hsB _).grown hgrow5 (by simp; omega) (fun k hk => (HB1.out.1.lt k hk).1))⟩
                 rw [zl_succ]
                 have e1 : (zl n fun j => ((xtd D n (M i) j : Nat) : Int)) = zl n fun j => ((M i j : Nat) : Int) := by
                   unfold zl
                   refine List.map_congr_left (fun j hj => ?_)
                   have hj := List.mem_range.1 hj
                   unfold xtd
                   rw [if_neg (by omega)]
                 have e2 : ((xtd D n (M i) n : Nat) : Int) = (s : Int) := by
                   unfold xtd
                   rw [if_pos rfl, HS.out.1, xng_is (fld HA.out.1) (HA.out.2.1 i hlt).1 n]
                 rw [e1, e2]
                 exact hown5
               clear hown5 hgrow5 HB1
               obtain ⟨lst, hov, hels⟩ := HG.out.1.below (bel_up' HS.out.2 H5.out.2) (Nat.le_refl _)
               have hll : lst.length ≤ 1000000 := by rw [hels.1, rl_len]; omega
               have hel1 := own_elm H5.out.1
               obtain ⟨g1, cg, ev1, _⟩ := hel1
               have HV : Hid (OwnV wb.heap.size u5 lst w5 ∧ Elms lst (rl i n fun i => xtd D n (M i)) w5 ∧ Elm v5 (n, xtd D n (M i)) w5 ∧ Below wb.heap.size wb w5) := ⟨hov, hels, own_elm H5.out.1, bel_up' HBR.out.2 H5.out.2⟩
               have hsB := HV.out.2.2.2.size
               subst ev1
               clear hov hels)
            | (at_builtin
               refine append_sl rfl _ _ rfl wb.heap.size u5 lst rfl (HV.out.1.below ((Below.refl _ _).alloc (Nat.le_refl _) _) (Nat.le_refl _)) ⟨w5.heap.size, 0, none⟩ 1 (.slice (some ⟨g1, 0, none⟩) (n + 1) cg) rfl rfl (by rw [cell_of_row _ _ _ _ _ (0, 0) (two_new _)]; rfl) hll (by simp; omega) ?_
               intro v' w6 hown6 hg6))
          have hal : Below w5.heap.size w5 (w5.alloc (.cells #[.slice (some ⟨g1, 0, none⟩) (n + 1) cg] 22)) := (Below.refl _ _).alloc (Nat.le_refl _) _
          have ho := HV.out.1.below hal (Nat.le_refl _)
          have HR : Hid (LLs wb.heap.size v' (rl (i + 1) n fun i => xtd D n (M i)) w6 ∧ Below wb.heap.size wb w6) := by
            refine ⟨⟨_, hown6, ?_⟩, (bel_up' HV.out.2.2.2 hal).grown hg6 (by simp; omega) (fun k hk => ho.open_ge k hk)⟩
            have h := ((HV.out.2.1.below hal (Nat.le_refl _)).snoc (HV.out.2.2.1.below hal (Nat.le_refl _))).grown ho hg6
            rw [rl_succ]; exact h
          clear hown6 hg6 ho hal
          go_roundw
          case rel => exact ⟨i + 1, by omega, by go_num, HR.out⟩
          case measure => simp [intOf]; omega
    · have hib : ¬ (i : Int) < (m : Int) := by omega
      have hie : m = i := by omega
      subst hie
      obtain ⟨lo, lc, hv⟩ := HG.out.1.slc
      rw [rl_len] at hv
      subst hv
      go_wp2_with fail
      rw [HSub.out.1]
      have hrows : ∀ i, i < m → El D (xtd D n (M i)) ∧ Bd (n + 1) (xtd D n (M i)) := fun i hi => ⟨xtd_el (fld HA.out.1) (HA.out.2.1 i hi).1, xtd_bd (HA.out.2.1 i hi).2⟩
      refine (made_any HA.out.1 (n1 := n) (by omega) (by have := HSub.out.2; omega) HSub.out.2 hrows HG.out.1.matR'.1).mono ?_
      rintro e w2 ⟨k, R, ro, rc, rfl, hl2, hr2, hb2⟩
      have H2 : Hid (LLs wA.heap.size (.slice ro k rc) (rl k n R) w2 ∧ Red D N1 m (fun i => xtd D n (M i)) k R ∧ Below w.heap.size w w2 ∧ RB (w.heap.size + 1) w2 ∧ RBt (w.heap.size + 1) w2 ∧ w.heap.size ≤ wA.heap.size) := by
        have hbb := bel_up' HG.out.2 hb2
        exact ⟨hl2, hr2, bel_up' H1.out.1 hbb, H1.out.2.2.1.keep hbb, H1.out.2.2.2.1.keep hbb, by have := HG.out.2.size; have := H1.out.1.size; omega⟩
      clear hl2 hr2 hb2 hrows p0 p1 p2
      obtain ⟨⟨x0, c0⟩, ⟨x1, c1⟩, ⟨x2, c2⟩, f0, f1, f2⟩ := H2.out.2.2.2.1
      go_wp2
      obtain ⟨w3, hw3⟩ : ∃ w3, w3 = laid w2 (w.heap.size + 1) D.q (N1 : Nat) (.slice ro k rc) := ⟨_, rfl⟩
      have H3 : Hid (CB (w.heap.size + 1) D.q (N1 : Nat) (.slice ro k rc) w3 ∧ LLs w.heap.size (.slice ro k rc) (rl k n R) w3 ∧ Below w.heap.size w w3) := by
        rw [hw3]; exact ⟨laid_cb H2.out.2.2.2.1 _ _ _, (H2.out.1.laid H2.out.2.2.2.2.1 _ _ _).mono H2.out.2.2.2.2.2, laid_below H2.out.2.2.1 (by omega) _ _ _⟩
      unfold laid at hw3
      rw [← hw3]
      clear hw3 c0 c1 c2 f0 f1 f2
      obtain ⟨c0, c1, c2⟩ := H3.out.1
      refine bodyPost_ret (v := .agg #[.int .i64 D.q, .int .i64 (N1 : Nat), .slice ro k rc]) (by simp [results, Try.results71, go_sem, c0, c1, c2]) rfl ?_
      exact ⟨_, R, _, _, rfl, H3.out.2.1, H2.out.2.1, H3.out.2.2⟩
end Go.Proofs.Ytjkncdmbcckcdaa
