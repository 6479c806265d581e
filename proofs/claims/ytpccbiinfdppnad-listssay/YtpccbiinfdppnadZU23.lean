/- Texts of ours, one behind the other: U23 H1 H2. -/
import Derived.Test.YtpccbiinfdppnadZL10
import Derived.Test.YtpccbiinfdppnadZO2
/- The program's polynomials: a sum with an empty list, wherever that lies. -/
namespace Go.Proofs.Ytpccbiinfdppnad
open Go.RowKit Go.Sort

theorem chk_nil (D : FD) (z : Nat → Int) : D.chk 0 z = 0 := by
  unfold FD.chk
  rw [if_neg (by omega)]; rfl
set_option maxHeartbeats 2000000 in
set_option maxRecDepth 100000 in
theorem check_nil {D : FD} (hD : D ∈ fieldsL) (ao : Option Addr) (cap : Nat) (w : World) :
    Calls Try.prog 30 #[.int .i64 D.q, .slice ao 0 cap] w fun e w' => e = .returned (.int .i64 0) ∧ Below w.heap.size w w' := by
  have HS : Hid (D ∈ fieldsL) := hD
  clear hD
  go_enter Try.func30, Try.ntmps30
  go_wp2_with fail
  refine (new_any HS.out w).mono ?_
  rintro e w1 ⟨F, T, g, rfl, hat, hF, hT, hb1⟩
  have HA : Hid (Below w.heap.size w w1) := hb1
  clear hat hF hT hb1
  go_wp2
  refine wp_loop_rounds 1 ?_
  rw [rounds_succ]
  go_wp2
  go_ret
  exact ⟨rfl, HA.out⟩

set_option maxHeartbeats 4000000 in
set_option maxRecDepth 100000 in
theorem over_nil {D : FD} (hD : D ∈ fieldsL) {ao bo : Option Addr} {n ca cb : Nat} {z : Nat → Int} {w : World} (ha : Arg ao n ca z w) (h0 : D.chk n z = 0) :
    Calls Try.prog 87 #[.int .i64 D.q, .slice (some ⟨w.heap.size, 0, none⟩) 2 2] (w.alloc (.cells #[.slice ao n ca, .slice bo 0 cb] 22)) fun e w' => Below w.heap.size w w' ∧
      ∃ F T f, e = .returned (.tuple #[.pointer (some ⟨F, 0, none⟩), .int .i64 0]) ∧ FAt F T D f w' ∧ w.heap.size ≤ F ∧ w.heap.size ≤ T := by
  have hbl : Below w.heap.size w (w.alloc (.cells #[.slice ao n ca, .slice bo 0 cb] 22)) := (Below.refl _ _).alloc (Nat.le_refl _) _
  obtain ⟨wa, hwa⟩ : ∃ wa, wa = w.alloc (.cells #[.slice ao n ca, .slice bo 0 cb] 22) := ⟨_, rfl⟩
  have c0 : wa.cell? ⟨w.heap.size, 0, none⟩ = some (.slice ao n ca) := by rw [hwa, cell_of_row _ _ _ _ _ (0, 0) (two_new _)]; rfl
  have c1 : wa.cell? ⟨w.heap.size, 1, none⟩ = some (.slice bo 0 cb) := by rw [hwa, cell_of_row _ _ _ _ _ (0, 0) (two_new _)]; rfl
  have hsa : wa.heap.size = w.heap.size + 1 := by rw [hwa]; simp
  rw [← hwa] at hbl ⊢
  have HS : Hid (D ∈ fieldsL ∧ Arg ao n ca z wa ∧ D.chk n z = 0 ∧ Below w.heap.size w wa) := ⟨hD, ha.below hbl, h0, hbl⟩
  have HC : Hid (∀ wx, Below wa.heap.size wa wx → wx.cell? ⟨w.heap.size, 1, none⟩ = some (.slice bo 0 cb)) := fun wx hx => ((bcell hx).1 _ _ (by omega)).trans c1
  have HK : Hid (Calls Try.prog 30 #[.int .i64 D.q, .slice ao n ca] wa fun e w' => e = .returned (.int .i64 0) ∧ Below wa.heap.size wa w') := by
    show Calls _ _ _ _ _
    have h := check_any (cap := ca) HS.out.1 HS.out.2.1.sl HS.out.2.1.lt HS.out.2.1.few
    rw [HS.out.2.2.1] at h; exact h
  clear hD ha h0 hwa hbl c1
  obtain ⟨G, hG⟩ : ∃ G, G = w.heap.size := ⟨_, rfl⟩
  rw [← hG] at c0 HC ⊢
  have HG : Hid (G = w.heap.size) := hG
  clear hG
  go_enter Try.func87, Try.ntmps87
  go_wp2
  refine wp_loop_rounds 3 ?_
  rw [rounds_succ]
  go_wp2_with fail
  refine HK.out.mono ?_
  rintro e w1 ⟨rfl, hb1⟩
  have hc1 := HC.out w1 hb1
  have H1 : Hid (Below wa.heap.size wa w1) := hb1
  clear hb1 c0
  go_wp2_with fail
  rw [rounds_succ]
  go_wp2_with fail
  refine (check_nil HS.out.1 _ _ _).mono ?_
  rintro e w2 ⟨rfl, hb2⟩
  have H2 : Hid (Below wa.heap.size wa w2) := bel_up' H1.out hb2
  clear hb2 hc1
  go_wp2_with fail
  rw [rounds_succ]
  go_wp2_with fail
  refine (new_any HS.out.1 w2).mono ?_
  rintro x w3 ⟨F, T, f, rfl, hat, hF, hT, hb3⟩
  have HA : Hid (FAt F T D f w3 ∧ w.heap.size ≤ F ∧ w.heap.size ≤ T ∧ Below w.heap.size w w3) := by
    have hs := H2.out.size
    exact ⟨hat, by omega, by omega, bel_up' HS.out.2.2.2 (bel_up' H2.out hb3)⟩
  clear hat hF hT hb3
  go_wp2
  go_ret2
  rw [HG.out]
  exact ⟨HA.out.2.2.2, F, T, f, rfl, HA.out.1, HA.out.2.1, HA.out.2.2.1⟩

set_option maxHeartbeats 4000000 in
set_option maxRecDepth 100000 in
theorem psum_nil {F T : Nat} {D : FD} (hD : D ∈ fieldsL) {w : World} {ao bo : Option Addr} {n ca cb : Nat} {a : Nat → Nat} (hn : n ≤ 1000) (ha : El D a) (hbn : Bd n a) (hA : Sl ao n a w) (hla : LtB ao w.heap.size) :
    Calls Try.prog 90 #[.pointer (some ⟨F, T, none⟩), .slice ao n ca, .slice bo 0 cb] w fun e w' =>
      ∃ v, e = .returned v ∧ OwnP w.heap.size v (dgn a n) a w' ∧ Below w.heap.size w w' := by
  have HF : Hid (D ∈ fieldsL ∧ Sl ao n a w ∧ El D a ∧ Bd n a ∧ LtB ao w.heap.size) := ⟨hD, hA, ha, hbn, hla⟩
  have hmax : (if (n : Int) < ((0 : Nat) : Int) then ((0 : Nat) : Int) else (n : Int)) = (n : Int) := by split <;> omega
  have hn0 : ¬ (n : Int) < 0 := by omega
  clear hD hA ha hbn hla
  go_enter Try.func90, Try.ntmps90
  go_wp2_with (first
    | (at_make; refine make_int rfl _ _ rfl _ n rfl rfl (by omega) (by omega) ?_; intro w1 hown1 hgrow1)
    | (show wpList _ _ _ (Oper.mk (some 18) _ _ _ _ _ :: _) _ _; (refine copy_int rfl _ _ rfl w.heap.size n n n ca ao rfl rfl pnil a (row_zeros hown1) (HF.out.2.1.below (below_grown hgrow1 (Nat.le_refl _) (fun k hk => by simp at hk)) HF.out.2.2.2.2) (Nat.le_refl _) w.heap.size w (below_grown hgrow1 (Nat.le_refl _) (fun k hk => by simp at hk)) (Nat.le_refl _) ?_); intro w2 hrow2 hb2))
  all_goals
    have HB1 : Hid (Below w.heap.size w w2 ∧ Row w.heap.size n a w2) := ⟨hb2, hrow2.congr (fun k hk => by show (if k < n then a k else pnil k) = a k; rw [if_pos hk])⟩
    clear hown1 hgrow1 hb2 hrow2
    refine wp_loop_rounds 1 ?_
    rw [rounds_succ]
    go_wp2_with fail
    refine (trim_any (HB1.out.2.sl (Nat.le_refl _)) (Nat.le_refl _) (by omega)).mono ?_
    rintro e w' ⟨rfl, k, rfl⟩
    go_wp2
    go_ret
    exact ⟨_, rfl, OwnP.of_row (HB1.out.2.drewN k) (dgn_le _ _) (dgn_le _ _) (by omega) (Nat.le_refl _), below_drewN2 HB1.out.1 _⟩

set_option maxHeartbeats 2000000 in
set_option maxRecDepth 100000 in
/-- A sum with an empty list, wherever that lies. -/
theorem padd_nil0 {D : FD} (hD : D ∈ fieldsL) {ao bo : Option Addr} {n ca cb : Nat} {z : Nat → Int} {w : World} (ha : Arg ao n ca z w) (h0 : D.chk n z = 0) :
    Calls Try.prog 60 #[.int .i64 D.q, .slice ao n ca, .slice bo 0 cb] w fun e w' => Below w.heap.size w w' ∧
      ∃ v, e = .returned (.tuple #[v, .int .i64 0]) ∧ OwnP w.heap.size v (dgn (zc n z) n) (zc n z) w' := by
  have HA : Hid (Arg ao n ca z w ∧ D.chk n z = 0 ∧ D ∈ fieldsL) := ⟨ha, h0, hD⟩
  clear ha h0 hD
  go_enter Try.func60, Try.ntmps60
  go_wp2_with fail
  refine (over_nil HA.out.2.2 HA.out.1 HA.out.2.1).mono ?_
  rintro e w1 ⟨hb1, F, T, f, rfl, hat, hF, hT⟩
  have HW : Hid (Below w.heap.size w w1) := hb1
  clear hat hF hT hb1
  go_wp2_with fail
  have a1 := HA.out.1.below HW.out
  refine (psum_nil HA.out.2.2 (by have := (chk_zero HA.out.2.1).1; omega) (zc_el (fld HA.out.2.2) HA.out.2.1) (zc_bd _ _) (zc_sl HA.out.2.1 a1.sl) a1.lt).mono ?_
  rintro e w2 ⟨v, rfl, hown, hb2⟩
  have hs := HW.out.size
  have HR : Hid (OwnP w.heap.size v (dgn (zc n z) n) (zc n z) w2 ∧ Below w.heap.size w w2) := ⟨hown.mono hs, bel_up HW.out hb2⟩
  clear hown hb2 a1
  go_wp2
  go_ret2
  exact ⟨HR.out.2, v, rfl, HR.out.1⟩

set_option maxHeartbeats 2000000 in
set_option maxRecDepth 100000 in
theorem polyMay_nil {D : FD} (hD : D ∈ fieldsL) (ao : Option Addr) (cap : Nat) (w : World) :
    Calls Try.prog 8 #[.int .i64 D.q, .slice ao 0 cap] w fun e w' => e = .returned (.int .i64 0) ∧ Below w.heap.size w w' := by
  have HS : Hid (D ∈ fieldsL) := hD
  clear hD
  go_enter Try.func8, Try.ntmps8
  go_wp2_with fail
  refine (rfield_sl HS.out w).mono ?_
  rintro e w1 ⟨gm, cm, rfl, _, hb1⟩
  have HA : Hid (Below w.heap.size w (w1.alloc (.cells #[.int .i64 D.q, .int .i64 D.p, .int .i64 D.m, .int .i64 D.gen, .slice (some ⟨gm, 0, none⟩) (D.m + 1) cm] 28))) := hb1.alloc hb1.size _
  clear hb1
  unfold rf
  go_wp2
  refine wp_loop_rounds 1 ?_
  rw [rounds_succ]
  go_wp2
  go_ret
  exact ⟨rfl, HA.out⟩

set_option maxHeartbeats 4000000 in
set_option maxRecDepth 100000 in
theorem rpadd_nil {D : FD} (hD : D ∈ fieldsL) (gen gm cm : Nat) {ao bo : Option Addr} {n ca cb : Nat} {a : Nat → Nat} {w : World} (hn : n ≤ 1000) (ha : El D a) (hA : Sl ao n a w) (hla : LtB ao w.heap.size) :
    Calls Try.prog 63 #[.agg #[.int .i64 D.q, .int .i64 D.p, .int .i64 D.m, .int .i64 gen, .slice (some ⟨gm, 0, none⟩) (D.m + 1) cm], .slice ao n ca, .slice bo 0 cb] w fun e w' => ∃ v, e = .returned v ∧ OwnP w.heap.size v (dgn a n) a w' ∧ Below w.heap.size w w' := by
  have HF : Hid (D ∈ fieldsL ∧ Sl ao n a w ∧ El D a ∧ LtB ao w.heap.size) := ⟨hD, hA, ha, hla⟩
  clear hD hA ha hla
  have HB0 : Hid (Box w.heap.size D gen (.slice (some ⟨gm, 0, none⟩) (D.m + 1) cm) (w.alloc (.cells #[.int .i64 D.q, .int .i64 D.p, .int .i64 D.m, .int .i64 gen, .slice (some ⟨gm, 0, none⟩) (D.m + 1) cm] 28))) := box_new D gen _ w
  go_enter Try.func63, Try.ntmps63
  go_wp2
  go_loopw [7, 8] (fun vl i wr => ∃ r : Nat, r ≤ n ∧ i = .int .i64 r ∧ OwnI (w.heap.size + 1) vl (NL r a) wr ∧ Box w.heap.size D gen (.slice (some ⟨gm, 0, none⟩) (D.m + 1) cm) wr ∧ Below w.heap.size w wr ∧ w.heap.size < wr.heap.size) (fun _ i _ => n - (intOf i).toNat)
  case atStart => exact ⟨0, by omega, rfl, OwnI.nil _ _, HB0.out, (Below.refl _ _).alloc (Nat.le_refl _) _, by simp⟩
  case round =>
    obtain ⟨r, hr, rfl, hown, hbox, hbel, hlt1⟩ := hrel
    rename World => wr
    obtain ⟨c0, c1, c2, c3, c4⟩ := hbox
    have HG : Hid (OwnI (w.heap.size + 1) u7 (NL r a) wr ∧ Box w.heap.size D gen (.slice (some ⟨gm, 0, none⟩) (D.m + 1) cm) wr ∧ Below w.heap.size w wr) := ⟨hown, ⟨c0, c1, c2, c3, c4⟩, hbel⟩
    clear hown hbel
    have HC : Hid (∀ w3 : World, Calls Try.prog 36 #[.agg #[.int .i64 D.q, .int .i64 D.p, .int .i64 D.m, .int .i64 gen, .slice (some ⟨gm, 0, none⟩) (D.m + 1) cm], .int .i64 (a r : Nat), .int .i64 0] w3 fun e w' => e = .returned (.int .i64 (a r : Nat)) ∧ Below w3.heap.size w3 w') :=
      fun w3 => by
        have h := radd_nat HF.out.1 gen (.slice (some ⟨gm, 0, none⟩) (D.m + 1) cm) (a r) 0 (HF.out.2.2.1 r) (zero_lt' (fld HF.out.1)) w3
        rw [show sumD D.p D.q (a r) 0 = a r from ad_zero (fld HF.out.1) (HF.out.2.2.1 r)] at h
        exact h
    by_cases h1 : r < n
    · have hib : (r : Int) < (n : Int) := by omega
      have hib0 : (0 : Int) ≤ (r : Int) := by omega
      obtain ⟨ba, offa, rfl, hca⟩ := (HF.out.2.1.below HG.out.2.2 HF.out.2.2.2) r h1
      go_wp2_with (first
        | (go_at_call 36; refine (HC.out _).mono ?_; rintro e w2 ⟨rfl, hb2⟩; have hs2 := hb2.size; have HG2 : Hid (OwnI (w.heap.size + 1) u7 (NL r a) w2 ∧ Box w.heap.size D gen (.slice (some ⟨gm, 0, none⟩) (D.m + 1) cm) w2 ∧ Below w.heap.size w w2) := ⟨HG.out.1.below hb2 (fun k hk => (HG.out.1.lt k hk).2), HG.out.2.1.below hb2 hlt1, bel_up' HG.out.2.2 hb2⟩)
        | (at_builtin; refine append_int rfl _ _ rfl (w.heap.size + 1) _ (NL r a) rfl (HG2.out.1.alloc _) ⟨_, 0, none⟩ 1 (a r : Nat) rfl (by simp) (by rw [NL_len]; omega) (by simp; omega) ?_; intro v3 w3 hown3 hgrow3))
      have HE : Hid (OwnI (w.heap.size + 1) v3 (NL (r + 1) a) w3 ∧ Box w.heap.size D gen (.slice (some ⟨gm, 0, none⟩) (D.m + 1) cm) w3 ∧ Below w.heap.size w w3 ∧ w.heap.size < w3.heap.size) := by
        have hb3 : Below (w.heap.size + 1) w2 w3 := ((Below.refl _ _).alloc (by omega) _).grown hgrow3 (by simp; omega) (fun k hk => (HG2.out.1.lt k hk).1)
        refine ⟨by rw [NL_succ]; exact hown3, HG2.out.2.1.below (B := w.heap.size + 1) hb3 (by omega), HG2.out.2.2.trans (hb3.mono (by omega)), by have := hb3.size; omega⟩
      clear hown3 hgrow3
      go_roundw
      case rel => exact ⟨r + 1, by omega, by go_num, HE.out⟩
      case measure => simp [intOf]; omega
    · have hre : n = r := by omega
      subst hre
      have hib : ¬ (n : Int) < (n : Int) := by omega
      have hib2 : ¬ (n : Int) < 0 := by omega
      have HO : Hid (OwnP (w.heap.size + 1) u7 n a wr) := HG.out.1.ownP
      obtain ⟨lo, lc, hlv, h3, h4, _, h6, h7, h8⟩ := HO.out.open
      subst hlv
      have HT : Hid (Calls Try.prog 61 #[.slice lo n lc] wr fun e w' => ∃ v, e = .returned v ∧ OwnP wr.heap.size v (dgn a n) a w' ∧ Below wr.heap.size wr w') := rtrim_any h8 h3 h4 h7 h6 (by omega)
      clear h3 h4 h6 h7 h8
      go_wp2_with fail
      refine HT.out.mono ?_
      rintro e w2 ⟨v, rfl, hown, hb2⟩
      have HR : Hid (OwnP w.heap.size v (dgn a n) a w2 ∧ Below w.heap.size w w2) := ⟨hown.mono (by omega), bel_up' HG.out.2.2 hb2⟩
      clear hown hb2
      go_wp2
      go_ret
      exact ⟨v, rfl, HR.out.1, HR.out.2⟩
end Go.Proofs.Ytpccbiinfdppnad

/- Curves (lists.Curve): what both sides reckon; the calls that they make. -/
namespace Go.Proofs.Ytpccbiinfdppnad
open Go.RowKit Go.Sort

/-- The sum when the last r lists are reckoned: how long it is, and its coefficients. T: how long Y is. -/
def cvs (D : FD) (Y : Nat → Nat) (T : Nat) (N : Nat → Nat) (Z : Nat → Nat → Int) (m : Nat) : Nat → Nat × (Nat → Nat)
  | 0 => (0, pnil)
  | r + 1 => (dgn (padd D (pmul D (cvs D Y T N Z m r).1 (cvs D Y T N Z m r).2 Y) (zc (N (m - 1 - r)) (Z (m - 1 - r)))) (max (dgn (pmul D (cvs D Y T N Z m r).1 (cvs D Y T N Z m r).2 Y) ((cvs D Y T N Z m r).1 + T)) (N (m - 1 - r))), padd D (pmul D (cvs D Y T N Z m r).1 (cvs D Y T N Z m r).2 Y) (zc (N (m - 1 - r)) (Z (m - 1 - r))))
/-- The first error. -/
def cve (D : FD) (Y : Nat → Nat) (T : Nat) (N : Nat → Nat) (Z : Nat → Nat → Int) (m : Nat) : Nat → Int
  | 0 => 0
  | r + 1 => if cve D Y T N Z m r ≠ 0 then cve D Y T N Z m r else if 129 < (cvs D Y T N Z m r).1 + T then 4 else D.chk (N (m - 1 - r)) (Z (m - 1 - r))
theorem cve_keep {D : FD} {Y : Nat → Nat} {T : Nat} {N : Nat → Nat} {Z : Nat → Nat → Int} {m r : Nat} (h : cve D Y T N Z m r ≠ 0) : ∀ d, cve D Y T N Z m (r + d) = cve D Y T N Z m r
  | 0 => rfl
  | d + 1 => by
    rw [← Nat.add_assoc, cve, cve_keep h d, if_pos h]
theorem cve_to {D : FD} {Y : Nat → Nat} {T : Nat} {N : Nat → Nat} {Z : Nat → Nat → Int} {m r : Nat} {e : Int} (he : e ≠ 0) (hr : r < m) (h : cve D Y T N Z m (r + 1) = e) : cve D Y T N Z m m = e := by
  have h1 := cve_keep (r := r + 1) (by rw [h]; exact he) (m - (r + 1))
  rw [show r + 1 + (m - (r + 1)) = m from by omega, h] at h1
  exact h1
theorem cvs_ok {D : FD} (hD : D ∈ fieldsL) {Y : Nat → Nat} {T : Nat} {N : Nat → Nat} {Z : Nat → Nat → Int} {m : Nat} (hY : El D Y) (hb : Bd T Y) : ∀ r, cve D Y T N Z m r = 0 → El D (cvs D Y T N Z m r).2 ∧ Trd (cvs D Y T N Z m r).1 (cvs D Y T N Z m r).2 ∧ (cvs D Y T N Z m r).1 ≤ 128
  | 0, _ => ⟨el_nil (fld hD), ⟨fun _ _ => rfl, fun h => absurd rfl h⟩, by show 0 ≤ 128; omega⟩
  | r + 1, h => by
    have F := fld hD
    have h0 : cve D Y T N Z m r = 0 := Classical.byContradiction fun hn => by
      rw [cve, if_pos hn] at h; exact hn h
    rw [cve, if_neg (fun hn => hn h0)] at h
    have h1 : ¬ 129 < (cvs D Y T N Z m r).1 + T := fun hn => by rw [if_pos hn] at h; cases h
    rw [if_neg h1] at h
    obtain ⟨a1, a2, a3⟩ := cvs_ok hD hY hb r h0
    have hlp : dgn (pmul D (cvs D Y T N Z m r).1 (cvs D Y T N Z m r).2 Y) ((cvs D Y T N Z m r).1 + T) ≤ 128 := by
      rw [pmul_len hD a1 hY a2.1 hb]
      have b1 := dgn_le (cvs D Y T N Z m r).2 (cvs D Y T N Z m r).1
      have b2 := dgn_le Y T
      split <;> omega
    have hPb : Bd (dgn (pmul D (cvs D Y T N Z m r).1 (cvs D Y T N Z m r).2 Y) ((cvs D Y T N Z m r).1 + T)) (pmul D (cvs D Y T N Z m r).1 (cvs D Y T N Z m r).2 Y) := dgn_bd ((pmul_bd F hb _).mono (by omega))
    have hAb := zc_bd (N (m - 1 - r)) (Z (m - 1 - r))
    have hN := (chk_zero h).1
    have hsb : Bd (max (dgn (pmul D (cvs D Y T N Z m r).1 (cvs D Y T N Z m r).2 Y) ((cvs D Y T N Z m r).1 + T)) (N (m - 1 - r))) (padd D (pmul D (cvs D Y T N Z m r).1 (cvs D Y T N Z m r).2 Y) (zc (N (m - 1 - r)) (Z (m - 1 - r)))) := fun j hj => by
      show D.ad _ _ = 0
      rw [hPb j (by omega), hAb j (by omega), ad_zero F (zero_lt' F)]
    refine ⟨el_add F (el_mul F _ _ _) (zc_el F h), trd_dgn hsb, ?_⟩
    have := dgn_le (padd D (pmul D (cvs D Y T N Z m r).1 (cvs D Y T N Z m r).2 Y) (zc (N (m - 1 - r)) (Z (m - 1 - r)))) (max (dgn (pmul D (cvs D Y T N Z m r).1 (cvs D Y T N Z m r).2 Y) ((cvs D Y T N Z m r).1 + T)) (N (m - 1 - r)))
    show dgn _ _ ≤ 128
    omega
theorem zc_nat {n : Nat} {c : Nat → Nat} (h : Bd n c) : zc n (fun j => ((c j : Nat) : Int)) = c := by
  funext j
  unfold zc
  by_cases e : j < n
  · rw [if_pos e]; simp
  · rw [if_neg e, h j (by omega)]
theorem chk_nat {D : FD} {n : Nat} {c : Nat → Nat} (h : El D c) (hn : n ≤ 128) : D.chk n (fun j => ((c j : Nat) : Int)) = 0 := by
  unfold FD.chk
  rw [if_neg (by omega), if_pos (allHas_iff.2 (fun j _ => has_of_lt (h j)))]
theorem OwnP.arg {base n : Nat} {v : Value} {c : Nat → Nat} {w : World} (h : OwnP base v n c w) (hn : n ≤ 1000000) : ∃ so sc, v = .slice so n sc ∧ Arg so n sc (fun j => ((c j : Nat) : Int)) w := by
  obtain ⟨so, sc, rfl, h1, h2, _, h4, h5, h6⟩ := h.open
  exact ⟨so, sc, rfl, h6, h4, hn, h5, h1, h2⟩
theorem arg_nil (w : World) (z : Nat → Int) : Arg none 0 0 z w := ⟨fun j hj => absurd hj (by omega), fun x hx => (by cases hx), by omega, fun _ => rfl, by omega, by omega⟩
theorem MatZ.arg {ao : Option Addr} {m : Nat} {A : Nat → Option Addr} {N C : Nat → Nat} {Z : Nat → Nat → Int} {w : World} (h : MatZ ao m A N C Z w) {j : Nat} (hj : j < m) (hN : N j ≠ 0) : Arg (A j) (N j) (C j) (Z j) w := by
  refine ⟨h.sl j hj, fun x hx => ?_, h.few j hj, h.nil j hj, h.le j hj, h.cap j hj⟩
  obtain ⟨b, off, e, hc⟩ := h.sl j hj 0 (by omega)
  rw [hx] at e
  cases e
  exact cell_lt hc
theorem zc_none (z : Nat → Int) : zc 0 z = pnil := by funext j; unfold zc; rw [if_neg (by omega)]; rfl

/-- A sum with one of the lists that were handed in. -/
theorem cadd_any {D : FD} (hD : D ∈ fieldsL) {ao po : Option Addr} {m lp pc : Nat} {A : Nat → Option Addr} {N C : Nat → Nat} {Z : Nat → Nat → Int} {P : Nat → Nat} {w : World} (h : MatZ ao m A N C Z w) {j : Nat} (hj : j < m) (hp : Arg po lp pc (fun j => ((P j : Nat) : Int)) w) (hE : El D P) (hB : Bd lp P) (hl : lp ≤ 128) :
    Calls Try.prog 60 #[.int .i64 D.q, .slice po lp pc, .slice (A j) (N j) (C j)] w fun e w' => Below w.heap.size w w' ∧
      ((D.chk (N j) (Z j) = 0 ∧ ∃ v, e = .returned (.tuple #[v, .int .i64 0]) ∧ OwnP w.heap.size v (dgn (padd D P (zc (N j) (Z j))) (max lp (N j))) (padd D P (zc (N j) (Z j))) w') ∨
       (D.chk (N j) (Z j) ≠ 0 ∧ e = .returned (.tuple #[.slice none 0 0, .int .i64 (D.chk (N j) (Z j))]))) := by
  have hc := chk_nat hE hl
  have hz := zc_nat hB
  by_cases h0 : N j = 0
  · rw [h0]
    refine (padd_nil0 hD hp hc).mono ?_
    rintro e w' ⟨hb, v, rfl, ho⟩
    rw [hz] at ho
    refine ⟨hb, Or.inl ⟨chk_nil D _, v, rfl, ?_⟩⟩
    rw [zc_none, padd_nil (fld hD) hE, Nat.max_eq_left (Nat.zero_le _)]
    exact ho
  · refine (padd_any hD hp (h.arg hj h0)).mono ?_
    rintro e w' ⟨hb, hr⟩
    rw [chk2_def, if_pos hc, hz] at hr
    exact ⟨hb, hr⟩
theorem cmay_any {D : FD} (hD : D ∈ fieldsL) {ao : Option Addr} {m : Nat} {A : Nat → Option Addr} {N C : Nat → Nat} {Z : Nat → Nat → Int} {w : World} (h : MatZ ao m A N C Z w) {j : Nat} (hj : j < m) :
    Calls Try.prog 8 #[.int .i64 D.q, .slice (A j) (N j) (C j)] w fun e w' => e = .returned (.int .i64 (D.chk (N j) (Z j))) ∧ Below w.heap.size w w' := by
  by_cases h0 : N j = 0
  · rw [h0, chk_nil]
    exact polyMay_nil hD _ _ _
  · have ha := h.arg hj h0
    exact polyMay_any hD ha.sl ha.lt ha.few
theorem crpadd_any {D : FD} (hD : D ∈ fieldsL) (gen gm cm : Nat) {ao po : Option Addr} {m lp pc : Nat} {A : Nat → Option Addr} {N C : Nat → Nat} {Z : Nat → Nat → Int} {P : Nat → Nat} {w : World} (h : MatZ ao m A N C Z w) {j : Nat} (hj : j < m) (hp : Arg po lp pc (fun j => ((P j : Nat) : Int)) w) (hE : El D P) (hB : Bd lp P) (hl : lp ≤ 128) (hc : D.chk (N j) (Z j) = 0) :
    Calls Try.prog 63 #[.agg #[.int .i64 D.q, .int .i64 D.p, .int .i64 D.m, .int .i64 gen, .slice (some ⟨gm, 0, none⟩) (D.m + 1) cm], .slice po lp pc, .slice (A j) (N j) (C j)] w fun e w' => ∃ v, e = .returned v ∧ OwnP w.heap.size v (dgn (padd D P (zc (N j) (Z j))) (max lp (N j))) (padd D P (zc (N j) (Z j))) w' ∧ Below w.heap.size w w' := by
  by_cases h0 : N j = 0
  · rw [h0]
    refine (rpadd_nil hD gen gm cm (by omega) hE hp.sl hp.lt).mono ?_
    rintro e w' ⟨v, rfl, ho, hb⟩
    refine ⟨v, rfl, ?_, hb⟩
    rw [zc_none, padd_nil (fld hD) hE, Nat.max_eq_left (Nat.zero_le _)]
    exact ho
  · have ha := h.arg hj h0
    have hN := (chk_zero hc).1
    exact rpadd_any hD gen gm cm (by omega) (by omega) hE (zc_el (fld hD) hc) hB (zc_bd _ _) hp.sl (zc_sl hc ha.sl) hp.lt ha.lt
end Go.Proofs.Ytpccbiinfdppnad

/- Curves: the program's, and the reference's. -/
namespace Go.Proofs.Ytpccbiinfdppnad
open Go.RowKit Go.Sort

theorem pmulN_any {D : FD} (hD : D ∈ fieldsL) {so yo : Option Addr} {L my sc cy : Nat} {c : Nat → Nat} {yz : Nat → Int} {w : World} (hs : Arg so L sc (fun j => ((c j : Nat) : Int)) w) (hy : Arg yo my cy yz w) (hE : El D c) (hT : Trd L c) (hL : L ≤ 128) (h0 : D.chk my yz = 0) :
    Calls Try.prog 59 #[.int .i64 D.q, .slice so L sc, .slice yo my cy] w fun e w' => Below w.heap.size w w' ∧
      ((¬ 129 < L + dgn (zc my yz) my ∧ ∃ po pc, e = .returned (.tuple #[.slice po (dgn (pmul D L c (zc my yz)) (L + dgn (zc my yz) my)) pc, .int .i64 0]) ∧ Arg po (dgn (pmul D L c (zc my yz)) (L + dgn (zc my yz) my)) pc (fun j => ((pmul D L c (zc my yz) j : Nat) : Int)) w') ∨
       (129 < L + dgn (zc my yz) my ∧ e = .returned (.tuple #[.slice none 0 0, .int .i64 4]))) := by
  have hc := chk_nat hE hL
  have hz := zc_nat hT.1
  have hdg := hT.dgn (Nat.le_refl L)
  refine (pmul_any hD hs hy).mono ?_
  rintro e w' ⟨hb, hr⟩
  rw [chk2_def, if_pos hc, hz, hdg] at hr
  refine ⟨hb, ?_⟩
  rcases hr with ⟨_, h1, v, rfl, ho⟩ | ⟨_, h1, rfl⟩ | ⟨h1, _⟩
  · have hle := dgn_le (pmul D L c (zc my yz)) (L + dgn (zc my yz) my)
    have hm := (chk_zero h0).1
    have hd := dgn_le (zc my yz) my
    obtain ⟨po, pc, rfl, ha⟩ := ho.arg (by omega)
    exact Or.inl ⟨by omega, po, pc, rfl, ha⟩
  · exact Or.inr ⟨h1, rfl⟩
  · exact absurd h0 h1

set_option maxHeartbeats 8000000 in
set_option maxRecDepth 100000 in
theorem curve_any {D : FD} (hD : D ∈ fieldsL) {ao yo : Option Addr} {m my ca cy : Nat} {A : Nat → Option Addr} {N C : Nat → Nat} {Z : Nat → Nat → Int} {yz : Nat → Int} {w : World} (ha : MatZ ao m A N C Z w) (hy : Arg yo my cy yz w) (h0 : D.chk my yz = 0) (hm : m ≤ 64) :
    Calls Try.prog 26 #[.int .i64 D.q, .slice ao m ca, .slice yo my cy] w fun e w' => Below w.heap.size w w' ∧
      ((cve D (zc my yz) (dgn (zc my yz) my) N Z m m ≠ 0 ∧ e = .returned (.tuple #[.slice none 0 0, .int .i64 (cve D (zc my yz) (dgn (zc my yz) my) N Z m m)])) ∨
       (cve D (zc my yz) (dgn (zc my yz) my) N Z m m = 0 ∧ ∃ v, e = .returned (.tuple #[v, .int .i64 0]) ∧ KI v (zl (cvs D (zc my yz) (dgn (zc my yz) my) N Z m m).1 fun j => (((cvs D (zc my yz) (dgn (zc my yz) my) N Z m m).2 j : Nat) : Int)) w')) := by
  obtain ⟨Y, hY⟩ : ∃ Y, Y = zc my yz := ⟨_, rfl⟩
  obtain ⟨T, hT⟩ : ∃ T, T = dgn Y my := ⟨_, rfl⟩
  rw [← hY, ← hT]
  have HH : Hid (D ∈ fieldsL ∧ MatZ ao m A N C Z w ∧ Arg yo my cy yz w ∧ D.chk my yz = 0 ∧ Y = zc my yz ∧ T = dgn Y my ∧ El D Y ∧ Bd T Y) := ⟨hD, ha, hy, h0, hY, hT, by rw [hY]; exact zc_el (fld hD) h0, by rw [hT]; exact dgn_bd (by rw [hY]; exact zc_bd _ _)⟩
  have HCk : Hid (Calls Try.prog 30 #[.int .i64 D.q, .slice yo my cy] w fun e w' => e = .returned (.int .i64 0) ∧ Below w.heap.size w w') := by
    show Calls _ _ _ _ _
    have h := check_any (cap := cy) hD hy.sl hy.lt hy.few
    rw [h0] at h; exact h
  have hmi : ¬ (64 : Int) < (m : Int) := by omega
  clear hD ha hy h0 hY hT
  go_enter Try.func26, Try.ntmps26
  go_wp2_with fail
  refine HCk.out.mono ?_
  rintro e w1 ⟨rfl, hb1⟩
  have H1 : Hid (Below w.heap.size w w1) := hb1
  clear hb1
  go_wp2_with fail
  go_loopw [9, 10] (fun vs vi wr => ∃ (r j1 : Nat) (so : Option Addr) (sc L : Nat), r + j1 = m ∧ vs = .slice so L sc ∧ ((j1 = 0 ∧ vi = .int .i64 (-1)) ∨ ∃ j : Nat, j1 = j + 1 ∧ vi = .int .i64 (j : Nat)) ∧ Hid (cve D Y T N Z m r = 0 ∧ L = (cvs D Y T N Z m r).1 ∧ Arg so L sc (fun j => (((cvs D Y T N Z m r).2 j : Nat) : Int)) wr ∧ Below w.heap.size w wr)) (fun _ vi _ => (intOf vi + 1).toNat)
  case atStart =>
    by_cases hm0 : m = 0
    · exact ⟨0, 0, none, 0, 0, by omega, rfl, Or.inl ⟨rfl, by rw [hm0]; rfl⟩, rfl, rfl, arg_nil _ _, H1.out⟩
    · exact ⟨0, m, none, 0, 0, by omega, rfl, Or.inr ⟨m - 1, by omega, by go_num⟩, rfl, rfl, arg_nil _ _, H1.out⟩
  case round =>
    obtain ⟨r, j1, so, sc, L, hrj, rfl, hvi, HG⟩ := hrel
    rename World => wA
    rcases hvi with ⟨hj0, rfl⟩ | ⟨j, hj, rfl⟩
    · have hre : m = r := by omega
      subst hre
      have HE : Hid (KI (.slice so L sc) (zl L fun j => (((cvs D Y T N Z m m).2 j : Nat) : Int)) wA) := by
        refine ⟨arg_sliceI HG.out.2.2.1 (Nat.le_refl _), fun k hk => ?_⟩
        cases so with
        | none => cases hk
        | some x => cases hk; exact HG.out.2.2.1.lt x rfl
      have HL : Hid (L = (cvs D Y T N Z m m).1) := HG.out.2.1
      go_wp2
      go_ret2
      refine ⟨HG.out.2.2.2, Or.inr ⟨HG.out.1, _, rfl, ?_⟩⟩
      rw [← HL.out]; exact HE.out
    · have hjm : j < m := by omega
      have hjr : m - 1 - r = j := by omega
      have hji : (j : Int) < (m : Int) := by omega
      have hj0 : (0 : Int) ≤ (j : Int) := by omega
      have hrm : r < m := by omega
      have hst := cvs_ok HH.out.1 HH.out.2.2.2.2.2.2.1 HH.out.2.2.2.2.2.2.2 r HG.out.1
      obtain ⟨c, hc⟩ : ∃ c, c = (cvs D Y T N Z m r).2 := ⟨_, rfl⟩
      have HS : Hid (El D c ∧ Trd L c ∧ L ≤ 128 ∧ Arg so L sc (fun j => ((c j : Nat) : Int)) wA ∧ L = (cvs D Y T N Z m r).1 ∧ c = (cvs D Y T N Z m r).2) := by
        rw [hc, HG.out.2.1]
        exact ⟨hst.1, hst.2.1, hst.2.2, by rw [← HG.out.2.1]; exact HG.out.2.2.1, rfl, rfl⟩
      have HB : Hid (Below w.heap.size w wA ∧ cve D Y T N Z m r = 0) := ⟨HG.out.2.2.2, HG.out.1⟩
      clear hst hc HG
      obtain ⟨lp, hlp⟩ : ∃ lp, lp = dgn (pmul D L c Y) (L + T) := ⟨_, rfl⟩
      have HM : Hid (Calls Try.prog 59 #[.int .i64 D.q, .slice so L sc, .slice yo my cy] wA fun e w' => Below wA.heap.size wA w' ∧ ((¬ 129 < L + T ∧ ∃ po pc, e = .returned (.tuple #[.slice po lp pc, .int .i64 0]) ∧ Arg po lp pc (fun j => ((pmul D L c Y j : Nat) : Int)) w') ∨ (129 < L + T ∧ e = .returned (.tuple #[.slice none 0 0, .int .i64 4])))) := by
        show Calls _ _ _ _ _
        have h := pmulN_any HH.out.1 HS.out.2.2.2.1 (HH.out.2.2.1.below HB.out.1) HS.out.1 HS.out.2.1 HS.out.2.2.1 HH.out.2.2.2.1
        rw [← HH.out.2.2.2.2.1, ← HH.out.2.2.2.2.2.1, ← hlp] at h
        exact h
      have HLp : Hid (lp = dgn (pmul D L c Y) (L + T)) := hlp
      clear hlp
      go_wp2_with fail
      refine HM.out.mono ?_
      rintro e w2 ⟨hb2, hr⟩
      rcases hr with ⟨h129, po, pc, rfl, hpa⟩ | ⟨h129, rfl⟩
      · have H2 : Hid (Below w.heap.size w w2 ∧ Arg po lp pc (fun j => ((pmul D L c Y j : Nat) : Int)) w2 ∧ El D (pmul D L c Y) ∧ Bd lp (pmul D L c Y) ∧ lp ≤ 128 ∧ ¬ 129 < L + T) := by
          refine ⟨bel_up' HB.out.1 hb2, hpa, el_mul (fld HH.out.1) _ _ _, ?_, ?_, h129⟩
          · rw [HLp.out]
            exact dgn_bd ((pmul_bd (fld HH.out.1) HH.out.2.2.2.2.2.2.2 _).mono (by omega))
          · rw [HLp.out, pmul_len HH.out.1 HS.out.1 HH.out.2.2.2.2.2.2.1 HS.out.2.1.1 HH.out.2.2.2.2.2.2.2]
            have b1 := dgn_le c L
            have b2 := dgn_le Y T
            have b3 := HS.out.2.2.1
            split <;> omega
        clear hb2 hpa h129
        obtain ⟨bA, oA, eA, hcA⟩ := (HH.out.2.1.below H2.out.1).cell j hjm
        subst eA
        obtain ⟨e, he⟩ : ∃ e, e = D.chk (N j) (Z j) := ⟨_, rfl⟩
        have HA : Hid (Calls Try.prog 60 #[.int .i64 D.q, .slice po lp pc, .slice (A j) (N j) (C j)] w2 fun x w' => Below w2.heap.size w2 w' ∧ ((e = 0 ∧ ∃ v, x = .returned (.tuple #[v, .int .i64 0]) ∧ OwnP w2.heap.size v (dgn (padd D (pmul D L c Y) (zc (N j) (Z j))) (max lp (N j))) (padd D (pmul D L c Y) (zc (N j) (Z j))) w') ∨ (e ≠ 0 ∧ x = .returned (.tuple #[.slice none 0 0, .int .i64 e])))) := by
          show Calls _ _ _ _ _
          rw [he]
          exact cadd_any HH.out.1 (HH.out.2.1.below H2.out.1) hjm H2.out.2.1 H2.out.2.2.1 H2.out.2.2.2.1 H2.out.2.2.2.2.1
        have HEr : Hid (cve D Y T N Z m (r + 1) = e) := by
          show cve D Y T N Z m (r + 1) = e
          rw [cve, if_neg (fun hn => hn HB.out.2), ← HS.out.2.2.2.2.1, if_neg H2.out.2.2.2.2.2, hjr, he]
        have HSt : Hid (cvs D Y T N Z m (r + 1) = (dgn (padd D (pmul D L c Y) (zc (N j) (Z j))) (max lp (N j)), padd D (pmul D L c Y) (zc (N j) (Z j)))) := by
          show cvs D Y T N Z m (r + 1) = _
          rw [cvs, ← HS.out.2.2.2.2.1, ← HS.out.2.2.2.2.2, hjr, ← HLp.out]
        clear he
        go_wp2_with fail
        refine HA.out.mono ?_
        rintro x w3 ⟨hb3, hr3⟩
        rcases hr3 with ⟨h0, v, rfl, ho⟩ | ⟨h0, rfl⟩
        · have hokr : cve D Y T N Z m (r + 1) = 0 := by rw [HEr.out, h0]
          have hst := cvs_ok HH.out.1 HH.out.2.2.2.2.2.2.1 HH.out.2.2.2.2.2.2.2 (r + 1) hokr
          rw [HSt.out] at hst
          obtain ⟨so', sc', rfl, ha'⟩ := ho.arg (by have h := hst.2.2; show dgn _ _ ≤ 1000000; omega)
          obtain ⟨L', hL'⟩ : ∃ L', L' = dgn (padd D (pmul D L c Y) (zc (N j) (Z j))) (max lp (N j)) := ⟨_, rfl⟩
          rw [← hL'] at ha' ⊢
          have HR : Hid (cve D Y T N Z m (r + 1) = 0 ∧ L' = (cvs D Y T N Z m (r + 1)).1 ∧ Arg so' L' sc' (fun j => (((cvs D Y T N Z m (r + 1)).2 j : Nat) : Int)) w3 ∧ Below w.heap.size w w3) := by
            rw [HSt.out]
            exact ⟨hokr, hL', ha', bel_up' H2.out.1 hb3⟩
          clear hokr hst ho ha' hL' hb3 h0
          go_wp2
          go_roundw
          case rel =>
            by_cases hj00 : j = 0
            · exact ⟨r + 1, 0, so', sc', L', by omega, rfl, Or.inl ⟨rfl, by rw [hj00]; rfl⟩, HR.out⟩
            · exact ⟨r + 1, j, so', sc', L', by omega, rfl, Or.inr ⟨j - 1, by omega, by go_num⟩, HR.out⟩
          case measure => first | (simp [intOf]; done) | (simp [intOf]; omega)
        · have HR : Hid (cve D Y T N Z m m = e ∧ e ≠ 0 ∧ Below w.heap.size w w3) := ⟨cve_to h0 hrm HEr.out, h0, bel_up' H2.out.1 hb3⟩
          have hz : (e != 0) = true := by rw [bne_iff_ne]; exact h0
          clear hb3 h0
          go_wp2
          go_ret2
          exact ⟨HR.out.2.2, Or.inl ⟨by rw [HR.out.1]; exact HR.out.2.1, by rw [HR.out.1]; rfl⟩⟩
      · have HR : Hid (cve D Y T N Z m m = 4 ∧ Below w.heap.size w w2) := by
          refine ⟨cve_to (by omega) hrm ?_, bel_up' HB.out.1 hb2⟩
          rw [cve, if_neg (fun hn => hn HB.out.2), ← HS.out.2.2.2.2.1, if_pos h129]
        clear hb2 h129
        go_wp2
        go_ret2
        exact ⟨HR.out.2, Or.inl ⟨by rw [HR.out.1]; omega, by rw [HR.out.1]; rfl⟩⟩
end Go.Proofs.Ytpccbiinfdppnad
