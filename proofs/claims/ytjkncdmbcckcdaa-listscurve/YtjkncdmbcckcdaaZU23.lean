/- The program's polynomials: a sum with an empty list, wherever that lies. -/
import Derived.Test.YtjkncdmbcckcdaaZL10
namespace Go.Proofs.Ytjkncdmbcckcdaa
open Go.RowKit Go.Sort

theorem chk_nil (D : FD) (z : Nat → Int) : D.chk 0 z = 0 := by
  unfold FD.chk
  rw [if_neg (by omega)]; rfl
set_option maxHeartbeats 2000000 in
set_option maxRecDepth 100000 in
theorem check_nil {D : FD} (hD : D ∈ fieldsL) (ao : Option Addr) (cap : Nat) (w : World) :
    Calls Try.prog 63 #[.int .i64 D.q, .slice ao 0 cap] w fun e w' => e = .returned (.int .i64 0) ∧ Below w.heap.size w w' := by
  have HS : Hid (D ∈ fieldsL) := hD
  clear hD
  go_enter Try.func63, Try.ntmps63
  go_wp2_with fail
  refine (new_any HS.out w).mono ?_
  rintro e w1 ⟨F, T, g, rfl, hat, hF, hT, hb1⟩
  have HA : Hid (Below w.heap.size w w1) := hb1
  clear hat hF hT hb1
  go_wp2
  refine wp_loop_rounds 1 ?_
  rw [rounds_succ]
  go_wp2
  go_ret
  exact ⟨rfl, HA.out⟩

set_option maxHeartbeats 4000000 in
set_option maxRecDepth 100000 in
theorem over_nil {D : FD} (hD : D ∈ fieldsL) {ao bo : Option Addr} {n ca cb : Nat} {z : Nat → Int} {w : World} (ha : Arg ao n ca z w) (h0 : D.chk n z = 0) :
    Calls Try.prog 103 #[.int .i64 D.q, .slice (some ⟨w.heap.size, 0, none⟩) 2 2] (w.alloc (.cells #[.slice ao n ca, .slice bo 0 cb] 22)) fun e w' => Below w.heap.size w w' ∧
      ∃ F T f, e = .returned (.tuple #[.pointer (some ⟨F, 0, none⟩), .int .i64 0]) ∧ FAt F T D f w' ∧ w.heap.size ≤ F ∧ w.heap.size ≤ T := by
  have hbl : Below w.heap.size w (w.alloc (.cells #[.slice ao n ca, .slice bo 0 cb] 22)) := (Below.refl _ _).alloc (Nat.le_refl _) _
  obtain ⟨wa, hwa⟩ : ∃ wa, wa = w.alloc (.cells #[.slice ao n ca, .slice bo 0 cb] 22) := ⟨_, rfl⟩
  have c0 : wa.cell? ⟨w.heap.size, 0, none⟩ = some (.slice ao n ca) := by rw [hwa, cell_of_row _ _ _ _ _ (0, 0) (two_new _)]; rfl
  have c1 : wa.cell? ⟨w.heap.size, 1, none⟩ = some (.slice bo 0 cb) := by rw [hwa, cell_of_row _ _ _ _ _ (0, 0) (two_new _)]; rfl
  have hsa : wa.heap.size = w.heap.size + 1 := by rw [hwa]; simp
  rw [← hwa] at hbl ⊢
  have HS : Hid (D ∈ fieldsL ∧ Arg ao n ca z wa ∧ D.chk n z = 0 ∧ Below w.heap.size w wa) := ⟨hD, ha.below hbl, h0, hbl⟩
  have HC : Hid (∀ wx, Below wa.heap.size wa wx → wx.cell? ⟨w.heap.size, 1, none⟩ = some (.slice bo 0 cb)) := fun wx hx => ((bcell hx).1 _ _ (by omega)).trans c1
  have HK : Hid (Calls Try.prog 63 #[.int .i64 D.q, .slice ao n ca] wa fun e w' => e = .returned (.int .i64 0) ∧ Below wa.heap.size wa w') := by
    show Calls _ _ _ _ _
    have h := check_any (cap := ca) HS.out.1 HS.out.2.1.sl HS.out.2.1.lt HS.out.2.1.few
    rw [HS.out.2.2.1] at h; exact h
  clear hD ha h0 hwa hbl c1
  obtain ⟨G, hG⟩ : ∃ G, G = w.heap.size := ⟨_, rfl⟩
  rw [← hG] at c0 HC ⊢
  have HG : Hid (G = w.heap.size) := hG
  clear hG
  go_enter Try.func103, Try.ntmps103
  go_wp2
  refine wp_loop_rounds 3 ?_
  rw [rounds_succ]
  go_wp2_with fail
  refine HK.out.mono ?_
  rintro e w1 ⟨rfl, hb1⟩
  have hc1 := HC.out w1 hb1
  have H1 : Hid (Below wa.heap.size wa w1) := hb1
  clear hb1 c0
  go_wp2_with fail
  rw [rounds_succ]
  go_wp2_with fail
  refine (check_nil HS.out.1 _ _ _).mono ?_
  rintro e w2 ⟨rfl, hb2⟩
  have H2 : Hid (Below wa.heap.size wa w2) := bel_up' H1.out hb2
  clear hb2 hc1
  go_wp2_with fail
  rw [rounds_succ]
  go_wp2_with fail
  refine (new_any HS.out.1 w2).mono ?_
  rintro x w3 ⟨F, T, f, rfl, hat, hF, hT, hb3⟩
  have HA : Hid (FAt F T D f w3 ∧ w.heap.size ≤ F ∧ w.heap.size ≤ T ∧ Below w.heap.size w w3) := by
    have hs := H2.out.size
    exact ⟨hat, by omega, by omega, bel_up' HS.out.2.2.2 (bel_up' H2.out hb3)⟩
  clear hat hF hT hb3
  go_wp2
  go_ret2
  rw [HG.out]
  exact ⟨HA.out.2.2.2, F, T, f, rfl, HA.out.1, HA.out.2.1, HA.out.2.2.1⟩

set_option maxHeartbeats 4000000 in
set_option maxRecDepth 100000 in
theorem psum_nil {F T : Nat} {D : FD} (hD : D ∈ fieldsL) {w : World} {ao bo : Option Addr} {n ca cb : Nat} {a : Nat → Nat} (hn : n ≤ 1000) (ha : El D a) (hbn : Bd n a) (hA : Sl ao n a w) (hla : LtB ao w.heap.size) :
    Calls Try.prog 106 #[.pointer (some ⟨F, T, none⟩), .slice ao n ca, .slice bo 0 cb] w fun e w' =>
      ∃ v, e = .returned v ∧ OwnP w.heap.size v (dgn a n) a w' ∧ Below w.heap.size w w' := by
  have HF : Hid (D ∈ fieldsL ∧ Sl ao n a w ∧ El D a ∧ Bd n a ∧ LtB ao w.heap.size) := ⟨hD, hA, ha, hbn, hla⟩
  have hmax : (if (n : Int) < ((0 : Nat) : Int) then ((0 : Nat) : Int) else (n : Int)) = (n : Int) := by split <;> omega
  have hn0 : ¬ (n : Int) < 0 := by omega
  clear hD hA ha hbn hla
  go_enter Try.func106, Try.ntmps106
  go_wp2_with (first
    | (at_make; refine make_int rfl _ _ rfl _ n rfl rfl (by omega) (by omega) ?_; intro w1 hown1 hgrow1)
    | (show wpList _ _ _ (Oper.mk (some 18) _ _ _ _ _ :: _) _ _; (refine copy_int rfl _ _ rfl w.heap.size n n n ca ao rfl rfl pnil a (row_zeros hown1) (HF.out.2.1.below (below_grown hgrow1 (Nat.le_refl _) (fun k hk => by simp at hk)) HF.out.2.2.2.2) (Nat.le_refl _) w.heap.size w (below_grown hgrow1 (Nat.le_refl _) (fun k hk => by simp at hk)) (Nat.le_refl _) ?_); intro w2 hrow2 hb2))
  all_goals
    have HB1 : Hid (Below w.heap.size w w2 ∧ Row w.heap.size n a w2) := ⟨hb2, hrow2.congr (fun k hk => by show (if k < n then a k else pnil k) = a k; rw [if_pos hk])⟩
    clear hown1 hgrow1 hb2 hrow2
    refine wp_loop_rounds 1 ?_
    rw [rounds_succ]
    go_wp2_with fail
    refine (trim_any (HB1.out.2.sl (Nat.le_refl _)) (Nat.le_refl _) (by omega)).mono ?_
    rintro e w' ⟨rfl, k, rfl⟩
    go_wp2
    go_ret
    exact ⟨_, rfl, OwnP.of_row (HB1.out.2.drewN k) (dgn_le _ _) (dgn_le _ _) (by omega) (Nat.le_refl _), below_drewN2 HB1.out.1 _⟩

set_option maxHeartbeats 2000000 in
set_option maxRecDepth 100000 in
/-- A sum with an empty list, wherever that lies. -/
theorem padd_nil0 {D : FD} (hD : D ∈ fieldsL) {ao bo : Option Addr} {n ca cb : Nat} {z : Nat → Int} {w : World} (ha : Arg ao n ca z w) (h0 : D.chk n z = 0) :
    Calls Try.prog 65 #[.int .i64 D.q, .slice ao n ca, .slice bo 0 cb] w fun e w' => Below w.heap.size w w' ∧
      ∃ v, e = .returned (.tuple #[v, .int .i64 0]) ∧ OwnP w.heap.size v (dgn (zc n z) n) (zc n z) w' := by
  have HA : Hid (Arg ao n ca z w ∧ D.chk n z = 0 ∧ D ∈ fieldsL) := ⟨ha, h0, hD⟩
  clear ha h0 hD
  go_enter Try.func65, Try.ntmps65
  go_wp2_with fail
  refine (over_nil HA.out.2.2 HA.out.1 HA.out.2.1).mono ?_
  rintro e w1 ⟨hb1, F, T, f, rfl, hat, hF, hT⟩
  have HW : Hid (Below w.heap.size w w1) := hb1
  clear hat hF hT hb1
  go_wp2_with fail
  have a1 := HA.out.1.below HW.out
  refine (psum_nil HA.out.2.2 (by have := (chk_zero HA.out.2.1).1; omega) (zc_el (fld HA.out.2.2) HA.out.2.1) (zc_bd _ _) (zc_sl HA.out.2.1 a1.sl) a1.lt).mono ?_
  rintro e w2 ⟨v, rfl, hown, hb2⟩
  have hs := HW.out.size
  have HR : Hid (OwnP w.heap.size v (dgn (zc n z) n) (zc n z) w2 ∧ Below w.heap.size w w2) := ⟨hown.mono hs, bel_up HW.out hb2⟩
  clear hown hb2 a1
  go_wp2
  go_ret2
  exact ⟨HR.out.2, v, rfl, HR.out.1⟩

set_option maxHeartbeats 2000000 in
set_option maxRecDepth 100000 in
theorem polyMay_nil {D : FD} (hD : D ∈ fieldsL) (ao : Option Addr) (cap : Nat) (w : World) :
    Calls Try.prog 66 #[.int .i64 D.q, .slice ao 0 cap] w fun e w' => e = .returned (.int .i64 0) ∧ Below w.heap.size w w' := by
  have HS : Hid (D ∈ fieldsL) := hD
  clear hD
  go_enter Try.func66, Try.ntmps66
  go_wp2_with fail
  refine (rfield_sl HS.out w).mono ?_
  rintro e w1 ⟨gm, cm, rfl, _, hb1⟩
  have HA : Hid (Below w.heap.size w (w1.alloc (.cells #[.int .i64 D.q, .int .i64 D.p, .int .i64 D.m, .int .i64 D.gen, .slice (some ⟨gm, 0, none⟩) (D.m + 1) cm] 27))) := hb1.alloc hb1.size _
  clear hb1
  unfold rf
  go_wp2
  refine wp_loop_rounds 1 ?_
  rw [rounds_succ]
  go_wp2
  go_ret
  exact ⟨rfl, HA.out⟩

set_option maxHeartbeats 4000000 in
set_option maxRecDepth 100000 in
theorem rpadd_nil {D : FD} (hD : D ∈ fieldsL) (gen gm cm : Nat) {ao bo : Option Addr} {n ca cb : Nat} {a : Nat → Nat} {w : World} (hn : n ≤ 1000) (ha : El D a) (hA : Sl ao n a w) (hla : LtB ao w.heap.size) :
    Calls Try.prog 69 #[.agg #[.int .i64 D.q, .int .i64 D.p, .int .i64 D.m, .int .i64 gen, .slice (some ⟨gm, 0, none⟩) (D.m + 1) cm], .slice ao n ca, .slice bo 0 cb] w fun e w' => ∃ v, e = .returned v ∧ OwnP w.heap.size v (dgn a n) a w' ∧ Below w.heap.size w w' := by
  have HF : Hid (D ∈ fieldsL ∧ Sl ao n a w ∧ El D a ∧ LtB ao w.heap.size) := ⟨hD, hA, ha, hla⟩
  clear hD hA ha hla
  have HB0 : Hid (Box w.heap.size D gen (.slice (some ⟨gm, 0, none⟩) (D.m + 1) cm) (w.alloc (.cells #[.int .i64 D.q, .int .i64 D.p, .int .i64 D.m, .int .i64 gen, .slice (some ⟨gm, 0, none⟩) (D.m + 1) cm] 27))) := box_new D gen _ w
  go_enter Try.func69, Try.ntmps69
  go_wp2
  go_loopw [7, 8] (fun vl i wr => ∃ r : Nat, r ≤ n ∧ i = .int .i64 r ∧ OwnI (w.heap.size + 1) vl (NL r a) wr ∧ Box w.heap.size D gen (.slice (some ⟨gm, 0, none⟩) (D.m + 1) cm) wr ∧ Below w.heap.size w wr ∧ w.heap.size < wr.heap.size) (fun _ i _ => n - (intOf i).toNat)
  case atStart => exact ⟨0, by omega, rfl, OwnI.nil _ _, HB0.out, (Below.refl _ _).alloc (Nat.le_refl _) _, by simp⟩
  case round =>
    obtain ⟨r, hr, rfl, hown, hbox, hbel, hlt1⟩ := hrel
    rename World => wr
    obtain ⟨c0, c1, c2, c3, c4⟩ := hbox
    have HG : Hid (OwnI (w.heap.size + 1) u7 (NL r a) wr ∧ Box w.heap.size D gen (.slice (some ⟨gm, 0, none⟩) (D.m + 1) cm) wr ∧ Below w.heap.size w wr) := ⟨hown, ⟨c0, c1, c2, c3, c4⟩, hbel⟩
    clear hown hbel
    have HC : Hid (∀ w3 : World, Calls Try.prog 107 #[.agg #[.int .i64 D.q, .int .i64 D.p, .int .i64 D.m, .int .i64 gen, .slice (some ⟨gm, 0, none⟩) (D.m + 1) cm], .int .i64 (a r : Nat), .int .i64 0] w3 fun e w' => e = .returned (.int .i64 (a r : Nat)) ∧ Below w3.heap.size w3 w') :=
      fun w3 => by
        have h := radd_nat HF.out.1 gen (.slice (some ⟨gm, 0, none⟩) (D.m + 1) cm) (a r) 0 (HF.out.2.2.1 r) (zero_lt' (fld HF.out.1)) w3
        rw [show sumD D.p D.q (a r) 0 = a r from ad_zero (fld HF.out.1) (HF.out.2.2.1 r)] at h
        exact h
    by_cases h1 : r < n
    · have hib : (r : Int) < (n : Int) := by omega
      have hib0 : (0 : Int) ≤ (r : Int) := by omega
      obtain ⟨ba, offa, rfl, hca⟩ := (HF.out.2.1.below HG.out.2.2 HF.out.2.2.2) r h1
      go_wp2_with (first
        | (go_at_call 107; refine (HC.out _).mono ?_; rintro e w2 ⟨rfl, hb2⟩; have hs2 := hb2.size; have HG2 : Hid (OwnI (w.heap.size + 1) u7 (NL r a) w2 ∧ Box w.heap.size D gen (.slice (some ⟨gm, 0, none⟩) (D.m + 1) cm) w2 ∧ Below w.heap.size w w2) := ⟨HG.out.1.below hb2 (fun k hk => (HG.out.1.lt k hk).2), HG.out.2.1.below hb2 hlt1, bel_up' HG.out.2.2 hb2⟩)
        | (at_builtin; refine append_int rfl _ _ rfl (w.heap.size + 1) _ (NL r a) rfl (HG2.out.1.alloc _) ⟨_, 0, none⟩ 1 (a r : Nat) rfl (by simp) (by rw [NL_len]; omega) (by simp; omega) ?_; intro v3 w3 hown3 hgrow3))
      have HE : Hid (OwnI (w.heap.size + 1) v3 (NL (r + 1) a) w3 ∧ Box w.heap.size D gen (.slice (some ⟨gm, 0, none⟩) (D.m + 1) cm) w3 ∧ Below w.heap.size w w3 ∧ w.heap.size < w3.heap.size) := by
        have hb3 : Below (w.heap.size + 1) w2 w3 := ((Below.refl _ _).alloc (by omega) _).grown hgrow3 (by simp; omega) (fun k hk => (HG2.out.1.lt k hk).1)
        refine ⟨by rw [NL_succ]; exact hown3, HG2.out.2.1.below (B := w.heap.size + 1) hb3 (by omega), HG2.out.2.2.trans (hb3.mono (by omega)), by have := hb3.size; omega⟩
      clear hown3 hgrow3
      go_roundw
      case rel => exact ⟨r + 1, by omega, by go_num, HE.out⟩
      case measure => simp [intOf]; omega
    · have hre : n = r := by omega
      subst hre
      have hib : ¬ (n : Int) < (n : Int) := by omega
      have hib2 : ¬ (n : Int) < 0 := by omega
      have HO : Hid (OwnP (w.heap.size + 1) u7 n a wr) := HG.out.1.ownP
      obtain ⟨lo, lc, hlv, h3, h4, _, h6, h7, h8⟩ := HO.out.open
      subst hlv
      have HT : Hid (Calls Try.prog 67 #[.slice lo n lc] wr fun e w' => ∃ v, e = .returned v ∧ OwnP wr.heap.size v (dgn a n) a w' ∧ Below wr.heap.size wr w') := rtrim_any h8 h3 h4 h7 h6 (by omega)
      clear h3 h4 h6 h7 h8
      go_wp2_with fail
      refine HT.out.mono ?_
      rintro e w2 ⟨v, rfl, hown, hb2⟩
      have HR : Hid (OwnP w.heap.size v (dgn a n) a w2 ∧ Below w.heap.size w w2) := ⟨hown.mono (by omega), bel_up' HG.out.2.2 hb2⟩
      clear hown hb2
      go_wp2
      go_ret
      exact ⟨v, rfl, HR.out.1, HR.out.2⟩
end Go.Proofs.Ytjkncdmbcckcdaa
