/- ReedSays: whatever it is given. -/
import Derived.Test.YtnjbnamcedfjaaaGreatZKD18
import Derived.Test.YtnjbnamcedfjaaaGreatZX19
namespace Go.Proofs.YtnjbnamcedfjaaaGreat
open Go.RowKit Go.Sort

/-- What Encode tells. -/
def EnP (E : Int) (L : List Int) (w : World) (x : Ending) (w' : World) : Prop := Below w.heap.size w w' ∧ ∃ vo vn vc, x = .returned (.tuple #[.slice vo vn vc, .int .i64 E]) ∧ ((E ≠ 0 ∧ vn = 0) ∨ (E = 0 ∧ SliceI (.slice vo vn vc) L w'))

set_option maxHeartbeats 8000000 in
set_option maxRecDepth 100000 in
theorem reedSays_gen (q k e1 ew e3 E : Int) (L : List Int) {xo ao yo : Option Addr} {n cx l ca m cy : Nat} {w : World} (hlen : n + l + m ≤ 300)
    (h1 : ∀ wx, Below w.heap.size w wx → Calls Tryz.prog 17 #[.int .i64 q, .slice xo n cx, .int .i64 k] wx fun x w' => x = .returned (.int .i64 e1) ∧ Below wx.heap.size wx w')
    (h2 : ∀ wx, Below w.heap.size w wx → Calls Tryz.prog 18 #[.int .i64 q, .slice xo n cx, .int .i64 k] wx fun x w' => x = .returned (.int .i64 e1) ∧ Below wx.heap.size wx w')
    (h3 : ∀ wx, Below w.heap.size w wx → Calls Tryz.prog 19 #[.int .i64 q, .slice xo n cx, .int .i64 k, .slice yo m cy] wx fun x w' => x = .returned (.int .i64 ew) ∧ Below wx.heap.size wx w')
    (h4 : ∀ wx, Below w.heap.size w wx → Calls Tryz.prog 20 #[.int .i64 q, .slice xo n cx, .int .i64 k, .slice yo m cy] wx fun x w' => x = .returned (.int .i64 ew) ∧ Below wx.heap.size wx w')
    (h5 : ∀ wx, Below w.heap.size w wx → Calls Tryz.prog 18 #[.int .i64 q, .slice xo n cx, .int .i64 (l : Nat)] wx fun x w' => x = .returned (.int .i64 e3) ∧ Below wx.heap.size wx w')
    (h6 : e3 = 0 → ∀ wx, Below w.heap.size w wx → Calls Tryz.prog 21 #[.int .i64 q, .slice ao l ca] wx fun x w' => x = .returned (.int .i64 E) ∧ Below wx.heap.size wx w') (h6' : e3 ≠ 0 → E = e3)
    (h7 : ∀ wx, Below w.heap.size w wx → Calls Tryz.prog 8 #[.int .i64 q] wx fun x w' => ∃ a b c d so sn sc e0, x = .returned (.tuple #[.agg #[.int .i64 a, .int .i64 b, .int .i64 c, .int .i64 d, .slice so sn sc], .int .i64 e0]) ∧ Below wx.heap.size wx w' ∧ (E = 0 → ∀ wy, Below w'.heap.size w' wy → Calls Tryz.prog 9 #[.agg #[.int .i64 a, .int .i64 b, .int .i64 c, .int .i64 d, .slice so sn sc], .slice xo n cx, .slice ao l ca] wy fun x w'' => ∃ vo vn vc, x = .returned (.slice vo vn vc) ∧ KI (.slice vo vn vc) L w'' ∧ Below wy.heap.size wy w''))
    (h8 : ∀ wx, Below w.heap.size w wx → Calls Tryz.prog 22 #[.int .i64 q, .slice xo n cx, .slice ao l ca] wx (EnP E L wx))
    (h9 : ∀ wx, Below w.heap.size w wx → Calls Tryz.prog 24 #[.int .i64 q, .slice xo n cx, .int .i64 k, .slice yo m cy] wx fun x w' => x = .returned (.bool true) ∧ Below wx.heap.size wx w') :
    Calls Tryz.prog 11 #[.int .i64 q, .slice xo n cx, .int .i64 k, .slice ao l ca, .slice yo m cy] w fun x w' => x = .returned (.bool true) ∧ Below w.heap.size w w' := by
  obtain ⟨N1, hN1⟩ : ∃ N1, N1 = n + l := ⟨_, rfl⟩
  obtain ⟨N, hN⟩ : ∃ N, N = N1 + m := ⟨_, rfl⟩
  have g1 : IntKind.i64.wrap ((n : Int) + (l : Int)) = (N1 : Int) := wrap_to (by omega) (by omega)
  have g2 : IntKind.i64.wrap ((N1 : Int) + (m : Int)) = (N : Int) := wrap_to (by omega) (by omega)
  have g3 : ¬ (300 : Int) < (N : Int) := by omega
  have H1 : Hid _ := h1
  have H2 : Hid _ := h2
  have H3 : Hid _ := h3
  have H4 : Hid _ := h4
  have H5 : Hid _ := h5
  have H6 : Hid _ := h6
  have H6' : Hid (e3 ≠ 0 → E = e3) := h6'
  have H7 : Hid _ := h7
  have H8 : Hid _ := h8
  have H9 : Hid _ := h9
  have z1 : (e1 != e1) = false := by simp
  have zw : (ew != ew) = false := by simp
  clear hN1 hN h1 h2 h3 h4 h5 h6 h6' h7 h8 h9
  go_enter Tryz.func11, Tryz.ntmps11
  go_wp2_with fail
  refine (H1.out w (Below.refl _ _)).mono ?_
  rintro x w1 ⟨rfl, hb1⟩
  have B1 : Hid (Below w.heap.size w w1) := hb1
  clear hb1
  go_wp2_with fail
  refine (H2.out w1 B1.out).mono ?_
  rintro x w2 ⟨rfl, hb2⟩
  have B2 : Hid (Below w.heap.size w w2) := bel_up' B1.out hb2
  clear hb2
  go_wp2_with fail
  refine (H3.out w2 B2.out).mono ?_
  rintro x w3 ⟨rfl, hb3⟩
  have B3 : Hid (Below w.heap.size w w3) := bel_up' B2.out hb3
  clear hb3
  go_wp2_with fail
  refine (H4.out w3 B3.out).mono ?_
  rintro x w4 ⟨rfl, hb4⟩
  have B4 : Hid (Below w.heap.size w w4) := bel_up' B3.out hb4
  clear hb4
  go_wp2_with fail
  refine (H5.out w4 B4.out).mono ?_
  rintro x w5 ⟨rfl, hb5⟩
  have B5 : Hid (Below w.heap.size w w5) := bel_up' B4.out hb5
  clear hb5
  go_upto_if 54 with fail
  go_cut [11] (fun ve wx => ve = .int .i64 E ∧ Hid (Below w.heap.size w wx))
  case first =>
    by_cases h0 : e3 = 0
    · have z3 : (e3 == 0) = true := by rw [h0]; rfl
      have HP : Hid (∀ wx, Below w.heap.size w wx → Calls Tryz.prog 21 #[.int .i64 q, .slice ao l ca] wx fun x w' => x = .returned (.int .i64 E) ∧ Below wx.heap.size wx w') := H6.out h0
      clear h0
      go_wp2_with fail
      refine (HP.out w5 B5.out).mono ?_
      rintro x w6 ⟨rfl, hb6⟩
      have B6 : Hid (Below w.heap.size w w6) := bel_up' B5.out hb6
      clear hb6
      go_wp2
      go_meet
      case rel => exact ⟨rfl, B6.out⟩
    · have z3 : (e3 == 0) = false := beq_eq_false_iff_ne.2 h0
      have HE : Hid (E = e3) := H6'.out h0
      clear h0
      go_wp2
      go_meet
      case rel => exact ⟨by rw [HE.out], B5.out⟩
  case rest =>
  obtain ⟨hve, HB⟩ := hcut
  subst hve
  rename World => w6
  go_wp2_with fail
  refine (H7.out w6 HB.out).mono ?_
  rintro x w7 ⟨a, b, c, d, so, sn, sc, e0, rfl, hb7, hV⟩
  obtain ⟨w8, hw8⟩ : ∃ w8, w8 = w7.alloc (.cells #[.int .i64 a, .int .i64 b, .int .i64 c, .int .i64 d, .slice so sn sc] 28) := ⟨_, rfl⟩
  have hb8 : Below w7.heap.size w7 w8 := by rw [hw8]; exact (Below.refl _ _).alloc (Nat.le_refl _) _
  have B8 : Hid (Below w.heap.size w w8) := bel_up' (bel_up' HB.out hb7) hb8
  by_cases hE : E = 0
  · have zE : (E == 0) = true := by rw [hE]; rfl
    have HV : Hid (Calls Tryz.prog 9 #[.agg #[.int .i64 a, .int .i64 b, .int .i64 c, .int .i64 d, .slice so sn sc], .slice xo n cx, .slice ao l ca] w8 fun x w'' => ∃ vo vn vc, x = .returned (.slice vo vn vc) ∧ KI (.slice vo vn vc) L w'' ∧ Below w8.heap.size w8 w'') := hV hE w8 hb8
    have HE : Hid (E = 0) := hE
    clear hE hV hb7 hb8
    go_wp2_with fail
    rw [← hw8]
    clear hw8
    refine HV.out.mono ?_
    rintro x w9 ⟨vo, vn, vc, rfl, hk9, hb9⟩
    have B9 : Hid (Below w.heap.size w w9 ∧ KI (.slice vo vn vc) L w9) := ⟨bel_up' B8.out hb9, hk9⟩
    clear hk9 hb9
    go_wp2_with fail
    refine (H8.out w9 B9.out.1).mono ?_
    rintro x w10 ⟨hb10, eo, en, ec, rfl, hres⟩
    have B10 : Hid (Below w.heap.size w w10 ∧ Calls Tryz.prog 23 #[.slice eo en ec, .int .i64 E, .slice vo vn vc, .int .i64 E] w10 fun r w' => r = .returned (.bool true) ∧ ∃ n, w' = w10.drewN n) := by
      refine ⟨bel_up' B9.out.1 hb10, list_gen ?_⟩
      rcases hres with ⟨h, _⟩ | ⟨h, h2⟩
      · exact absurd HE.out h
      · exact Or.inr ⟨h, L, h2, (B9.out.2.below hb10).1⟩
    clear hb10 hres
    go_wp2_with fail
    refine B10.out.2.mono ?_
    rintro x w11 ⟨rfl, d11, hw11⟩
    have B11 : Hid (Below w.heap.size w w11) := by rw [hw11]; exact below_drewN2 B10.out.1 d11
    clear hw11
    go_wp2_with fail
    refine (H9.out w11 B11.out).mono ?_
    rintro x w12 ⟨rfl, hb12⟩
    have B12 : Hid (Below w.heap.size w w12) := bel_up' B11.out hb12
    clear hb12
    go_wp2
    go_ret
    exact ⟨rfl, B12.out⟩
  · have zE : (E == 0) = false := beq_eq_false_iff_ne.2 hE
    have HE : Hid (E ≠ 0) := hE
    clear hE hV hb7 hb8
    go_wp2_with fail
    rw [← hw8]
    clear hw8
    refine (H8.out w8 B8.out).mono ?_
    rintro x w10 ⟨hb10, eo, en, ec, rfl, hres⟩
    have B10 : Hid (Below w.heap.size w w10 ∧ Calls Tryz.prog 23 #[.slice eo en ec, .int .i64 E, .slice none 0 0, .int .i64 E] w10 fun r w' => r = .returned (.bool true) ∧ ∃ n, w' = w10.drewN n) := by
      refine ⟨bel_up' B8.out hb10, list_gen ?_⟩
      rcases hres with ⟨h, h2⟩ | ⟨h, h2⟩
      · exact Or.inl ⟨h, eo, ec, by rw [h2]⟩
      · exact absurd h HE.out
    clear hb10 hres
    go_wp2_with fail
    refine B10.out.2.mono ?_
    rintro x w11 ⟨rfl, d11, hw11⟩
    have B11 : Hid (Below w.heap.size w w11) := by rw [hw11]; exact below_drewN2 B10.out.1 d11
    clear hw11
    go_wp2_with fail
    refine (H9.out w11 B11.out).mono ?_
    rintro x w12 ⟨rfl, hb12⟩
    have B12 : Hid (Below w.heap.size w w12) := bel_up' B11.out hb12
    clear hb12
    go_wp2
    go_ret
    exact ⟨rfl, B12.out⟩
theorem rchk_fine {D : FD} {n : Nat} {z : Nat → Int} {k : Int} (h : D.rchk n z k = 0) : 1 ≤ n ∧ n ≤ 64 ∧ D.pch z n = 0 ∧ 1 ≤ k ∧ k ≤ (n : Int) := by
  unfold FD.rchk at h
  by_cases h1 : n < 1 ∨ 64 < n
  · rw [if_pos h1] at h; cases h
  · rw [if_neg h1] at h
    by_cases h2 : D.pch z n = 0
    · rw [if_neg (fun x => x h2)] at h
      by_cases h3 : k < 1 ∨ (n : Int) < k
      · rw [if_pos h3] at h; cases h
      · exact ⟨by omega, by omega, h2, by omega, by omega⟩
    · rw [if_pos h2] at h; exact absurd h h2
theorem pch_all {D : FD} {z : Nat → Int} {n : Nat} (h : D.pch z n = 0) : (∀ i, i < n → D.has (z i) = true) ∧ ∀ i j, i < n → j < n → i ≠ j → z i ≠ z j := by
  have key : ∀ r, r < n → D.has (z r) = true ∧ z r ∉ zl r z := fun r hr => by
    have h0 : D.pch z r = 0 := Classical.byContradiction fun e => e (by rw [← pch_to e (show r ≤ n by omega)]; exact h)
    have h1 : D.pch z (r + 1) = 0 := Classical.byContradiction fun e => e (by rw [← pch_to e (show r + 1 ≤ n by omega)]; exact h)
    have h2 : (if D.pch z r ≠ 0 then D.pch z r else if D.has (z r) = true then (if z r ∈ zl r z then 7 else 0) else 2) = 0 := h1
    rw [if_neg (fun x => x h0)] at h2
    by_cases h3 : D.has (z r) = true
    · rw [if_pos h3] at h2
      by_cases h4 : z r ∈ zl r z
      · rw [if_pos h4] at h2; cases h2
      · exact ⟨h3, h4⟩
    · rw [if_neg h3] at h2; cases h2
  have lt : ∀ i j, i < j → j < n → z i ≠ z j := fun i j hij hj e => (key j hj).2 (by rw [← e]; unfold zl; exact List.mem_map.2 ⟨i, List.mem_range.2 hij, rfl⟩)
  refine ⟨fun i hi => (key i hi).1, fun i j hi hj hij => ?_⟩
  rcases Nat.lt_or_ge i j with h1 | h1
  · exact lt i j h1 hj
  · exact fun e => lt j i (by omega) hi e.symm
theorem zc_arg {n cx : Nat} {xo : Option Addr} {z : Nat → Int} {w : World} (h : Arg xo n cx z w) (hz : ∀ i, i < n → z i = ((zc n z i : Nat) : Int)) : Arg xo n cx (fun j => ((zc n z j : Nat) : Int)) w :=
  ⟨fun j hj => by obtain ⟨b, off, e, hc⟩ := h.sl j hj; exact ⟨b, off, e, by rw [hc, hz j hj]⟩, h.lt, h.few, h.nil, h.le, h.cap⟩
theorem pch_congr {D : FD} {z y : Nat → Int} : ∀ r, (∀ i, i < r → z i = y i) → D.pch z r = D.pch y r
  | 0, _ => rfl
  | r + 1, h => by
    show (if D.pch z r ≠ 0 then D.pch z r else if D.has (z r) = true then (if z r ∈ zl r z then 7 else 0) else 2) = if D.pch y r ≠ 0 then D.pch y r else if D.has (y r) = true then (if y r ∈ zl r y then 7 else 0) else 2
    rw [pch_congr r (fun i hi => h i (by omega)), h r (by omega), zl_congr (fun i hi => h i (by omega))]
theorem has_zc {D : FD} {n : Nat} {z : Nat → Int} (h : ∀ i, i < n → D.has (z i) = true) : (∀ i, i < n → zc n z i < D.q) ∧ ∀ i, i < n → z i = ((zc n z i : Nat) : Int) := by
  refine ⟨fun i hi => ?_, fun i hi => ?_⟩
  · obtain ⟨x, hx, hq⟩ := has_nat (h i hi)
    unfold zc; rw [if_pos hi, hx]; simpa using hq
  · obtain ⟨x, hx, hq⟩ := has_nat (h i hi)
    unfold zc; rw [if_pos hi, hx]; simp

set_option maxHeartbeats 2000000 in
theorem reedSays_field {D : FD} (hD : D ∈ fieldsL) (k : Int) {xo ao yo : Option Addr} {n cx l ca m cy : Nat} {z u y : Nat → Int} {w : World} (hX : Arg xo n cx z w) (hU : Arg ao l ca u w) (hY : Arg yo m cy y w) (hlen : n + l + m ≤ 300) :
    Calls Tryz.prog 11 #[.int .i64 D.q, .slice xo n cx, .int .i64 k, .slice ao l ca, .slice yo m cy] w fun x w' => x = .returned (.bool true) ∧ Below w.heap.size w w' := by
  obtain ⟨e3, he3⟩ : ∃ e3, e3 = D.rchk n z (l : Nat) := ⟨_, rfl⟩
  obtain ⟨E, hE⟩ : ∃ E, E = if e3 = 0 then D.chk l u else e3 := ⟨_, rfl⟩
  have F := fld hD
  have facts : E = 0 → 1 ≤ n ∧ n ≤ 64 ∧ 1 ≤ l ∧ l ≤ n ∧ (∀ i, i < n → zc n z i < D.q) ∧ (∀ i, i < n → z i = ((zc n z i : Nat) : Int)) ∧ (∀ i j, i < n → j < n → i ≠ j → zc n z i ≠ zc n z j) ∧ El D (zc l u) ∧ D.chk l u = 0 := fun h0 => by
    have h3 : e3 = 0 := Classical.byContradiction fun h => h (by rw [hE, if_neg h] at h0; exact h0)
    have hc : D.chk l u = 0 := by rw [hE, if_pos h3] at h0; exact h0
    rw [he3] at h3
    obtain ⟨g1, g2, g3, g4, g5⟩ := rchk_fine h3
    obtain ⟨p1, p2⟩ := pch_all g3
    obtain ⟨q1, q2⟩ := has_zc p1
    exact ⟨g1, g2, by omega, by omega, q1, q2, fun i j hi hj hij e => p2 i j hi hj hij (by rw [q2 i hi, q2 j hj, e]), zc_el F hc, hc⟩
  refine reedSays_gen D.q k (D.rchk n z k) (D.wchk n z k m y) e3 E (zl n fun j => ((D.ev (zc l u) (zc n z j) l : Nat) : Int)) hlen
    (fun wx hb => rcheck_any hD k (hX.below hb)) (fun wx hb => reedMay_any hD k (hX.below hb)) (fun wx hb => word_any hD k (hX.below hb) (hY.below hb)) (fun wx hb => reedWord_any hD k (hX.below hb) (hY.below hb))
    (fun wx hb => by rw [he3]; exact reedMay_any hD (l : Nat) (hX.below hb)) (fun h0 wx hb => ?_) (fun h0 => by rw [hE, if_neg h0]) (fun wx hb => ?_) (fun wx hb => ?_) (fun wx hb => ?_)
  · rw [hE, if_pos h0]
    have h := hU.below hb
    exact polyMay_any hD h.sl h.lt (by omega)
  · refine (rfield_sl hD wx).mono ?_
    rintro x w' ⟨gm, cm, rfl, hM, hb'⟩
    refine ⟨_, _, _, _, _, _, _, _, rfl, hb', fun h0 wy hby => ?_⟩
    obtain ⟨g1, g2, g3, g4, g5, g6, g7, g8, g9⟩ := facts h0
    have hbw := bel_up' (bel_up' hb hb') hby
    have hx := zc_arg (hX.below hbw) g6
    have hu := hU.below hbw
    refine (rvals_any hD D.gen gm cm g2 (by omega) (fun j hj => hx.sl j hj) (zc_sl g9 hu.sl) hx.lt hu.lt g5 g8 (hM.below hby)).mono ?_
    rintro x w'' ⟨v, rfl, hv, hb''⟩
    obtain ⟨vo, vc, rfl, _⟩ := OwnI.argN hv (by omega)
    exact ⟨vo, n, vc, rfl, hv.ki (by rw [zl_len]; omega), hb''⟩
  · by_cases h3 : e3 = 0
    · have hck : Calls Tryz.prog 17 #[.int .i64 D.q, .slice xo n cx, .int .i64 (l : Nat)] wx fun x w' => x = .returned (.int .i64 0) ∧ Below wx.heap.size wx w' := by
        have h := rcheck_any hD (l : Nat) (hX.below hb)
        rw [← he3, h3] at h; exact h
      by_cases hc : D.chk l u = 0
      · have h0 : E = 0 := by rw [hE, if_pos h3]; exact hc
        obtain ⟨g1, g2, g3, g4, g5, g6, g7, g8, g9⟩ := facts h0
        have hx := zc_arg (hX.below hb) g6
        have hu := hU.below hb
        refine (encode_ok hD g1 g2 hX.le g5 g7 (fun j hj => hx.sl j hj) hx.lt g3 g4 g8 (zc_sl g9 hu.sl) hu.lt).mono ?_
        rintro x w' ⟨g, rfl, hrow, hb'⟩
        refine ⟨hb', _, n, n, by rw [h0], Or.inr ⟨h0, ?_⟩⟩
        exact (OwnP.of_row (base := 0) hrow (Nat.le_refl _) (Nat.le_refl _) (by omega) (Nat.zero_le _)).sliceI (by omega)
      · have hEe : E = D.chk l u := by rw [hE, if_pos h3]
        refine (encode_e2 D.q E (by rw [hEe]; exact hc) hck (fun w1 hb1 => ?_)).mono ?_
        · have h := hU.below (bel_up' hb hb1)
          rw [hEe]
          exact check_any hD h.sl h.lt (by omega)
        · rintro x w' ⟨rfl, hb'⟩
          exact ⟨hb', none, 0, 0, rfl, Or.inl ⟨by rw [hEe]; exact hc, rfl⟩⟩
    · have hEe : E = e3 := by rw [hE, if_neg h3]
      refine (encode_e1 D.q E (by rw [hEe]; exact h3) ?_).mono ?_
      · rw [hEe, he3]
        exact rcheck_any hD (l : Nat) (hX.below hb)
      · rintro x w' ⟨rfl, hb'⟩
        exact ⟨hb', none, 0, 0, rfl, Or.inl ⟨by rw [hEe]; exact h3, rfl⟩⟩
  · by_cases h0 : D.wchk n z k m y = 0
    · obtain ⟨h1, h2, h3⟩ := wchk_ok h0
      subst h2
      obtain ⟨g1, g2, g3, g4, g5⟩ := rchk_fine h1
      obtain ⟨p1, p2⟩ := pch_all g3
      obtain ⟨q1, q2⟩ := has_zc p1
      obtain ⟨K, rfl⟩ : ∃ K : Nat, k = (K : Int) := ⟨k.toNat, by omega⟩
      have hpc : D.pch (fun j => ((zc m z j : Nat) : Int)) m = 0 := by rw [pch_congr m (y := z) (fun i hi => (q2 i hi).symm)]; exact g3
      refine recovers_ok hD (zc_arg (hX.below hb) q2) (hY.below hb) g2 (by omega) (by omega) q1 (fun i j hi hj hij e => p2 i j hi hj hij (by rw [q2 i hi, q2 j hj, e])) (fun i hi => ?_) ?_
      · have := h3 i hi
        unfold FD.wok at this
        rw [Bool.or_eq_true] at this
        rcases this with h | h
        · exact Or.inl (of_decide_eq_true h)
        · exact Or.inr h
      · have hr : D.rchk m (fun j => ((zc m z j : Nat) : Int)) (K : Int) = 0 := by
          unfold FD.rchk
          rw [if_neg (by omega), if_neg (fun x => x hpc), if_neg (by omega)]
        unfold FD.wchk at h0 ⊢
        rw [if_neg (fun x => x h1), if_neg (fun x => x rfl)] at h0
        rw [if_neg (fun x => x hr), if_neg (fun x => x rfl)]
        exact h0
    · exact recovers_e D.q _ k h0 (reedWord_any hD k (hX.below hb) (hY.below hb)) (fun w1 hb1 => word_any hD k (hX.below (bel_up' hb hb1)) (hY.below (bel_up' hb hb1)))
end Go.Proofs.YtnjbnamcedfjaaaGreat
