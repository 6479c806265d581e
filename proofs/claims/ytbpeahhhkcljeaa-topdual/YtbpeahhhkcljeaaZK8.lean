/- Texts of ours, one behind the other: K8 W12 K9. -/
import Derived.Test.YtbpeahhhkcljeaaZK6
import Derived.Test.YtbpeahhhkcljeaaZI10
import Derived.Test.YtbpeahhhkcljeaaZS3
import Derived.Test.YtbpeahhhkcljeaaZW11
import Derived.Test.YtbpeahhhkcljeaaZI25
import Derived.Test.YtbpeahhhkcljeaaZS13
/- Codes out of raw numbers (CodeOf). -/
namespace Go.Proofs.Ytbpeahhhkcljeaa
open Go.RowKit Go.Sort

theorem MkS.laid {base q c i b : Nat} {v : Value} {vs : Nat → Value} {Z : Nat → Nat → Int} {w : World} (h : MkS base q c i v vs Z w) (hb : b < base) (x y : Int) (u : Value) : MkS base q c i v vs Z (laid w b x y u) :=
  ⟨h.own.same (fun g hg => laid_heap w b x y u (by have := h.own.open_ge g hg; omega)), fun j hj => (h.row j hj).same (fun g hg => laid_heap w b x y u (by have := ((h.row j hj).lt g hg).1; omega)), h.blw⟩

set_option maxHeartbeats 8000000 in
set_option maxRecDepth 100000 in
theorem codeOf_any {ao : Option Addr} {n ca : Nat} {z : Nat → Int} (q m r : Int) {w : World} (ha : Arg ao n ca z w) (hn : n ≤ 256) (hq : I64 q) (hm : I64 m) (hr : I64 r) :
    Calls Try.prog 40 #[.slice ao n ca, .int .i64 q, .int .i64 m, .int .i64 r] w fun e w' => ∃ D N r' mo mc A C Z, D ∈ fieldsL ∧ D.q ≤ 8 ∧ N ≤ 12 ∧ r' ≤ 5 ∧ D.q ^ r' ≤ 4096 ∧ e = .returned (.agg #[.int .i64 D.q, .int .i64 (N : Nat), .slice mo r' mc]) ∧ CdZ D mo r' N A (fun _ => N) C Z w' ∧ Below w.heap.size w w' := by
  obtain ⟨P0, hP0, hP1⟩ := pick_nat6 (m := q) (k := 6) (by omega)
  obtain ⟨N0, hN0, hN1⟩ := pick_nat6 (m := m) (k := 12) (by omega)
  obtain ⟨D, hD, hDq, hD8⟩ := small_field P0 hP1
  have h2q := (fld hD).q2
  obtain ⟨w1, hw1⟩ : ∃ w1, w1 = (w.alloc (.cells #[.int .i64 0, .int .i64 0, .slice none 0 0] 43)).alloc (.cells #[.int .i64 2, .int .i64 2, .int .i64 3, .int .i64 4, .int .i64 5, .int .i64 8] 3) := ⟨_, rfl⟩
  have hcell : w1.cell? ⟨w.heap.size + 1, P0, none⟩ = some (.int .i64 (D.q : Nat)) := by
    rw [hw1, ← hDq]
    have : P0 = 0 ∨ P0 = 1 ∨ P0 = 2 ∨ P0 = 3 ∨ P0 = 4 ∨ P0 = 5 := by omega
    have hsz : (w.alloc (.cells #[.int .i64 0, .int .i64 0, .slice none 0 0] 43)).heap.size = w.heap.size + 1 := by simp
    rcases this with rfl | rfl | rfl | rfl | rfl | rfl <;> (rw [← hsz, cell_of_row _ _ _ _ _ (0, 0) (two_new _)]; rfl)
  have HW : Hid (Below w.heap.size w w1 ∧ RB w.heap.size w1) := by
    rw [hw1]
    have h1 : Below w.heap.size w (w.alloc (.cells #[.int .i64 0, .int .i64 0, .slice none 0 0] 43)) := (Below.refl _ _).alloc (Nat.le_refl _) _
    have h2 : Below (w.alloc (.cells #[.int .i64 0, .int .i64 0, .slice none 0 0] 43)).heap.size (w.alloc (.cells #[.int .i64 0, .int .i64 0, .slice none 0 0] 43)) ((w.alloc (.cells #[.int .i64 0, .int .i64 0, .slice none 0 0] 43)).alloc (.cells #[.int .i64 2, .int .i64 2, .int .i64 3, .int .i64 4, .int .i64 5, .int .i64 8] 3)) := (Below.refl _ _).alloc (Nat.le_refl _) _
    exact ⟨bel_up' h1 h2, (RB.new _ _ _ w).keep h2⟩
  have HA : Hid (Arg ao n ca z w ∧ D ∈ fieldsL) := ⟨ha, hD⟩
  have HP1 : Hid (∀ w : World, Calls Try.prog 18 #[.int .i64 q, .int .i64 6] w fun e w' => e = .returned (.int .i64 P0) ∧ w' = w) := fun w => by rw [← hP0]; exact pick_any q 6 w hq.1 hq.2 (by omega) (by omega)
  have HP2 : Hid (∀ w : World, Calls Try.prog 18 #[.int .i64 m, .int .i64 12] w fun e w' => e = .returned (.int .i64 N0) ∧ w' = w) := fun w => by rw [← hN0]; exact pick_any m 12 w hm.1 hm.2 (by omega) (by omega)
  obtain ⟨N, hNe⟩ : ∃ N, N = 1 + N0 := ⟨_, rfl⟩
  have hwN : IntKind.i64.wrap (1 + (N0 : Int)) = (N : Int) := wrap_to (by omega) (by omega)
  have hNb : 1 ≤ N ∧ N ≤ 12 := by omega
  have HR : Hid (I64 r) := hr
  have hP1i : (P0 : Int) < 6 := by omega
  have hP1j : (0 : Int) ≤ (P0 : Int) := by omega
  clear hD hP0 hN0 ha hq hm hr hNe hDq
  go_enter Try.func40, Try.ntmps40
  go_wp2_with fail
  rw [← hw1]
  clear hw1
  refine (HP1.out w1).mono ?_
  rintro e w' ⟨rfl, hw⟩
  have hw := hw.symm
  subst hw
  go_wp2_with fail
  clear hcell
  refine (HP2.out w1).mono ?_
  rintro e w' ⟨rfl, hw⟩
  have hw := hw.symm
  subst hw
  go_wp2
  go_loopw [9] (fun vi wr => ∃ t : Nat, t ≤ 5 ∧ vi = .int .i64 t ∧ Hid (D.q ^ t ≤ 4096) ∧ wr = w1) (fun vi _ => 5 - (intOf vi).toNat)
  case atStart => exact ⟨0, by omega, rfl, by show D.q ^ 0 ≤ 4096; simp, rfl⟩
  case round =>
    obtain ⟨t, ht, rfl, HT, hw⟩ := hrel
    have hw := hw.symm
    subst hw
    obtain ⟨T, hTe⟩ : ∃ T, T = t + 1 := ⟨_, rfl⟩
    have HTi : Hid ((t : Int) + 1 = (T : Int) ∧ T = t + 1) := ⟨by omega, hTe⟩
    have hTb : 1 ≤ T ∧ T ≤ 6 := by omega
    have HF : Hid (Calls Try.prog 84 #[.int .i64 (D.q : Nat), .int .i64 (T : Nat)] w1 (FewP D.q T w1)) := fewR_any D.q T (by omega) (by omega) (by omega) w1
    clear hTe
    go_wp2_with fail
    rw [HTi.out.1]
    refine HF.out.mono ?_
    rintro e w' ⟨fb, rfl, hfb, hw⟩
    have HFB : Hid (fb = true ↔ D.q ^ T ≤ 4096) := hfb
    clear hfb
    have hw := hw.symm
    subst hw
    by_cases hc : fb = true ∧ t < 5
    · have ht5 : (t : Int) < 5 := by omega
      have hT2 := HFB.out.1 hc.1
      have HT2 : Hid (D.q ^ T ≤ 4096) := hT2
      obtain ⟨hfe, htl⟩ := hc
      subst hfe
      clear hT2 HFB
      go_wp2
      go_roundw
      case rel => exact ⟨T, by have := HTi.out.2; omega, by have h := HTi.out.1; first | rfl | rw [h] | simp [h], HT2.out, by first | rfl | trivial⟩
      case measure => have h := HTi.out; simp [intOf]; omega
    · obtain ⟨r', hr', hr2⟩ := pick_nat6 (m := r) (k := T) (by omega)
      have HP3 : Hid (∀ w : World, Calls Try.prog 18 #[.int .i64 r, .int .i64 (T : Nat)] w fun e w' => e = .returned (.int .i64 r') ∧ w' = w) := fun w => by rw [← hr']; exact pick_any r T w HR.out.1 HR.out.2 (by omega) (by omega)
      have HR2 : Hid (D.q ^ r' ≤ 4096) := Nat.le_trans (fewR_le (by omega) (show r' ≤ t by have := HTi.out.2; omega)) HT.out
      clear hr'
      have HM : Hid (∀ wx, Below w.heap.size w wx → Calls Try.prog 19 #[.slice ao n ca, .int .i64 0, .int .i64 (D.q : Nat), .int .i64 (r' : Nat), .int .i64 (N : Nat)] wx fun e w' => ∃ mo mc vs Z, e = .returned (.slice mo r' mc) ∧ MkS wx.heap.size D.q N r' (.slice mo r' mc) vs Z w' ∧ Below wx.heap.size wx w') := fun wx hx => by
        refine (matrixOf_any (HA.out.1.below hx) (by omega) 0 D.q r' N (by omega) (by omega) (by omega) (by omega) (by omega)).mono ?_
        rintro e w' ⟨v, vs, Z, rfl, hmk, hb⟩
        obtain ⟨mo, mc, rfl, hz⟩ := hmk.cdz (D := D) (by omega) hNb.1 (by omega)
        exact ⟨mo, mc, _, Z, rfl, hmk, hb⟩
      cases fb
      · clear hc HFB
        go_wp2_with fail
        rw [HTi.out.1]
        refine (HP3.out w1).mono ?_
        rintro e w' ⟨rfl, hw⟩
        have hw := hw.symm
        subst hw
        go_wp2_with fail
        refine (HM.out w1 HW.out.1).mono ?_
        rintro e w2 ⟨mo, mc, vs, Z, rfl, hmk, hb2⟩
        have H2 : Hid (MkS w1.heap.size D.q N r' (.slice mo r' mc) vs Z w2 ∧ Below w1.heap.size w1 w2 ∧ RB w.heap.size w2 ∧ w.heap.size < w1.heap.size) := ⟨hmk, hb2, HW.out.2.keep hb2, by obtain ⟨⟨x0, c0⟩, _⟩ := HW.out.2; exact cell_lt c0⟩
        clear hmk hb2
        obtain ⟨⟨x0, c0⟩, ⟨x1, c1⟩, ⟨x2, c2⟩, f0, f1, f2⟩ := H2.out.2.2.1
        go_wp2
        obtain ⟨w3, hw3⟩ : ∃ w3, w3 = laid w2 w.heap.size D.q (N : Nat) (.slice mo r' mc) := ⟨_, rfl⟩
        have H3 : Hid (CB w.heap.size D.q (N : Nat) (.slice mo r' mc) w3 ∧ MkS w1.heap.size D.q N r' (.slice mo r' mc) vs Z w3 ∧ Below w.heap.size w w3) := by
          rw [hw3]; exact ⟨laid_cb H2.out.2.2.1 _ _ _, H2.out.1.laid H2.out.2.2.2 _ _ _, laid_below (bel_up' HW.out.1 H2.out.2.1) (Nat.le_refl _) _ _ _⟩
        unfold laid at hw3
        rw [← hw3]
        clear hw3 c0 c1 c2 f0 f1 f2
        obtain ⟨c0, c1, c2⟩ := H3.out.1
        refine bodyPost_ret (v := .agg #[.int .i64 D.q, .int .i64 (N : Nat), .slice mo r' mc]) (by simp [results, Try.results40, go_sem, c0, c1, c2]) rfl ?_
        obtain ⟨mo', mc', he, hz⟩ := H3.out.2.1.cdz (D := D) (by omega) hNb.1 (by omega)
        cases he
        exact ⟨D, N, r', _, _, _, _, Z, HA.out.2, hD8, hNb.2, by omega, HR2.out, rfl, hz, H3.out.2.2⟩
      · have ht5 : ¬ (t : Int) < 5 := fun h => hc ⟨rfl, by omega⟩
        clear hc HFB
        go_wp2_with fail
        rw [HTi.out.1]
        refine (HP3.out w1).mono ?_
        rintro e w' ⟨rfl, hw⟩
        have hw := hw.symm
        subst hw
        go_wp2_with fail
        refine (HM.out w1 HW.out.1).mono ?_
        rintro e w2 ⟨mo, mc, vs, Z, rfl, hmk, hb2⟩
        have H2 : Hid (MkS w1.heap.size D.q N r' (.slice mo r' mc) vs Z w2 ∧ Below w1.heap.size w1 w2 ∧ RB w.heap.size w2 ∧ w.heap.size < w1.heap.size) := ⟨hmk, hb2, HW.out.2.keep hb2, by obtain ⟨⟨x0, c0⟩, _⟩ := HW.out.2; exact cell_lt c0⟩
        clear hmk hb2
        obtain ⟨⟨x0, c0⟩, ⟨x1, c1⟩, ⟨x2, c2⟩, f0, f1, f2⟩ := H2.out.2.2.1
        go_wp2
        obtain ⟨w3, hw3⟩ : ∃ w3, w3 = laid w2 w.heap.size D.q (N : Nat) (.slice mo r' mc) := ⟨_, rfl⟩
        have H3 : Hid (CB w.heap.size D.q (N : Nat) (.slice mo r' mc) w3 ∧ MkS w1.heap.size D.q N r' (.slice mo r' mc) vs Z w3 ∧ Below w.heap.size w w3) := by
          rw [hw3]; exact ⟨laid_cb H2.out.2.2.1 _ _ _, H2.out.1.laid H2.out.2.2.2 _ _ _, laid_below (bel_up' HW.out.1 H2.out.2.1) (Nat.le_refl _) _ _ _⟩
        unfold laid at hw3
        rw [← hw3]
        clear hw3 c0 c1 c2 f0 f1 f2
        obtain ⟨c0, c1, c2⟩ := H3.out.1
        refine bodyPost_ret (v := .agg #[.int .i64 D.q, .int .i64 (N : Nat), .slice mo r' mc]) (by simp [results, Try.results40, go_sem, c0, c1, c2]) rfl ?_
        obtain ⟨mo', mc', he, hz⟩ := H3.out.2.1.cdz (D := D) (by omega) hNb.1 (by omega)
        cases he
        exact ⟨D, N, r', _, _, _, _, Z, HA.out.2, hD8, hNb.2, by omega, HR2.out, rfl, hz, H3.out.2.2⟩
end Go.Proofs.Ytbpeahhhkcljeaa

/- A region that draws its order: one of two operations comes next. No Go text here. -/
namespace Go.Proofs.Ytbpeahhhkcljeaa
open Go

end Go.Proofs.Ytbpeahhhkcljeaa

/- Codes in hand: Encode, Has; words of a code and of its dual. -/
namespace Go.Proofs.Ytbpeahhhkcljeaa
open Go.RowKit Go.Sort

/-- A word that was told: it can be handed in again. -/
def Wrd (n : Nat) (v : Nat → Nat) (gr c : Nat) (w : World) : Prop := Row gr n v w ∧ n ≤ c ∧ c ≤ 9223372036854775807
theorem Wrd.below {n gr c : Nat} {v : Nat → Nat} {w w' : World} (h : Wrd n v gr c w) (hb : Below w.heap.size w w') : Wrd n v gr c w' := ⟨h.1.below hb h.1.lt, h.2⟩
theorem Wrd.arg {n gr c : Nat} {v : Nat → Nat} {w : World} (h : Wrd n v gr c w) (hn : n ≤ 1000) : Arg (some ⟨gr, 0, none⟩) n c (fun i => ((v i : Nat) : Int)) w :=
  ⟨slz_of (h.1.sl (Nat.le_refl _)), fun x hx => by cases hx; exact h.1.lt, by omega, (fun e => by cases e), h.2.1, h.2.2⟩
theorem enw_spn {D : FD} (F : Fld D) {R : Nat → Nat → Nat} {z : Nat → Nat} {K : Nat} (hR : ∀ i, i < K → El D (R i)) : ∀ k, k ≤ K → Spn D (RowsOf K R) (enw D R z k)
  | 0, _ => spn_nil D _
  | k + 1, h => spn_add F (enw_spn F hR k (by omega)) (spn_scale F _ (spn_mem F (hR k (by omega)) ⟨k, by omega, rfl⟩))
theorem blw_nchk {D : FD} {k : Nat} {y : Nat → Int} (h : Blw D.q k y) : D.nchk k y (k : Nat) = 0 := by
  unfold FD.nchk
  rw [if_neg (fun h => h rfl), if_neg]
  rw [anyB_no k (fun j hj => ?_)]
  · intro e; cases e
  · have hh : D.has (y j) = true := by
      have := h j hj
      unfold FD.has
      rw [decide_eq_true_eq]; exact this
    rw [hh]; rfl
theorem Cod.encode {D : FD} (hD : D ∈ fieldsL) {n m k my : Nat} (ca : Nat) {ao yo : Option Addr} {cy : Nat} {M R : Nat → Nat → Nat} {y : Nat → Int} {w : World} (h : Cod D n ao m M w) (hY : Arg yo my cy y w) (hR : Red D n m M k R) (hk : D.nchk my y k = 0) :
    Calls Try.prog 42 #[.agg #[.int .i64 D.q, .int .i64 (n : Nat), .slice ao m ca], .slice yo my cy] w fun x w' => ∃ v gr c, x = .returned (.tuple #[.slice (some ⟨gr, 0, none⟩) n c, .int .i64 0]) ∧ Wrd n v gr c w' ∧ (El D v ∧ Spn D (RowsOf m M) v) ∧ Below w.heap.size w w' := by
  have hc := h.chk hD ca
  obtain ⟨A, N, C, Z, h1, h2⟩ := h
  refine (cEncode_ok hD h1 hY (hR.of_eq (fun i hi => (h2 i hi).symm)) hk hc).mono ?_
  rintro x w' ⟨⟨gr, c, rfl, hrow, _, hc1, hc2⟩, hb⟩
  refine ⟨_, gr, c, rfl, ⟨hrow, hc1, hc2⟩, ⟨enw_el (fld hD) k, ?_⟩, hb⟩
  obtain ⟨p, q1, q2⟩ := hR
  exact (q2 _).1 (enw_spn (fld hD) q1.el k (Nat.le_refl _))
theorem Cod.has {D : FD} (hD : D ∈ fieldsL) {n m gr c : Nat} (ca : Nat) {ao : Option Addr} {M : Nat → Nat → Nat} {v : Nat → Nat} {w : World} (h : Cod D n ao m M w) (hW : Wrd n v gr c w) (hv : El D v) (hs : Spn D (RowsOf m M) v) {k : Nat} {R : Nat → Nat → Nat} (hdu : Dul D n m M k R) :
    Calls Try.prog 43 #[.agg #[.int .i64 D.q, .int .i64 (n : Nat), .slice ao m ca], .slice (some ⟨gr, 0, none⟩) n c] w fun x w' => x = .returned (.tuple #[.bool true, .int .i64 0]) ∧ Below w.heap.size w w' := by
  have hr := h.rows (fld hD)
  have hc := h.chk hD ca
  obtain ⟨_, hbd, hd0⟩ := (hdu.back (fld hD) hr.2.2 v).1 hs
  obtain ⟨A, N, C, Z, h1, h2⟩ := h
  have hdu2 : Dul D n m (mzc N Z) k R := hdu.of_spn (fun u => rows_congr (fun i hi => (h2 i hi).symm) u)
  have hk : D.nchk n (fun i => ((v i : Nat) : Int)) (n : Nat) = 0 := blw_nchk (fun j _ => ⟨by omega, by have := hv j; omega⟩)
  have hz : zc n (fun i => ((v i : Nat) : Int)) = v := by
    funext j
    unfold zc
    by_cases e : j < n
    · rw [if_pos e, Int.toNat_natCast]
    · rw [if_neg e, hbd j (by omega)]
  refine (cHas_ok D.q (n : Nat) (k := k) (v := fun i => dot D (R i) v n) (by have := hdu.le; omega) (fun wx hx => ?_)).mono ?_
  · have := cSyn_ok hD (h1.below hx) ((hW.below hx).arg (by omega)) hdu2 hk (fun wy hy => hc wy (bel_up' hx hy))
    rw [hz] at this
    exact this
  · rintro x w' ⟨rfl, hb⟩
    refine ⟨?_, hb⟩
    have h0 : ct (fun i => !decide (((dot D (R i) v n : Nat) : Int) = 0)) k = 0 := ct_none k (fun i hi => by
      have e := hd0 i hi
      simp [e])
    rw [h0]
    rfl
end Go.Proofs.Ytbpeahhhkcljeaa
