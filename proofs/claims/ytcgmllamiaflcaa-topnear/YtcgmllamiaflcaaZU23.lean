/- Texts of ours, one behind the other: U23 H1. -/
import Derived.Test.YtcgmllamiaflcaaZL10
import Derived.Test.YtcgmllamiaflcaaZX18
/- The program's polynomials: a sum with an empty list, wherever that lies. -/
namespace Go.Proofs.Ytcgmllamiaflcaa
open Go.RowKit Go.Sort

theorem chk_nil (D : FD) (z : Nat → Int) : D.chk 0 z = 0 := by
  unfold FD.chk
  rw [if_neg (by omega)]; rfl
set_option maxHeartbeats 2000000 in
set_option maxRecDepth 100000 in
theorem check_nil {D : FD} (hD : D ∈ fieldsL) (ao : Option Addr) (cap : Nat) (w : World) :
    Calls Try.prog 30 #[.int .i64 D.q, .slice ao 0 cap] w fun e w' => e = .returned (.int .i64 0) ∧ Below w.heap.size w w' := by
  have HS : Hid (D ∈ fieldsL) := hD
  clear hD
  go_enter Try.func30, Try.ntmps30
  go_wp2_with fail
  refine (new_any HS.out w).mono ?_
  rintro e w1 ⟨F, T, g, rfl, hat, hF, hT, hb1⟩
  have HA : Hid (Below w.heap.size w w1) := hb1
  clear hat hF hT hb1
  go_wp2
  refine wp_loop_rounds 1 ?_
  rw [rounds_succ]
  go_wp2
  go_ret
  exact ⟨rfl, HA.out⟩

set_option maxHeartbeats 4000000 in
set_option maxRecDepth 100000 in
theorem over_nil {D : FD} (hD : D ∈ fieldsL) {ao bo : Option Addr} {n ca cb : Nat} {z : Nat → Int} {w : World} (ha : Arg ao n ca z w) (h0 : D.chk n z = 0) :
    Calls Try.prog 77 #[.int .i64 D.q, .slice (some ⟨w.heap.size, 0, none⟩) 2 2] (w.alloc (.cells #[.slice ao n ca, .slice bo 0 cb] 22)) fun e w' => Below w.heap.size w w' ∧
      ∃ F T f, e = .returned (.tuple #[.pointer (some ⟨F, 0, none⟩), .int .i64 0]) ∧ FAt F T D f w' ∧ w.heap.size ≤ F ∧ w.heap.size ≤ T := by
  have hbl : Below w.heap.size w (w.alloc (.cells #[.slice ao n ca, .slice bo 0 cb] 22)) := (Below.refl _ _).alloc (Nat.le_refl _) _
  obtain ⟨wa, hwa⟩ : ∃ wa, wa = w.alloc (.cells #[.slice ao n ca, .slice bo 0 cb] 22) := ⟨_, rfl⟩
  have c0 : wa.cell? ⟨w.heap.size, 0, none⟩ = some (.slice ao n ca) := by rw [hwa, cell_of_row _ _ _ _ _ (0, 0) (two_new _)]; rfl
  have c1 : wa.cell? ⟨w.heap.size, 1, none⟩ = some (.slice bo 0 cb) := by rw [hwa, cell_of_row _ _ _ _ _ (0, 0) (two_new _)]; rfl
  have hsa : wa.heap.size = w.heap.size + 1 := by rw [hwa]; simp
  rw [← hwa] at hbl ⊢
  have HS : Hid (D ∈ fieldsL ∧ Arg ao n ca z wa ∧ D.chk n z = 0 ∧ Below w.heap.size w wa) := ⟨hD, ha.below hbl, h0, hbl⟩
  have HC : Hid (∀ wx, Below wa.heap.size wa wx → wx.cell? ⟨w.heap.size, 1, none⟩ = some (.slice bo 0 cb)) := fun wx hx => ((bcell hx).1 _ _ (by omega)).trans c1
  have HK : Hid (Calls Try.prog 30 #[.int .i64 D.q, .slice ao n ca] wa fun e w' => e = .returned (.int .i64 0) ∧ Below wa.heap.size wa w') := by
    show Calls _ _ _ _ _
    have h := check_any (cap := ca) HS.out.1 HS.out.2.1.sl HS.out.2.1.lt HS.out.2.1.few
    rw [HS.out.2.2.1] at h; exact h
  clear hD ha h0 hwa hbl c1
  obtain ⟨G, hG⟩ : ∃ G, G = w.heap.size := ⟨_, rfl⟩
  rw [← hG] at c0 HC ⊢
  have HG : Hid (G = w.heap.size) := hG
  clear hG
  go_enter Try.func77, Try.ntmps77
  go_wp2
  refine wp_loop_rounds 3 ?_
  rw [rounds_succ]
  go_wp2_with fail
  refine HK.out.mono ?_
  rintro e w1 ⟨rfl, hb1⟩
  have hc1 := HC.out w1 hb1
  have H1 : Hid (Below wa.heap.size wa w1) := hb1
  clear hb1 c0
  go_wp2_with fail
  rw [rounds_succ]
  go_wp2_with fail
  refine (check_nil HS.out.1 _ _ _).mono ?_
  rintro e w2 ⟨rfl, hb2⟩
  have H2 : Hid (Below wa.heap.size wa w2) := bel_up' H1.out hb2
  clear hb2 hc1
  go_wp2_with fail
  rw [rounds_succ]
  go_wp2_with fail
  refine (new_any HS.out.1 w2).mono ?_
  rintro x w3 ⟨F, T, f, rfl, hat, hF, hT, hb3⟩
  have HA : Hid (FAt F T D f w3 ∧ w.heap.size ≤ F ∧ w.heap.size ≤ T ∧ Below w.heap.size w w3) := by
    have hs := H2.out.size
    exact ⟨hat, by omega, by omega, bel_up' HS.out.2.2.2 (bel_up' H2.out hb3)⟩
  clear hat hF hT hb3
  go_wp2
  go_ret2
  rw [HG.out]
  exact ⟨HA.out.2.2.2, F, T, f, rfl, HA.out.1, HA.out.2.1, HA.out.2.2.1⟩

set_option maxHeartbeats 4000000 in
set_option maxRecDepth 100000 in
theorem psum_nil {F T : Nat} {D : FD} (hD : D ∈ fieldsL) {w : World} {ao bo : Option Addr} {n ca cb : Nat} {a : Nat → Nat} (hn : n ≤ 1000) (ha : El D a) (hbn : Bd n a) (hA : Sl ao n a w) (hla : LtB ao w.heap.size) :
    Calls Try.prog 80 #[.pointer (some ⟨F, T, none⟩), .slice ao n ca, .slice bo 0 cb] w fun e w' =>
      ∃ v, e = .returned v ∧ OwnP w.heap.size v (dgn a n) a w' ∧ Below w.heap.size w w' := by
  have HF : Hid (D ∈ fieldsL ∧ Sl ao n a w ∧ El D a ∧ Bd n a ∧ LtB ao w.heap.size) := ⟨hD, hA, ha, hbn, hla⟩
  have hmax : (if (n : Int) < ((0 : Nat) : Int) then ((0 : Nat) : Int) else (n : Int)) = (n : Int) := by split <;> omega
  have hn0 : ¬ (n : Int) < 0 := by omega
  clear hD hA ha hbn hla
  go_enter Try.func80, Try.ntmps80
  go_wp2_with (first
    | (at_make; refine make_int rfl _ _ rfl _ n rfl rfl (by omega) (by omega) ?_; intro w1 hown1 hgrow1)
    | (show wpList _ _ _ (Oper.mk (some 18) _ _ _ _ _ :: _) _ _; (refine copy_int rfl _ _ rfl w.heap.size n n n ca ao rfl rfl pnil a (row_zeros hown1) (HF.out.2.1.below (below_grown hgrow1 (Nat.le_refl _) (fun k hk => by simp at hk)) HF.out.2.2.2.2) (Nat.le_refl _) w.heap.size w (below_grown hgrow1 (Nat.le_refl _) (fun k hk => by simp at hk)) (Nat.le_refl _) ?_); intro w2 hrow2 hb2))
  all_goals
    have HB1 : Hid (Below w.heap.size w w2 ∧ Row w.heap.size n a w2) := ⟨hb2, hrow2.congr (fun k hk => by show (if k < n then a k else pnil k) = a k; rw [if_pos hk])⟩
    clear hown1 hgrow1 hb2 hrow2
    refine wp_loop_rounds 1 ?_
    rw [rounds_succ]
    go_wp2_with fail
    refine (trim_any (HB1.out.2.sl (Nat.le_refl _)) (Nat.le_refl _) (by omega)).mono ?_
    rintro e w' ⟨rfl, k, rfl⟩
    go_wp2
    go_ret
    exact ⟨_, rfl, OwnP.of_row (HB1.out.2.drewN k) (dgn_le _ _) (dgn_le _ _) (by omega) (Nat.le_refl _), below_drewN2 HB1.out.1 _⟩

set_option maxHeartbeats 2000000 in
set_option maxRecDepth 100000 in
/-- A sum with an empty list, wherever that lies. -/
theorem padd_nil0 {D : FD} (hD : D ∈ fieldsL) {ao bo : Option Addr} {n ca cb : Nat} {z : Nat → Int} {w : World} (ha : Arg ao n ca z w) (h0 : D.chk n z = 0) :
    Calls Try.prog 50 #[.int .i64 D.q, .slice ao n ca, .slice bo 0 cb] w fun e w' => Below w.heap.size w w' ∧
      ∃ v, e = .returned (.tuple #[v, .int .i64 0]) ∧ OwnP w.heap.size v (dgn (zc n z) n) (zc n z) w' := by
  have HA : Hid (Arg ao n ca z w ∧ D.chk n z = 0 ∧ D ∈ fieldsL) := ⟨ha, h0, hD⟩
  clear ha h0 hD
  go_enter Try.func50, Try.ntmps50
  go_wp2_with fail
  refine (over_nil HA.out.2.2 HA.out.1 HA.out.2.1).mono ?_
  rintro e w1 ⟨hb1, F, T, f, rfl, hat, hF, hT⟩
  have HW : Hid (Below w.heap.size w w1) := hb1
  clear hat hF hT hb1
  go_wp2_with fail
  have a1 := HA.out.1.below HW.out
  refine (psum_nil HA.out.2.2 (by have := (chk_zero HA.out.2.1).1; omega) (zc_el (fld HA.out.2.2) HA.out.2.1) (zc_bd _ _) (zc_sl HA.out.2.1 a1.sl) a1.lt).mono ?_
  rintro e w2 ⟨v, rfl, hown, hb2⟩
  have hs := HW.out.size
  have HR : Hid (OwnP w.heap.size v (dgn (zc n z) n) (zc n z) w2 ∧ Below w.heap.size w w2) := ⟨hown.mono hs, bel_up HW.out hb2⟩
  clear hown hb2 a1
  go_wp2
  go_ret2
  exact ⟨HR.out.2, v, rfl, HR.out.1⟩

end Go.Proofs.Ytcgmllamiaflcaa

/- Curves (lists.Curve): what both sides reckon; the calls that they make. -/
namespace Go.Proofs.Ytcgmllamiaflcaa
open Go.RowKit Go.Sort

/-- The sum when the last r lists are reckoned: how long it is, and its coefficients. T: how long Y is. -/
def cvs (D : FD) (Y : Nat → Nat) (T : Nat) (N : Nat → Nat) (Z : Nat → Nat → Int) (m : Nat) : Nat → Nat × (Nat → Nat)
  | 0 => (0, pnil)
  | r + 1 => (dgn (padd D (pmul D (cvs D Y T N Z m r).1 (cvs D Y T N Z m r).2 Y) (zc (N (m - 1 - r)) (Z (m - 1 - r)))) (max (dgn (pmul D (cvs D Y T N Z m r).1 (cvs D Y T N Z m r).2 Y) ((cvs D Y T N Z m r).1 + T)) (N (m - 1 - r))), padd D (pmul D (cvs D Y T N Z m r).1 (cvs D Y T N Z m r).2 Y) (zc (N (m - 1 - r)) (Z (m - 1 - r))))
/-- The first error. -/
def cve (D : FD) (Y : Nat → Nat) (T : Nat) (N : Nat → Nat) (Z : Nat → Nat → Int) (m : Nat) : Nat → Int
  | 0 => 0
  | r + 1 => if cve D Y T N Z m r ≠ 0 then cve D Y T N Z m r else if 129 < (cvs D Y T N Z m r).1 + T then 4 else D.chk (N (m - 1 - r)) (Z (m - 1 - r))
theorem cve_keep {D : FD} {Y : Nat → Nat} {T : Nat} {N : Nat → Nat} {Z : Nat → Nat → Int} {m r : Nat} (h : cve D Y T N Z m r ≠ 0) : ∀ d, cve D Y T N Z m (r + d) = cve D Y T N Z m r
  | 0 => rfl
  | d + 1 => by
    rw [← Nat.add_assoc, cve, cve_keep h d, if_pos h]
theorem cve_to {D : FD} {Y : Nat → Nat} {T : Nat} {N : Nat → Nat} {Z : Nat → Nat → Int} {m r : Nat} {e : Int} (he : e ≠ 0) (hr : r < m) (h : cve D Y T N Z m (r + 1) = e) : cve D Y T N Z m m = e := by
  have h1 := cve_keep (r := r + 1) (by rw [h]; exact he) (m - (r + 1))
  rw [show r + 1 + (m - (r + 1)) = m from by omega, h] at h1
  exact h1
theorem cvs_ok {D : FD} (hD : D ∈ fieldsL) {Y : Nat → Nat} {T : Nat} {N : Nat → Nat} {Z : Nat → Nat → Int} {m : Nat} (hY : El D Y) (hb : Bd T Y) : ∀ r, cve D Y T N Z m r = 0 → El D (cvs D Y T N Z m r).2 ∧ Trd (cvs D Y T N Z m r).1 (cvs D Y T N Z m r).2 ∧ (cvs D Y T N Z m r).1 ≤ 128
  | 0, _ => ⟨el_nil (fld hD), ⟨fun _ _ => rfl, fun h => absurd rfl h⟩, by show 0 ≤ 128; omega⟩
  | r + 1, h => by
    have F := fld hD
    have h0 : cve D Y T N Z m r = 0 := Classical.byContradiction fun hn => by
      rw [cve, if_pos hn] at h; exact hn h
    rw [cve, if_neg (fun hn => hn h0)] at h
    have h1 : ¬ 129 < (cvs D Y T N Z m r).1 + T := fun hn => by rw [if_pos hn] at h; cases h
    rw [if_neg h1] at h
    obtain ⟨a1, a2, a3⟩ := cvs_ok hD hY hb r h0
    have hlp : dgn (pmul D (cvs D Y T N Z m r).1 (cvs D Y T N Z m r).2 Y) ((cvs D Y T N Z m r).1 + T) ≤ 128 := by
      rw [pmul_len hD a1 hY a2.1 hb]
      have b1 := dgn_le (cvs D Y T N Z m r).2 (cvs D Y T N Z m r).1
      have b2 := dgn_le Y T
      split <;> omega
    have hPb : Bd (dgn (pmul D (cvs D Y T N Z m r).1 (cvs D Y T N Z m r).2 Y) ((cvs D Y T N Z m r).1 + T)) (pmul D (cvs D Y T N Z m r).1 (cvs D Y T N Z m r).2 Y) := dgn_bd ((pmul_bd F hb _).mono (by omega))
    have hAb := zc_bd (N (m - 1 - r)) (Z (m - 1 - r))
    have hN := (chk_zero h).1
    have hsb : Bd (max (dgn (pmul D (cvs D Y T N Z m r).1 (cvs D Y T N Z m r).2 Y) ((cvs D Y T N Z m r).1 + T)) (N (m - 1 - r))) (padd D (pmul D (cvs D Y T N Z m r).1 (cvs D Y T N Z m r).2 Y) (zc (N (m - 1 - r)) (Z (m - 1 - r)))) := fun j hj => by
      show D.ad _ _ = 0
      rw [hPb j (by omega), hAb j (by omega), ad_zero F (zero_lt' F)]
    refine ⟨el_add F (el_mul F _ _ _) (zc_el F h), trd_dgn hsb, ?_⟩
    have := dgn_le (padd D (pmul D (cvs D Y T N Z m r).1 (cvs D Y T N Z m r).2 Y) (zc (N (m - 1 - r)) (Z (m - 1 - r)))) (max (dgn (pmul D (cvs D Y T N Z m r).1 (cvs D Y T N Z m r).2 Y) ((cvs D Y T N Z m r).1 + T)) (N (m - 1 - r)))
    show dgn _ _ ≤ 128
    omega
theorem zc_nat {n : Nat} {c : Nat → Nat} (h : Bd n c) : zc n (fun j => ((c j : Nat) : Int)) = c := by
  funext j
  unfold zc
  by_cases e : j < n
  · rw [if_pos e]; simp
  · rw [if_neg e, h j (by omega)]
theorem chk_nat {D : FD} {n : Nat} {c : Nat → Nat} (h : El D c) (hn : n ≤ 128) : D.chk n (fun j => ((c j : Nat) : Int)) = 0 := by
  unfold FD.chk
  rw [if_neg (by omega), if_pos (allHas_iff.2 (fun j _ => has_of_lt (h j)))]
theorem OwnP.arg {base n : Nat} {v : Value} {c : Nat → Nat} {w : World} (h : OwnP base v n c w) (hn : n ≤ 1000000) : ∃ so sc, v = .slice so n sc ∧ Arg so n sc (fun j => ((c j : Nat) : Int)) w := by
  obtain ⟨so, sc, rfl, h1, h2, _, h4, h5, h6⟩ := h.open
  exact ⟨so, sc, rfl, h6, h4, hn, h5, h1, h2⟩
theorem arg_nil (w : World) (z : Nat → Int) : Arg none 0 0 z w := ⟨fun j hj => absurd hj (by omega), fun x hx => (by cases hx), by omega, fun _ => rfl, by omega, by omega⟩
theorem MatZ.arg {ao : Option Addr} {m : Nat} {A : Nat → Option Addr} {N C : Nat → Nat} {Z : Nat → Nat → Int} {w : World} (h : MatZ ao m A N C Z w) {j : Nat} (hj : j < m) (hN : N j ≠ 0) : Arg (A j) (N j) (C j) (Z j) w := by
  refine ⟨h.sl j hj, fun x hx => ?_, h.few j hj, h.nil j hj, h.le j hj, h.cap j hj⟩
  obtain ⟨b, off, e, hc⟩ := h.sl j hj 0 (by omega)
  rw [hx] at e
  cases e
  exact cell_lt hc
theorem zc_none (z : Nat → Int) : zc 0 z = pnil := by funext j; unfold zc; rw [if_neg (by omega)]; rfl

/-- A sum with one of the lists that were handed in. -/
theorem cadd_any {D : FD} (hD : D ∈ fieldsL) {ao po : Option Addr} {m lp pc : Nat} {A : Nat → Option Addr} {N C : Nat → Nat} {Z : Nat → Nat → Int} {P : Nat → Nat} {w : World} (h : MatZ ao m A N C Z w) {j : Nat} (hj : j < m) (hp : Arg po lp pc (fun j => ((P j : Nat) : Int)) w) (hE : El D P) (hB : Bd lp P) (hl : lp ≤ 128) :
    Calls Try.prog 50 #[.int .i64 D.q, .slice po lp pc, .slice (A j) (N j) (C j)] w fun e w' => Below w.heap.size w w' ∧
      ((D.chk (N j) (Z j) = 0 ∧ ∃ v, e = .returned (.tuple #[v, .int .i64 0]) ∧ OwnP w.heap.size v (dgn (padd D P (zc (N j) (Z j))) (max lp (N j))) (padd D P (zc (N j) (Z j))) w') ∨
       (D.chk (N j) (Z j) ≠ 0 ∧ e = .returned (.tuple #[.slice none 0 0, .int .i64 (D.chk (N j) (Z j))]))) := by
  have hc := chk_nat hE hl
  have hz := zc_nat hB
  by_cases h0 : N j = 0
  · rw [h0]
    refine (padd_nil0 hD hp hc).mono ?_
    rintro e w' ⟨hb, v, rfl, ho⟩
    rw [hz] at ho
    refine ⟨hb, Or.inl ⟨chk_nil D _, v, rfl, ?_⟩⟩
    rw [zc_none, padd_nil (fld hD) hE, Nat.max_eq_left (Nat.zero_le _)]
    exact ho
  · refine (padd_any hD hp (h.arg hj h0)).mono ?_
    rintro e w' ⟨hb, hr⟩
    rw [chk2_def, if_pos hc, hz] at hr
    exact ⟨hb, hr⟩
end Go.Proofs.Ytcgmllamiaflcaa
