/- Texts of ours, one behind the other: H1 H2 H3. -/
import Derived.Test.YtpccbiinfdppnadZO2
/- Curves (lists.Curve): what both sides reckon; the calls that they make. -/
namespace Go.Proofs.Ytpccbiinfdppnad
open Go.RowKit Go.Sort

/-- The sum when the last r lists are reckoned: how long it is, and its coefficients. T: how long Y is. -/
def cvs (D : FD) (Y : Nat → Nat) (T : Nat) (N : Nat → Nat) (Z : Nat → Nat → Int) (m : Nat) : Nat → Nat × (Nat → Nat)
  | 0 => (0, pnil)
  | r + 1 => (dgn (padd D (pmul D (cvs D Y T N Z m r).1 (cvs D Y T N Z m r).2 Y) (zc (N (m - 1 - r)) (Z (m - 1 - r)))) (max (dgn (pmul D (cvs D Y T N Z m r).1 (cvs D Y T N Z m r).2 Y) ((cvs D Y T N Z m r).1 + T)) (N (m - 1 - r))), padd D (pmul D (cvs D Y T N Z m r).1 (cvs D Y T N Z m r).2 Y) (zc (N (m - 1 - r)) (Z (m - 1 - r))))
/-- The first error. -/
def cve (D : FD) (Y : Nat → Nat) (T : Nat) (N : Nat → Nat) (Z : Nat → Nat → Int) (m : Nat) : Nat → Int
  | 0 => 0
  | r + 1 => if cve D Y T N Z m r ≠ 0 then cve D Y T N Z m r else if 129 < (cvs D Y T N Z m r).1 + T then 4 else D.chk (N (m - 1 - r)) (Z (m - 1 - r))
theorem cve_keep {D : FD} {Y : Nat → Nat} {T : Nat} {N : Nat → Nat} {Z : Nat → Nat → Int} {m r : Nat} (h : cve D Y T N Z m r ≠ 0) : ∀ d, cve D Y T N Z m (r + d) = cve D Y T N Z m r
  | 0 => rfl
  | d + 1 => by
    rw [← Nat.add_assoc, cve, cve_keep h d, if_pos h]
theorem cve_to {D : FD} {Y : Nat → Nat} {T : Nat} {N : Nat → Nat} {Z : Nat → Nat → Int} {m r : Nat} {e : Int} (he : e ≠ 0) (hr : r < m) (h : cve D Y T N Z m (r + 1) = e) : cve D Y T N Z m m = e := by
  have h1 := cve_keep (r := r + 1) (by rw [h]; exact he) (m - (r + 1))
  rw [show r + 1 + (m - (r + 1)) = m from by omega, h] at h1
  exact h1
theorem cvs_ok {D : FD} (hD : D ∈ fieldsL) {Y : Nat → Nat} {T : Nat} {N : Nat → Nat} {Z : Nat → Nat → Int} {m : Nat} (hY : El D Y) (hb : Bd T Y) : ∀ r, cve D Y T N Z m r = 0 → El D (cvs D Y T N Z m r).2 ∧ Trd (cvs D Y T N Z m r).1 (cvs D Y T N Z m r).2 ∧ (cvs D Y T N Z m r).1 ≤ 128
  | 0, _ => ⟨el_nil (fld hD), ⟨fun _ _ => rfl, fun h => absurd rfl h⟩, by show 0 ≤ 128; omega⟩
  | r + 1, h => by
    have F := fld hD
    have h0 : cve D Y T N Z m r = 0 := Classical.byContradiction fun hn => by
      rw [cve, if_pos hn] at h; exact hn h
    rw [cve, if_neg (fun hn => hn h0)] at h
    have h1 : ¬ 129 < (cvs D Y T N Z m r).1 + T := fun hn => by rw [if_pos hn] at h; cases h
    rw [if_neg h1] at h
    obtain ⟨a1, a2, a3⟩ := cvs_ok hD hY hb r h0
    have hlp : dgn (pmul D (cvs D Y T N Z m r).1 (cvs D Y T N Z m r).2 Y) ((cvs D Y T N Z m r).1 + T) ≤ 128 := by
      rw [pmul_len hD a1 hY a2.1 hb]
      have b1 := dgn_le (cvs D Y T N Z m r).2 (cvs D Y T N Z m r).1
      have b2 := dgn_le Y T
      split <;> omega
    have hPb : Bd (dgn (pmul D (cvs D Y T N Z m r).1 (cvs D Y T N Z m r).2 Y) ((cvs D Y T N Z m r).1 + T)) (pmul D (cvs D Y T N Z m r).1 (cvs D Y T N Z m r).2 Y) := dgn_bd ((pmul_bd F hb _).mono (by omega))
    have hAb := zc_bd (N (m - 1 - r)) (Z (m - 1 - r))
    have hN := (chk_zero h).1
    have hsb : Bd (max (dgn (pmul D (cvs D Y T N Z m r).1 (cvs D Y T N Z m r).2 Y) ((cvs D Y T N Z m r).1 + T)) (N (m - 1 - r))) (padd D (pmul D (cvs D Y T N Z m r).1 (cvs D Y T N Z m r).2 Y) (zc (N (m - 1 - r)) (Z (m - 1 - r)))) := fun j hj => by
      show D.ad _ _ = 0
      rw [hPb j (by omega), hAb j (by omega), ad_zero F (zero_lt' F)]
    refine ⟨el_add F (el_mul F _ _ _) (zc_el F h), trd_dgn hsb, ?_⟩
    have := dgn_le (padd D (pmul D (cvs D Y T N Z m r).1 (cvs D Y T N Z m r).2 Y) (zc (N (m - 1 - r)) (Z (m - 1 - r)))) (max (dgn (pmul D (cvs D Y T N Z m r).1 (cvs D Y T N Z m r).2 Y) ((cvs D Y T N Z m r).1 + T)) (N (m - 1 - r)))
    show dgn _ _ ≤ 128
    omega
theorem zc_nat {n : Nat} {c : Nat → Nat} (h : Bd n c) : zc n (fun j => ((c j : Nat) : Int)) = c := by
  funext j
  unfold zc
  by_cases e : j < n
  · rw [if_pos e]; simp
  · rw [if_neg e, h j (by omega)]
theorem chk_nat {D : FD} {n : Nat} {c : Nat → Nat} (h : El D c) (hn : n ≤ 128) : D.chk n (fun j => ((c j : Nat) : Int)) = 0 := by
  unfold FD.chk
  rw [if_neg (by omega), if_pos (allHas_iff.2 (fun j _ => has_of_lt (h j)))]
theorem OwnP.arg {base n : Nat} {v : Value} {c : Nat → Nat} {w : World} (h : OwnP base v n c w) (hn : n ≤ 1000000) : ∃ so sc, v = .slice so n sc ∧ Arg so n sc (fun j => ((c j : Nat) : Int)) w := by
  obtain ⟨so, sc, rfl, h1, h2, _, h4, h5, h6⟩ := h.open
  exact ⟨so, sc, rfl, h6, h4, hn, h5, h1, h2⟩
theorem arg_nil (w : World) (z : Nat → Int) : Arg none 0 0 z w := ⟨fun j hj => absurd hj (by omega), fun x hx => (by cases hx), by omega, fun _ => rfl, by omega, by omega⟩
theorem MatZ.arg {ao : Option Addr} {m : Nat} {A : Nat → Option Addr} {N C : Nat → Nat} {Z : Nat → Nat → Int} {w : World} (h : MatZ ao m A N C Z w) {j : Nat} (hj : j < m) (hN : N j ≠ 0) : Arg (A j) (N j) (C j) (Z j) w := by
  refine ⟨h.sl j hj, fun x hx => ?_, h.few j hj, h.nil j hj, h.le j hj, h.cap j hj⟩
  obtain ⟨b, off, e, hc⟩ := h.sl j hj 0 (by omega)
  rw [hx] at e
  cases e
  exact cell_lt hc
theorem zc_none (z : Nat → Int) : zc 0 z = pnil := by funext j; unfold zc; rw [if_neg (by omega)]; rfl

/-- A sum with one of the lists that were handed in. -/
theorem cadd_any {D : FD} (hD : D ∈ fieldsL) {ao po : Option Addr} {m lp pc : Nat} {A : Nat → Option Addr} {N C : Nat → Nat} {Z : Nat → Nat → Int} {P : Nat → Nat} {w : World} (h : MatZ ao m A N C Z w) {j : Nat} (hj : j < m) (hp : Arg po lp pc (fun j => ((P j : Nat) : Int)) w) (hE : El D P) (hB : Bd lp P) (hl : lp ≤ 128) :
    Calls Try.prog 60 #[.int .i64 D.q, .slice po lp pc, .slice (A j) (N j) (C j)] w fun e w' => Below w.heap.size w w' ∧
      ((D.chk (N j) (Z j) = 0 ∧ ∃ v, e = .returned (.tuple #[v, .int .i64 0]) ∧ OwnP w.heap.size v (dgn (padd D P (zc (N j) (Z j))) (max lp (N j))) (padd D P (zc (N j) (Z j))) w') ∨
       (D.chk (N j) (Z j) ≠ 0 ∧ e = .returned (.tuple #[.slice none 0 0, .int .i64 (D.chk (N j) (Z j))]))) := by
  have hc := chk_nat hE hl
  have hz := zc_nat hB
  by_cases h0 : N j = 0
  · rw [h0]
    refine (padd_nil0 hD hp hc).mono ?_
    rintro e w' ⟨hb, v, rfl, ho⟩
    rw [hz] at ho
    refine ⟨hb, Or.inl ⟨chk_nil D _, v, rfl, ?_⟩⟩
    rw [zc_none, padd_nil (fld hD) hE, Nat.max_eq_left (Nat.zero_le _)]
    exact ho
  · refine (padd_any hD hp (h.arg hj h0)).mono ?_
    rintro e w' ⟨hb, hr⟩
    rw [chk2_def, if_pos hc, hz] at hr
    exact ⟨hb, hr⟩
theorem cmay_any {D : FD} (hD : D ∈ fieldsL) {ao : Option Addr} {m : Nat} {A : Nat → Option Addr} {N C : Nat → Nat} {Z : Nat → Nat → Int} {w : World} (h : MatZ ao m A N C Z w) {j : Nat} (hj : j < m) :
    Calls Try.prog 8 #[.int .i64 D.q, .slice (A j) (N j) (C j)] w fun e w' => e = .returned (.int .i64 (D.chk (N j) (Z j))) ∧ Below w.heap.size w w' := by
  by_cases h0 : N j = 0
  · rw [h0, chk_nil]
    exact polyMay_nil hD _ _ _
  · have ha := h.arg hj h0
    exact polyMay_any hD ha.sl ha.lt ha.few
theorem crpadd_any {D : FD} (hD : D ∈ fieldsL) (gen gm cm : Nat) {ao po : Option Addr} {m lp pc : Nat} {A : Nat → Option Addr} {N C : Nat → Nat} {Z : Nat → Nat → Int} {P : Nat → Nat} {w : World} (h : MatZ ao m A N C Z w) {j : Nat} (hj : j < m) (hp : Arg po lp pc (fun j => ((P j : Nat) : Int)) w) (hE : El D P) (hB : Bd lp P) (hl : lp ≤ 128) (hc : D.chk (N j) (Z j) = 0) :
    Calls Try.prog 63 #[.agg #[.int .i64 D.q, .int .i64 D.p, .int .i64 D.m, .int .i64 gen, .slice (some ⟨gm, 0, none⟩) (D.m + 1) cm], .slice po lp pc, .slice (A j) (N j) (C j)] w fun e w' => ∃ v, e = .returned v ∧ OwnP w.heap.size v (dgn (padd D P (zc (N j) (Z j))) (max lp (N j))) (padd D P (zc (N j) (Z j))) w' ∧ Below w.heap.size w w' := by
  by_cases h0 : N j = 0
  · rw [h0]
    refine (rpadd_nil hD gen gm cm (by omega) hE hp.sl hp.lt).mono ?_
    rintro e w' ⟨v, rfl, ho, hb⟩
    refine ⟨v, rfl, ?_, hb⟩
    rw [zc_none, padd_nil (fld hD) hE, Nat.max_eq_left (Nat.zero_le _)]
    exact ho
  · have ha := h.arg hj h0
    have hN := (chk_zero hc).1
    exact rpadd_any hD gen gm cm (by omega) (by omega) hE (zc_el (fld hD) hc) hB (zc_bd _ _) hp.sl (zc_sl hc ha.sl) hp.lt ha.lt
end Go.Proofs.Ytpccbiinfdppnad

/- Curves: the program's, and the reference's. -/
namespace Go.Proofs.Ytpccbiinfdppnad
open Go.RowKit Go.Sort

theorem pmulN_any {D : FD} (hD : D ∈ fieldsL) {so yo : Option Addr} {L my sc cy : Nat} {c : Nat → Nat} {yz : Nat → Int} {w : World} (hs : Arg so L sc (fun j => ((c j : Nat) : Int)) w) (hy : Arg yo my cy yz w) (hE : El D c) (hT : Trd L c) (hL : L ≤ 128) (h0 : D.chk my yz = 0) :
    Calls Try.prog 59 #[.int .i64 D.q, .slice so L sc, .slice yo my cy] w fun e w' => Below w.heap.size w w' ∧
      ((¬ 129 < L + dgn (zc my yz) my ∧ ∃ po pc, e = .returned (.tuple #[.slice po (dgn (pmul D L c (zc my yz)) (L + dgn (zc my yz) my)) pc, .int .i64 0]) ∧ Arg po (dgn (pmul D L c (zc my yz)) (L + dgn (zc my yz) my)) pc (fun j => ((pmul D L c (zc my yz) j : Nat) : Int)) w') ∨
       (129 < L + dgn (zc my yz) my ∧ e = .returned (.tuple #[.slice none 0 0, .int .i64 4]))) := by
  have hc := chk_nat hE hL
  have hz := zc_nat hT.1
  have hdg := hT.dgn (Nat.le_refl L)
  refine (pmul_any hD hs hy).mono ?_
  rintro e w' ⟨hb, hr⟩
  rw [chk2_def, if_pos hc, hz, hdg] at hr
  refine ⟨hb, ?_⟩
  rcases hr with ⟨_, h1, v, rfl, ho⟩ | ⟨_, h1, rfl⟩ | ⟨h1, _⟩
  · have hle := dgn_le (pmul D L c (zc my yz)) (L + dgn (zc my yz) my)
    have hm := (chk_zero h0).1
    have hd := dgn_le (zc my yz) my
    obtain ⟨po, pc, rfl, ha⟩ := ho.arg (by omega)
    exact Or.inl ⟨by omega, po, pc, rfl, ha⟩
  · exact Or.inr ⟨h1, rfl⟩
  · exact absurd h0 h1

set_option maxHeartbeats 8000000 in
set_option maxRecDepth 100000 in
theorem curve_any {D : FD} (hD : D ∈ fieldsL) {ao yo : Option Addr} {m my ca cy : Nat} {A : Nat → Option Addr} {N C : Nat → Nat} {Z : Nat → Nat → Int} {yz : Nat → Int} {w : World} (ha : MatZ ao m A N C Z w) (hy : Arg yo my cy yz w) (h0 : D.chk my yz = 0) (hm : m ≤ 64) :
    Calls Try.prog 26 #[.int .i64 D.q, .slice ao m ca, .slice yo my cy] w fun e w' => Below w.heap.size w w' ∧
      ((cve D (zc my yz) (dgn (zc my yz) my) N Z m m ≠ 0 ∧ e = .returned (.tuple #[.slice none 0 0, .int .i64 (cve D (zc my yz) (dgn (zc my yz) my) N Z m m)])) ∨
       (cve D (zc my yz) (dgn (zc my yz) my) N Z m m = 0 ∧ ∃ v, e = .returned (.tuple #[v, .int .i64 0]) ∧ KI v (zl (cvs D (zc my yz) (dgn (zc my yz) my) N Z m m).1 fun j => (((cvs D (zc my yz) (dgn (zc my yz) my) N Z m m).2 j : Nat) : Int)) w')) := by
  obtain ⟨Y, hY⟩ : ∃ Y, Y = zc my yz := ⟨_, rfl⟩
  obtain ⟨T, hT⟩ : ∃ T, T = dgn Y my := ⟨_, rfl⟩
  rw [← hY, ← hT]
  have HH : Hid (D ∈ fieldsL ∧ MatZ ao m A N C Z w ∧ Arg yo my cy yz w ∧ D.chk my yz = 0 ∧ Y = zc my yz ∧ T = dgn Y my ∧ El D Y ∧ Bd T Y) := ⟨hD, ha, hy, h0, hY, hT, by rw [hY]; exact zc_el (fld hD) h0, by rw [hT]; exact dgn_bd (by rw [hY]; exact zc_bd _ _)⟩
  have HCk : Hid (Calls Try.prog 30 #[.int .i64 D.q, .slice yo my cy] w fun e w' => e = .returned (.int .i64 0) ∧ Below w.heap.size w w') := by
    show Calls _ _ _ _ _
    have h := check_any (cap := cy) hD hy.sl hy.lt hy.few
    rw [h0] at h; exact h
  have hmi : ¬ (64 : Int) < (m : Int) := by omega
  clear hD ha hy h0 hY hT
  go_enter Try.func26, Try.ntmps26
  go_wp2_with fail
  refine HCk.out.mono ?_
  rintro e w1 ⟨rfl, hb1⟩
  have H1 : Hid (Below w.heap.size w w1) := hb1
  clear hb1
  go_wp2_with fail
  go_loopw [9, 10] (fun vs vi wr => ∃ (r j1 : Nat) (so : Option Addr) (sc L : Nat), r + j1 = m ∧ vs = .slice so L sc ∧ ((j1 = 0 ∧ vi = .int .i64 (-1)) ∨ ∃ j : Nat, j1 = j + 1 ∧ vi = .int .i64 (j : Nat)) ∧ Hid (cve D Y T N Z m r = 0 ∧ L = (cvs D Y T N Z m r).1 ∧ Arg so L sc (fun j => (((cvs D Y T N Z m r).2 j : Nat) : Int)) wr ∧ Below w.heap.size w wr)) (fun _ vi _ => (intOf vi + 1).toNat)
  case atStart =>
    by_cases hm0 : m = 0
    · exact ⟨0, 0, none, 0, 0, by omega, rfl, Or.inl ⟨rfl, by rw [hm0]; rfl⟩, rfl, rfl, arg_nil _ _, H1.out⟩
    · exact ⟨0, m, none, 0, 0, by omega, rfl, Or.inr ⟨m - 1, by omega, by go_num⟩, rfl, rfl, arg_nil _ _, H1.out⟩
  case round =>
    obtain ⟨r, j1, so, sc, L, hrj, rfl, hvi, HG⟩ := hrel
    rename World => wA
    rcases hvi with ⟨hj0, rfl⟩ | ⟨j, hj, rfl⟩
    · have hre : m = r := by omega
      subst hre
      have HE : Hid (KI (.slice so L sc) (zl L fun j => (((cvs D Y T N Z m m).2 j : Nat) : Int)) wA) := by
        refine ⟨arg_sliceI HG.out.2.2.1 (Nat.le_refl _), fun k hk => ?_⟩
        cases so with
        | none => cases hk
        | some x => cases hk; exact HG.out.2.2.1.lt x rfl
      have HL : Hid (L = (cvs D Y T N Z m m).1) := HG.out.2.1
      go_wp2
      go_ret2
      refine ⟨HG.out.2.2.2, Or.inr ⟨HG.out.1, _, rfl, ?_⟩⟩
      rw [← HL.out]; exact HE.out
    · have hjm : j < m := by omega
      have hjr : m - 1 - r = j := by omega
      have hji : (j : Int) < (m : Int) := by omega
      have hj0 : (0 : Int) ≤ (j : Int) := by omega
      have hrm : r < m := by omega
      have hst := cvs_ok HH.out.1 HH.out.2.2.2.2.2.2.1 HH.out.2.2.2.2.2.2.2 r HG.out.1
      obtain ⟨c, hc⟩ : ∃ c, c = (cvs D Y T N Z m r).2 := ⟨_, rfl⟩
      have HS : Hid (El D c ∧ Trd L c ∧ L ≤ 128 ∧ Arg so L sc (fun j => ((c j : Nat) : Int)) wA ∧ L = (cvs D Y T N Z m r).1 ∧ c = (cvs D Y T N Z m r).2) := by
        rw [hc, HG.out.2.1]
        exact ⟨hst.1, hst.2.1, hst.2.2, by rw [← HG.out.2.1]; exact HG.out.2.2.1, rfl, rfl⟩
      have HB : Hid (Below w.heap.size w wA ∧ cve D Y T N Z m r = 0) := ⟨HG.out.2.2.2, HG.out.1⟩
      clear hst hc HG
      obtain ⟨lp, hlp⟩ : ∃ lp, lp = dgn (pmul D L c Y) (L + T) := ⟨_, rfl⟩
      have HM : Hid (Calls Try.prog 59 #[.int .i64 D.q, .slice so L sc, .slice yo my cy] wA fun e w' => Below wA.heap.size wA w' ∧ ((¬ 129 < L + T ∧ ∃ po pc, e = .returned (.tuple #[.slice po lp pc, .int .i64 0]) ∧ Arg po lp pc (fun j => ((pmul D L c Y j : Nat) : Int)) w') ∨ (129 < L + T ∧ e = .returned (.tuple #[.slice none 0 0, .int .i64 4])))) := by
        show Calls _ _ _ _ _
        have h := pmulN_any HH.out.1 HS.out.2.2.2.1 (HH.out.2.2.1.below HB.out.1) HS.out.1 HS.out.2.1 HS.out.2.2.1 HH.out.2.2.2.1
        rw [← HH.out.2.2.2.2.1, ← HH.out.2.2.2.2.2.1, ← hlp] at h
        exact h
      have HLp : Hid (lp = dgn (pmul D L c Y) (L + T)) := hlp
      clear hlp
      go_wp2_with fail
      refine HM.out.mono ?_
      rintro e w2 ⟨hb2, hr⟩
      rcases hr with ⟨h129, po, pc, rfl, hpa⟩ | ⟨h129, rfl⟩
      · have H2 : Hid (Below w.heap.size w w2 ∧ Arg po lp pc (fun j => ((pmul D L c Y j : Nat) : Int)) w2 ∧ El D (pmul D L c Y) ∧ Bd lp (pmul D L c Y) ∧ lp ≤ 128 ∧ ¬ 129 < L + T) := by
          refine ⟨bel_up' HB.out.1 hb2, hpa, el_mul (fld HH.out.1) _ _ _, ?_, ?_, h129⟩
          · rw [HLp.out]
            exact dgn_bd ((pmul_bd (fld HH.out.1) HH.out.2.2.2.2.2.2.2 _).mono (by omega))
          · rw [HLp.out, pmul_len HH.out.1 HS.out.1 HH.out.2.2.2.2.2.2.1 HS.out.2.1.1 HH.out.2.2.2.2.2.2.2]
            have b1 := dgn_le c L
            have b2 := dgn_le Y T
            have b3 := HS.out.2.2.1
            split <;> omega
        clear hb2 hpa h129
        obtain ⟨bA, oA, eA, hcA⟩ := (HH.out.2.1.below H2.out.1).cell j hjm
        subst eA
        obtain ⟨e, he⟩ : ∃ e, e = D.chk (N j) (Z j) := ⟨_, rfl⟩
        have HA : Hid (Calls Try.prog 60 #[.int .i64 D.q, .slice po lp pc, .slice (A j) (N j) (C j)] w2 fun x w' => Below w2.heap.size w2 w' ∧ ((e = 0 ∧ ∃ v, x = .returned (.tuple #[v, .int .i64 0]) ∧ OwnP w2.heap.size v (dgn (padd D (pmul D L c Y) (zc (N j) (Z j))) (max lp (N j))) (padd D (pmul D L c Y) (zc (N j) (Z j))) w') ∨ (e ≠ 0 ∧ x = .returned (.tuple #[.slice none 0 0, .int .i64 e])))) := by
          show Calls _ _ _ _ _
          rw [he]
          exact cadd_any HH.out.1 (HH.out.2.1.below H2.out.1) hjm H2.out.2.1 H2.out.2.2.1 H2.out.2.2.2.1 H2.out.2.2.2.2.1
        have HEr : Hid (cve D Y T N Z m (r + 1) = e) := by
          show cve D Y T N Z m (r + 1) = e
          rw [cve, if_neg (fun hn => hn HB.out.2), ← HS.out.2.2.2.2.1, if_neg H2.out.2.2.2.2.2, hjr, he]
        have HSt : Hid (cvs D Y T N Z m (r + 1) = (dgn (padd D (pmul D L c Y) (zc (N j) (Z j))) (max lp (N j)), padd D (pmul D L c Y) (zc (N j) (Z j)))) := by
          show cvs D Y T N Z m (r + 1) = _
          rw [cvs, ← HS.out.2.2.2.2.1, ← HS.out.2.2.2.2.2, hjr, ← HLp.out]
        clear he
        go_wp2_with fail
        refine HA.out.mono ?_
        rintro x w3 ⟨hb3, hr3⟩
        rcases hr3 with ⟨h0, v, rfl, ho⟩ | ⟨h0, rfl⟩
        · have hokr : cve D Y T N Z m (r + 1) = 0 := by rw [HEr.out, h0]
          have hst := cvs_ok HH.out.1 HH.out.2.2.2.2.2.2.1 HH.out.2.2.2.2.2.2.2 (r + 1) hokr
          rw [HSt.out] at hst
          obtain ⟨so', sc', rfl, ha'⟩ := ho.arg (by have h := hst.2.2; show dgn _ _ ≤ 1000000; omega)
          obtain ⟨L', hL'⟩ : ∃ L', L' = dgn (padd D (pmul D L c Y) (zc (N j) (Z j))) (max lp (N j)) := ⟨_, rfl⟩
          rw [← hL'] at ha' ⊢
          have HR : Hid (cve D Y T N Z m (r + 1) = 0 ∧ L' = (cvs D Y T N Z m (r + 1)).1 ∧ Arg so' L' sc' (fun j => (((cvs D Y T N Z m (r + 1)).2 j : Nat) : Int)) w3 ∧ Below w.heap.size w w3) := by
            rw [HSt.out]
            exact ⟨hokr, hL', ha', bel_up' H2.out.1 hb3⟩
          clear hokr hst ho ha' hL' hb3 h0
          go_wp2
          go_roundw
          case rel =>
            by_cases hj00 : j = 0
            · exact ⟨r + 1, 0, so', sc', L', by omega, rfl, Or.inl ⟨rfl, by rw [hj00]; rfl⟩, HR.out⟩
            · exact ⟨r + 1, j, so', sc', L', by omega, rfl, Or.inr ⟨j - 1, by omega, by go_num⟩, HR.out⟩
          case measure => first | (simp [intOf]; done) | (simp [intOf]; omega)
        · have HR : Hid (cve D Y T N Z m m = e ∧ e ≠ 0 ∧ Below w.heap.size w w3) := ⟨cve_to h0 hrm HEr.out, h0, bel_up' H2.out.1 hb3⟩
          have hz : (e != 0) = true := by rw [bne_iff_ne]; exact h0
          clear hb3 h0
          go_wp2
          go_ret2
          exact ⟨HR.out.2.2, Or.inl ⟨by rw [HR.out.1]; exact HR.out.2.1, by rw [HR.out.1]; rfl⟩⟩
      · have HR : Hid (cve D Y T N Z m m = 4 ∧ Below w.heap.size w w2) := by
          refine ⟨cve_to (by omega) hrm ?_, bel_up' HB.out.1 hb2⟩
          rw [cve, if_neg (fun hn => hn HB.out.2), ← HS.out.2.2.2.2.1, if_pos h129]
        clear hb2 h129
        go_wp2
        go_ret2
        exact ⟨HR.out.2, Or.inl ⟨by rw [HR.out.1]; omega, by rw [HR.out.1]; rfl⟩⟩
end Go.Proofs.Ytpccbiinfdppnad

/- Curves: the reference's. -/
namespace Go.Proofs.Ytpccbiinfdppnad
open Go.RowKit Go.Sort

set_option maxHeartbeats 16000000 in
set_option maxRecDepth 100000 in
theorem rcurve_any {D : FD} (hD : D ∈ fieldsL) {ao yo : Option Addr} {m my ca cy : Nat} {A : Nat → Option Addr} {N C : Nat → Nat} {Z : Nat → Nat → Int} {yz : Nat → Int} {w : World} (ha : MatZ ao m A N C Z w) (hy : Arg yo my cy yz w) (h0 : D.chk my yz = 0) (hm : m ≤ 64) :
    Calls Try.prog 27 #[.int .i64 D.q, .slice ao m ca, .slice yo my cy] w fun e w' => Below w.heap.size w w' ∧
      ((cve D (zc my yz) (dgn (zc my yz) my) N Z m m ≠ 0 ∧ e = .returned (.tuple #[.slice none 0 0, .int .i64 (cve D (zc my yz) (dgn (zc my yz) my) N Z m m)])) ∨
       (cve D (zc my yz) (dgn (zc my yz) my) N Z m m = 0 ∧ ∃ v, e = .returned (.tuple #[v, .int .i64 0]) ∧ KI v (zl (cvs D (zc my yz) (dgn (zc my yz) my) N Z m m).1 fun j => (((cvs D (zc my yz) (dgn (zc my yz) my) N Z m m).2 j : Nat) : Int)) w')) := by
  obtain ⟨Y, hY⟩ : ∃ Y, Y = zc my yz := ⟨_, rfl⟩
  obtain ⟨T, hT⟩ : ∃ T, T = dgn Y my := ⟨_, rfl⟩
  rw [← hY, ← hT]
  have hmy := (chk_zero h0).1
  have hT128 : T ≤ 128 := by rw [hT]; have := dgn_le Y my; omega
  have HH : Hid (D ∈ fieldsL ∧ MatZ ao m A N C Z w ∧ Arg yo my cy yz w ∧ D.chk my yz = 0 ∧ Y = zc my yz ∧ T = dgn Y my ∧ El D Y ∧ Bd T Y) := ⟨hD, ha, hy, h0, hY, hT, by rw [hY]; exact zc_el (fld hD) h0, by rw [hT]; exact dgn_bd (by rw [hY]; exact zc_bd _ _)⟩
  have HCk : Hid (Calls Try.prog 8 #[.int .i64 D.q, .slice yo my cy] w fun e w' => e = .returned (.int .i64 0) ∧ Below w.heap.size w w') := by
    show Calls _ _ _ _ _
    have h := polyMay_any (cap := cy) hD hy.sl hy.lt hy.few
    rw [h0] at h; exact h
  have hmi : ¬ (64 : Int) < (m : Int) := by omega
  clear hD ha hy h0 hY hT hmy
  go_enter Try.func27, Try.ntmps27
  go_wp2_with fail
  refine HCk.out.mono ?_
  rintro e w1 ⟨rfl, hb1⟩
  have H1 : Hid (Below w.heap.size w w1) := hb1
  clear hb1
  go_wp2_with fail
  refine (rfield_sl HH.out.1 w1).mono ?_
  rintro e w2 ⟨gm, cm, rfl, hmod, hb2⟩
  unfold rf
  obtain ⟨wa, hwa⟩ : ∃ wa, wa = w2.alloc (.cells #[.int .i64 D.q, .int .i64 D.p, .int .i64 D.m, .int .i64 D.gen, .slice (some ⟨gm, 0, none⟩) (D.m + 1) cm] 28) := ⟨_, rfl⟩
  have HX : Hid (Box w2.heap.size D D.gen (.slice (some ⟨gm, 0, none⟩) (D.m + 1) cm) wa ∧ wa.heap.size = w2.heap.size + 1 ∧ Below w.heap.size w wa ∧ ModAt D (.slice (some ⟨gm, 0, none⟩) (D.m + 1) cm) D.md wa) := by
    have hb : Below w2.heap.size w2 wa := by rw [hwa]; exact (Below.refl _ _).alloc (Nat.le_refl _) _
    exact ⟨by rw [hwa]; exact box_new D D.gen _ w2, by rw [hwa]; simp, bel_up' (bel_up' H1.out hb2) hb, hmod.below hb⟩
  clear hmod hb2
  go_wp2_with fail
  rw [← hwa]
  clear hwa
  have HTr : Hid (Calls Try.prog 61 #[.slice yo my cy] wa fun e w' => (∃ yt tc, e = .returned (.slice yt T tc) ∧ Arg yt T tc (fun j => ((Y j : Nat) : Int)) w') ∧ Below wa.heap.size wa w') := by
    have hB := HH.out.2.2.1.below HX.out.2.2.1
    refine (rtrim_any (zc_sl HH.out.2.2.2.1 hB.sl) hB.le hB.cap hB.nil hB.lt hB.few).mono ?_
    rintro e w' ⟨v, rfl, ho, hb⟩
    rw [← HH.out.2.2.2.2.1, ← HH.out.2.2.2.2.2.1] at ho
    obtain ⟨so, sc, rfl, ha⟩ := ho.arg (by omega)
    exact ⟨⟨so, sc, rfl, ha⟩, hb⟩
  refine HTr.out.mono ?_
  rintro e w3 ⟨⟨to', tc, rfl, hta⟩, hb3⟩
  have H3 : Hid (Arg to' T tc (fun j => ((Y j : Nat) : Int)) w3 ∧ Below wa.heap.size wa w3 ∧ Below w.heap.size w w3) := ⟨hta, hb3, bel_up' HX.out.2.2.1 hb3⟩
  clear hta hb3 HTr HCk
  go_wp2_with fail
  go_loopw [11, 12] (fun vs vi wr => ∃ (r j1 : Nat) (so : Option Addr) (sc L : Nat), r + j1 = m ∧ vs = .slice so L sc ∧ ((j1 = 0 ∧ vi = .int .i64 (-1)) ∨ ∃ j : Nat, j1 = j + 1 ∧ vi = .int .i64 (j : Nat)) ∧ Hid (cve D Y T N Z m r = 0 ∧ L = (cvs D Y T N Z m r).1 ∧ Arg so L sc (fun j => (((cvs D Y T N Z m r).2 j : Nat) : Int)) wr ∧ Below w3.heap.size w3 wr)) (fun _ vi _ => (intOf vi + 1).toNat)
  case atStart =>
    by_cases hm0 : m = 0
    · exact ⟨0, 0, none, 0, 0, by omega, rfl, Or.inl ⟨rfl, by rw [hm0]; rfl⟩, rfl, rfl, arg_nil _ _, Below.refl _ _⟩
    · exact ⟨0, m, none, 0, 0, by omega, rfl, Or.inr ⟨m - 1, by omega, by go_num⟩, rfl, rfl, arg_nil _ _, Below.refl _ _⟩
  case round =>
    obtain ⟨r, j1, so, sc, L, hrj, rfl, hvi, HG⟩ := hrel
    rename World => wA
    rcases hvi with ⟨hj0, rfl⟩ | ⟨j, hj, rfl⟩
    · have hre : m = r := by omega
      subst hre
      have HE : Hid (KI (.slice so L sc) (zl L fun j => (((cvs D Y T N Z m m).2 j : Nat) : Int)) wA) := by
        refine ⟨arg_sliceI HG.out.2.2.1 (Nat.le_refl _), fun k hk => ?_⟩
        cases so with
        | none => cases hk
        | some x => cases hk; exact HG.out.2.2.1.lt x rfl
      have HL : Hid (L = (cvs D Y T N Z m m).1) := HG.out.2.1
      go_wp2
      go_ret2
      refine ⟨bel_up' H3.out.2.2 HG.out.2.2.2, Or.inr ⟨HG.out.1, _, rfl, ?_⟩⟩
      rw [← HL.out]; exact HE.out
    · have hjm : j < m := by omega
      have hjr : m - 1 - r = j := by omega
      have hji : (j : Int) < (m : Int) := by omega
      have hj0 : (0 : Int) ≤ (j : Int) := by omega
      have hrm : r < m := by omega
      have hst := cvs_ok HH.out.1 HH.out.2.2.2.2.2.2.1 HH.out.2.2.2.2.2.2.2 r HG.out.1
      obtain ⟨c, hc⟩ : ∃ c, c = (cvs D Y T N Z m r).2 := ⟨_, rfl⟩
      have HS : Hid (El D c ∧ Trd L c ∧ L ≤ 128 ∧ Arg so L sc (fun j => ((c j : Nat) : Int)) wA ∧ L = (cvs D Y T N Z m r).1 ∧ c = (cvs D Y T N Z m r).2) := by
        rw [hc, HG.out.2.1]
        exact ⟨hst.1, hst.2.1, hst.2.2, by rw [← HG.out.2.1]; exact HG.out.2.2.1, rfl, rfl⟩
      have HB : Hid (Below w3.heap.size w3 wA ∧ cve D Y T N Z m r = 0 ∧ Below w.heap.size w wA) := ⟨HG.out.2.2.2, HG.out.1, bel_up' H3.out.2.2 HG.out.2.2.2⟩
      have hL128 := HS.out.2.2.1
      clear hst hc HG
      obtain ⟨lp, hlp⟩ : ∃ lp, lp = dgn (pmul D L c Y) (L + T) := ⟨_, rfl⟩
      have HLp : Hid (lp = dgn (pmul D L c Y) (L + T)) := hlp
      have HKp : Hid (∀ wx, Below w3.heap.size w3 wx → Box w2.heap.size D D.gen (.slice (some ⟨gm, 0, none⟩) (D.m + 1) cm) wx) := fun wx hx => HX.out.1.below (bel_up' H3.out.2.1 hx) (by have := HX.out.2.1; omega)
      have HM : Hid (Calls Try.prog 62 #[.agg #[.int .i64 D.q, .int .i64 D.p, .int .i64 D.m, .int .i64 D.gen, .slice (some ⟨gm, 0, none⟩) (D.m + 1) cm], .slice so L sc, .slice to' T tc] wA fun e w' => (∃ po pc, e = .returned (.slice po lp pc) ∧ Arg po lp pc (fun j => ((pmul D L c Y j : Nat) : Int)) w') ∧ Below wA.heap.size wA w') := by
        have hT' := H3.out.1.below HB.out.1
        have hS' := HS.out.2.2.2.1
        refine (rpmul_any HH.out.1 D.gen gm cm (by omega) (by omega) HS.out.1 HH.out.2.2.2.2.2.2.1 HS.out.2.1.1 HH.out.2.2.2.2.2.2.2 hS'.sl hT'.sl hS'.lt hT'.lt hS'.le hS'.cap hS'.nil hT'.le hT'.cap hT'.nil (HX.out.2.2.2.below (bel_up' H3.out.2.1 HB.out.1))).mono ?_
        rintro e w' ⟨v, rfl, ho, hb⟩
        rw [← HLp.out] at ho
        obtain ⟨po, pc, rfl, ha⟩ := ho.arg (by rw [HLp.out]; have := dgn_le (pmul D L c Y) (L + T); omega)
        exact ⟨⟨po, pc, rfl, ha⟩, hb⟩
      clear hlp
      have hbx := HKp.out _ HB.out.1
      obtain ⟨k0, k1, k2, k3, k4⟩ := hbx
      by_cases h129 : 129 < L + T
      · have hL0 : (0 : Int) < (L : Int) := by omega
        have hT0 : (0 : Int) < (T : Int) := by omega
        have hbig : (128 : Int) < (L : Int) + (T : Int) - 1 := by omega
        have HR : Hid (cve D Y T N Z m m = 4 ∧ Below w.heap.size w wA) := by
          refine ⟨cve_to (by omega) hrm ?_, HB.out.2.2⟩
          rw [cve, if_neg (fun hn => hn HB.out.2.1), ← HS.out.2.2.2.2.1, if_pos h129]
        clear h129 k0 k1 k2 k3 k4
        go_wp2
        go_ret2
        exact ⟨HR.out.2, Or.inl ⟨by rw [HR.out.1]; omega, by rw [HR.out.1]; rfl⟩⟩
      · have hcond : ¬ ((0 : Int) < (L : Int) ∧ (0 : Int) < (T : Int) ∧ (128 : Int) < (L : Int) + (T : Int) - 1) := by omega
        have hsm : ¬ (128 : Int) < (L : Int) + (T : Int) - 1 := by omega
        have H129 : Hid (¬ 129 < L + T) := h129
        clear h129
        have hc3 : (¬ (0 : Int) < (L : Int)) ∨ ((0 : Int) < (L : Int) ∧ ¬ (0 : Int) < (T : Int)) ∨ ((0 : Int) < (L : Int) ∧ (0 : Int) < (T : Int)) := by omega
        clear hcond
        rcases hc3 with hL0 | ⟨hL0, hT0⟩ | ⟨hL0, hT0⟩
        all_goals
          go_wp2_with fail
          refine HM.out.mono ?_
          rintro x w4 ⟨⟨po, pc, rfl, hpa⟩, hb4⟩
          have H4 : Hid (Below w3.heap.size w3 w4 ∧ Arg po lp pc (fun j => ((pmul D L c Y j : Nat) : Int)) w4 ∧ El D (pmul D L c Y) ∧ Bd lp (pmul D L c Y) ∧ lp ≤ 128 ∧ Below w.heap.size w w4) := by
            refine ⟨bel_up' HB.out.1 hb4, hpa, el_mul (fld HH.out.1) _ _ _, ?_, ?_, bel_up' HB.out.2.2 hb4⟩
            · rw [HLp.out]
              exact dgn_bd ((pmul_bd (fld HH.out.1) HH.out.2.2.2.2.2.2.2 _).mono (by omega))
            · rw [HLp.out, pmul_len HH.out.1 HS.out.1 HH.out.2.2.2.2.2.2.1 HS.out.2.1.1 HH.out.2.2.2.2.2.2.2]
              have b1 := dgn_le c L
              have b2 := dgn_le Y T
              have b3 := H129.out
              split <;> omega
          clear hb4 hpa k0 k1 k2 k3 k4 hL0 hsm
          obtain ⟨bA, oA, eA, hcA⟩ := (HH.out.2.1.below H4.out.2.2.2.2.2).cell j hjm
          subst eA
          obtain ⟨e, he⟩ : ∃ e, e = D.chk (N j) (Z j) := ⟨_, rfl⟩
          have HMy : Hid (Calls Try.prog 8 #[.int .i64 D.q, .slice (A j) (N j) (C j)] w4 fun x w' => x = .returned (.int .i64 e) ∧ Below w4.heap.size w4 w') := by
            show Calls _ _ _ _ _
            rw [he]
            exact cmay_any HH.out.1 (HH.out.2.1.below H4.out.2.2.2.2.2) hjm
          have HEr : Hid (cve D Y T N Z m (r + 1) = e) := by
            show cve D Y T N Z m (r + 1) = e
            rw [cve, if_neg (fun hn => hn HB.out.2.1), ← HS.out.2.2.2.2.1, if_neg H129.out, hjr, he]
          have HSt : Hid (cvs D Y T N Z m (r + 1) = (dgn (padd D (pmul D L c Y) (zc (N j) (Z j))) (max lp (N j)), padd D (pmul D L c Y) (zc (N j) (Z j)))) := by
            show cvs D Y T N Z m (r + 1) = _
            rw [cvs, ← HS.out.2.2.2.2.1, ← HS.out.2.2.2.2.2, hjr, ← HLp.out]
          have HCh : Hid (e = D.chk (N j) (Z j)) := he
          clear he
          go_wp2_with fail
          refine HMy.out.mono ?_
          rintro x w5 ⟨rfl, hb5⟩
          by_cases h0 : e = 0
          · have H5 : Hid (Below w3.heap.size w3 w5 ∧ Arg po lp pc (fun j => ((pmul D L c Y j : Nat) : Int)) w5 ∧ Below w.heap.size w w5) := ⟨bel_up' H4.out.1 hb5, H4.out.2.1.below hb5, bel_up' H4.out.2.2.2.2.2 hb5⟩
            have hz : (e != 0) = false := by rw [h0]; rfl
            have HPA : Hid (∀ wx, Below w5.heap.size w5 wx → Calls Try.prog 63 #[.agg #[.int .i64 D.q, .int .i64 D.p, .int .i64 D.m, .int .i64 D.gen, .slice (some ⟨gm, 0, none⟩) (D.m + 1) cm], .slice po lp pc, .slice (A j) (N j) (C j)] wx fun x w' => ∃ v, x = .returned v ∧ OwnP wx.heap.size v (dgn (padd D (pmul D L c Y) (zc (N j) (Z j))) (max lp (N j))) (padd D (pmul D L c Y) (zc (N j) (Z j))) w' ∧ Below wx.heap.size wx w') := fun wx hx =>
              crpadd_any HH.out.1 D.gen gm cm (HH.out.2.1.below (bel_up' H5.out.2.2 hx)) hjm (H5.out.2.1.below hx) H4.out.2.2.1 H4.out.2.2.2.1 H4.out.2.2.2.2.1 (by rw [← HCh.out, h0])
            have hokr : cve D Y T N Z m (r + 1) = 0 := by rw [HEr.out, h0]
            have HOk : Hid (cve D Y T N Z m (r + 1) = 0) := hokr
            have HC5 : Hid (∀ wx, Below w5.heap.size w5 wx → Box w2.heap.size D D.gen (.slice (some ⟨gm, 0, none⟩) (D.m + 1) cm) wx ∧ wx.cell? ⟨bA, oA + j, none⟩ = some (.slice (A j) (N j) (C j))) := fun wx hx => by
              refine ⟨HKp.out _ (bel_up' H5.out.1 hx), ?_⟩
              obtain ⟨b1, o1, e1, hc1⟩ := (HH.out.2.1.below (bel_up' H5.out.2.2 hx)).cell j hjm
              cases e1
              exact hc1
            obtain ⟨⟨k0, k1, k2, k3, k4⟩, kA⟩ := HC5.out _ (Below.refl _ _)
            clear hb5 h0 hokr hcA
            have hbc : Below w5.heap.size w5 w5 := Below.refl _ _
            go_wp2_with fail
            go_region_held3 (fun w' => w'.cell? ⟨w2.heap.size, 0, none⟩ = some (.int .i64 (D.q : Nat)) ∧ w'.cell? ⟨w2.heap.size, 1, none⟩ = some (.int .i64 (D.p : Nat)) ∧ w'.cell? ⟨w2.heap.size, 2, none⟩ = some (.int .i64 (D.m : Nat)) ∧ w'.cell? ⟨w2.heap.size, 3, none⟩ = some (.int .i64 (D.gen : Nat)) ∧ w'.cell? ⟨w2.heap.size, 4, none⟩ = some (.slice (some ⟨gm, 0, none⟩) (D.m + 1) cm) ∧ w'.cell? ⟨bA, oA + j, none⟩ = some (.slice (A j) (N j) (C j)))
              (first | go_keep | exact ⟨(HC5.out _ (by first | exact hbc | exact hbc.drew)).1.c0, (HC5.out _ (by first | exact hbc | exact hbc.drew)).1.c1, (HC5.out _ (by first | exact hbc | exact hbc.drew)).1.c2, (HC5.out _ (by first | exact hbc | exact hbc.drew)).1.c3, (HC5.out _ (by first | exact hbc | exact hbc.drew)).1.c4, (HC5.out _ (by first | exact hbc | exact hbc.drew)).2⟩)
              (first
                | (go_at_call 63; refine (HPA.out _ (by first | exact hbc | exact hbc.drew)).mono ?_; rintro x w6 ⟨v, rfl, ho6, hb6⟩; replace hbc : Below w5.heap.size w5 w6 := bel_up' (by first | exact hbc | exact hbc.drew) hb6))
            have hst := cvs_ok HH.out.1 HH.out.2.2.2.2.2.2.1 HH.out.2.2.2.2.2.2.2 (r + 1) HOk.out
            rw [HSt.out] at hst
            obtain ⟨so', sc', rfl, ha'⟩ := ho6.arg (by have h := hst.2.2; show dgn _ _ ≤ 1000000; omega)
            obtain ⟨L', hL'⟩ : ∃ L', L' = dgn (padd D (pmul D L c Y) (zc (N j) (Z j))) (max lp (N j)) := ⟨_, rfl⟩
            rw [← hL'] at ha' ⊢
            have HR : Hid (cve D Y T N Z m (r + 1) = 0 ∧ L' = (cvs D Y T N Z m (r + 1)).1 ∧ Arg so' L' sc' (fun j => (((cvs D Y T N Z m (r + 1)).2 j : Nat) : Int)) w6 ∧ Below w3.heap.size w3 w6) := by
              rw [HSt.out]
              exact ⟨HOk.out, hL', ha', bel_up' H5.out.1 hbc⟩
            clear hst ho6 ha' hL' hb6 hbc k0 k1 k2 k3 k4 kA
            go_wp2
            go_roundw
            case rel =>
              by_cases hj00 : j = 0
              · exact ⟨r + 1, 0, so', sc', L', by omega, rfl, Or.inl ⟨rfl, by rw [hj00]; rfl⟩, HR.out⟩
              · exact ⟨r + 1, j, so', sc', L', by omega, rfl, Or.inr ⟨j - 1, by omega, by go_num⟩, HR.out⟩
            case measure => first | (simp [intOf]; done) | (simp [intOf]; omega)
          · have HR : Hid (cve D Y T N Z m m = e ∧ e ≠ 0 ∧ Below w.heap.size w w5) := ⟨cve_to h0 hrm HEr.out, h0, bel_up' H4.out.2.2.2.2.2 hb5⟩
            have hz : (e != 0) = true := by rw [bne_iff_ne]; exact h0
            clear hb5 h0
            go_wp2
            go_ret2
            exact ⟨HR.out.2.2, Or.inl ⟨by rw [HR.out.1]; exact HR.out.2.1, by rw [HR.out.1]; rfl⟩⟩
end Go.Proofs.Ytpccbiinfdppnad
