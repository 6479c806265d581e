/- Curves (lists.Curve): what both sides reckon; the calls that they make. -/
import Derived.Test.YtjkncdmbcckcdaaZU23
import Derived.Test.YtjkncdmbcckcdaaZO3
namespace Go.Proofs.Ytjkncdmbcckcdaa
open Go.RowKit Go.Sort

/-- The sum when the last r lists are reckoned: how long it is, and its coefficients. T: how long Y is. -/
def cvs (D : FD) (Y : Nat → Nat) (T : Nat) (N : Nat → Nat) (Z : Nat → Nat → Int) (m : Nat) : Nat → Nat × (Nat → Nat)
  | 0 => (0, pnil)
  | r + 1 => (dgn (padd D (pmul D (cvs D Y T N Z m r).1 (cvs D Y T N Z m r).2 Y) (zc (N (m - 1 - r)) (Z (m - 1 - r)))) (max (dgn (pmul D (cvs D Y T N Z m r).1 (cvs D Y T N Z m r).2 Y) ((cvs D Y T N Z m r).1 + T)) (N (m - 1 - r))), padd D (pmul D (cvs D Y T N Z m r).1 (cvs D Y T N Z m r).2 Y) (zc (N (m - 1 - r)) (Z (m - 1 - r))))
/-- The first error. -/
def cve (D : FD) (Y : Nat → Nat) (T : Nat) (N : Nat → Nat) (Z : Nat → Nat → Int) (m : Nat) : Nat → Int
  | 0 => 0
  | r + 1 => if cve D Y T N Z m r ≠ 0 then cve D Y T N Z m r else if 129 < (cvs D Y T N Z m r).1 + T then 4 else D.chk (N (m - 1 - r)) (Z (m - 1 - r))
theorem cve_keep {D : FD} {Y : Nat → Nat} {T : Nat} {N : Nat → Nat} {Z : Nat → Nat → Int} {m r : Nat} (h : cve D Y T N Z m r ≠ 0) : ∀ d, cve D Y T N Z m (r + d) = cve D Y T N Z m r
  | 0 => rfl
  | d + 1 => by
    rw [← Nat.add_assoc, cve, cve_keep h d, if_pos h]
theorem cve_to {D : FD} {Y : Nat → Nat} {T : Nat} {N : Nat → Nat} {Z : Nat → Nat → Int} {m r : Nat} {e : Int} (he : e ≠ 0) (hr : r < m) (h : cve D Y T N Z m (r + 1) = e) : cve D Y T N Z m m = e := by
  have h1 := cve_keep (r := r + 1) (by rw [h]; exact he) (m - (r + 1))
  rw [show r + 1 + (m - (r + 1)) = m from by omega, h] at h1
  exact h1
theorem cvs_ok {D : FD} (hD : D ∈ fieldsL) {Y : Nat → Nat} {T : Nat} {N : Nat → Nat} {Z : Nat → Nat → Int} {m : Nat} (hY : El D Y) (hb : Bd T Y) : ∀ r, cve D Y T N Z m r = 0 → El D (cvs D Y T N Z m r).2 ∧ Trd (cvs D Y T N Z m r).1 (cvs D Y T N Z m r).2 ∧ (cvs D Y T N Z m r).1 ≤ 128
  | 0, _ => ⟨el_nil (fld hD), ⟨fun _ _ => rfl, fun h => absurd rfl h⟩, by show 0 ≤ 128; omega⟩
  | r + 1, h => by
    have F := fld hD
    have h0 : cve D Y T N Z m r = 0 := Classical.byContradiction fun hn => by
      rw [cve, if_pos hn] at h; exact hn h
    rw [cve, if_neg (fun hn => hn h0)] at h
    have h1 : ¬ 129 < (cvs D Y T N Z m r).1 + T := fun hn => by rw [if_pos hn] at h; cases h
    rw [if_neg h1] at h
    obtain ⟨a1, a2, a3⟩ := cvs_ok hD hY hb r h0
    have hlp : dgn (pmul D (cvs D Y T N Z m r).1 (cvs D Y T N Z m r).2 Y) ((cvs D Y T N Z m r).1 + T) ≤ 128 := by
      rw [pmul_len hD a1 hY a2.1 hb]
      have b1 := dgn_le (cvs D Y T N Z m r).2 (cvs D Y T N Z m r).1
      have b2 := dgn_le Y T
      split <;> omega
    have hPb : Bd (dgn (pmul D (cvs D Y T N Z m r).1 (cvs D Y T N Z m r).2 Y) ((cvs D Y T N Z m r).1 + T)) (pmul D (cvs D Y T N Z m r).1 (cvs D Y T N Z m r).2 Y) := dgn_bd ((pmul_bd F hb _).mono (by omega))
    have hAb := zc_bd (N (m - 1 - r)) (Z (m - 1 - r))
    have hN := (chk_zero h).1
    have hsb : Bd (max (dgn (pmul D (cvs D Y T N Z m r).1 (cvs D Y T N Z m r).2 Y) ((cvs D Y T N Z m r).1 + T)) (N (m - 1 - r))) (padd D (pmul D (cvs D Y T N Z m r).1 (cvs D Y T N Z m r).2 Y) (zc (N (m - 1 - r)) (Z (m - 1 - r)))) := fun j hj => by
      show D.ad _ _ = 0
      rw [hPb j (by omega), hAb j (by omega), ad_zero F (zero_lt' F)]
    refine ⟨el_add F (el_mul F _ _ _) (zc_el F h), trd_dgn hsb, ?_⟩
    have := dgn_le (padd D (pmul D (cvs D Y T N Z m r).1 (cvs D Y T N Z m r).2 Y) (zc (N (m - 1 - r)) (Z (m - 1 - r)))) (max (dgn (pmul D (cvs D Y T N Z m r).1 (cvs D Y T N Z m r).2 Y) ((cvs D Y T N Z m r).1 + T)) (N (m - 1 - r)))
    show dgn _ _ ≤ 128
    omega
theorem zc_nat {n : Nat} {c : Nat → Nat} (h : Bd n c) : zc n (fun j => ((c j : Nat) : Int)) = c := by
  funext j
  unfold zc
  by_cases e : j < n
  · rw [if_pos e]; simp
  · rw [if_neg e, h j (by omega)]
theorem chk_nat {D : FD} {n : Nat} {c : Nat → Nat} (h : El D c) (hn : n ≤ 128) : D.chk n (fun j => ((c j : Nat) : Int)) = 0 := by
  unfold FD.chk
  rw [if_neg (by omega), if_pos (allHas_iff.2 (fun j _ => has_of_lt (h j)))]
theorem OwnP.arg {base n : Nat} {v : Value} {c : Nat → Nat} {w : World} (h : OwnP base v n c w) (hn : n ≤ 1000000) : ∃ so sc, v = .slice so n sc ∧ Arg so n sc (fun j => ((c j : Nat) : Int)) w := by
  obtain ⟨so, sc, rfl, h1, h2, _, h4, h5, h6⟩ := h.open
  exact ⟨so, sc, rfl, h6, h4, hn, h5, h1, h2⟩
theorem arg_nil (w : World) (z : Nat → Int) : Arg none 0 0 z w := ⟨fun j hj => absurd hj (by omega), fun x hx => (by cases hx), by omega, fun _ => rfl, by omega, by omega⟩
theorem MatZ.arg {ao : Option Addr} {m : Nat} {A : Nat → Option Addr} {N C : Nat → Nat} {Z : Nat → Nat → Int} {w : World} (h : MatZ ao m A N C Z w) {j : Nat} (hj : j < m) (hN : N j ≠ 0) : Arg (A j) (N j) (C j) (Z j) w := by
  refine ⟨h.sl j hj, fun x hx => ?_, h.few j hj, h.nil j hj, h.le j hj, h.cap j hj⟩
  obtain ⟨b, off, e, hc⟩ := h.sl j hj 0 (by omega)
  rw [hx] at e
  cases e
  exact cell_lt hc
theorem zc_none (z : Nat → Int) : zc 0 z = pnil := by funext j; unfold zc; rw [if_neg (by omega)]; rfl

/-- A sum with one of the lists that were handed in. -/
theorem cadd_any {D : FD} (hD : D ∈ fieldsL) {ao po : Option Addr} {m lp pc : Nat} {A : Nat → Option Addr} {N C : Nat → Nat} {Z : Nat → Nat → Int} {P : Nat → Nat} {w : World} (h : MatZ ao m A N C Z w) {j : Nat} (hj : j < m) (hp : Arg po lp pc (fun j => ((P j : Nat) : Int)) w) (hE : El D P) (hB : Bd lp P) (hl : lp ≤ 128) :
    Calls Try.prog 65 #[.int .i64 D.q, .slice po lp pc, .slice (A j) (N j) (C j)] w fun e w' => Below w.heap.size w w' ∧
      ((D.chk (N j) (Z j) = 0 ∧ ∃ v, e = .returned (.tuple #[v, .int .i64 0]) ∧ OwnP w.heap.size v (dgn (padd D P (zc (N j) (Z j))) (max lp (N j))) (padd D P (zc (N j) (Z j))) w') ∨
       (D.chk (N j) (Z j) ≠ 0 ∧ e = .returned (.tuple #[.slice none 0 0, .int .i64 (D.chk (N j) (Z j))]))) := by
  have hc := chk_nat hE hl
  have hz := zc_nat hB
  by_cases h0 : N j = 0
  · rw [h0]
    refine (padd_nil0 hD hp hc).mono ?_
    rintro e w' ⟨hb, v, rfl, ho⟩
    rw [hz] at ho
    refine ⟨hb, Or.inl ⟨chk_nil D _, v, rfl, ?_⟩⟩
    rw [zc_none, padd_nil (fld hD) hE, Nat.max_eq_left (Nat.zero_le _)]
    exact ho
  · refine (padd_any hD hp (h.arg hj h0)).mono ?_
    rintro e w' ⟨hb, hr⟩
    rw [chk2_def, if_pos hc, hz] at hr
    exact ⟨hb, hr⟩
theorem cmay_any {D : FD} (hD : D ∈ fieldsL) {ao : Option Addr} {m : Nat} {A : Nat → Option Addr} {N C : Nat → Nat} {Z : Nat → Nat → Int} {w : World} (h : MatZ ao m A N C Z w) {j : Nat} (hj : j < m) :
    Calls Try.prog 66 #[.int .i64 D.q, .slice (A j) (N j) (C j)] w fun e w' => e = .returned (.int .i64 (D.chk (N j) (Z j))) ∧ Below w.heap.size w w' := by
  by_cases h0 : N j = 0
  · rw [h0, chk_nil]
    exact polyMay_nil hD _ _ _
  · have ha := h.arg hj h0
    exact polyMay_any hD ha.sl ha.lt ha.few
theorem crpadd_any {D : FD} (hD : D ∈ fieldsL) (gen gm cm : Nat) {ao po : Option Addr} {m lp pc : Nat} {A : Nat → Option Addr} {N C : Nat → Nat} {Z : Nat → Nat → Int} {P : Nat → Nat} {w : World} (h : MatZ ao m A N C Z w) {j : Nat} (hj : j < m) (hp : Arg po lp pc (fun j => ((P j : Nat) : Int)) w) (hE : El D P) (hB : Bd lp P) (hl : lp ≤ 128) (hc : D.chk (N j) (Z j) = 0) :
    Calls Try.prog 69 #[.agg #[.int .i64 D.q, .int .i64 D.p, .int .i64 D.m, .int .i64 gen, .slice (some ⟨gm, 0, none⟩) (D.m + 1) cm], .slice po lp pc, .slice (A j) (N j) (C j)] w fun e w' => ∃ v, e = .returned v ∧ OwnP w.heap.size v (dgn (padd D P (zc (N j) (Z j))) (max lp (N j))) (padd D P (zc (N j) (Z j))) w' ∧ Below w.heap.size w w' := by
  by_cases h0 : N j = 0
  · rw [h0]
    refine (rpadd_nil hD gen gm cm (by omega) hE hp.sl hp.lt).mono ?_
    rintro e w' ⟨v, rfl, ho, hb⟩
    refine ⟨v, rfl, ?_, hb⟩
    rw [zc_none, padd_nil (fld hD) hE, Nat.max_eq_left (Nat.zero_le _)]
    exact ho
  · have ha := h.arg hj h0
    have hN := (chk_zero hc).1
    exact rpadd_any hD gen gm cm (by omega) (by omega) hE (zc_el (fld hD) hc) hB (zc_bd _ _) hp.sl (zc_sl hc ha.sl) hp.lt ha.lt
end Go.Proofs.Ytjkncdmbcckcdaa
