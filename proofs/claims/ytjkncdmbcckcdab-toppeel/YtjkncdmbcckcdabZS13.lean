/- Texts of ours, one behind the other: S13 S14 S15 S16 K6 K7 W12 K9 S20 KA1 KA2 KA3. -/
import Derived.Test.YtjkncdmbcckcdabZI21
import Derived.Test.YtjkncdmbcckcdabZI4
import Derived.Test.YtjkncdmbcckcdabZX18
import Derived.Test.YtjkncdmbcckcdabZI5
import Derived.Test.YtjkncdmbcckcdabZK4
import Derived.Test.YtjkncdmbcckcdabZI8
import Derived.Test.YtjkncdmbcckcdabZA1
import Derived.Test.YtjkncdmbcckcdabZW2
import Derived.Test.YtjkncdmbcckcdabZM3
import Derived.Test.YtjkncdmbcckcdabZN1
import Derived.Deep.CutBlock
import Derived.Deep.DeepCutAuto
/- Plain mathematics: what makes rows 0 is what the null rows span; the dual of the dual. No Go text here. -/
namespace Go.Proofs.Ytjkncdmbcckcdab

theorem lcR_spn {D : FD} (F : Fld D) {K : Nat} {R : Nat → Nat → Nat} (p v : Nat → Nat) (hR : ∀ i, i < K → El D (R i)) : ∀ k, k ≤ K → Spn D (RowsOf K R) (lcR D R p v k)
  | 0, _ => spn_nil D _
  | k + 1, h => spn_add F (lcR_spn F p v hR k (by omega)) (spn_scale F _ (spn_mem F (hR k (by omega)) ⟨k, by omega, rfl⟩))
/-- At its own place a sum of rows is what was asked for. -/
theorem lcR_own {D : FD} (F : Fld D) {K : Nat} {R : Nat → Nat → Nat} {p v : Nat → Nat} (hv : El D v) (ho : ∀ i j, i < K → j < K → R i (p j) = if i = j then 1 else 0) {j : Nat} (hj : j < K) : ∀ k, k ≤ K → lcR D R p v k (p j) = if j < k then v (p j) else 0
  | 0, _ => by rw [if_neg (by omega)]; rfl
  | k + 1, h => by
    show D.ad (lcR D R p v k (p j)) (D.mul (v (p k)) (R k (p j))) = _
    rw [lcR_own F hv ho hj k (by omega), ho k j (by omega) hj]
    by_cases e : k = j
    · subst e
      rw [if_neg (by omega), if_pos rfl, if_pos (by omega), mul1 F (hv _), zero_ad F (hv _)]
    · rw [if_neg e, mul0 F]
      by_cases e2 : j < k
      · rw [if_pos e2, if_pos (by omega), ad_zero F (hv _)]
      · rw [if_neg e2, if_neg (by omega), ad_zero F (zero_lt' F)]
theorem dot_only {D : FD} (F : Fld D) {a b : Nat → Nat} {t : Nat} : ∀ n, t < n → (∀ j, j < n → j ≠ t → D.mul (a j) (b j) = 0) → dot D a b n = D.mul (a t) (b t)
  | 0, h, _ => absurd h (by omega)
  | n + 1, h, hz => by
    show D.ad (dot D a b n) (D.mul (a n) (b n)) = _
    by_cases e : n = t
    · subst e
      have h0 : ∀ m, m ≤ n → dot D a b m = 0 := fun m => by
        induction m with
        | zero => intro _; rfl
        | succ m ih =>
          intro hm
          show D.ad (dot D a b m) (D.mul (a m) (b m)) = 0
          rw [ih (by omega), hz m (by omega) (by omega), ad_zero F (zero_lt' F)]
      rw [h0 n (Nat.le_refl _), zero_ad F (F.mul_lt _ _)]
    · rw [hz n (by omega) e, ad_zero F (dot_lt F _ _ _)]
      exact dot_only F n (by omega) (fun j hj => hz j (by omega))
theorem fcs_all {k : Nat} {p : Nat → Nat} {c : Nat} (hc : ∀ i, i < k → p i ≠ c) : ∀ n, c < n → ∃ i, i < nct k p n ∧ fcs k p n i = c
  | 0, h => absurd h (by omega)
  | n + 1, h => by
    by_cases e : c = n
    · subst e
      exact ⟨nct k p c, by rw [nct_yes hc]; omega, fcs_at k p c⟩
    · obtain ⟨i, hi, hf⟩ := fcs_all hc n (by omega)
      refine ⟨i, ?_, by rw [fcs_lo hi]; exact hf⟩
      by_cases h2 : ∀ i, i < k → p i ≠ n
      · rw [nct_yes h2]; omega
      · rw [nct_no h2]; exact hi

theorem dot_nrv {D : FD} (F : Fld D) {n k : Nat} {R : Nat → Nat → Nat} {p : Nat → Nat} (h : RRE D n k R p) {i c : Nat} (hi : i < k) (hc : c < n) (hf : ∀ j, j < k → p j ≠ c) : ∀ r, r ≤ k → dot D (R i) (nrv D R p c r) n = if i < r then 0 else R i c
  | 0, _ => by rw [if_neg (by omega)]; exact dot_unit F (h.el i hi c) hc
  | r + 1, hr => by
    have e : nrv D R p c (r + 1) = fun t => if t = p r then D.ng (R r c) else nrv D R p c r t := rfl
    have h0 : nrv D R p c r (p r) = 0 := by
      rw [nrv_free r (fun j hj e => by have := h.mono j r hj (by omega); omega), if_neg (hf r (by omega))]
    rw [e, dot_put F h0 n (h.lt r (by omega)), dot_nrv F h hi hc hf r (by omega)]
    by_cases e2 : i = r
    · subst e2
      rw [if_neg (by omega), if_pos (by omega), h.one i hi, omul F (ng_lt F (h.el i hi c)), ad_ng F (h.el i hi c)]
    · rw [h.zero i r hi (by omega) e2, zmul F]
      by_cases e3 : i < r
      · rw [if_pos e3, if_pos (by omega), ad_zero F (zero_lt' F)]
      · rw [if_neg e3, if_neg (by omega), ad_zero F (h.el i hi c)]
theorem nul_orth {D : FD} (F : Fld D) {n k : Nat} {R : Nat → Nat → Nat} {p : Nat → Nat} (h : RRE D n k R p) {i j : Nat} (hi : i < k) (hj : j < nct k p n) : dot D (R i) (nul D R p k n j) n = 0 := by
  have h1 := fcs_ok n j hj
  have h2 := dot_nrv F h hi h1.1 h1.2 k (Nat.le_refl _)
  rw [if_pos hi] at h2
  exact h2
theorem orth_nul {D : FD} (F : Fld D) {n k : Nat} {R : Nat → Nat → Nat} {p : Nat → Nat} (h : RRE D n k R p) {v : Nat → Nat} (hv : El D v) (hb : Bd n v) (ho : ∀ i, i < k → dot D (R i) v n = 0) : Spn D (RowsOf (nct k p n) (nul D R p k n)) v := by
  have hs := lcR_spn F (K := nct k p n) (R := nul D R p k n) (fcs k p n) v (fun i _ => nul_el F h.el n i) (nct k p n) (Nat.le_refl _)
  obtain ⟨s, hse⟩ : ∃ s, s = lcR D (nul D R p k n) (fcs k p n) v (nct k p n) := ⟨_, rfl⟩
  rw [← hse] at hs
  have hsel : El D s := hs.el F
  have hu : ∀ c, D.sb (v c) (s c) = 0 := by
    have horth : ∀ i, i < k → dot D (R i) (psub D v s) n = 0 := fun i hi => by
      have e : dot D v (R i) n = 0 := by rw [dot_comm F]; exact ho i hi
      have e2 : dot D s (R i) n = 0 := dot_spn F hs (fun x ⟨j, hj, hx⟩ => by rw [hx, dot_comm F]; exact nul_orth F h hi hj)
      have e3 : psub D v s = padd D v (pscale D (D.ng 1) s) := by
        funext c
        show D.sb (v c) (s c) = D.ad (v c) (D.mul (D.ng 1) (s c))
        rw [F.mul_comm, mul_ng F (one_lt' F), mul1 F (hsel c)]; rfl
      rw [dot_comm F, e3, dot_add F hv (el_scale F _ _), dot_scale F, e, e2, mul0 F, ad_zero F (zero_lt' F)]
    have hfree : ∀ c, c < n → (∀ j, j < k → p j ≠ c) → D.sb (v c) (s c) = 0 := fun c hc hf => by
      obtain ⟨j, hj, ej⟩ := fcs_all hf n hc
      have h1 := lcR_own F (K := nct k p n) (R := nul D R p k n) (p := fcs k p n) hv (fun a b ha hb => nul_one ha hb) hj (nct k p n) (Nat.le_refl _)
      rw [if_pos hj, ej, ← hse] at h1
      rw [h1, sb_self F (hv c)]
    intro c
    by_cases hc : c < n
    · by_cases hf : ∀ j, j < k → p j ≠ c
      · exact hfree c hc hf
      · obtain ⟨i, hi, e⟩ : ∃ i, i < k ∧ p i = c := Classical.byContradiction (fun hn => hf (fun j hj e => hn ⟨j, hj, e⟩))
        subst e
        have h1 := dot_only F (a := R i) (b := psub D v s) n (h.lt i hi) (fun j hj hne => by
          by_cases hf2 : ∀ l, l < k → p l ≠ j
          · show D.mul (R i j) (D.sb (v j) (s j)) = 0
            rw [hfree j hj hf2, mul0 F]
          · obtain ⟨l, hl, e⟩ : ∃ l, l < k ∧ p l = j := Classical.byContradiction (fun hn => hf2 (fun j hj e => hn ⟨j, hj, e⟩))
            subst e
            rw [h.zero i l hi hl (fun e => hne (by rw [e])), zmul F])
        rw [horth i hi, h.one i hi] at h1
        have h2 : D.mul 1 (D.sb (v (p i)) (s (p i))) = 0 := h1.symm
        rw [omul F (sb_lt F (hv _) (hsel _))] at h2
        exact h2
    · have h1 : s c = 0 := by
        have hsb : ∀ k', k' ≤ nct k p n → lcR D (nul D R p k n) (fcs k p n) v k' c = 0 := fun k' hk' => lcR_at F _ _ _ c k' (fun i hi => by rw [nul_bd h.lt (by omega) c (by omega), mul0 F])
        rw [hse]; exact hsb _ (Nat.le_refl _)
      rw [h1, hb c (by omega), sb_self F (zero_lt' F)]
  have e : v = s := by
    funext c
    exact sb_eq_zero F (hv c) (hsel c) (hu c)
  rw [e]; exact hs
/-- What makes rows 0 is what their dual spans. -/
theorem Dul.iff {D : FD} (F : Fld D) {n m k2 : Nat} {M R2 : Nat → Nat → Nat} (h : Dul D n m M k2 R2) (hM : ∀ i, i < m → El D (M i)) (v : Nat → Nat) : Spn D (RowsOf k2 R2) v ↔ El D v ∧ Bd n v ∧ ∀ i, i < m → dot D (M i) v n = 0 := by
  obtain ⟨k, R, p, p2, h1, h2, h3, h4, _⟩ := h
  rw [h4 v]
  constructor
  · intro hs
    refine ⟨hs.el F, ?_, fun i hi => ?_⟩
    · exact spn_ind (Q := Bd n) (fun _ _ => rfl) (fun u w hu hw c hc => by show D.ad (u c) (w c) = 0; rw [hu c hc, hw c hc, ad_zero F (zero_lt' F)]) (fun s u hu c hc => by show D.mul s (u c) = 0; rw [hu c hc, mul0 F]) (fun u ⟨j, hj, e⟩ => by rw [e]; exact nul_bd h1.lt hj) hs
    · have hMi := (h2 _).2 (spn_mem F (hM i hi) ⟨i, hi, rfl⟩)
      refine dot_spn F hMi (fun u ⟨j, hj, e⟩ => ?_)
      rw [e, dot_comm F]
      exact dot_spn F hs (fun x ⟨l, hl, ex⟩ => by rw [ex, dot_comm F]; exact nul_orth F h1 hj hl)
  · rintro ⟨he, hb, ho⟩
    refine orth_nul F h1 he hb (fun i hi => ?_)
    have hRi := (h2 _).1 (spn_mem F (h1.el i hi) ⟨i, hi, rfl⟩)
    exact dot_spn F hRi (fun u ⟨j, hj, e⟩ => by rw [e]; exact ho j hj)
end Go.Proofs.Ytjkncdmbcckcdab

/- Plain mathematics: the dual of the dual. No Go text here. -/
namespace Go.Proofs.Ytjkncdmbcckcdab

end Go.Proofs.Ytjkncdmbcckcdab

/- Plain mathematics: how many rows sums and meets of codes have. No Go text here. -/
namespace Go.Proofs.Ytjkncdmbcckcdab

end Go.Proofs.Ytjkncdmbcckcdab

/- Plain mathematics: the rows of sum and meet together are both's. No Go text here. -/
namespace Go.Proofs.Ytjkncdmbcckcdab

theorem RRE.take {D : FD} {n k j : Nat} {R : Nat → Nat → Nat} {p : Nat → Nat} (h : RRE D n k R p) (hj : j ≤ k) : RRE D n j R p :=
  ⟨fun i hi => h.el i (by omega), fun i hi => h.bd i (by omega), fun i hi => h.lt i (by omega), fun a b h1 h2 => h.mono a b h1 (by omega), fun i hi => h.one i (by omega), fun a b h1 h2 => h.zero a b (by omega) (by omega), fun i c hi => h.lead i c (by omega)⟩
end Go.Proofs.Ytjkncdmbcckcdab

/- Codes out of raw numbers (Few, CodeOf). -/
namespace Go.Proofs.Ytjkncdmbcckcdab
open Go.RowKit Go.Sort

theorem blw_mchk6 {D : FD} {m c : Nat} {Z : Nat → Nat → Int} (hm : m ≤ 64) (hc0 : 1 ≤ c) (hc : c ≤ 64) (h : ∀ i, i < m → Blw D.q c (Z i)) : D.mchk m (fun _ => c) Z = 0 := by
  refine mchk_of hm (fun i hi => ?_)
  unfold FD.mrow
  rw [if_neg (by omega), if_neg (by omega), if_pos]
  refine allHas_iff.2 (fun j hj => ?_)
  have := h i hi j hj
  unfold FD.has
  rw [decide_eq_true_eq]; exact this
/-- Rows of raw numbers are rows of a code. -/
theorem MkS.cdz {D : FD} {base n r : Nat} {v : Value} {vs : Nat → Value} {Z : Nat → Nat → Int} {w : World} (h : MkS base D.q n r v vs Z w) (hr : r ≤ 64) (hn1 : 1 ≤ n) (hn : n ≤ 64) : ∃ mo mc, v = .slice mo r mc ∧ CdZ D mo r n (fun j => slA (vs j)) (fun _ => n) (fun j => slC (vs j)) Z w := by
  obtain ⟨mo, mc, rfl, hz⟩ := h.matZ (by omega)
  exact ⟨mo, mc, rfl, hz, blw_mchk6 hr hn1 hn h.blw, fun _ => rfl, hn1, hn⟩
end Go.Proofs.Ytjkncdmbcckcdab

/- Codes in hand: what was told is handed in again (Sum, Meet, Make, Dual). -/
namespace Go.Proofs.Ytjkncdmbcckcdab
open Go.RowKit Go.Sort

/-- A code that can be handed in, of the rows M. -/
def Cod (D : FD) (n : Nat) (ao : Option Addr) (m : Nat) (M : Nat → Nat → Nat) (w : World) : Prop := ∃ A N C Z, CdZ D ao m n A N C Z w ∧ ∀ i, i < m → mzc N Z i = M i
theorem Cod.below {D : FD} {n m : Nat} {ao : Option Addr} {M : Nat → Nat → Nat} {w w' : World} (h : Cod D n ao m M w) (hb : Below w.heap.size w w') : Cod D n ao m M w' := by
  obtain ⟨A, N, C, Z, h1, h2⟩ := h
  exact ⟨A, N, C, Z, h1.below hb, h2⟩
theorem Cod.rows {D : FD} (F : Fld D) {n m : Nat} {ao : Option Addr} {M : Nat → Nat → Nat} {w : World} (h : Cod D n ao m M w) : m ≤ 64 ∧ (1 ≤ n ∧ n ≤ 64) ∧ ∀ i, i < m → El D (M i) ∧ Bd n (M i) := by
  obtain ⟨A, N, C, Z, h1, h2⟩ := h
  obtain ⟨g1, g2, g3, _⟩ := h1.rows F
  exact ⟨g1, ⟨h1.n1, h1.n64⟩, fun i hi => by rw [← h2 i hi]; exact ⟨g2 i hi, g3 i hi⟩⟩
theorem MV.cod {D : FD} {B n k : Nat} {ro : Option Addr} {rc : Nat} {R : Nat → Nat → Nat} {w : World} (h : MV B (.slice ro k rc) k n R w) (hn1 : 1 ≤ n) (hn : n ≤ 64) (hk : k ≤ 64) (he : ∀ i, i < k → El D (R i)) (hb : ∀ i, i < k → Bd n (R i)) : Cod D n ro k R w := by
  obtain ⟨A, C, hc⟩ := (h.rlz (by omega)).cdz (D := D) hn1 hn hk he
  exact ⟨A, _, C, _, hc, fun i hi => mzc_rows hb i hi⟩
theorem Cod.chk {D : FD} (hD : D ∈ fieldsL) {n m : Nat} (ca : Nat) {ao : Option Addr} {M : Nat → Nat → Nat} {w : World} (h : Cod D n ao m M w) (wx : World) (hx : Below w.heap.size w wx) :
    Calls Try.prog 16 #[.agg #[.int .i64 D.q, .int .i64 (n : Nat), .slice ao m ca]] wx fun x w' => x = .returned (.int .i64 0) ∧ Below wx.heap.size wx w' := by
  obtain ⟨A, N, C, Z, h1, _⟩ := h.below hx
  have e : D.cchk (n : Nat) m N Z = 0 := by
    have a1 := h1.n1
    have a2 := h1.n64
    unfold FD.cchk
    rw [if_neg (by omega), h1.chk, if_neg (fun h => h rfl), if_neg]
    rintro ⟨b1, b2⟩
    exact b2 (by rw [h1.wd b1])
  have := ccheck_any hD (ca := ca) (n : Nat) h1.mat (h1.few (fld hD))
  rw [e] at this
  exact this
theorem Red.of_eq {D : FD} {n m k : Nat} {M M' R : Nat → Nat → Nat} (h : Red D n m M k R) (e : ∀ i, i < m → M i = M' i) : Red D n m M' k R := by
  obtain ⟨p, h1, h2⟩ := h
  exact ⟨p, h1, fun v => (h2 v).trans (rows_congr e v)⟩
theorem Cod.dual {D : FD} (hD : D ∈ fieldsL) {n m : Nat} (ca : Nat) {ao : Option Addr} {M : Nat → Nat → Nat} {w : World} (h : Cod D n ao m M w) :
    Calls Try.prog 6 #[.agg #[.int .i64 D.q, .int .i64 (n : Nat), .slice ao m ca]] w fun x w' => ∃ k R ro rc, x = .returned (.tuple #[.agg #[.int .i64 D.q, .int .i64 (n : Nat), .slice ro k rc], .int .i64 0]) ∧ (Cod D n ro k R w' ∧ RL (.slice ro k rc) k n R w') ∧ Dul D n m M k R ∧ Below w.heap.size w w' := by
  have hr := h.rows (fld hD)
  have hc := h.chk hD ca
  obtain ⟨A, N, C, Z, h1, h2⟩ := h
  refine (cDual_ok hD h1 hc).mono ?_
  rintro x w' ⟨k, R, ro, rc, rfl, hmv, hdu, hb⟩
  have hkn := hdu.le
  exact ⟨k, R, ro, rc, rfl, ⟨hmv.cod hr.2.1.1 hr.2.1.2 (by omega) hdu.rows.1 hdu.rows.2, hmv.rl⟩, hdu.of_spn (fun v => rows_congr h2 v), hb⟩
/-- A code's variable, newly made. -/
theorem box_at (q n : Int) (v : Value) (w : World) : Below w.heap.size w (w.alloc (.cells #[.int .i64 q, .int .i64 n, v] 27)) ∧ CB w.heap.size q n v (w.alloc (.cells #[.int .i64 q, .int .i64 n, v] 27)) ∧ (w.alloc (.cells #[.int .i64 q, .int .i64 n, v] 27)).heap.size = w.heap.size + 1 :=
  ⟨(Below.refl _ _).alloc (Nat.le_refl _) _, CB.new _ _ _ _, by simp⟩
end Go.Proofs.Ytjkncdmbcckcdab

/- A region that draws its order: one of two operations comes next. No Go text here. -/
namespace Go.Proofs.Ytjkncdmbcckcdab
open Go

end Go.Proofs.Ytjkncdmbcckcdab

/- Codes in hand: Encode, Has; words of a code and of its dual. -/
namespace Go.Proofs.Ytjkncdmbcckcdab
open Go.RowKit Go.Sort

/-- A word that was told: it can be handed in again. -/
def Wrd (n : Nat) (v : Nat → Nat) (gr c : Nat) (w : World) : Prop := Row gr n v w ∧ n ≤ c ∧ c ≤ 9223372036854775807
theorem Wrd.below {n gr c : Nat} {v : Nat → Nat} {w w' : World} (h : Wrd n v gr c w) (hb : Below w.heap.size w w') : Wrd n v gr c w' := ⟨h.1.below hb h.1.lt, h.2⟩
theorem Wrd.arg {n gr c : Nat} {v : Nat → Nat} {w : World} (h : Wrd n v gr c w) (hn : n ≤ 1000) : Arg (some ⟨gr, 0, none⟩) n c (fun i => ((v i : Nat) : Int)) w :=
  ⟨slz_of (h.1.sl (Nat.le_refl _)), fun x hx => by cases hx; exact h.1.lt, by omega, (fun e => by cases e), h.2.1, h.2.2⟩
theorem enw_spn {D : FD} (F : Fld D) {R : Nat → Nat → Nat} {z : Nat → Nat} {K : Nat} (hR : ∀ i, i < K → El D (R i)) : ∀ k, k ≤ K → Spn D (RowsOf K R) (enw D R z k)
  | 0, _ => spn_nil D _
  | k + 1, h => spn_add F (enw_spn F hR k (by omega)) (spn_scale F _ (spn_mem F (hR k (by omega)) ⟨k, by omega, rfl⟩))
theorem blw_nchk {D : FD} {k : Nat} {y : Nat → Int} (h : Blw D.q k y) : D.nchk k y (k : Nat) = 0 := by
  unfold FD.nchk
  rw [if_neg (fun h => h rfl), if_neg]
  rw [anyB_no k (fun j hj => ?_)]
  · intro e; cases e
  · have hh : D.has (y j) = true := by
      have := h j hj
      unfold FD.has
      rw [decide_eq_true_eq]; exact this
    rw [hh]; rfl
theorem Cod.encode {D : FD} (hD : D ∈ fieldsL) {n m k my : Nat} (ca : Nat) {ao yo : Option Addr} {cy : Nat} {M R : Nat → Nat → Nat} {y : Nat → Int} {w : World} (h : Cod D n ao m M w) (hY : Arg yo my cy y w) (hR : Red D n m M k R) (hk : D.nchk my y k = 0) :
    Calls Try.prog 7 #[.agg #[.int .i64 D.q, .int .i64 (n : Nat), .slice ao m ca], .slice yo my cy] w fun x w' => ∃ v gr c, x = .returned (.tuple #[.slice (some ⟨gr, 0, none⟩) n c, .int .i64 0]) ∧ Wrd n v gr c w' ∧ (El D v ∧ Spn D (RowsOf m M) v) ∧ Below w.heap.size w w' := by
  have hc := h.chk hD ca
  obtain ⟨A, N, C, Z, h1, h2⟩ := h
  refine (cEncode_ok hD h1 hY (hR.of_eq (fun i hi => (h2 i hi).symm)) hk hc).mono ?_
  rintro x w' ⟨⟨gr, c, rfl, hrow, _, hc1, hc2⟩, hb⟩
  refine ⟨_, gr, c, rfl, ⟨hrow, hc1, hc2⟩, ⟨enw_el (fld hD) k, ?_⟩, hb⟩
  obtain ⟨p, q1, q2⟩ := hR
  exact (q2 _).1 (enw_spn (fld hD) q1.el k (Nat.le_refl _))
end Go.Proofs.Ytjkncdmbcckcdab

/- Plain mathematics: how many sets there are; Krawtchouk's numbers. No Go text here. -/
namespace Go.Proofs.Ytjkncdmbcckcdab

end Go.Proofs.Ytjkncdmbcckcdab

/- Weights: powers and numbers of sets (the program's power, over). -/
namespace Go.Proofs.Ytjkncdmbcckcdab
open Go.RowKit

end Go.Proofs.Ytjkncdmbcckcdab

/- Weights: Krawtchouk's numbers (the program's krawtchouk). -/
namespace Go.Proofs.Ytjkncdmbcckcdab
open Go.RowKit

end Go.Proofs.Ytjkncdmbcckcdab

/- Weights: Krawtchouk's numbers (the reference's Kraw). -/
namespace Go.Proofs.Ytjkncdmbcckcdab
open Go.RowKit

/-- Whole numbers, below 0 too, in a row of the call's own. -/
def RowZ (g N : Nat) (z : Nat → Int) (w : World) : Prop := ∃ cap f, RowF g cap 3 f w ∧ N ≤ cap ∧ ∀ k, k < N → f k = .int .i64 (z k)
theorem RowZ.of {g N : Nat} {c : Nat → Nat} {w : World} (h : Row g N c w) : RowZ g N (fun k => ((c k : Nat) : Int)) w := by
  obtain ⟨cap, f, h1, h2, h3⟩ := h
  exact ⟨cap, f, h1, h2, h3⟩
theorem RowZ.cell {g N : Nat} {z : Nat → Int} {w : World} (h : RowZ g N z w) (k : Nat) (hk : k < N) : w.cell? ⟨g, k, none⟩ = some (.int .i64 (z k)) := by
  obtain ⟨cap, f, h1, h2, h3⟩ := h
  rw [h1.cell k (by omega), h3 k hk]
theorem RowZ.free {g N : Nat} {z : Nat → Int} {w : World} (h : RowZ g N z w) (k : Nat) : w.frozen? ⟨g, k, none⟩ = false := by
  obtain ⟨cap, f, h1, h2, h3⟩ := h
  exact h1.free k
theorem RowZ.store {g N : Nat} {z y : Nat → Int} {w : World} (h : RowZ g N z w) (k : Nat) (v : Int) (hd : ∀ j, j < N → y j = if j = k then v else z j) : RowZ g N y (w.setCell ⟨g, k, none⟩ (.int .i64 v)) := by
  obtain ⟨cap, f, h1, h2, h3⟩ := h
  refine ⟨cap, _, h1.store k _, h2, fun j hj => ?_⟩
  unfold upd
  rw [hd j hj]
  by_cases e : j = k
  · rw [if_pos e, if_pos e]
  · rw [if_neg e, if_neg e, h3 j hj]
theorem RowZ.congr {g N : Nat} {z y : Nat → Int} {w : World} (h : RowZ g N z w) (e : ∀ k, k < N → z k = y k) : RowZ g N y w := by
  obtain ⟨cap, f, h1, h2, h3⟩ := h
  exact ⟨cap, f, h1, h2, fun k hk => by rw [h3 k hk, e k hk]⟩
theorem RowZ.below {g N B : Nat} {z : Nat → Int} {w w' : World} (h : RowZ g N z w) (hb : Below B w w') (hB : g < B) : RowZ g N z w' := by
  obtain ⟨cap, f, h1, h2, h3⟩ := h
  exact ⟨cap, f, h1.below hb hB, h2, h3⟩
end Go.Proofs.Ytjkncdmbcckcdab
