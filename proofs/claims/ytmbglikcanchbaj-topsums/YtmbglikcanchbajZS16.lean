/- Plain mathematics: the rows of sum and meet together are both's. No Go text here. -/
import Derived.Test.YtmbglikcanchbajZS13
import Derived.Test.YtmbglikcanchbajZI7
namespace Go.Proofs.Ytmbglikcanchbaj

theorem RRE.take {D : FD} {n k j : Nat} {R : Nat → Nat → Nat} {p : Nat → Nat} (h : RRE D n k R p) (hj : j ≤ k) : RRE D n j R p :=
  ⟨fun i hi => h.el i (by omega), fun i hi => h.bd i (by omega), fun i hi => h.lt i (by omega), fun a b h1 h2 => h.mono a b h1 (by omega), fun i hi => h.one i (by omega), fun a b h1 h2 => h.zero a b (by omega) (by omega), fun i c hi => h.lead i c (by omega)⟩
theorem padd_psub {D : FD} (F : Fld D) {a b : Nat → Nat} (ha : El D a) (hb : El D b) : psub D (padd D a b) b = a := by
  funext c; exact sb_ad F (ha c) (hb c)
/-- What either has, summed. -/
def Eth (U V : (Nat → Nat) → Prop) (v : Nat → Nat) : Prop := U v ∨ V v
theorem spn_eth {D : FD} (F : Fld D) {U V : (Nat → Nat) → Prop} (hU : ∀ v, U v → El D v) (hV : ∀ v, V v → El D v) {v : Nat → Nat} (h : Spn D (Eth U V) v) : ∃ a b, Spn D U a ∧ Spn D V b ∧ v = padd D a b := by
  refine spn_ind (Q := fun v => ∃ a b, Spn D U a ∧ Spn D V b ∧ v = padd D a b) ⟨pnil, pnil, spn_nil D U, spn_nil D V, (padd_nil F (el_nil F)).symm⟩ ?_ ?_ ?_ h
  · rintro u v ⟨a, b, ha, hb, rfl⟩ ⟨a', b', ha', hb', rfl⟩
    exact ⟨_, _, spn_add F ha ha', spn_add F hb hb', padd4 F (ha.el F) (hb.el F) (ha'.el F) (hb'.el F)⟩
  · rintro s v ⟨a, b, ha, hb, rfl⟩
    exact ⟨_, _, spn_scale F s ha, spn_scale F s hb, pscale_add F s (ha.el F) (hb.el F)⟩
  · rintro v (hv | hv)
    · exact ⟨v, pnil, spn_mem F (hU v hv) hv, spn_nil D V, (padd_nil F (hU v hv)).symm⟩
    · exact ⟨pnil, v, spn_nil D U, spn_mem F (hV v hv) hv, (nil_padd F (hV v hv)).symm⟩
theorem rre_off {D : FD} (F : Fld D) {n k j : Nat} {R : Nat → Nat → Nat} {p : Nat → Nat} (h : RRE D n k R p) (hj : j < k) {v : Nat → Nat} (hv : Spn D (RowsOf j R) v) : v (p j) = 0 :=
  spn_ind (Q := fun v => v (p j) = 0) rfl (fun u w hu hw => by show D.ad (u (p j)) (w (p j)) = 0; rw [hu, hw, ad_zero F (zero_lt' F)]) (fun s u hu => by show D.mul s (u (p j)) = 0; rw [hu, mul0 F]) (fun u ⟨i, hi, e⟩ => by rw [e]; exact h.zero i j (by omega) hj (by omega)) hv
theorem rre_last {D : FD} (F : Fld D) {n k j : Nat} {R : Nat → Nat → Nat} {p : Nat → Nat} (h : RRE D n k R p) (hj : j < k) {v : Nat → Nat} (hv : Spn D (RowsOf (j + 1) R) v) : ∃ b, Spn D (RowsOf j R) b ∧ v = padd D b (pscale D (v (p j)) (R j)) := by
  have h1 := rre_coord F (h.take (j := j + 1) (by omega)) hv
  exact ⟨lcR D R p v j, lcR_spn F p v (fun i hi => h.el i (by omega)) j (Nat.le_refl _), h1⟩

theorem dim_both {D : FD} (hD : D ∈ fieldsL) {n k l : Nat} {U : (Nat → Nat) → Prop} {V : Nat → Nat → Nat} {q : Nat → Nat} (hU : Dim D n U k) (hV : RRE D n l V q) : ∀ j, j ≤ l → ∃ s t, Dim D n (Spn D (Eth U (RowsOf j V))) s ∧ Dim D n (fun v => U v ∧ Spn D (RowsOf j V) v) t ∧ s + t = k + j := by
  have F := fld hD
  intro j
  induction j with
  | zero =>
    intro _
    have h0 : ∀ v, Spn D (RowsOf 0 V) v ↔ v = pnil := fun v => ⟨fun hv => spn_ind (Q := fun v => v = pnil) rfl (fun u w hu hw => by rw [hu, hw]; exact padd_nil F (el_nil F)) (fun s u hu => by rw [hu]; exact pscale_nil F s) (fun u ⟨i, hi, _⟩ => absurd hi (by omega)) hv, fun e => by rw [e]; exact spn_nil D _⟩
    refine ⟨k, 0, hU.congr (fun v => ?_), ⟨V, q, hV.take (by omega), fun v => ?_⟩, by omega⟩
    · rw [← hU.spn F v]
      refine ⟨fun hv => spn_le F (fun u hu => spn_mem F (hU.el F hu) (Or.inl hu)) hv, fun hv => spn_le F (fun u hu => ?_) hv⟩
      rcases hu with hu | ⟨i, hi, _⟩
      · exact spn_mem F (hU.el F hu) hu
      · omega
    · rw [h0 v]
      exact ⟨fun e => ⟨by rw [e]; exact (hU.spn F _).1 (spn_nil D U), (h0 v).2 e⟩, fun h => (h0 v).1 h.2⟩
  | succ j ih =>
    intro hj
    obtain ⟨s, t, hS, hI, hst⟩ := ih (by omega)
    have ex := hV.el j (by omega)
    have bx := hV.bd j (by omega)
    have hin : ∀ v, Spn D (Eth U (RowsOf j V)) v → Spn D (Eth U (RowsOf (j + 1) V)) v := fun v hv => spn_le F (fun u hu => by
      rcases hu with hu | ⟨i, hi, e⟩
      · exact spn_mem F (hU.el F hu) (Or.inl hu)
      · exact spn_mem F (by rw [e]; exact hV.el i (by omega)) (Or.inr ⟨i, by omega, e⟩)) hv
    have hrow : ∀ v, Spn D (RowsOf j V) v → Spn D (RowsOf (j + 1) V) v := fun v hv => spn_le F (fun u ⟨i, hi, e⟩ => spn_mem F (by rw [e]; exact hV.el i (by omega)) ⟨i, by omega, e⟩) hv
    have hxj : Spn D (RowsOf (j + 1) V) (V j) := spn_mem F ex ⟨j, by omega, rfl⟩
    by_cases hx : Spn D (Eth U (RowsOf j V)) (V j)
    · obtain ⟨u, w, hu, hw, e⟩ := spn_eth F (fun v hv => hU.el F hv) (fun v ⟨i, hi, e⟩ => by rw [e]; exact hV.el i (by omega)) hx
      have hu' := (hU.spn F u).1 hu
      have eu : u = psub D (V j) w := by rw [e, padd_psub F (hu.el F) (hw.el F)]
      have hun : Spn D (RowsOf (j + 1) V) u := by rw [eu]; exact spn_sub F hxj (hrow w hw)
      have hno : ¬ (U u ∧ Spn D (RowsOf j V) u) := fun h => by
        have h1 : Spn D (RowsOf j V) (V j) := by rw [e]; exact spn_add F h.2 hw
        have h2 := rre_off F hV (by omega) h1
        rw [hV.one j (by omega)] at h2; omega
      refine ⟨s, t + 1, hS.congr (fun v => ⟨hin v, fun hv => spn_le F (fun y hy => ?_) hv⟩), (hI.next hD (hu.el F) ?_ hno).congr (fun v => ⟨fun hv => ?_, fun hv => ?_⟩), by omega⟩
      · rcases hy with hy | ⟨i, hi, ey⟩
        · exact spn_mem F (hU.el F hy) (Or.inl hy)
        · by_cases e2 : i = j
          · rw [ey, e2]; exact hx
          · exact spn_mem F (by rw [ey]; exact hV.el i (by omega)) (Or.inr ⟨i, by omega, ey⟩)
      · exact spn_ind (Q := Bd n) (fun _ _ => rfl) (fun u w hu hw c hc => by show D.ad (u c) (w c) = 0; rw [hu c hc, hw c hc, ad_zero F (zero_lt' F)]) (fun s u hu c hc => by show D.mul s (u c) = 0; rw [hu c hc, mul0 F]) (fun u ⟨i, hi, e⟩ => by rw [e]; exact hV.bd i (by omega)) hun
      · refine ⟨(hU.spn F v).1 (spn_le F (fun y hy => ?_) hv), spn_le F (fun y hy => ?_) hv⟩
        · rcases hy with hy | ey
          · exact (hU.spn F y).2 hy.1
          · rw [ey]; exact hu
        · rcases hy with hy | ey
          · exact hrow y hy.2
          · rw [ey]; exact hun
      · obtain ⟨b, hb, eb⟩ := rre_last F hV (by omega) hv.2
        obtain ⟨c, hc⟩ : ∃ c, c = v (q j) := ⟨_, rfl⟩
        rw [← hc] at eb
        have ey : psub D v (pscale D c u) = padd D b (pscale D c w) := by
          have h1 : v = padd D (padd D b (pscale D c w)) (pscale D c u) := by
            rw [eb, e, pscale_add F c (hu.el F) (hw.el F), padd_comm F (pscale D c u), padd_assoc F (hb.el F) (el_scale F _ _) (el_scale F _ _)]
          rw [h1, padd_psub F (el_add F (hb.el F) (el_scale F _ _)) (el_scale F _ _)]
        have hy : U (psub D v (pscale D c u)) ∧ Spn D (RowsOf j V) (psub D v (pscale D c u)) := ⟨hU.sub F hv.1 (hU.scale F c hu'), by rw [ey]; exact spn_add F hb (spn_scale F c hw)⟩
        have hve : El D v := hU.el F hv.1
        have h2 : v = padd D (pscale D c u) (psub D v (pscale D c u)) := (psub_add F hve (el_scale F _ _)).symm
        rw [h2]
        exact spn_add F (spn_scale F c (spn_mem F (hu.el F) (Or.inr rfl))) (spn_mem F (hU.el F hy.1) (Or.inl hy))
    · refine ⟨s + 1, t, (hS.next hD ex bx hx).congr (fun v => ⟨fun hv => spn_le F (fun y hy => ?_) hv, fun hv => spn_le F (fun y hy => ?_) hv⟩), hI.congr (fun v => ⟨fun hv => ⟨hv.1, hrow v hv.2⟩, fun hv => ⟨hv.1, ?_⟩⟩), by omega⟩
      · rcases hy with hy | ey
        · exact hin y hy
        · rw [ey]; exact spn_mem F ex (Or.inr ⟨j, by omega, rfl⟩)
      · rcases hy with hy | ⟨i, hi, ey⟩
        · exact spn_mem F (hU.el F hy) (Or.inl (spn_mem F (hU.el F hy) (Or.inl hy)))
        · by_cases e2 : i = j
          · rw [ey, e2]; exact spn_mem F ex (Or.inr rfl)
          · have h1 : Spn D (Eth U (RowsOf j V)) y := spn_mem F (by rw [ey]; exact hV.el i (by omega)) (Or.inr ⟨i, by omega, ey⟩)
            exact spn_mem F (h1.el F) (Or.inl h1)
      · obtain ⟨b, hb, eb⟩ := rre_last F hV (by omega) hv.2
        have hve : El D v := hU.el F hv.1
        by_cases hc : v (q j) = 0
        · rw [hc] at eb
          have h0 : pscale D 0 (V j) = pnil := by funext c; exact zmul F _
          rw [h0, padd_nil F (hb.el F)] at eb
          rw [eb]; exact hb
        · exfalso
          apply hx
          obtain ⟨c, hcc⟩ : ∃ c, c = v (q j) := ⟨_, rfl⟩
          rw [← hcc] at eb hc
          have hcq : c < D.q := by rw [hcc]; exact hve _
          have h1 : pscale D c (V j) = psub D v b := by
            rw [eb, padd_comm F b, padd_psub F (el_scale F _ _) (hb.el F)]
          have h2 : V j = pscale D (D.pw c (D.q - 2)) (psub D v b) := by
            rw [← h1, pscale_pscale F, F.mul_comm, inv_is hD hcq hc, pscale_one F ex]
          rw [h2]
          exact spn_scale F _ (spn_sub F (spn_mem F hve (Or.inl hv.1)) (spn_le F (fun y ⟨i, hi, ey⟩ => spn_mem F (by rw [ey]; exact hV.el i (by omega)) (Or.inr ⟨i, hi, ey⟩)) hb))
theorem orth_back {D : FD} (F : Fld D) {n k : Nat} {R : Nat → Nat → Nat} {p : Nat → Nat} (h : RRE D n k R p) {v : Nat → Nat} (hv : El D v) (hb : Bd n v) (ho : ∀ j, j < nct k p n → dot D (nul D R p k n j) v n = 0) : Spn D (RowsOf k R) v := by
  have hs := lcR_spn F (K := k) (R := R) p v h.el k (Nat.le_refl _)
  obtain ⟨s, hse⟩ : ∃ s, s = lcR D R p v k := ⟨_, rfl⟩
  rw [← hse] at hs
  have hsel : El D s := hs.el F
  have hpiv : ∀ i, i < k → D.sb (v (p i)) (s (p i)) = 0 := fun i hi => by
    have h1 := lcR_own F (K := k) (R := R) (p := p) hv (fun a b ha hb => by
      by_cases e : a = b
      · subst e; rw [if_pos rfl, h.one a ha]
      · rw [if_neg e, h.zero a b ha hb e]) hi k (Nat.le_refl _)
    rw [if_pos hi, ← hse] at h1
    rw [h1, sb_self F (hv _)]
  have horth : ∀ j, j < nct k p n → dot D (nul D R p k n j) (psub D v s) n = 0 := fun j hj => by
    have e : dot D v (nul D R p k n j) n = 0 := by rw [dot_comm F]; exact ho j hj
    have e2 : dot D s (nul D R p k n j) n = 0 := dot_spn F hs (fun x ⟨i, hi, hx⟩ => by rw [hx]; exact nul_orth F h hi hj)
    have e3 : psub D v s = padd D v (pscale D (D.ng 1) s) := by
      funext c
      show D.sb (v c) (s c) = D.ad (v c) (D.mul (D.ng 1) (s c))
      rw [F.mul_comm, mul_ng F (one_lt' F), mul1 F (hsel c)]; rfl
    rw [dot_comm F, e3, dot_add F hv (el_scale F _ _), dot_scale F, e, e2, mul0 F, ad_zero F (zero_lt' F)]
  have hu : ∀ c, D.sb (v c) (s c) = 0 := fun c => by
    by_cases hc : c < n
    · by_cases hf : ∀ j, j < k → p j ≠ c
      · obtain ⟨j, hj, ej⟩ := fcs_all hf n hc
        subst ej
        have h1 := dot_only F (a := nul D R p k n j) (b := psub D v s) n hc (fun t ht hne => by
          by_cases hf2 : ∀ l, l < k → p l ≠ t
          · obtain ⟨l, hl, el⟩ := fcs_all hf2 n ht
            subst el
            rw [nul_one hj hl, if_neg (fun e => hne (by rw [e])), zmul F]
          · obtain ⟨l, hl, e⟩ : ∃ l, l < k ∧ p l = t := Classical.byContradiction (fun hn => hf2 (fun j hj e => hn ⟨j, hj, e⟩))
            subst e
            show D.mul _ (D.sb (v (p l)) (s (p l))) = 0
            rw [hpiv l hl, mul0 F])
        rw [horth j hj, nul_one hj hj, if_pos rfl] at h1
        have h2 : D.mul 1 (D.sb (v (fcs k p n j)) (s (fcs k p n j))) = 0 := h1.symm
        rw [omul F (sb_lt F (hv _) (hsel _))] at h2
        exact h2
      · obtain ⟨i, hi, e⟩ : ∃ i, i < k ∧ p i = c := Classical.byContradiction (fun hn => hf (fun j hj e => hn ⟨j, hj, e⟩))
        rw [← e]; exact hpiv i hi
    · have h1 : s c = 0 := by rw [hse]; exact lcR_at F _ _ _ c k (fun i hi => by rw [h.bd i hi c (by omega), mul0 F])
      rw [h1, hb c (by omega), sb_self F (zero_lt' F)]
  have e : v = s := by
    funext c
    exact sb_eq_zero F (hv c) (hsel c) (hu c)
  rw [e]; exact hs
/-- What the dual makes 0. -/
theorem Dul.back {D : FD} (F : Fld D) {n m k2 : Nat} {M R2 : Nat → Nat → Nat} (h : Dul D n m M k2 R2) (hM : ∀ i, i < m → El D (M i) ∧ Bd n (M i)) (v : Nat → Nat) : Spn D (RowsOf m M) v ↔ El D v ∧ Bd n v ∧ ∀ i, i < k2 → dot D (R2 i) v n = 0 := by
  have hR2 := h.rows
  have i2 := h.iff F (fun i hi => (hM i hi).1)
  obtain ⟨k, R, p, p2, h1, h2, h3, h4, e2⟩ := h
  constructor
  · intro hv
    refine ⟨hv.el F, ?_, fun i hi => ?_⟩
    · exact spn_ind (Q := Bd n) (fun _ _ => rfl) (fun u w hu hw c hc => by show D.ad (u c) (w c) = 0; rw [hu c hc, hw c hc, ad_zero F (zero_lt' F)]) (fun s u hu c hc => by show D.mul s (u c) = 0; rw [hu c hc, mul0 F]) (fun u ⟨j, hj, e⟩ => by rw [e]; exact (hM j hj).2) hv
    · rw [dot_comm F]
      refine dot_spn F hv (fun x ⟨j, hj, e⟩ => ?_)
      rw [e]
      exact ((i2 (R2 i)).1 (spn_mem F (hR2.1 i hi) ⟨i, hi, rfl⟩)).2.2 j hj
  · rintro ⟨he, hb, ho⟩
    refine (h2 v).1 (orth_back F h1 he hb (fun j hj => ?_))
    have hn := (h4 _).2 (spn_mem F (nul_el F h1.el n j) ⟨j, hj, rfl⟩)
    exact dot_spn F hn (fun x ⟨i, hi, e⟩ => by rw [e]; exact ho i hi)
/-- Sum and meet of two codes, by their one forms: as many rows together as both. -/
theorem sum_meet {D : FD} (hD : D ∈ fieldsL) {n m m' k l s t ka kb : Nat} {A B S T Ra Rb R L : Nat → Nat → Nat} (hA : ∀ i, i < m → El D (A i) ∧ Bd n (A i)) (hB : ∀ i, i < m' → El D (B i) ∧ Bd n (B i)) (ha : Red D n m A k R) (hb : Red D n m' B l L) (hs : Red D n (m + m') (apr m A B) s S) (da : Dul D n m A ka Ra) (db : Dul D n m' B kb Rb) (ht : Dul D n (ka + kb) (apr ka Ra Rb) t T) : s + t = k + l := by
  have F := fld hD
  obtain ⟨p, h1, h2⟩ := ha
  obtain ⟨q, g1, g2⟩ := hb
  obtain ⟨ps, s1, s2⟩ := hs
  have hra := da.rows
  have hrb := db.rows
  have iT := ht.iff F (fun i hi => by
    unfold apr
    by_cases e : i < ka
    · rw [if_pos e]; exact hra.1 i e
    · rw [if_neg e]; exact hrb.1 _ (by omega))
  obtain ⟨s', t', hS, hI, e⟩ := dim_both hD (U := Spn D (RowsOf k R)) (n := n) (k := k) ⟨R, p, h1, fun v => Iff.rfl⟩ g1 l (Nat.le_refl _)
  have es : s' = s := hS.uniq F ⟨S, ps, s1, fun v => Iff.rfl⟩ (fun v => by
    rw [s2 v]
    refine ⟨fun hv => spn_le F (fun y hy => ?_) hv, fun hv => spn_le F (fun y hy => ?_) hv⟩
    · rcases hy with hy | ⟨i, hi, ey⟩
      · refine spn_le F (fun z ⟨i, hi, ez⟩ => spn_mem F (by rw [ez]; exact (hA i hi).1) ⟨i, by omega, by unfold apr; rw [if_pos hi]; exact ez⟩) ((h2 y).1 hy)
      · have h3 := (g2 y).1 (by rw [ey]; exact spn_mem F (g1.el i hi) ⟨i, hi, rfl⟩)
        refine spn_le F (fun z ⟨i, hi, ez⟩ => spn_mem F (by rw [ez]; exact (hB i hi).1) ⟨m + i, by omega, by unfold apr; rw [if_neg (by omega), Nat.add_sub_cancel_left]; exact ez⟩) h3
    · obtain ⟨i, hi, ey⟩ := hy
      unfold apr at ey
      by_cases e2 : i < m
      · rw [if_pos e2] at ey
        have h3 := (h2 y).2 (by rw [ey]; exact spn_mem F (hA i e2).1 ⟨i, e2, rfl⟩)
        exact spn_mem F (h3.el F) (Or.inl h3)
      · rw [if_neg e2] at ey
        have h3 := (g2 y).2 (by rw [ey]; exact spn_mem F (hB (i - m) (by omega)).1 ⟨i - m, by omega, rfl⟩)
        exact spn_le F (fun z ⟨i, hi, ez⟩ => spn_mem F (by rw [ez]; exact g1.el i hi) (Or.inr ⟨i, hi, ez⟩)) h3)
  have ed : ∀ v, Spn D (RowsOf t T) v ↔ Spn D (RowsOf k R) v ∧ Spn D (RowsOf l L) v := fun v => by
    rw [iT v, h2 v, g2 v, da.back F hA v, db.back F hB v]
    constructor
    · rintro ⟨e1, e2, e3⟩
      refine ⟨⟨e1, e2, fun i hi => ?_⟩, e1, e2, fun i hi => ?_⟩
      · have := e3 i (by omega)
        unfold apr at this
        rw [if_pos hi] at this; exact this
      · have := e3 (ka + i) (by omega)
        unfold apr at this
        rw [if_neg (by omega), Nat.add_sub_cancel_left] at this; exact this
    · rintro ⟨⟨e1, e2, e3⟩, _, _, e4⟩
      refine ⟨e1, e2, fun i hi => ?_⟩
      unfold apr
      by_cases e : i < ka
      · rw [if_pos e]; exact e3 i e
      · rw [if_neg e]; exact e4 (i - ka) (by omega)
  obtain ⟨_, _, _, pt, _, _, t1, _, _⟩ := ht
  have et : t' = t := hI.uniq F ⟨T, pt, t1, fun v => Iff.rfl⟩ (fun v => (ed v).symm)
  omega
end Go.Proofs.Ytmbglikcanchbaj
