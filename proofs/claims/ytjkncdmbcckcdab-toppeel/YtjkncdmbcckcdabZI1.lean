/- Texts of ours, one behind the other: I1 I2 I3. -/
import Derived.Test.YtjkncdmbcckcdabZX18
import Derived.Test.YtjkncdmbcckcdabZL10
/- Codes: what is said of one (the program's code.Check, the reference's CodeMay). -/
namespace Go.Proofs.Ytjkncdmbcckcdab
open Go.RowKit Go.Sort

/-- A code's cells, in block b. -/
structure CB (b : Nat) (q n : Int) (v : Value) (w : World) : Prop where
  c0 : w.cell? ⟨b, 0, none⟩ = some (.int .i64 q)
  c1 : w.cell? ⟨b, 1, none⟩ = some (.int .i64 n)
  c2 : w.cell? ⟨b, 2, none⟩ = some v
theorem CB.new (q n : Int) (v : Value) (w : World) : CB w.heap.size q n v (w.alloc (.cells #[.int .i64 q, .int .i64 n, v] 27)) :=
  ⟨by rw [cell_of_row _ _ _ _ _ (0, 0) (two_new _)]; rfl, by rw [cell_of_row _ _ _ _ _ (0, 0) (two_new _)]; rfl, by rw [cell_of_row _ _ _ _ _ (0, 0) (two_new _)]; rfl⟩
theorem CB.below {b B : Nat} {q n : Int} {v : Value} {w w' : World} (h : CB b q n v w) (hb : Below B w w') (hB : b < B) : CB b q n v w' := by
  have e : ∀ o, w'.cell? ⟨b, o, none⟩ = w.cell? ⟨b, o, none⟩ := fun o => by simp [World.cell?, hb.block b hB]
  exact ⟨(e 0).trans h.c0, (e 1).trans h.c1, (e 2).trans h.c2⟩
theorem CB.keep {b : Nat} {q n : Int} {v : Value} {w w' : World} (h : CB b q n v w) (hb : Below w.heap.size w w') : CB b q n v w' := h.below hb (cell_lt h.c0)
/-- What is said of a code. -/
def FD.cchk (D : FD) (n : Int) (m : Nat) (N : Nat → Nat) (Z : Nat → Nat → Int) : Int := if n < 1 ∨ 64 < n then 4 else if D.mchk m N Z ≠ 0 then D.mchk m N Z else if 0 < m ∧ ((N 0 : Nat) : Int) ≠ n then 3 else 0

set_option maxHeartbeats 4000000 in
set_option maxRecDepth 100000 in
theorem ccheck_any {D : FD} (hD : D ∈ fieldsL) {ao : Option Addr} {m ca : Nat} {A : Nat → Option Addr} {N C : Nat → Nat} {Z : Nat → Nat → Int} (n : Int) {w : World} (hA : MatZ ao m A N C Z w) (hm : m ≤ 1000000) :
    Calls Try.prog 16 #[.agg #[.int .i64 D.q, .int .i64 n, .slice ao m ca]] w fun e w' => e = .returned (.int .i64 (D.cchk n m N Z)) ∧ Below w.heap.size w w' := by
  obtain ⟨wa, hwa⟩ : ∃ wa, wa = w.alloc (.cells #[.int .i64 D.q, .int .i64 n, .slice ao m ca] 27) := ⟨_, rfl⟩
  have hba : Below w.heap.size w wa := by rw [hwa]; exact (Below.refl _ _).alloc (Nat.le_refl _) _
  have HA : Hid (D ∈ fieldsL ∧ MatZ ao m A N C Z w ∧ Below w.heap.size w wa ∧ CB w.heap.size D.q n (.slice ao m ca) wa ∧ wa.heap.size = w.heap.size + 1) := ⟨hD, hA, hba, by rw [hwa]; exact CB.new _ _ _ _, by rw [hwa]; simp⟩
  obtain ⟨e0, he0⟩ : ∃ e0, e0 = D.mchk m N Z := ⟨_, rfl⟩
  obtain ⟨E, hE⟩ : ∃ E, E = D.cchk n m N Z := ⟨_, rfl⟩
  rw [← hE]
  have HE : Hid (E = D.cchk n m N Z ∧ e0 = D.mchk m N Z) := ⟨hE, he0⟩
  clear hD hA hba he0 hE
  go_enter Try.func16, Try.ntmps16
  go_wp2_with fail
  rw [← hwa]
  clear hwa
  refine (new_any HA.out.1 wa).mono ?_
  rintro e w1 ⟨F, T, g, rfl, _, _, _, hb1⟩
  have H1 : Hid (Below w.heap.size w w1 ∧ CB w.heap.size D.q n (.slice ao m ca) w1 ∧ w.heap.size < w1.heap.size) := by
    have := hb1.size
    have := HA.out.2.2.2.2
    exact ⟨bel_up' HA.out.2.2.1 hb1, HA.out.2.2.2.1.keep hb1, by omega⟩
  clear hb1
  have hcb := H1.out.2.1
  obtain ⟨c0, c1, c2⟩ := hcb
  by_cases h1 : n < 1
  · have HF : Hid (E = 4) := by show E = 4; rw [HE.out.1]; unfold FD.cchk; rw [if_pos (Or.inl h1)]
    go_wp2
    go_ret
    exact ⟨by rw [HF.out]; rfl, H1.out.1⟩
  · by_cases h2 : 64 < n
    · have HF : Hid (E = 4) := by show E = 4; rw [HE.out.1]; unfold FD.cchk; rw [if_pos (Or.inr h2)]
      go_wp2
      go_ret
      exact ⟨by rw [HF.out]; rfl, H1.out.1⟩
    · have HF : Hid (E = if e0 ≠ 0 then e0 else if 0 < m ∧ ((N 0 : Nat) : Int) ≠ n then 3 else 0) := by show E = _; rw [HE.out.1, HE.out.2]; unfold FD.cchk; rw [if_neg (by omega)]
      go_wp2_with fail
      refine (mcheck_any HA.out.1 (HA.out.2.1.below H1.out.1) hm).mono ?_
      rintro e w2 ⟨rfl, hb2⟩
      rw [← HE.out.2]
      have H2 : Hid (Below w.heap.size w w2 ∧ CB w.heap.size D.q n (.slice ao m ca) w2) := ⟨bel_up' H1.out.1 hb2, H1.out.2.1.keep hb2⟩
      clear hb2 c0 c1 c2
      have hcb := H2.out.2
      obtain ⟨c0, c1, c2⟩ := hcb
      by_cases hz : e0 = 0
      · have hz1 : (e0 != 0) = false := by rw [hz]; rfl
        by_cases hm0 : 0 < m
        · obtain ⟨b, off, hao, hc⟩ := (HA.out.2.1.below H2.out.1).cell 0 hm0
          subst hao
          have hmb : (0 : Int) < (m : Int) := by omega
          have hc : w2.cell? ⟨b, off, none⟩ = some (.slice (A 0) (N 0) (C 0)) := hc
          obtain ⟨N0, hN0⟩ : ∃ N0, N0 = N 0 := ⟨_, rfl⟩
          rw [← hN0] at hc
          have HG : Hid (E = if ((N0 : Nat) : Int) ≠ n then 3 else 0) := by
            show E = _
            rw [HF.out, if_neg (fun h => h hz), hN0]
            by_cases h : ((N 0 : Nat) : Int) ≠ n
            · rw [if_pos h, if_pos ⟨hm0, h⟩]
            · rw [if_neg h, if_neg (fun x => h x.2)]
          clear hN0
          have hd : decide ((0 : Int) < (m : Int)) = true := decide_eq_true hmb
          by_cases hn : ((N0 : Nat) : Int) = n
          · have HG2 : Hid (E = 0) := by show E = 0; rw [HG.out, if_neg (fun h => h hn)]
            have hnb : (((N0 : Nat) : Int) != n) = false := by rw [bne_eq_false_iff_eq]; exact hn
            clear hn
            go_wp2
            go_quiet (fail)
            go_wp2
            go_ret
            exact ⟨by rw [HG2.out]; rfl, below_drewN2 H2.out.1 _⟩
          · have HG2 : Hid (E = 3) := by show E = 3; rw [HG.out, if_pos hn]
            have hnb : (((N0 : Nat) : Int) != n) = true := by rw [bne_iff_ne]; exact hn
            clear hn
            go_wp2
            go_quiet (fail)
            go_wp2
            go_ret
            exact ⟨by rw [HG2.out]; rfl, below_drewN2 H2.out.1 _⟩
        · have HG : Hid (E = 0) := by show E = 0; rw [HF.out, if_neg (fun h => h hz), if_neg (fun h => hm0 h.1)]
          have hd : decide ((0 : Int) < (m : Int)) = false := decide_eq_false (by omega)
          go_wp2
          go_quiet (fail)
          go_wp2
          go_ret
          exact ⟨by rw [HG.out]; rfl, below_drewN2 H2.out.1 _⟩
      · have hz1 : (e0 != 0) = true := by rw [bne_iff_ne]; exact hz
        have HG : Hid (E = e0) := by show E = e0; rw [HF.out, if_pos hz]
        go_wp2
        go_ret
        exact ⟨by rw [HG.out]; rfl, H2.out.1⟩
end Go.Proofs.Ytjkncdmbcckcdab

/- Codes: the reference's CodeMay. -/
namespace Go.Proofs.Ytjkncdmbcckcdab
open Go.RowKit Go.Sort

end Go.Proofs.Ytjkncdmbcckcdab

/- Independent rows: the reduced form has as many; what makes nothing 0 but 0. Plain mathematics. -/
namespace Go.Proofs.Ytjkncdmbcckcdab
open Go.RowKit

theorem lft_ex {D : FD} (F : Fld D) {n k : Nat} {R : Nat → Nat → Nat} {p r0 : Nat → Nat} (h : RRE D n k R p) (he : El D r0) (hb : Bd n r0) : ∀ t, t ≤ k → ∃ r, Lft D n k R p r0 t r
  | 0, _ => ⟨r0, lft_first F he hb⟩
  | t + 1, ht => by
    obtain ⟨r, hr⟩ := lft_ex F h he hb t (by omega)
    exact ⟨_, lft_step F h he hr (by omega)⟩
theorem first_nz {r : Nat → Nat} : ∀ n, Bd n r → r ≠ pnil → ∃ c, c < n ∧ r c ≠ 0 ∧ ∀ c', c' < c → r c' = 0 := by
  have key : ∀ n, (∀ c, c < n → r c = 0) ∨ ∃ c, c < n ∧ r c ≠ 0 ∧ ∀ c', c' < c → r c' = 0 := by
    intro n
    induction n with
    | zero => exact Or.inl fun c hc => absurd hc (by omega)
    | succ n ih =>
      rcases ih with ih | ⟨c, h1, h2, h3⟩
      · by_cases e : r n = 0
        · refine Or.inl fun c hc => ?_
          by_cases ec : c = n
          · rw [ec]; exact e
          · exact ih c (by omega)
        · exact Or.inr ⟨n, by omega, e, ih⟩
      · exact Or.inr ⟨c, by omega, h2, h3⟩
  intro n hb hn
  rcases key n with h | h
  · exfalso
    refine hn (funext fun c => ?_)
    by_cases hc : c < n
    · exact h c hc
    · exact hb c (by omega)
  · exact h
theorem piv_at {p : Nat → Nat} {a : Nat} : ∀ k, (∀ i j, i < j → j < k → p i < p j) → (∀ j, j < k → p j ≠ a) → ∃ t, t ≤ k ∧ (∀ j, j < t → p j < a) ∧ ∀ j, t ≤ j → j < k → a < p j
  | 0, _, _ => ⟨0, Nat.le_refl _, fun j hj => absurd hj (by omega), fun j _ hj => absurd hj (by omega)⟩
  | k + 1, hm, hne => by
    obtain ⟨t, h1, h2, h3⟩ := piv_at k (fun i j hij hj => hm i j hij (by omega)) (fun j hj => hne j (by omega))
    by_cases e : t = k
    · by_cases e2 : p k < a
      · refine ⟨k + 1, Nat.le_refl _, fun j hj => ?_, fun j h4 h5 => absurd h5 (by omega)⟩
        by_cases ej : j = k
        · rw [ej]; exact e2
        · exact h2 j (by omega)
      · refine ⟨k, by omega, fun j hj => h2 j (by omega), fun j h4 h5 => ?_⟩
        have : j = k := by omega
        have := hne k (by omega)
        rw [show j = k from by omega]; omega
    · refine ⟨t, by omega, h2, fun j h4 h5 => ?_⟩
      by_cases ej : j = k
      · rw [ej]
        have := h3 t (Nat.le_refl _) (by omega)
        have := hm t k (by omega) (by omega)
        omega
      · exact h3 j h4 (by omega)
/-- Rows none of which hangs on those ahead of it: the reduced form has as many. -/
theorem rre_full {D : FD} (hD : D ∈ fieldsL) {n : Nat} {M : Nat → Nat → Nat} : ∀ m, (∀ i, i < m → El D (M i)) → (∀ i, i < m → Bd n (M i)) → (∀ j, j < m → ¬ Spn D (RowsOf j M) (M j)) → ∃ R p, RRE D n m R p ∧ ∀ v, Spn D (RowsOf m R) v ↔ Spn D (RowsOf m M) v
  | 0, _, _, _ => ⟨M, fun _ => 0, ⟨fun i hi => absurd hi (by omega), fun i hi => absurd hi (by omega), fun i hi => absurd hi (by omega), fun i j _ hj => absurd hj (by omega), fun i hi => absurd hi (by omega), fun i j hi => absurd hi (by omega), fun i c hi => absurd hi (by omega)⟩, fun v => Iff.rfl⟩
  | m + 1, he, hb, hi => by
    have F := fld hD
    obtain ⟨R, p, hR, hS⟩ := rre_full hD m (fun i h => he i (by omega)) (fun i h => hb i (by omega)) (fun j h => hi j (by omega))
    obtain ⟨r, hl⟩ := lft_ex F hR (he m (by omega)) (hb m (by omega)) m (Nat.le_refl _)
    have hr : r ≠ pnil := fun e => by
      have h1 := hl.spn
      rw [e, psub_nil F (he m (by omega))] at h1
      exact hi m (by omega) ((hS _).1 h1)
    obtain ⟨c, hc1, hc2, hc3⟩ := first_nz n hl.bd hr
    have hinv := inv_is hD (hl.el c) hc2
    obtain ⟨t, ht1, ht2, ht3⟩ := piv_at (a := c) m hR.mono (fun j hj e => hc2 (by rw [← e]; exact hl.zero j hj))
    refine ⟨_, _, rre_ins F hR (r := pscale D (D.pw (r c) (D.q - 2)) r) (el_scale F _ _) (fun j hj => ?_) hc1 ?_ (fun c' h => ?_) (fun j hj => ?_) ht1 ht2 ht3, fun v => red_put F hR (fun j hj => he j (by omega)) hS hl hinv ht1 v⟩
    · show D.mul _ (r j) = 0
      rw [hl.bd j hj]; exact mul0 F _
    · show D.mul _ (r c) = 1
      rw [F.mul_comm]; exact hinv
    · show D.mul _ (r c') = 0
      rw [hc3 c' h]; exact mul0 F _
    · show D.mul _ (r (p j)) = 0
      rw [hl.zero j hj]; exact mul0 F _
/-- What makes the rows of a reduced form 0: as many as there are free columns. -/
theorem nul_full {D : FD} (hD : D ∈ fieldsL) {n k k2 : Nat} {R R2 : Nat → Nat → Nat} {p p2 : Nat → Nat} (h : RRE D n k R p) (h2 : RRE D n k2 R2 p2) (hS : ∀ v, Spn D (RowsOf k2 R2) v ↔ Spn D (RowsOf (nct k p n) (nul D R p k n)) v) : k2 = nct k p n := by
  obtain ⟨R3, p3, h3, hS3⟩ := rre_full hD (n := n) (M := nul D R p k n) (nct k p n) (fun i _ => nul_el (fld hD) h.el _ _) (fun i hi => nul_bd h.lt hi) (fun j hj => nul_ind (fld hD) hj)
  exact (rre_uniq (fld hD) h2 h3 (fun v => (hS v).trans (hS3 v).symm)).1
/-- The rows that tell one place each. -/
def unr (i j : Nat) : Nat := if j = i then 1 else 0
theorem unr_rre {D : FD} (F : Fld D) (n : Nat) : RRE D n n unr (fun i => i) := by
  have h1 := F.q2
  refine ⟨fun i _ j => ?_, fun i hi j hj => ?_, fun i hi => hi, fun i j h _ => h, fun i _ => if_pos rfl, fun i j _ _ h => if_neg (fun e => h e.symm), fun i c _ h => if_neg (by omega)⟩
  · unfold unr
    split <;> omega
  · exact if_neg (by omega)
theorem fcs_none (p : Nat → Nat) : ∀ c, nct 0 p c = c ∧ ∀ i, i < c → fcs 0 p c i = i
  | 0 => ⟨rfl, fun i hi => absurd hi (by omega)⟩
  | c + 1 => by
    obtain ⟨h1, h2⟩ := fcs_none p c
    refine ⟨by rw [nct_yes (fun i hi => absurd hi (by omega)), h1], fun i hi => ?_⟩
    by_cases e : i = c
    · have := fcs_at 0 p c
      rw [h1] at this
      rw [e]; exact this
    · rw [fcs_lo (by omega)]; exact h2 i (by omega)
theorem nul_none {D : FD} (R : Nat → Nat → Nat) (p : Nat → Nat) (n i : Nat) (hi : i < n) : nul D R p 0 n i = unr i := by
  unfold nul
  rw [(fcs_none p n).2 i hi]
  rfl
end Go.Proofs.Ytjkncdmbcckcdab
