/- Texts of ours, one behind the other: I3 I4 S12 S13. -/
import Derived.Test.YtmbglikcanchbakZX18
import Derived.Test.YtmbglikcanchbakZQ6
import Derived.Test.YtmbglikcanchbakZL12
import Derived.Test.YtmbglikcanchbakZS4
/- Independent rows: the reduced form has as many; what makes nothing 0 but 0. Plain mathematics. -/
namespace Go.Proofs.Ytmbglikcanchbak
open Go.RowKit

theorem lft_ex {D : FD} (F : Fld D) {n k : Nat} {R : Nat → Nat → Nat} {p r0 : Nat → Nat} (h : RRE D n k R p) (he : El D r0) (hb : Bd n r0) : ∀ t, t ≤ k → ∃ r, Lft D n k R p r0 t r
  | 0, _ => ⟨r0, lft_first F he hb⟩
  | t + 1, ht => by
    obtain ⟨r, hr⟩ := lft_ex F h he hb t (by omega)
    exact ⟨_, lft_step F h he hr (by omega)⟩
theorem first_nz {r : Nat → Nat} : ∀ n, Bd n r → r ≠ pnil → ∃ c, c < n ∧ r c ≠ 0 ∧ ∀ c', c' < c → r c' = 0 := by
  have key : ∀ n, (∀ c, c < n → r c = 0) ∨ ∃ c, c < n ∧ r c ≠ 0 ∧ ∀ c', c' < c → r c' = 0 := by
    intro n
    induction n with
    | zero => exact Or.inl fun c hc => absurd hc (by omega)
    | succ n ih =>
      rcases ih with ih | ⟨c, h1, h2, h3⟩
      · by_cases e : r n = 0
        · refine Or.inl fun c hc => ?_
          by_cases ec : c = n
          · rw [ec]; exact e
          · exact ih c (by omega)
        · exact Or.inr ⟨n, by omega, e, ih⟩
      · exact Or.inr ⟨c, by omega, h2, h3⟩
  intro n hb hn
  rcases key n with h | h
  · exfalso
    refine hn (funext fun c => ?_)
    by_cases hc : c < n
    · exact h c hc
    · exact hb c (by omega)
  · exact h
theorem piv_at {p : Nat → Nat} {a : Nat} : ∀ k, (∀ i j, i < j → j < k → p i < p j) → (∀ j, j < k → p j ≠ a) → ∃ t, t ≤ k ∧ (∀ j, j < t → p j < a) ∧ ∀ j, t ≤ j → j < k → a < p j
  | 0, _, _ => ⟨0, Nat.le_refl _, fun j hj => absurd hj (by omega), fun j _ hj => absurd hj (by omega)⟩
  | k + 1, hm, hne => by
    obtain ⟨t, h1, h2, h3⟩ := piv_at k (fun i j hij hj => hm i j hij (by omega)) (fun j hj => hne j (by omega))
    by_cases e : t = k
    · by_cases e2 : p k < a
      · refine ⟨k + 1, Nat.le_refl _, fun j hj => ?_, fun j h4 h5 => absurd h5 (by omega)⟩
        by_cases ej : j = k
        · rw [ej]; exact e2
        · exact h2 j (by omega)
      · refine ⟨k, by omega, fun j hj => h2 j (by omega), fun j h4 h5 => ?_⟩
        have : j = k := by omega
        have := hne k (by omega)
        rw [show j = k from by omega]; omega
    · refine ⟨t, by omega, h2, fun j h4 h5 => ?_⟩
      by_cases ej : j = k
      · rw [ej]
        have := h3 t (Nat.le_refl _) (by omega)
        have := hm t k (by omega) (by omega)
        omega
      · exact h3 j h4 (by omega)
/-- Rows none of which hangs on those ahead of it: the reduced form has as many. -/
theorem rre_full {D : FD} (hD : D ∈ fieldsL) {n : Nat} {M : Nat → Nat → Nat} : ∀ m, (∀ i, i < m → El D (M i)) → (∀ i, i < m → Bd n (M i)) → (∀ j, j < m → ¬ Spn D (RowsOf j M) (M j)) → ∃ R p, RRE D n m R p ∧ ∀ v, Spn D (RowsOf m R) v ↔ Spn D (RowsOf m M) v
  | 0, _, _, _ => ⟨M, fun _ => 0, ⟨fun i hi => absurd hi (by omega), fun i hi => absurd hi (by omega), fun i hi => absurd hi (by omega), fun i j _ hj => absurd hj (by omega), fun i hi => absurd hi (by omega), fun i j hi => absurd hi (by omega), fun i c hi => absurd hi (by omega)⟩, fun v => Iff.rfl⟩
  | m + 1, he, hb, hi => by
    have F := fld hD
    obtain ⟨R, p, hR, hS⟩ := rre_full hD m (fun i h => he i (by omega)) (fun i h => hb i (by omega)) (fun j h => hi j (by omega))
    obtain ⟨r, hl⟩ := lft_ex F hR (he m (by omega)) (hb m (by omega)) m (Nat.le_refl _)
    have hr : r ≠ pnil := fun e => by
      have h1 := hl.spn
      rw [e, psub_nil F (he m (by omega))] at h1
      exact hi m (by omega) ((hS _).1 h1)
    obtain ⟨c, hc1, hc2, hc3⟩ := first_nz n hl.bd hr
    have hinv := inv_is hD (hl.el c) hc2
    obtain ⟨t, ht1, ht2, ht3⟩ := piv_at (a := c) m hR.mono (fun j hj e => hc2 (by rw [← e]; exact hl.zero j hj))
    refine ⟨_, _, rre_ins F hR (r := pscale D (D.pw (r c) (D.q - 2)) r) (el_scale F _ _) (fun j hj => ?_) hc1 ?_ (fun c' h => ?_) (fun j hj => ?_) ht1 ht2 ht3, fun v => red_put F hR (fun j hj => he j (by omega)) hS hl hinv ht1 v⟩
    · show D.mul _ (r j) = 0
      rw [hl.bd j hj]; exact mul0 F _
    · show D.mul _ (r c) = 1
      rw [F.mul_comm]; exact hinv
    · show D.mul _ (r c') = 0
      rw [hc3 c' h]; exact mul0 F _
    · show D.mul _ (r (p j)) = 0
      rw [hl.zero j hj]; exact mul0 F _
/-- What makes the rows of a reduced form 0: as many as there are free columns. -/
theorem nul_full {D : FD} (hD : D ∈ fieldsL) {n k k2 : Nat} {R R2 : Nat → Nat → Nat} {p p2 : Nat → Nat} (h : RRE D n k R p) (h2 : RRE D n k2 R2 p2) (hS : ∀ v, Spn D (RowsOf k2 R2) v ↔ Spn D (RowsOf (nct k p n) (nul D R p k n)) v) : k2 = nct k p n := by
  obtain ⟨R3, p3, h3, hS3⟩ := rre_full hD (n := n) (M := nul D R p k n) (nct k p n) (fun i _ => nul_el (fld hD) h.el _ _) (fun i hi => nul_bd h.lt hi) (fun j hj => nul_ind (fld hD) hj)
  exact (rre_uniq (fld hD) h2 h3 (fun v => (hS v).trans (hS3 v).symm)).1
end Go.Proofs.Ytmbglikcanchbak

/- Codes: one form, and the dual (the program's oneForm, unit, dual). -/
namespace Go.Proofs.Ytmbglikcanchbak
open Go.RowKit Go.Sort

/-- The reduced form of m rows. -/
def Red (D : FD) (n m : Nat) (M : Nat → Nat → Nat) (k : Nat) (R : Nat → Nat → Nat) : Prop := ∃ p, RRE D n k R p ∧ ∀ v, Spn D (RowsOf k R) v ↔ Spn D (RowsOf m M) v
/-- The reduced form of what makes m rows 0. -/
def Dul (D : FD) (n m : Nat) (M : Nat → Nat → Nat) (k2 : Nat) (R2 : Nat → Nat → Nat) : Prop := ∃ k R p p2, RRE D n k R p ∧ (∀ v, Spn D (RowsOf k R) v ↔ Spn D (RowsOf m M) v) ∧ RRE D n k2 R2 p2 ∧ (∀ v, Spn D (RowsOf k2 R2) v ↔ Spn D (RowsOf (nct k p n) (nul D R p k n)) v) ∧ k2 = nct k p n
theorem Dul.le {D : FD} {n m k : Nat} {M R : Nat → Nat → Nat} (h : Dul D n m M k R) : k ≤ n := by
  obtain ⟨a, A, q, q2, _, _, _, _, e⟩ := h
  rw [e]; exact nct_le _ _ _
theorem Dul.rows {D : FD} {n m k : Nat} {M R : Nat → Nat → Nat} (h : Dul D n m M k R) : (∀ i, i < k → El D (R i)) ∧ ∀ i, i < k → Bd n (R i) := by
  obtain ⟨a, A, q, q2, _, _, h3, _, e⟩ := h
  exact ⟨h3.el, h3.bd⟩
theorem Red.rows {D : FD} {n m k : Nat} {M R : Nat → Nat → Nat} (h : Red D n m M k R) : (∀ i, i < k → El D (R i)) ∧ ∀ i, i < k → Bd n (R i) := by
  obtain ⟨p, h3, _⟩ := h
  exact ⟨h3.el, h3.bd⟩
theorem rre_le {p : Nat → Nat} {n : Nat} : ∀ k, (∀ i j, i < j → j < k → p i < p j) → (∀ i, i < k → p i < n) → k ≤ n := by
  intro k hm hl
  have key : ∀ i, i < k → i ≤ p i := fun i => by
    induction i with
    | zero => intro _; omega
    | succ i ih =>
      intro hi
      have := ih (by omega)
      have := hm i (i + 1) (by omega) hi
      omega
  rcases Nat.eq_zero_or_pos k with h | h
  · omega
  · have := key (k - 1) (by omega)
    have := hl (k - 1) (by omega)
    omega
theorem Red.le {D : FD} {n m k : Nat} {M R : Nat → Nat → Nat} (h : Red D n m M k R) : k ≤ n := by
  obtain ⟨p, h3, _⟩ := h
  exact rre_le k h3.mono h3.lt
theorem RLz.congr {v : Value} {k n : Nat} {R R' : Nat → Nat → Nat} {w : World} (h : RLz v k n R w) (e : ∀ i, i < k → R i = R' i) : RLz v k n R' w := by
  obtain ⟨ao, ca, A, C, e1, hm⟩ := h
  exact ⟨ao, ca, A, C, e1, ⟨hm.cell, fun i hi => by have := hm.sl i hi; simp only [e i hi] at this; exact this, hm.le, hm.cap, hm.nil, hm.few⟩⟩
theorem RLz.below {v : Value} {k n : Nat} {R : Nat → Nat → Nat} {w w' : World} (h : RLz v k n R w) (hb : Below w.heap.size w w') : RLz v k n R w' := by
  obtain ⟨ao, ca, A, C, e, hm⟩ := h
  exact ⟨ao, ca, A, C, e, hm.below hb⟩
/-- A code's rows as they are handed in: m rows of n elements. -/
structure CdZ (D : FD) (ao : Option Addr) (m n : Nat) (A : Nat → Option Addr) (N C : Nat → Nat) (Z : Nat → Nat → Int) (w : World) : Prop where
  mat : MatZ ao m A N C Z w
  chk : D.mchk m N Z = 0
  wd : 0 < m → N 0 = n
  n1 : 1 ≤ n
  n64 : n ≤ 64
theorem CdZ.below {D : FD} {ao : Option Addr} {m n : Nat} {A : Nat → Option Addr} {N C : Nat → Nat} {Z : Nat → Nat → Int} {w w' : World} (h : CdZ D ao m n A N C Z w) (hb : Below w.heap.size w w') : CdZ D ao m n A N C Z w' := ⟨h.mat.below hb, h.chk, h.wd, h.n1, h.n64⟩
theorem CdZ.rows {D : FD} (F : Fld D) {ao : Option Addr} {m n : Nat} {A : Nat → Option Addr} {N C : Nat → Nat} {Z : Nat → Nat → Int} {w : World} (h : CdZ D ao m n A N C Z w) : m ≤ 64 ∧ (∀ i, i < m → El D (mzc N Z i)) ∧ (∀ i, i < m → Bd n (mzc N Z i)) ∧ MatR ao m (n - 1) (mzc N Z) w := by
  have hn := h.n1
  rcases Nat.eq_zero_or_pos m with e | e
  · exact ⟨by omega, fun i hi => absurd hi (by omega), fun i hi => absurd hi (by omega), fun i hi => absurd hi (by omega)⟩
  · obtain ⟨h1, n', h2, h3, h4, h5⟩ := mchk_rows F h.chk h.mat e
    have hn' : n' + 1 = n := by have := h.wd e; omega
    have e2 : n - 1 = n' := by omega
    rw [e2, ← hn']
    exact ⟨h1, fun i hi => (h4 i hi).2.1, fun i hi => (h4 i hi).2.2, h5⟩
theorem CdZ.few {D : FD} (F : Fld D) {ao : Option Addr} {m n : Nat} {A : Nat → Option Addr} {N C : Nat → Nat} {Z : Nat → Nat → Int} {w : World} (h : CdZ D ao m n A N C Z w) : m ≤ 1000000 := by
  have := (h.rows F).1
  omega
/-- Where a call's answer is laid: three cells that may be written. -/
structure RB (b : Nat) (w : World) : Prop where
  c0 : ∃ v, w.cell? ⟨b, 0, none⟩ = some v
  c1 : ∃ v, w.cell? ⟨b, 1, none⟩ = some v
  c2 : ∃ v, w.cell? ⟨b, 2, none⟩ = some v
  f0 : w.frozen? ⟨b, 0, none⟩ = false
  f1 : w.frozen? ⟨b, 1, none⟩ = false
  f2 : w.frozen? ⟨b, 2, none⟩ = false
theorem RB.new (x y z : Value) (w : World) : RB w.heap.size (w.alloc (.cells #[x, y, z] 50)) :=
  ⟨⟨_, by rw [cell_of_row _ _ _ _ _ (0, 0) (two_new _)]; rfl⟩, ⟨_, by rw [cell_of_row _ _ _ _ _ (0, 0) (two_new _)]; rfl⟩, ⟨_, by rw [cell_of_row _ _ _ _ _ (0, 0) (two_new _)]; rfl⟩, frozen_of_row _ _ _ _ _ (two_new _), frozen_of_row _ _ _ _ _ (two_new _), frozen_of_row _ _ _ _ _ (two_new _)⟩
theorem RB.keep {b : Nat} {w w' : World} (h : RB b w) (hb : Below w.heap.size w w') : RB b w' := by
  obtain ⟨v0, h0⟩ := h.c0
  obtain ⟨v1, h1⟩ := h.c1
  obtain ⟨v2, h2⟩ := h.c2
  have hh := hb.block b (cell_lt h0)
  have e : ∀ o, w'.cell? ⟨b, o, none⟩ = w.cell? ⟨b, o, none⟩ := fun o => by simp [World.cell?, hh]
  have f : ∀ o, w'.frozen? ⟨b, o, none⟩ = w.frozen? ⟨b, o, none⟩ := fun o => by simp [World.frozen?, hh]
  exact ⟨⟨v0, (e 0).trans h0⟩, ⟨v1, (e 1).trans h1⟩, ⟨v2, (e 2).trans h2⟩, (f 0).trans h.f0, (f 1).trans h.f1, (f 2).trans h.f2⟩
theorem RLz.none (ao : Option Addr) (ca n : Nat) (R : Nat → Nat → Nat) (w : World) : RLz (.slice ao 0 ca) 0 n R w :=
  ⟨ao, ca, fun _ => Option.none, fun _ => 0, rfl, ⟨fun i hi => absurd hi (by omega), fun i hi => absurd hi (by omega), fun i hi => absurd hi (by omega), fun i hi => absurd hi (by omega), fun i hi => absurd hi (by omega), fun i hi => absurd hi (by omega)⟩⟩

/-- The answer is laid. -/
def laid (w : World) (b : Nat) (q n : Int) (v : Value) : World := ((w.setCell ⟨b, 0, none⟩ (.int .i64 q)).setCell ⟨b, 1, none⟩ (.int .i64 n)).setCell ⟨b, 2, none⟩ v
theorem MV.mono {B B' : Nat} {v : Value} {k n : Nat} {R : Nat → Nat → Nat} {w : World} (h : MV B v k n R w) (hB : B' ≤ B) : MV B' v k n R w := by
  rcases h with h | ⟨G, mc, m, hh, ev, hm⟩
  · exact Or.inl h
  · exact Or.inr ⟨G, mc, m, hh, ev, hm.mono hB⟩
theorem Mx.less {B G m k j n : Nat} {R : Nat → Nat → Nat} {h : Nat → Nat} {w : World} (H : Mx B G m k n R h w) (hj : j ≤ k) : Mx B G m j n R h w := by
  obtain ⟨f, hf, hf'⟩ := H.outer
  exact ⟨⟨f, hf, fun i hi => hf' i (by omega)⟩, fun i hi => H.row i (by omega), H.geG, fun i hi => H.ge i (by omega), fun i hi j hj => H.inj i (by omega) j (by omega), fun i hi => H.ne i (by omega), by have := H.le; omega⟩

end Go.Proofs.Ytmbglikcanchbak

/- Plain mathematics: products of rows; what makes rows 0. No Go text here. -/
namespace Go.Proofs.Ytmbglikcanchbak

/-- The sum of the products of the first numbers of two lists. -/
def dot (D : FD) (a b : Nat → Nat) : Nat → Nat
  | 0 => 0
  | j + 1 => D.ad (dot D a b j) (D.mul (a j) (b j))
theorem dot_lt {D : FD} (F : Fld D) (a b : Nat → Nat) : ∀ j, dot D a b j < D.q
  | 0 => zero_lt' F
  | j + 1 => ad_lt F (dot_lt F a b j) (F.mul_lt _ _)
theorem dot_comm {D : FD} (F : Fld D) (a b : Nat → Nat) : ∀ n, dot D a b n = dot D b a n
  | 0 => rfl
  | n + 1 => by
    show D.ad (dot D a b n) (D.mul (a n) (b n)) = D.ad (dot D b a n) (D.mul (b n) (a n))
    rw [dot_comm F a b n, F.mul_comm (a n)]
theorem dot_nil {D : FD} (F : Fld D) (v : Nat → Nat) : ∀ n, dot D pnil v n = 0
  | 0 => rfl
  | n + 1 => by
    show D.ad (dot D pnil v n) (D.mul 0 (v n)) = 0
    rw [dot_nil F v n, zmul F, ad_zero F (zero_lt' F)]
theorem dot_add {D : FD} (F : Fld D) {a b : Nat → Nat} (ha : El D a) (hb : El D b) (v : Nat → Nat) : ∀ n, dot D (padd D a b) v n = D.ad (dot D a v n) (dot D b v n)
  | 0 => (ad_zero F (zero_lt' F)).symm
  | n + 1 => by
    show D.ad (dot D (padd D a b) v n) (D.mul (D.ad (a n) (b n)) (v n)) = D.ad (D.ad (dot D a v n) (D.mul (a n) (v n))) (D.ad (dot D b v n) (D.mul (b n) (v n)))
    rw [dot_add F ha hb v n, ad_mul F (ha n) (hb n), ad4 F (dot_lt F _ _ _) (dot_lt F _ _ _) (F.mul_lt _ _) (F.mul_lt _ _)]
theorem dot_scale {D : FD} (F : Fld D) (s : Nat) (a v : Nat → Nat) : ∀ n, dot D (pscale D s a) v n = D.mul s (dot D a v n)
  | 0 => (mul0 F s).symm
  | n + 1 => by
    show D.ad (dot D (pscale D s a) v n) (D.mul (D.mul s (a n)) (v n)) = D.mul s (D.ad (dot D a v n) (D.mul (a n) (v n)))
    rw [dot_scale F s a v n, mul_ad F (dot_lt F _ _ _) (F.mul_lt _ _), F.mul_assoc]
/-- What makes rows 0 makes all 0 that they span. -/
theorem dot_spn {D : FD} (F : Fld D) {P : (Nat → Nat) → Prop} {u x : Nat → Nat} {n : Nat} (h : Spn D P u) (hP : ∀ v, P v → dot D v x n = 0) : dot D u x n = 0 := by
  obtain ⟨l, hl, rfl⟩ := h
  induction l with
  | nil => exact dot_nil F x n
  | cons y l ih =>
    show dot D (padd D (pscale D y.1 y.2) (lsum D l)) x n = 0
    rw [dot_add F (el_scale F _ _) (lsum_el F l), dot_scale F, hP _ (hl y (List.mem_cons_self ..)), mul0 F, ih (fun z hz => hl z (List.mem_cons_of_mem _ hz)), ad_zero F (zero_lt' F)]
theorem dot_congr {D : FD} {a a' b b' : Nat → Nat} : ∀ n, (∀ j, j < n → a j = a' j ∧ b j = b' j) → dot D a b n = dot D a' b' n
  | 0, _ => rfl
  | n + 1, h => by
    show D.ad (dot D a b n) (D.mul (a n) (b n)) = D.ad (dot D a' b' n) (D.mul (a' n) (b' n))
    rw [dot_congr n (fun j hj => h j (by omega)), (h n (by omega)).1, (h n (by omega)).2]
/-- A number put where 0 was. -/
theorem dot_put {D : FD} (F : Fld D) {a b : Nat → Nat} {j v : Nat} (hb : b j = 0) : ∀ n, j < n → dot D a (fun t => if t = j then v else b t) n = D.ad (dot D a b n) (D.mul (a j) v)
  | 0, h => absurd h (by omega)
  | n + 1, h => by
    show D.ad (dot D a (fun t => if t = j then v else b t) n) (D.mul (a n) (if n = j then v else b n)) = D.ad (D.ad (dot D a b n) (D.mul (a n) (b n))) (D.mul (a j) v)
    by_cases e : n = j
    · subst e
      rw [if_pos rfl, hb, mul0 F, ad_zero F (dot_lt F _ _ _), dot_congr (a' := a) (b' := b) n (fun t ht => ⟨rfl, if_neg (by omega)⟩)]
    · rw [if_neg e, dot_put F hb n (by omega), ad_assoc F (dot_lt F _ _ _) (F.mul_lt _ _) (F.mul_lt _ _), ad_comm F (D.mul (a j) v), ← ad_assoc F (dot_lt F _ _ _) (F.mul_lt _ _) (F.mul_lt _ _)]
theorem dot_unit {D : FD} (F : Fld D) {a : Nat → Nat} {c n : Nat} (ha : a c < D.q) (hc : c < n) : dot D a (fun t => if t = c then 1 else 0) n = a c := by
  have h := dot_put F (a := a) (b := pnil) (j := c) (v := 1) rfl n hc
  rw [mul1 F ha, dot_comm F a pnil, dot_nil F, zero_ad F ha] at h
  exact h
end Go.Proofs.Ytmbglikcanchbak

/- Plain mathematics: what makes rows 0 is what the null rows span; the dual of the dual. No Go text here. -/
namespace Go.Proofs.Ytmbglikcanchbak

theorem dot_nrv {D : FD} (F : Fld D) {n k : Nat} {R : Nat → Nat → Nat} {p : Nat → Nat} (h : RRE D n k R p) {i c : Nat} (hi : i < k) (hc : c < n) (hf : ∀ j, j < k → p j ≠ c) : ∀ r, r ≤ k → dot D (R i) (nrv D R p c r) n = if i < r then 0 else R i c
  | 0, _ => by rw [if_neg (by omega)]; exact dot_unit F (h.el i hi c) hc
  | r + 1, hr => by
    have e : nrv D R p c (r + 1) = fun t => if t = p r then D.ng (R r c) else nrv D R p c r t := rfl
    have h0 : nrv D R p c r (p r) = 0 := by
      rw [nrv_free r (fun j hj e => by have := h.mono j r hj (by omega); omega), if_neg (hf r (by omega))]
    rw [e, dot_put F h0 n (h.lt r (by omega)), dot_nrv F h hi hc hf r (by omega)]
    by_cases e2 : i = r
    · subst e2
      rw [if_neg (by omega), if_pos (by omega), h.one i hi, omul F (ng_lt F (h.el i hi c)), ad_ng F (h.el i hi c)]
    · rw [h.zero i r hi (by omega) e2, zmul F]
      by_cases e3 : i < r
      · rw [if_pos e3, if_pos (by omega), ad_zero F (zero_lt' F)]
      · rw [if_neg e3, if_neg (by omega), ad_zero F (h.el i hi c)]
theorem nul_orth {D : FD} (F : Fld D) {n k : Nat} {R : Nat → Nat → Nat} {p : Nat → Nat} (h : RRE D n k R p) {i j : Nat} (hi : i < k) (hj : j < nct k p n) : dot D (R i) (nul D R p k n j) n = 0 := by
  have h1 := fcs_ok n j hj
  have h2 := dot_nrv F h hi h1.1 h1.2 k (Nat.le_refl _)
  rw [if_pos hi] at h2
  exact h2
end Go.Proofs.Ytmbglikcanchbak
