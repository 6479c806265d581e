/- Texts of ours, one behind the other: I7 I8. -/
import Derived.Test.YtbpeahhhkcljeaaZI4
import Derived.Test.YtbpeahhhkcljeaaZI5
/- Sums of codes: plain mathematics. -/
namespace Go.Proofs.Ytbpeahhhkcljeaa
open Go.RowKit

/-- Rows, and others behind them. -/
def apr (k : Nat) (R R2 : Nat → Nat → Nat) : Nat → Nat → Nat := fun i => if i < k then R i else R2 (i - k)
/-- The one or the other. -/
def Uni (P Q : (Nat → Nat) → Prop) (v : Nat → Nat) : Prop := P v ∨ Q v
theorem uni_app (k k2 : Nat) (R R2 : Nat → Nat → Nat) (v : Nat → Nat) : RowsOf (k + k2) (apr k R R2) v ↔ Uni (RowsOf k R) (RowsOf k2 R2) v := by
  constructor
  · rintro ⟨i, hi, e⟩
    by_cases h : i < k
    · exact Or.inl ⟨i, h, by rw [e]; exact if_pos h⟩
    · exact Or.inr ⟨i - k, by omega, by rw [e]; exact if_neg h⟩
  · rintro (⟨i, hi, e⟩ | ⟨i, hi, e⟩)
    · exact ⟨i, by omega, by rw [e]; exact (if_pos hi).symm⟩
    · exact ⟨k + i, by omega, by rw [e]; show R2 i = if k + i < k then _ else R2 (k + i - k); rw [if_neg (by omega), Nat.add_sub_cancel_left]⟩
theorem spn_left {D : FD} (F : Fld D) {P Q : (Nat → Nat) → Prop} (hP : ∀ v, P v → El D v) {v : Nat → Nat} (h : Spn D P v) : Spn D (Uni P Q) v := spn_le F (fun u hu => spn_mem F (hP u hu) (Or.inl hu)) h
theorem spn_right {D : FD} (F : Fld D) {P Q : (Nat → Nat) → Prop} (hQ : ∀ v, Q v → El D v) {v : Nat → Nat} (h : Spn D Q v) : Spn D (Uni P Q) v := spn_le F (fun u hu => spn_mem F (hQ u hu) (Or.inr hu)) h
theorem spn_uni {D : FD} (F : Fld D) {P P' Q Q' : (Nat → Nat) → Prop} (hP : ∀ v, P v → El D v) (hQ : ∀ v, Q v → El D v) (hP' : ∀ v, P' v → El D v) (hQ' : ∀ v, Q' v → El D v) (h1 : ∀ v, Spn D P v ↔ Spn D P' v) (h2 : ∀ v, Spn D Q v ↔ Spn D Q' v) (v : Nat → Nat) : Spn D (Uni P Q) v ↔ Spn D (Uni P' Q') v := by
  constructor
  · refine spn_le F fun u hu => ?_
    rcases hu with hu | hu
    · exact spn_left F hP' ((h1 u).1 (spn_mem F (hP u hu) hu))
    · exact spn_right F hQ' ((h2 u).1 (spn_mem F (hQ u hu) hu))
  · refine spn_le F fun u hu => ?_
    rcases hu with hu | hu
    · exact spn_left F hP ((h1 u).2 (spn_mem F (hP' u hu) hu))
    · exact spn_right F hQ ((h2 u).2 (spn_mem F (hQ' u hu) hu))
theorem rows_el {D : FD} {k : Nat} {R : Nat → Nat → Nat} (h : ∀ i, i < k → El D (R i)) (v : Nat → Nat) (hv : RowsOf k R v) : El D v := by
  obtain ⟨i, hi, e⟩ := hv
  rw [e]; exact h i hi
theorem sb_sb {D : FD} (F : Fld D) {a b : Nat} (ha : a < D.q) (hb : b < D.q) : D.sb a (D.sb a b) = b := by
  have h := sb_ad F hb (sb_lt F ha hb)
  rw [ad_sb F ha hb] at h
  exact h
/-- What rows leave of others: with them, they make the same. -/
theorem spn_rest {D : FD} (F : Fld D) {n k m : Nat} {R b b' : Nat → Nat → Nat} {p : Nat → Nat} (hR : ∀ i, i < k → El D (R i)) (hb : ∀ i, i < m → El D (b i)) (hl : ∀ i, i < m → Lft D n k R p (b i) k (b' i)) (v : Nat → Nat) : Spn D (Uni (RowsOf k R) (RowsOf m b')) v ↔ Spn D (Uni (RowsOf k R) (RowsOf m b)) v := by
  constructor
  · refine spn_le F fun u hu => ?_
    rcases hu with hu | ⟨i, hi, e⟩
    · exact spn_left F (rows_el hR) (spn_mem F (rows_el hR u hu) hu)
    · have h1 : Spn D (Uni (RowsOf k R) (RowsOf m b)) (psub D (b i) (psub D (b i) (b' i))) := spn_sub F (spn_right F (rows_el hb) (spn_mem F (hb i hi) ⟨i, hi, rfl⟩)) (spn_left F (rows_el hR) (hl i hi).spn)
      have h2 : psub D (b i) (psub D (b i) (b' i)) = b' i := by
        funext j
        exact sb_sb F (hb i hi j) ((hl i hi).el j)
      rw [e, ← h2]; exact h1
  · refine spn_le F fun u hu => ?_
    rcases hu with hu | ⟨i, hi, e⟩
    · exact spn_left F (rows_el hR) (spn_mem F (rows_el hR u hu) hu)
    · have h1 : Spn D (Uni (RowsOf k R) (RowsOf m b')) (padd D (b' i) (psub D (b i) (b' i))) := spn_add F (spn_right F (rows_el fun i hi => (hl i hi).el) (spn_mem F (hl i hi).el ⟨i, hi, rfl⟩)) (spn_left F (rows_el hR) (hl i hi).spn)
      have h2 : padd D (b' i) (psub D (b i) (b' i)) = b i := psub_add F (hb i hi) (hl i hi).el
      rw [e, ← h2]; exact h1
theorem nct_mono (k : Nat) (p : Nat → Nat) {a : Nat} : ∀ d, nct k p a ≤ nct k p (a + d)
  | 0 => Nat.le_refl _
  | d + 1 => by
    have := nct_mono k p (a := a) d
    by_cases h : ∀ i, i < k → p i ≠ a + d
    · have := nct_yes h
      show nct k p a ≤ nct k p (a + d + 1)
      omega
    · have := nct_no h
      show nct k p a ≤ nct k p (a + d + 1)
      omega
/-- Columns that are free, rising: no more than there are. -/
theorem free_le {k k2 n : Nat} {p p2 : Nat → Nat} (hm : ∀ i j, i < j → j < k2 → p2 i < p2 j) (hl : ∀ i, i < k2 → p2 i < n) (hf : ∀ i j, i < k2 → j < k → p j ≠ p2 i) : k2 ≤ nct k p n := by
  have key : ∀ i, i < k2 → i + 1 ≤ nct k p (p2 i + 1) := fun i => by
    induction i with
    | zero =>
      intro hi
      rw [nct_yes (fun j hj => hf 0 j hi hj)]
      omega
    | succ i ih =>
      intro hi
      have h1 := ih (by omega)
      have h2 := hm i (i + 1) (by omega) hi
      have h3 := nct_mono k p (a := p2 i + 1) (p2 (i + 1) - (p2 i + 1))
      rw [show p2 i + 1 + (p2 (i + 1) - (p2 i + 1)) = p2 (i + 1) from by omega] at h3
      rw [nct_yes (fun j hj => hf (i + 1) j hi hj)]
      omega
  rcases Nat.eq_zero_or_pos k2 with h | h
  · omega
  · have h1 := key (k2 - 1) (by omega)
    have h2 := hl (k2 - 1) (by omega)
    have h3 := nct_mono k p (a := p2 (k2 - 1) + 1) (n - (p2 (k2 - 1) + 1))
    rw [show p2 (k2 - 1) + 1 + (n - (p2 (k2 - 1) + 1)) = n from by omega] at h3
    omega
/-- Rows, and what they leave of others, in one form each: no more than places. -/
theorem sum_few {D : FD} (F : Fld D) {n k k2 m : Nat} {R b b' R2 : Nat → Nat → Nat} {p p2 : Nat → Nat} (hR : RRE D n k R p) (hl : ∀ i, i < m → Lft D n k R p (b i) k (b' i)) (h2 : RRE D n k2 R2 p2) (hs : ∀ v, Spn D (RowsOf k2 R2) v ↔ Spn D (RowsOf m b') v) : k + k2 ≤ n := by
  have hz : ∀ v, Spn D (RowsOf m b') v → ∀ j, j < k → v (p j) = 0 := fun v hv j hj => by
    refine spn_ind (Q := fun v => v (p j) = 0) rfl (fun u v hu hv => ?_) (fun s v hv => ?_) (fun v ⟨i, hi, e⟩ => ?_) hv
    · show D.ad (u (p j)) (v (p j)) = 0
      rw [hu, hv]; exact ad_zero F (zero_lt' F)
    · show D.mul s (v (p j)) = 0
      rw [hv]; exact mul0 F _
    · rw [e]; exact (hl i hi).zero j hj
  have h3 : k2 ≤ nct k p n := free_le h2.mono h2.lt (fun i j hi hj e => by
    have h4 := hz (R2 i) ((hs _).1 (spn_mem F (h2.el i hi) ⟨i, hi, rfl⟩)) j hj
    rw [e, h2.one i hi] at h4
    cases h4)
  have := nct_all hR.mono hR.lt
  omega
end Go.Proofs.Ytbpeahhhkcljeaa

/- Sums of codes: what is left of rows (the program's sum), its state. -/
namespace Go.Proofs.Ytbpeahhhkcljeaa
open Go.RowKit Go.Sort

/-- Of the M lists in block G the first i are the rows V, of n elements, wherever they lie. -/
structure RS (D : FD) (G M n i : Nat) (V : Nat → Nat → Nat) (X : Nat → Option Addr) (C : Nat → Nat) (w : World) : Prop where
  outer : ∃ f, RowF G M 23 f w ∧ ∀ a, a < i → f a = .slice (X a) n (C a)
  sl : ∀ a, a < i → Sl (X a) n (V a) w
  lt : ∀ a, a < i → LtB (X a) w.heap.size
  nil : ∀ a, a < i → X a = none → C a = 0
  le : ∀ a, a < i → n ≤ C a
  cap : ∀ a, a < i → C a ≤ 9223372036854775807
  ne : ∀ a, a < i → ∀ x, X a = some x → x.block ≠ G
  el : ∀ a, a < i → El D (V a)
theorem RS.below {D : FD} {G M n i : Nat} {V : Nat → Nat → Nat} {X : Nat → Option Addr} {C : Nat → Nat} {w w' : World} (h : RS D G M n i V X C w) (hb : Below w.heap.size w w') : RS D G M n i V X C w' := by
  obtain ⟨f, hf, hf'⟩ := h.outer
  exact ⟨⟨f, hf.below hb hf.lt, hf'⟩, fun a ha => (h.sl a ha).below hb (h.lt a ha), fun a ha => (h.lt a ha).mono hb.size, h.nil, h.le, h.cap, h.ne, h.el⟩
theorem RS.cell {D : FD} {G M n i : Nat} {V : Nat → Nat → Nat} {X : Nat → Option Addr} {C : Nat → Nat} {w : World} (h : RS D G M n i V X C w) (a : Nat) (ha : a < i) (hM : i ≤ M) : w.cell? ⟨G, a, none⟩ = some (.slice (X a) n (C a)) ∧ w.frozen? ⟨G, a, none⟩ = false := by
  obtain ⟨f, hf, hf'⟩ := h.outer
  exact ⟨by rw [hf.cell a (by omega), hf' a ha], hf.free a⟩
theorem RS.free {D : FD} {G M n i : Nat} {V : Nat → Nat → Nat} {X : Nat → Option Addr} {C : Nat → Nat} {w : World} (h : RS D G M n i V X C w) (a : Nat) (ha : a < M) : (∃ u, w.cell? ⟨G, a, none⟩ = some u) ∧ w.frozen? ⟨G, a, none⟩ = false := by
  obtain ⟨f, hf, hf'⟩ := h.outer
  exact ⟨⟨_, hf.cell a ha⟩, hf.free a⟩
theorem RS.ltG {D : FD} {G M n i : Nat} {V : Nat → Nat → Nat} {X : Nat → Option Addr} {C : Nat → Nat} {w : World} (h : RS D G M n i V X C w) : G < w.heap.size := by
  obtain ⟨f, hf, _⟩ := h.outer
  exact hf.lt
theorem sl_set {ao : Option Addr} {n : Nat} {c : Nat → Nat} {w : World} {G a : Nat} {u : Value} (h : Sl ao n c w) (hne : ∀ x, ao = some x → x.block ≠ G) : Sl ao n c (w.setCell ⟨G, a, none⟩ u) := fun j hj => by
  obtain ⟨b, off, e, hc⟩ := h j hj
  refine ⟨b, off, e, ?_⟩
  have hb : b ≠ G := hne _ e
  have := Below.heap_setCell w ⟨G, a, none⟩ u b hb
  have e2 : (w.setCell ⟨G, a, none⟩ u).cell? ⟨b, off + j, none⟩ = w.cell? ⟨b, off + j, none⟩ := by simp [World.cell?, this]
  exact e2.trans hc
/-- List a0 is another one now. -/
theorem RS.put {D : FD} {G M n i i' a0 : Nat} {V : Nat → Nat → Nat} {X : Nat → Option Addr} {C : Nat → Nat} {w : World} (h : RS D G M n i V X C w) (hi : ∀ a, a < i' → a ≠ a0 → a < i) {x : Option Addr} {cc : Nat} {v : Nat → Nat} (hsl : Sl x n v w) (hlt : LtB x w.heap.size) (hnil : x = none → cc = 0) (hle : n ≤ cc) (hcap : cc ≤ 9223372036854775807) (hne : ∀ y, x = some y → y.block ≠ G) (hel : El D v) :
    RS D G M n i' (fun a => if a = a0 then v else V a) (fun a => if a = a0 then x else X a) (fun a => if a = a0 then cc else C a) (w.setCell ⟨G, a0, none⟩ (.slice x n cc)) := by
  obtain ⟨f, hf, hf'⟩ := h.outer
  have hsz : (w.setCell ⟨G, a0, none⟩ (.slice x n cc)).heap.size = w.heap.size := by simp
  refine ⟨⟨_, hf.store a0 (.slice x n cc), fun a ha => ?_⟩, fun a ha => ?_, fun a ha => ?_, fun a ha => ?_, fun a ha => ?_, fun a ha => ?_, fun a ha => ?_, fun a ha => ?_⟩
  · by_cases e : a = a0
    · rw [e, upd_at]; simp only [if_true]
    · simp only [if_neg e]
      rw [upd_ne _ _ _ e]; exact hf' a (hi a ha e)
  · by_cases e : a = a0
    · simp only [if_pos e]; exact sl_set hsl hne
    · simp only [if_neg e]; exact sl_set (h.sl a (hi a ha e)) (h.ne a (hi a ha e))
  · by_cases e : a = a0
    · simp only [if_pos e]; rw [hsz]; exact hlt
    · simp only [if_neg e]; rw [hsz]; exact h.lt a (hi a ha e)
  · by_cases e : a = a0
    · simp only [if_pos e]; exact hnil
    · simp only [if_neg e]; exact h.nil a (hi a ha e)
  · by_cases e : a = a0
    · simp only [if_pos e]; exact hle
    · simp only [if_neg e]; exact h.le a (hi a ha e)
  · by_cases e : a = a0
    · simp only [if_pos e]; exact hcap
    · simp only [if_neg e]; exact h.cap a (hi a ha e)
  · by_cases e : a = a0
    · simp only [if_pos e]; exact hne
    · simp only [if_neg e]; exact h.ne a (hi a ha e)
  · by_cases e : a = a0
    · simp only [if_pos e]; exact hel
    · simp only [if_neg e]; exact h.el a (hi a ha e)
theorem RS.matZ {D : FD} {G M n : Nat} {V : Nat → Nat → Nat} {X : Nat → Option Addr} {C : Nat → Nat} {w : World} (h : RS D G M n M V X C w) (hn : n ≤ 64) : MatZ (some ⟨G, 0, none⟩) M X (fun _ => n) C (fun i j => ((V i j : Nat) : Int)) w :=
  ⟨fun i hi => ⟨G, 0, rfl, by rw [Nat.zero_add]; exact (h.cell i hi (Nat.le_refl _)).1⟩, h.sl, h.le, h.cap, h.nil, fun _ _ => by omega⟩
theorem RS.cdz {D : FD} {G M n : Nat} {V : Nat → Nat → Nat} {X : Nat → Option Addr} {C : Nat → Nat} {w : World} (h : RS D G M n M V X C w) (hn1 : 1 ≤ n) (hn : n ≤ 64) (hM : M ≤ 64) : CdZ D (some ⟨G, 0, none⟩) M n X (fun _ => n) C (fun i j => ((V i j : Nat) : Int)) w := by
  refine ⟨h.matZ hn, mchk_of hM (fun i hi => ?_), fun _ => rfl, hn1, hn⟩
  unfold FD.mrow
  rw [if_neg (by omega), if_neg (by omega), if_pos]
  exact allHas_iff.2 (fun j _ => has_of_lt (h.el i hi j))
/-- A row that a matrix has, told as it lies. -/
theorem CdZ.row {D : FD} (F : Fld D) {ao : Option Addr} {m n : Nat} {A : Nat → Option Addr} {N C : Nat → Nat} {Z : Nat → Nat → Int} {w : World} (h : CdZ D ao m n A N C Z w) (i : Nat) (hi : i < m) : ∃ b off c, ao = some ⟨b, off, none⟩ ∧ w.cell? ⟨b, off + i, none⟩ = some (.slice (A i) n c) ∧ Sl (A i) n (mzc N Z i) w ∧ LtB (A i) w.heap.size ∧ (A i = none → c = 0) ∧ n ≤ c ∧ c ≤ 9223372036854775807 := by
  obtain ⟨_, _, _, hm⟩ := h.rows F
  have hn := h.n1
  obtain ⟨b, off, u, e, hc, A', ca', eu, hs, hl, h1, h2, h3⟩ := hm i hi
  obtain ⟨b', off', e', hc'⟩ := h.mat.cell i hi
  rw [e] at e'
  cases e'
  rw [hc, eu] at hc'
  have hc2 := Option.some.inj hc'
  simp only [Value.slice.injEq] at hc2
  obtain ⟨rfl, _, _⟩ := hc2
  rw [show n - 1 + 1 = n from by omega] at eu hs h2
  exact ⟨b, off, ca', e, by rw [hc, eu], hs, hl, h1, h2, h3⟩
end Go.Proofs.Ytbpeahhhkcljeaa
