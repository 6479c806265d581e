/- Texts of ours, one behind the other: S2 T1 W9 T2 T4. -/
import Derived.Test.YtjkncdmbcckcdabZL10
/- Plain mathematics: a row more, put into a reduced form. No Go text here. -/
namespace Go.Proofs.Ytjkncdmbcckcdab

/-- x put in at place t. -/
def ins {α : Type} (t : Nat) (x : α) (f : Nat → α) : Nat → α := fun i => if i < t then f i else if i = t then x else f (i - 1)
theorem ins_lt {α : Type} {t : Nat} {x : α} {f : Nat → α} {i : Nat} (h : i < t) : ins t x f i = f i := if_pos h
theorem ins_at {α : Type} (t : Nat) (x : α) (f : Nat → α) : ins t x f t = x := by unfold ins; rw [if_neg (by omega), if_pos rfl]
theorem ins_gt {α : Type} {t : Nat} {x : α} {f : Nat → α} {i : Nat} (h : t < i) : ins t x f i = f (i - 1) := by unfold ins; rw [if_neg (by omega), if_neg (by omega)]

/-- o taken from r, c times. -/
def plss (D : FD) (r o : Nat → Nat) (c : Nat) : Nat → Nat := psub D r (pscale D c o)
theorem plss_el {D : FD} (F : Fld D) {r : Nat → Nat} (o : Nat → Nat) (c : Nat) (hr : El D r) : El D (plss D r o c) := el_sub F hr (el_scale F _ _)
theorem plss_bd {D : FD} (F : Fld D) {r o : Nat → Nat} {n : Nat} (c : Nat) (hr : Bd n r) (ho : Bd n o) : Bd n (plss D r o c) := fun k hk => by
  show D.sb (r k) (D.mul c (o k)) = 0
  rw [hr k hk, ho k hk, mul0 F, sb_self F (zero_lt' F)]
theorem plss_zero {D : FD} (F : Fld D) {r : Nat → Nat} (o : Nat → Nat) (hr : El D r) {c k : Nat} (h : c = 0 ∨ o k = 0) : plss D r o c k = r k := by
  show D.sb (r k) (D.mul c (o k)) = r k
  rcases h with h | h
  · rw [h, zmul F, sb_zero F (hr k)]
  · rw [h, mul0 F, sb_zero F (hr k)]
theorem plss_spn {D : FD} (F : Fld D) {P : (Nat → Nat) → Prop} {r o : Nat → Nat} (c : Nat) (h : Spn D P r) (k : Spn D P o) : Spn D P (plss D r o c) := spn_sub F h (spn_scale F c k)
theorem plss_add {D : FD} (F : Fld D) {r : Nat → Nat} (o : Nat → Nat) (c : Nat) (hr : El D r) : padd D (pscale D c o) (plss D r o c) = r := psub_add F hr (el_scale F _ _)

/-- What is left of a row by a reduced form, row by row. -/
structure Lft (D : FD) (n k : Nat) (R : Nat → Nat → Nat) (p : Nat → Nat) (r0 : Nat → Nat) (t : Nat) (r : Nat → Nat) : Prop where
  el : El D r
  bd : Bd n r
  zero : ∀ j, j < t → r (p j) = 0
  spn : Spn D (RowsOf k R) (psub D r0 r)
theorem lft_first {D : FD} (F : Fld D) {n k : Nat} {R : Nat → Nat → Nat} {p r0 : Nat → Nat} (he : El D r0) (hb : Bd n r0) : Lft D n k R p r0 0 r0 :=
  ⟨he, hb, fun j hj => by omega, by rw [psub_self F he]; exact spn_nil _ _⟩
theorem lft_step {D : FD} (F : Fld D) {n k : Nat} {R : Nat → Nat → Nat} {p r0 r : Nat → Nat} {t : Nat} (h : RRE D n k R p) (he : El D r0) (hl : Lft D n k R p r0 t r) (ht : t < k) : Lft D n k R p r0 (t + 1) (plss D r (R t) (r (p t))) := by
  refine ⟨plss_el F _ _ hl.el, plss_bd F _ hl.bd (h.bd t ht), fun j hj => ?_, ?_⟩
  · by_cases e : j = t
    · subst e
      show D.sb (r (p j)) (D.mul (r (p j)) (R j (p j))) = 0
      rw [h.one j ht, mul1 F (hl.el _), sb_self F (hl.el _)]
    · rw [plss_zero F _ hl.el (Or.inr (h.zero t j ht (by omega) (fun x => e x.symm)))]
      exact hl.zero j (by omega)
  · have e : psub D r0 (plss D r (R t) (r (p t))) = padd D (psub D r0 r) (pscale D (r (p t)) (R t)) := by
      funext i
      show D.sb (r0 i) (D.sb (r i) (D.mul (r (p t)) (R t i))) = D.ad (D.sb (r0 i) (r i)) (D.mul (r (p t)) (R t i))
      have a := he i
      have b := hl.el i
      have c := F.mul_lt (r (p t)) (R t i)
      refine ad_cancel F (a := D.sb (r i) (D.mul (r (p t)) (R t i))) (sb_lt F b c) (sb_lt F a (sb_lt F b c)) (ad_lt F (sb_lt F a b) c) ?_
      rw [ad_sb F a (sb_lt F b c), ad_comm F (D.sb (r0 i) (r i)), ← ad_assoc F (sb_lt F b c) c (sb_lt F a b), ad_comm F (D.sb (r i) _), ad_sb F b c, ad_sb F a b]
    rw [e]
    exact spn_add F hl.spn (spn_scale F _ (spn_mem F (h.el t ht) ⟨t, ht, rfl⟩))

/-- The rows P and one more. -/
def Wth (P : (Nat → Nat) → Prop) (r : Nat → Nat) (v : Nat → Nat) : Prop := P v ∨ v = r
theorem wth_rows (k : Nat) (M : Nat → Nat → Nat) (v : Nat → Nat) : RowsOf (k + 1) M v ↔ Wth (RowsOf k M) (M k) v := by
  constructor
  · rintro ⟨i, hi, rfl⟩
    by_cases e : i = k
    · subst e; exact Or.inr rfl
    · exact Or.inl ⟨i, by omega, rfl⟩
  · rintro (⟨i, hi, rfl⟩ | rfl)
    · exact ⟨i, by omega, rfl⟩
    · exact ⟨k, by omega, rfl⟩
theorem spn_congr {D : FD} {P Q : (Nat → Nat) → Prop} (h : ∀ v, P v ↔ Q v) (v : Nat → Nat) : Spn D P v ↔ Spn D Q v :=
  ⟨fun ⟨l, h1, h2⟩ => ⟨l, fun x hx => (h _).1 (h1 x hx), h2⟩, fun ⟨l, h1, h2⟩ => ⟨l, fun x hx => (h _).2 (h1 x hx), h2⟩⟩
theorem spn_in {D : FD} {P : (Nat → Nat) → Prop} {r v : Nat → Nat} (h : Spn D P v) : Spn D (Wth P r) v := by
  obtain ⟨l, h1, h2⟩ := h
  exact ⟨l, fun x hx => Or.inl (h1 x hx), h2⟩
/-- Rows that differ by what is spanned span the same. -/
theorem spn_other {D : FD} (F : Fld D) {P : (Nat → Nat) → Prop} {r s : Nat → Nat} (hP : ∀ v, P v → El D v) (hr : Spn D (Wth P s) r) (hs : Spn D (Wth P r) s) (v : Nat → Nat) : Spn D (Wth P r) v ↔ Spn D (Wth P s) v :=
  ⟨fun hv => spn_le F (fun u hu => by rcases hu with hu | rfl; exact spn_in (spn_mem F (hP u hu) hu); exact hr) hv,
   fun hv => spn_le F (fun u hu => by rcases hu with hu | rfl; exact spn_in (spn_mem F (hP u hu) hu); exact hs) hv⟩
theorem spn_both {D : FD} (F : Fld D) {P Q : (Nat → Nat) → Prop} {r : Nat → Nat} (hP : ∀ v, P v → El D v) (hQ : ∀ v, Q v → El D v) (hr : El D r) (h : ∀ v, Spn D P v ↔ Spn D Q v) (v : Nat → Nat) : Spn D (Wth P r) v ↔ Spn D (Wth Q r) v := by
  have key : ∀ {P Q : (Nat → Nat) → Prop}, (∀ v, P v → El D v) → (∀ v, Spn D P v → Spn D Q v) → ∀ v, Spn D (Wth P r) v → Spn D (Wth Q r) v := fun hP h v hv =>
    spn_le F (fun u hu => by rcases hu with hu | rfl; exact spn_in (h u (spn_mem F (hP u hu) hu)); exact spn_mem F hr (Or.inr rfl)) hv
  exact ⟨key hP (fun v => (h v).1) v, key hQ (fun v => (h v).2) v⟩

/-- A row put into a reduced form. -/
theorem rre_ins {D : FD} (F : Fld D) {n k : Nat} {R : Nat → Nat → Nat} {p : Nat → Nat} (h : RRE D n k R p) {r : Nat → Nat} {at' t : Nat} (er : El D r) (hb : Bd n r) (hat : at' < n) (h1 : r at' = 1) (hl : ∀ c, c < at' → r c = 0) (hz : ∀ j, j < k → r (p j) = 0)
    (htk : t ≤ k) (ht1 : ∀ j, j < t → p j < at') (ht2 : ∀ j, t ≤ j → j < k → at' < p j) :
    RRE D n (k + 1) (ins t r fun i => plss D (R i) r (R i at')) (ins t at' p) := by
  have hat0 : ∀ i, t ≤ i → i < k → R i at' = 0 := fun i h2 h3 => h.lead i at' h3 (ht2 i h2 h3)
  have cas : ∀ i, i < k + 1 → (i < t) ∨ i = t ∨ (t < i ∧ i - 1 < k) := fun i hi => by omega
  refine ⟨fun i hi => ?_, fun i hi => ?_, fun i hi => ?_, fun i j hij hj => ?_, fun i hi => ?_, fun i j hi hj hij => ?_, fun i c hi hc => ?_⟩
  · rcases cas i hi with e | e | ⟨e, e2⟩
    · rw [ins_lt e]; exact plss_el F _ _ (h.el i (by omega))
    · rw [e, ins_at]; exact er
    · rw [ins_gt e]; exact plss_el F _ _ (h.el _ e2)
  · rcases cas i hi with e | e | ⟨e, e2⟩
    · rw [ins_lt e]; exact plss_bd F _ (h.bd i (by omega)) hb
    · rw [e, ins_at]; exact hb
    · rw [ins_gt e]; exact plss_bd F _ (h.bd _ e2) hb
  · rcases cas i hi with e | e | ⟨e, e2⟩
    · rw [ins_lt e]; exact h.lt i (by omega)
    · rw [e, ins_at]; exact hat
    · rw [ins_gt e]; exact h.lt _ e2
  · rcases cas j hj with e | e | ⟨e, e2⟩
    · rw [ins_lt e, ins_lt (by omega)]; exact h.mono i j hij (by omega)
    · rw [e, ins_at, ins_lt (by omega)]; exact ht1 i (by omega)
    · rw [ins_gt e]
      rcases Nat.lt_trichotomy i t with e3 | e3 | e3
      · rw [ins_lt e3]
        have := ht1 i e3
        have := ht2 (j - 1) (by omega) e2
        omega
      · rw [e3, ins_at]; exact ht2 _ (by omega) e2
      · rw [ins_gt e3]; exact h.mono _ _ (by omega) e2
  · rcases cas i hi with e | e | ⟨e, e2⟩
    · rw [ins_lt e, ins_lt e, plss_zero F _ (h.el i (by omega)) (Or.inr (hz i (by omega)))]; exact h.one i (by omega)
    · rw [e, ins_at, ins_at]; exact h1
    · rw [ins_gt e, ins_gt e, plss_zero F _ (h.el _ e2) (Or.inr (hz _ e2))]; exact h.one _ e2
  · have col : ∀ i, i < k → plss D (R i) r (R i at') at' = 0 := fun i hi => by
      show D.sb (R i at') (D.mul (R i at') (r at')) = 0
      rw [h1, mul1 F (h.el i hi _), sb_self F (h.el i hi _)]
    have row : ∀ i j, i < k → j < k → i ≠ j → plss D (R i) r (R i at') (p j) = 0 := fun i j hi hj hij => by
      rw [plss_zero F _ (h.el i hi) (Or.inr (hz j hj))]; exact h.zero i j hi hj hij
    rcases cas j hj with e | e | ⟨e, e2⟩
    · rw [ins_lt (x := at') e]
      rcases cas i hi with e3 | e3 | ⟨e3, e4⟩
      · rw [ins_lt e3]; exact row i j (by omega) (by omega) hij
      · rw [e3, ins_at]; exact hz j (by omega)
      · rw [ins_gt e3]; exact row _ j e4 (by omega) (by omega)
    · subst e
      rw [ins_at j at']
      rcases cas i hi with e3 | e3 | ⟨e3, e4⟩
      · rw [ins_lt e3]; exact col i (by omega)
      · exact absurd e3 hij
      · rw [ins_gt e3]; exact col _ e4
    · rw [ins_gt (x := at') e]
      rcases cas i hi with e3 | e3 | ⟨e3, e4⟩
      · rw [ins_lt e3]; exact row i _ (by omega) e2 (by omega)
      · rw [e3, ins_at]; exact hz _ e2
      · rw [ins_gt e3]; exact row _ _ e4 e2 (by omega)
  · rcases cas i hi with e | e | ⟨e, e2⟩
    · rw [ins_lt e] at hc
      rw [ins_lt e]
      have := ht1 i e
      rw [plss_zero F _ (h.el i (by omega)) (Or.inr (hl c (by omega)))]
      exact h.lead i c (by omega) hc
    · rw [e, ins_at] at hc
      rw [e, ins_at]
      exact hl c hc
    · rw [ins_gt e] at hc
      rw [ins_gt e, plss_zero F _ (h.el _ e2) (Or.inl (hat0 _ (by omega) e2))]
      exact h.lead _ c e2 hc
theorem rre_ins_spn {D : FD} (F : Fld D) {n k : Nat} {R : Nat → Nat → Nat} {p : Nat → Nat} (h : RRE D n k R p) {r : Nat → Nat} {at' t : Nat} (er : El D r) (htk : t ≤ k) (v : Nat → Nat) :
    Spn D (RowsOf (k + 1) (ins t r fun i => plss D (R i) r (R i at'))) v ↔ Spn D (Wth (RowsOf k R) r) v := by
  have hr : Spn D (RowsOf (k + 1) (ins t r fun i => plss D (R i) r (R i at'))) r := spn_mem F er ⟨t, by omega, (ins_at _ _ _).symm⟩
  constructor
  · intro hv
    refine spn_le F ?_ hv
    have old : ∀ i, i < k → Spn D (Wth (RowsOf k R) r) (plss D (R i) r (R i at')) := fun i hi =>
      plss_spn F _ (spn_in (spn_mem F (h.el i hi) ⟨i, hi, rfl⟩)) (spn_mem F er (Or.inr rfl))
    rintro u ⟨i, hi, rfl⟩
    rcases Nat.lt_trichotomy i t with e | e | e
    · rw [ins_lt e]; exact old i (by omega)
    · rw [e, ins_at]; exact spn_mem F er (Or.inr rfl)
    · rw [ins_gt e]; exact old _ (by omega)
  · intro hv
    refine spn_le F ?_ hv
    rintro u (⟨i, hi, rfl⟩ | rfl)
    · have hp : Spn D (RowsOf (k + 1) (ins t r fun i => plss D (R i) r (R i at'))) (plss D (R i) r (R i at')) := by
        refine spn_mem F (plss_el F _ _ (h.el i hi)) ?_
        by_cases e : i < t
        · exact ⟨i, by omega, by rw [ins_lt e]⟩
        · exact ⟨i + 1, by omega, by rw [ins_gt (by omega), Nat.add_sub_cancel]⟩
      rw [← plss_add F r (R i at') (h.el i hi)]
      exact spn_add F (spn_scale F _ hr) hp
    · exact hr
/-- One row of a matrix more: what is left of it is put in. -/
theorem red_put {D : FD} (F : Fld D) {n k i : Nat} {R M : Nat → Nat → Nat} {p : Nat → Nat} (h : RRE D n k R p) (hM : ∀ j, j ≤ i → El D (M j)) (hs : ∀ v, Spn D (RowsOf k R) v ↔ Spn D (RowsOf i M) v) {r : Nat → Nat} (hl : Lft D n k R p (M i) k r) {inv at' t : Nat} (hi : D.mul (r at') inv = 1) (htk : t ≤ k) (v : Nat → Nat) :
    Spn D (RowsOf (k + 1) (ins t (pscale D inv r) fun i => plss D (R i) (pscale D inv r) (R i at'))) v ↔ Spn D (RowsOf (i + 1) M) v := by
  have hR : ∀ v, RowsOf k R v → El D v := fun v ⟨j, hj, e⟩ => by rw [e]; exact h.el j hj
  rw [rre_ins_spn F h (el_scale F _ _) htk, spn_congr (wth_rows i M), ← spn_both F hR (fun v ⟨j, hj, e⟩ => by rw [e]; exact hM j (by omega)) (hM i (Nat.le_refl _)) hs]
  refine spn_other F hR ?_ ?_ v
  · have e : r = psub D (M i) (psub D (M i) r) := by
      funext j
      show r j = D.sb (M i j) (D.sb (M i j) (r j))
      have a := hM i (Nat.le_refl _) j
      have b := hl.el j
      refine ad_cancel F (a := D.sb (M i j) (r j)) (sb_lt F a b) b (sb_lt F a (sb_lt F a b)) ?_
      rw [ad_sb F a (sb_lt F a b), ad_comm F, ad_sb F a b]
    refine spn_scale F _ ?_
    rw [e]
    exact spn_sub F (spn_mem F (hM i (Nat.le_refl _)) (Or.inr rfl)) (spn_in hl.spn)
  · have e : M i = padd D r (psub D (M i) r) := (psub_add F (hM i (Nat.le_refl _)) hl.el).symm
    have e2 : r = pscale D (r at') (pscale D inv r) := by rw [pscale_pscale F, hi, pscale_one F hl.el]
    rw [e]
    refine spn_add F ?_ (spn_in hl.spn)
    rw [e2]
    exact spn_scale F _ (spn_mem F (el_scale F _ _) (Or.inr (by rw [← e2])))
end Go.Proofs.Ytjkncdmbcckcdab

/- The reference's matrices: a row less another (less). -/
namespace Go.Proofs.Ytjkncdmbcckcdab
open Go.RowKit Go.Sort

end Go.Proofs.Ytjkncdmbcckcdab

/- Lists of lists of the call's own: others' lists laid behind them (append(v, l...)), also at a step of a region that draws its order. -/
namespace Go.Proofs.Ytjkncdmbcckcdab
open Go.RowKit

/-- The first n of vs, as a list. -/
def vl (n : Nat) (vs : Nat → Value) : List Value := (List.range n).map vs
theorem vl_len (n : Nat) (vs : Nat → Value) : (vl n vs).length = n := by simp [vl]
theorem vl_get (n : Nat) (vs : Nat → Value) (j : Nat) (hj : j < n) : (vl n vs)[j]? = some (vs j) := by
  unfold vl
  rw [List.getElem?_map, List.getElem?_range hj]; rfl

theorem OwnV.grown {base : Nat} {v : Value} {l : List Value} {w w' : World} {row : Option Nat} (h : OwnV base v l w) (hg : w.grownBy w' row) (hne : v.ownBlock = none ∨ v.ownBlock ≠ row) : OwnV base v l w' := World.ownsRow.kept h hg hne
theorem OwnV.alloc {base : Nat} {v : Value} {l : List Value} {w : World} (h : OwnV base v l w) (o : Obj) : OwnV base v l (w.alloc o) := World.ownsRow.alloc h o

theorem SlZ.one {g : Nat} {x : Int} {w : World} (h : w.cell? ⟨g, 0, none⟩ = some (.int .i64 x)) : SlZ (some ⟨g, 0, none⟩) 1 (fun _ => x) w := fun j hj => ⟨g, 0, rfl, by rw [show 0 + j = 0 from by omega]; exact h⟩
theorem SlZ.less {ao : Option Addr} {n m : Nat} {z : Nat → Int} {w : World} (h : SlZ ao n z w) (hm : m ≤ n) : SlZ ao m z w := fun j hj => h j (by omega)

theorem slz_below {ao : Option Addr} {n : Nat} {z : Nat → Int} {w w' : World} (h : SlZ ao n z w) (hb : Below w.heap.size w w') : SlZ ao n z w' := fun j hj => by
  obtain ⟨b, off, e, hc⟩ := h j hj
  have hlt : b < w.heap.size := by
    rcases Nat.lt_or_ge b w.heap.size with e | e
    · exact e
    · exfalso
      have h1 : w.heap[b]? = none := Array.getElem?_eq_none e
      simp [World.cell?, h1] at hc
  exact ⟨b, off, e, ((bcell hb).1 b (off + j) hlt).trans hc⟩
end Go.Proofs.Ytjkncdmbcckcdab

/- The reference's matrices: rows as they are handed in; a row's first number that is not 0. -/
namespace Go.Proofs.Ytjkncdmbcckcdab
open Go.RowKit Go.Sort

theorem cell_lt {w : World} {a : Addr} {v : Value} (h : w.cell? a = some v) : a.block < w.heap.size := by
  rcases Nat.lt_or_ge a.block w.heap.size with e | e
  · exact e
  · exfalso
    have h1 : w.heap[a.block]? = none := Array.getElem?_eq_none e
    simp [World.cell?, h1] at h
/-- The slice u reads as n + 1 elements c. -/
def Rwv (u : Value) (n : Nat) (c : Nat → Nat) (w : World) : Prop := ∃ A ca, u = .slice A (n + 1) ca ∧ Sl A (n + 1) c w ∧ LtB A w.heap.size ∧ (A = none → ca = 0) ∧ n + 1 ≤ ca ∧ ca ≤ 9223372036854775807
theorem Rwv.below {u : Value} {n : Nat} {c : Nat → Nat} {w w' : World} (h : Rwv u n c w) (hb : Below w.heap.size w w') : Rwv u n c w' := by
  obtain ⟨A, ca, h1, h2, h3, h4, h5, h6⟩ := h
  exact ⟨A, ca, h1, h2.below hb h3, h3.mono hb.size, h4, h5, h6⟩
/-- The slice of slices that begins at ao: m rows M of n + 1 elements. -/
def MatR (ao : Option Addr) (m n : Nat) (M : Nat → Nat → Nat) (w : World) : Prop := ∀ i, i < m → ∃ b off u, ao = some ⟨b, off, none⟩ ∧ w.cell? ⟨b, off + i, none⟩ = some u ∧ Rwv u n (M i) w
theorem MatR.below {ao : Option Addr} {m n : Nat} {M : Nat → Nat → Nat} {w w' : World} (h : MatR ao m n M w) (hb : Below w.heap.size w w') : MatR ao m n M w' := fun i hi => by
  obtain ⟨b, off, u, e, hc, hr⟩ := h i hi
  exact ⟨b, off, u, e, ((bcell hb).1 b (off + i) (cell_lt hc)).trans hc, hr.below hb⟩
/-- A list of numbers is no list of lists. -/
theorem OwnI.apart {base base' : Nat} {u v : Value} {l : List Int} {l' : List Value} {w : World} (h : OwnI base u l w) (h' : OwnV base' v l' w) : u.ownBlock = none ∨ u.ownBlock ≠ v.ownBlock := by
  rcases h.2 with ⟨h1, _⟩ | ⟨g, cap, cur, hv, _, hh, _⟩
  · left; rw [h1]; rfl
  · right
    rcases h'.2 with ⟨h2, _⟩ | ⟨g', cap', cur', hv', _, hh', _⟩
    · rw [hv, h2]; intro e; cases e
    · rw [hv, hv']
      intro e
      have e : some g = some g' := e
      cases e
      rw [hh] at hh'
      simp at hh'
end Go.Proofs.Ytjkncdmbcckcdab

/- The reference's matrices: products (Product). -/
namespace Go.Proofs.Ytjkncdmbcckcdab
open Go.RowKit Go.Sort

end Go.Proofs.Ytjkncdmbcckcdab
