/- Texts of ours, one behind the other: S2 T1 W9 T2 T4 T5 T6 T7 T8 T3 X1. -/
import Derived.Test.YtppggchhkckobaaGreatZL10
/- Plain mathematics: a row more, put into a reduced form. No Go text here. -/
namespace Go.Proofs.YtppggchhkckobaaGreat

/-- x put in at place t. -/
def ins {α : Type} (t : Nat) (x : α) (f : Nat → α) : Nat → α := fun i => if i < t then f i else if i = t then x else f (i - 1)
theorem ins_lt {α : Type} {t : Nat} {x : α} {f : Nat → α} {i : Nat} (h : i < t) : ins t x f i = f i := if_pos h
theorem ins_at {α : Type} (t : Nat) (x : α) (f : Nat → α) : ins t x f t = x := by unfold ins; rw [if_neg (by omega), if_pos rfl]
theorem ins_gt {α : Type} {t : Nat} {x : α} {f : Nat → α} {i : Nat} (h : t < i) : ins t x f i = f (i - 1) := by unfold ins; rw [if_neg (by omega), if_neg (by omega)]

/-- o taken from r, c times. -/
def plss (D : FD) (r o : Nat → Nat) (c : Nat) : Nat → Nat := psub D r (pscale D c o)
theorem plss_el {D : FD} (F : Fld D) {r : Nat → Nat} (o : Nat → Nat) (c : Nat) (hr : El D r) : El D (plss D r o c) := el_sub F hr (el_scale F _ _)
theorem plss_bd {D : FD} (F : Fld D) {r o : Nat → Nat} {n : Nat} (c : Nat) (hr : Bd n r) (ho : Bd n o) : Bd n (plss D r o c) := fun k hk => by
  show D.sb (r k) (D.mul c (o k)) = 0
  rw [hr k hk, ho k hk, mul0 F, sb_self F (zero_lt' F)]
theorem plss_zero {D : FD} (F : Fld D) {r : Nat → Nat} (o : Nat → Nat) (hr : El D r) {c k : Nat} (h : c = 0 ∨ o k = 0) : plss D r o c k = r k := by
  show D.sb (r k) (D.mul c (o k)) = r k
  rcases h with h | h
  · rw [h, zmul F, sb_zero F (hr k)]
  · rw [h, mul0 F, sb_zero F (hr k)]
theorem plss_spn {D : FD} (F : Fld D) {P : (Nat → Nat) → Prop} {r o : Nat → Nat} (c : Nat) (h : Spn D P r) (k : Spn D P o) : Spn D P (plss D r o c) := spn_sub F h (spn_scale F c k)
theorem plss_add {D : FD} (F : Fld D) {r : Nat → Nat} (o : Nat → Nat) (c : Nat) (hr : El D r) : padd D (pscale D c o) (plss D r o c) = r := psub_add F hr (el_scale F _ _)

/-- What is left of a row by a reduced form, row by row. -/
structure Lft (D : FD) (n k : Nat) (R : Nat → Nat → Nat) (p : Nat → Nat) (r0 : Nat → Nat) (t : Nat) (r : Nat → Nat) : Prop where
  el : El D r
  bd : Bd n r
  zero : ∀ j, j < t → r (p j) = 0
  spn : Spn D (RowsOf k R) (psub D r0 r)
theorem lft_first {D : FD} (F : Fld D) {n k : Nat} {R : Nat → Nat → Nat} {p r0 : Nat → Nat} (he : El D r0) (hb : Bd n r0) : Lft D n k R p r0 0 r0 :=
  ⟨he, hb, fun j hj => by omega, by rw [psub_self F he]; exact spn_nil _ _⟩
theorem lft_step {D : FD} (F : Fld D) {n k : Nat} {R : Nat → Nat → Nat} {p r0 r : Nat → Nat} {t : Nat} (h : RRE D n k R p) (he : El D r0) (hl : Lft D n k R p r0 t r) (ht : t < k) : Lft D n k R p r0 (t + 1) (plss D r (R t) (r (p t))) := by
  refine ⟨plss_el F _ _ hl.el, plss_bd F _ hl.bd (h.bd t ht), fun j hj => ?_, ?_⟩
  · by_cases e : j = t
    · subst e
      show D.sb (r (p j)) (D.mul (r (p j)) (R j (p j))) = 0
      rw [h.one j ht, mul1 F (hl.el _), sb_self F (hl.el _)]
    · rw [plss_zero F _ hl.el (Or.inr (h.zero t j ht (by omega) (fun x => e x.symm)))]
      exact hl.zero j (by omega)
  · have e : psub D r0 (plss D r (R t) (r (p t))) = padd D (psub D r0 r) (pscale D (r (p t)) (R t)) := by
      funext i
      show D.sb (r0 i) (D.sb (r i) (D.mul (r (p t)) (R t i))) = D.ad (D.sb (r0 i) (r i)) (D.mul (r (p t)) (R t i))
      have a := he i
      have b := hl.el i
      have c := F.mul_lt (r (p t)) (R t i)
      refine ad_cancel F (a := D.sb (r i) (D.mul (r (p t)) (R t i))) (sb_lt F b c) (sb_lt F a (sb_lt F b c)) (ad_lt F (sb_lt F a b) c) ?_
      rw [ad_sb F a (sb_lt F b c), ad_comm F (D.sb (r0 i) (r i)), ← ad_assoc F (sb_lt F b c) c (sb_lt F a b), ad_comm F (D.sb (r i) _), ad_sb F b c, ad_sb F a b]
    rw [e]
    exact spn_add F hl.spn (spn_scale F _ (spn_mem F (h.el t ht) ⟨t, ht, rfl⟩))

/-- The rows P and one more. -/
def Wth (P : (Nat → Nat) → Prop) (r : Nat → Nat) (v : Nat → Nat) : Prop := P v ∨ v = r
theorem wth_rows (k : Nat) (M : Nat → Nat → Nat) (v : Nat → Nat) : RowsOf (k + 1) M v ↔ Wth (RowsOf k M) (M k) v := by
  constructor
  · rintro ⟨i, hi, rfl⟩
    by_cases e : i = k
    · subst e; exact Or.inr rfl
    · exact Or.inl ⟨i, by omega, rfl⟩
  · rintro (⟨i, hi, rfl⟩ | rfl)
    · exact ⟨i, by omega, rfl⟩
    · exact ⟨k, by omega, rfl⟩
theorem spn_congr {D : FD} {P Q : (Nat → Nat) → Prop} (h : ∀ v, P v ↔ Q v) (v : Nat → Nat) : Spn D P v ↔ Spn D Q v :=
  ⟨fun ⟨l, h1, h2⟩ => ⟨l, fun x hx => (h _).1 (h1 x hx), h2⟩, fun ⟨l, h1, h2⟩ => ⟨l, fun x hx => (h _).2 (h1 x hx), h2⟩⟩
theorem spn_in {D : FD} {P : (Nat → Nat) → Prop} {r v : Nat → Nat} (h : Spn D P v) : Spn D (Wth P r) v := by
  obtain ⟨l, h1, h2⟩ := h
  exact ⟨l, fun x hx => Or.inl (h1 x hx), h2⟩
/-- Rows that differ by what is spanned span the same. -/
theorem spn_other {D : FD} (F : Fld D) {P : (Nat → Nat) → Prop} {r s : Nat → Nat} (hP : ∀ v, P v → El D v) (hr : Spn D (Wth P s) r) (hs : Spn D (Wth P r) s) (v : Nat → Nat) : Spn D (Wth P r) v ↔ Spn D (Wth P s) v :=
  ⟨fun hv => spn_le F (fun u hu => by rcases hu with hu | rfl; exact spn_in (spn_mem F (hP u hu) hu); exact hr) hv,
   fun hv => spn_le F (fun u hu => by rcases hu with hu | rfl; exact spn_in (spn_mem F (hP u hu) hu); exact hs) hv⟩
theorem spn_both {D : FD} (F : Fld D) {P Q : (Nat → Nat) → Prop} {r : Nat → Nat} (hP : ∀ v, P v → El D v) (hQ : ∀ v, Q v → El D v) (hr : El D r) (h : ∀ v, Spn D P v ↔ Spn D Q v) (v : Nat → Nat) : Spn D (Wth P r) v ↔ Spn D (Wth Q r) v := by
  have key : ∀ {P Q : (Nat → Nat) → Prop}, (∀ v, P v → El D v) → (∀ v, Spn D P v → Spn D Q v) → ∀ v, Spn D (Wth P r) v → Spn D (Wth Q r) v := fun hP h v hv =>
    spn_le F (fun u hu => by rcases hu with hu | rfl; exact spn_in (h u (spn_mem F (hP u hu) hu)); exact spn_mem F hr (Or.inr rfl)) hv
  exact ⟨key hP (fun v => (h v).1) v, key hQ (fun v => (h v).2) v⟩

/-- A row put into a reduced form. -/
theorem rre_ins {D : FD} (F : Fld D) {n k : Nat} {R : Nat → Nat → Nat} {p : Nat → Nat} (h : RRE D n k R p) {r : Nat → Nat} {at' t : Nat} (er : El D r) (hb : Bd n r) (hat : at' < n) (h1 : r at' = 1) (hl : ∀ c, c < at' → r c = 0) (hz : ∀ j, j < k → r (p j) = 0)
    (htk : t ≤ k) (ht1 : ∀ j, j < t → p j < at') (ht2 : ∀ j, t ≤ j → j < k → at' < p j) :
    RRE D n (k + 1) (ins t r fun i => plss D (R i) r (R i at')) (ins t at' p) := by
  have hat0 : ∀ i, t ≤ i → i < k → R i at' = 0 := fun i h2 h3 => h.lead i at' h3 (ht2 i h2 h3)
  have cas : ∀ i, i < k + 1 → (i < t) ∨ i = t ∨ (t < i ∧ i - 1 < k) := fun i hi => by omega
  refine ⟨fun i hi => ?_, fun i hi => ?_, fun i hi => ?_, fun i j hij hj => ?_, fun i hi => ?_, fun i j hi hj hij => ?_, fun i c hi hc => ?_⟩
  · rcases cas i hi with e | e | ⟨e, e2⟩
    · rw [ins_lt e]; exact plss_el F _ _ (h.el i (by omega))
    · rw [e, ins_at]; exact er
    · rw [ins_gt e]; exact plss_el F _ _ (h.el _ e2)
  · rcases cas i hi with e | e | ⟨e, e2⟩
    · rw [ins_lt e]; exact plss_bd F _ (h.bd i (by omega)) hb
    · rw [e, ins_at]; exact hb
    · rw [ins_gt e]; exact plss_bd F _ (h.bd _ e2) hb
  · rcases cas i hi with e | e | ⟨e, e2⟩
    · rw [ins_lt e]; exact h.lt i (by omega)
    · rw [e, ins_at]; exact hat
    · rw [ins_gt e]; exact h.lt _ e2
  · rcases cas j hj with e | e | ⟨e, e2⟩
    · rw [ins_lt e, ins_lt (by omega)]; exact h.mono i j hij (by omega)
    · rw [e, ins_at, ins_lt (by omega)]; exact ht1 i (by omega)
    · rw [ins_gt e]
      rcases Nat.lt_trichotomy i t with e3 | e3 | e3
      · rw [ins_lt e3]
        have := ht1 i e3
        have := ht2 (j - 1) (by omega) e2
        omega
      · rw [e3, ins_at]; exact ht2 _ (by omega) e2
      · rw [ins_gt e3]; exact h.mono _ _ (by omega) e2
  · rcases cas i hi with e | e | ⟨e, e2⟩
    · rw [ins_lt e, ins_lt e, plss_zero F _ (h.el i (by omega)) (Or.inr (hz i (by omega)))]; exact h.one i (by omega)
    · rw [e, ins_at, ins_at]; exact h1
    · rw [ins_gt e, ins_gt e, plss_zero F _ (h.el _ e2) (Or.inr (hz _ e2))]; exact h.one _ e2
  · have col : ∀ i, i < k → plss D (R i) r (R i at') at' = 0 := fun i hi => by
      show D.sb (R i at') (D.mul (R i at') (r at')) = 0
      rw [h1, mul1 F (h.el i hi _), sb_self F (h.el i hi _)]
    have row : ∀ i j, i < k → j < k → i ≠ j → plss D (R i) r (R i at') (p j) = 0 := fun i j hi hj hij => by
      rw [plss_zero F _ (h.el i hi) (Or.inr (hz j hj))]; exact h.zero i j hi hj hij
    rcases cas j hj with e | e | ⟨e, e2⟩
    · rw [ins_lt (x := at') e]
      rcases cas i hi with e3 | e3 | ⟨e3, e4⟩
      · rw [ins_lt e3]; exact row i j (by omega) (by omega) hij
      · rw [e3, ins_at]; exact hz j (by omega)
      · rw [ins_gt e3]; exact row _ j e4 (by omega) (by omega)
    · subst e
      rw [ins_at j at']
      rcases cas i hi with e3 | e3 | ⟨e3, e4⟩
      · rw [ins_lt e3]; exact col i (by omega)
      · exact absurd e3 hij
      · rw [ins_gt e3]; exact col _ e4
    · rw [ins_gt (x := at') e]
      rcases cas i hi with e3 | e3 | ⟨e3, e4⟩
      · rw [ins_lt e3]; exact row i _ (by omega) e2 (by omega)
      · rw [e3, ins_at]; exact hz _ e2
      · rw [ins_gt e3]; exact row _ _ e4 e2 (by omega)
  · rcases cas i hi with e | e | ⟨e, e2⟩
    · rw [ins_lt e] at hc
      rw [ins_lt e]
      have := ht1 i e
      rw [plss_zero F _ (h.el i (by omega)) (Or.inr (hl c (by omega)))]
      exact h.lead i c (by omega) hc
    · rw [e, ins_at] at hc
      rw [e, ins_at]
      exact hl c hc
    · rw [ins_gt e] at hc
      rw [ins_gt e, plss_zero F _ (h.el _ e2) (Or.inl (hat0 _ (by omega) e2))]
      exact h.lead _ c e2 hc
theorem rre_ins_spn {D : FD} (F : Fld D) {n k : Nat} {R : Nat → Nat → Nat} {p : Nat → Nat} (h : RRE D n k R p) {r : Nat → Nat} {at' t : Nat} (er : El D r) (htk : t ≤ k) (v : Nat → Nat) :
    Spn D (RowsOf (k + 1) (ins t r fun i => plss D (R i) r (R i at'))) v ↔ Spn D (Wth (RowsOf k R) r) v := by
  have hr : Spn D (RowsOf (k + 1) (ins t r fun i => plss D (R i) r (R i at'))) r := spn_mem F er ⟨t, by omega, (ins_at _ _ _).symm⟩
  constructor
  · intro hv
    refine spn_le F ?_ hv
    have old : ∀ i, i < k → Spn D (Wth (RowsOf k R) r) (plss D (R i) r (R i at')) := fun i hi =>
      plss_spn F _ (spn_in (spn_mem F (h.el i hi) ⟨i, hi, rfl⟩)) (spn_mem F er (Or.inr rfl))
    rintro u ⟨i, hi, rfl⟩
    rcases Nat.lt_trichotomy i t with e | e | e
    · rw [ins_lt e]; exact old i (by omega)
    · rw [e, ins_at]; exact spn_mem F er (Or.inr rfl)
    · rw [ins_gt e]; exact old _ (by omega)
  · intro hv
    refine spn_le F ?_ hv
    rintro u (⟨i, hi, rfl⟩ | rfl)
    · have hp : Spn D (RowsOf (k + 1) (ins t r fun i => plss D (R i) r (R i at'))) (plss D (R i) r (R i at')) := by
        refine spn_mem F (plss_el F _ _ (h.el i hi)) ?_
        by_cases e : i < t
        · exact ⟨i, by omega, by rw [ins_lt e]⟩
        · exact ⟨i + 1, by omega, by rw [ins_gt (by omega), Nat.add_sub_cancel]⟩
      rw [← plss_add F r (R i at') (h.el i hi)]
      exact spn_add F (spn_scale F _ hr) hp
    · exact hr
/-- One row of a matrix more: what is left of it is put in. -/
theorem red_put {D : FD} (F : Fld D) {n k i : Nat} {R M : Nat → Nat → Nat} {p : Nat → Nat} (h : RRE D n k R p) (hM : ∀ j, j ≤ i → El D (M j)) (hs : ∀ v, Spn D (RowsOf k R) v ↔ Spn D (RowsOf i M) v) {r : Nat → Nat} (hl : Lft D n k R p (M i) k r) {inv at' t : Nat} (hi : D.mul (r at') inv = 1) (htk : t ≤ k) (v : Nat → Nat) :
    Spn D (RowsOf (k + 1) (ins t (pscale D inv r) fun i => plss D (R i) (pscale D inv r) (R i at'))) v ↔ Spn D (RowsOf (i + 1) M) v := by
  have hR : ∀ v, RowsOf k R v → El D v := fun v ⟨j, hj, e⟩ => by rw [e]; exact h.el j hj
  rw [rre_ins_spn F h (el_scale F _ _) htk, spn_congr (wth_rows i M), ← spn_both F hR (fun v ⟨j, hj, e⟩ => by rw [e]; exact hM j (by omega)) (hM i (Nat.le_refl _)) hs]
  refine spn_other F hR ?_ ?_ v
  · have e : r = psub D (M i) (psub D (M i) r) := by
      funext j
      show r j = D.sb (M i j) (D.sb (M i j) (r j))
      have a := hM i (Nat.le_refl _) j
      have b := hl.el j
      refine ad_cancel F (a := D.sb (M i j) (r j)) (sb_lt F a b) b (sb_lt F a (sb_lt F a b)) ?_
      rw [ad_sb F a (sb_lt F a b), ad_comm F, ad_sb F a b]
    refine spn_scale F _ ?_
    rw [e]
    exact spn_sub F (spn_mem F (hM i (Nat.le_refl _)) (Or.inr rfl)) (spn_in hl.spn)
  · have e : M i = padd D r (psub D (M i) r) := (psub_add F (hM i (Nat.le_refl _)) hl.el).symm
    have e2 : r = pscale D (r at') (pscale D inv r) := by rw [pscale_pscale F, hi, pscale_one F hl.el]
    rw [e]
    refine spn_add F ?_ (spn_in hl.spn)
    rw [e2]
    exact spn_scale F _ (spn_mem F (el_scale F _ _) (Or.inr (by rw [← e2])))
end Go.Proofs.YtppggchhkckobaaGreat

/- The reference's matrices: a row less another (less). -/
namespace Go.Proofs.YtppggchhkckobaaGreat
open Go.RowKit Go.Sort

end Go.Proofs.YtppggchhkckobaaGreat

/- Lists of lists of the call's own: others' lists laid behind them (append(v, l...)), also at a step of a region that draws its order. -/
namespace Go.Proofs.YtppggchhkckobaaGreat
open Go.RowKit

/-- The first n of vs, as a list. -/
def vl (n : Nat) (vs : Nat → Value) : List Value := (List.range n).map vs
theorem vl_len (n : Nat) (vs : Nat → Value) : (vl n vs).length = n := by simp [vl]
theorem vl_get (n : Nat) (vs : Nat → Value) (j : Nat) (hj : j < n) : (vl n vs)[j]? = some (vs j) := by
  unfold vl
  rw [List.getElem?_map, List.getElem?_range hj]; rfl

theorem OwnV.grown {base : Nat} {v : Value} {l : List Value} {w w' : World} {row : Option Nat} (h : OwnV base v l w) (hg : w.grownBy w' row) (hne : v.ownBlock = none ∨ v.ownBlock ≠ row) : OwnV base v l w' := World.ownsRow.kept h hg hne
theorem OwnV.alloc {base : Nat} {v : Value} {l : List Value} {w : World} (h : OwnV base v l w) (o : Obj) : OwnV base v l (w.alloc o) := World.ownsRow.alloc h o

theorem SlZ.one {g : Nat} {x : Int} {w : World} (h : w.cell? ⟨g, 0, none⟩ = some (.int .i64 x)) : SlZ (some ⟨g, 0, none⟩) 1 (fun _ => x) w := fun j hj => ⟨g, 0, rfl, by rw [show 0 + j = 0 from by omega]; exact h⟩
theorem SlZ.less {ao : Option Addr} {n m : Nat} {z : Nat → Int} {w : World} (h : SlZ ao n z w) (hm : m ≤ n) : SlZ ao m z w := fun j hj => h j (by omega)

theorem slz_below {ao : Option Addr} {n : Nat} {z : Nat → Int} {w w' : World} (h : SlZ ao n z w) (hb : Below w.heap.size w w') : SlZ ao n z w' := fun j hj => by
  obtain ⟨b, off, e, hc⟩ := h j hj
  have hlt : b < w.heap.size := by
    rcases Nat.lt_or_ge b w.heap.size with e | e
    · exact e
    · exfalso
      have h1 : w.heap[b]? = none := Array.getElem?_eq_none e
      simp [World.cell?, h1] at hc
  exact ⟨b, off, e, ((bcell hb).1 b (off + j) hlt).trans hc⟩
end Go.Proofs.YtppggchhkckobaaGreat

/- The reference's matrices: rows as they are handed in; a row's first number that is not 0. -/
namespace Go.Proofs.YtppggchhkckobaaGreat
open Go.RowKit Go.Sort

theorem cell_lt {w : World} {a : Addr} {v : Value} (h : w.cell? a = some v) : a.block < w.heap.size := by
  rcases Nat.lt_or_ge a.block w.heap.size with e | e
  · exact e
  · exfalso
    have h1 : w.heap[a.block]? = none := Array.getElem?_eq_none e
    simp [World.cell?, h1] at h
/-- The slice u reads as n + 1 elements c. -/
def Rwv (u : Value) (n : Nat) (c : Nat → Nat) (w : World) : Prop := ∃ A ca, u = .slice A (n + 1) ca ∧ Sl A (n + 1) c w ∧ LtB A w.heap.size ∧ (A = none → ca = 0) ∧ n + 1 ≤ ca ∧ ca ≤ 9223372036854775807
theorem Rwv.below {u : Value} {n : Nat} {c : Nat → Nat} {w w' : World} (h : Rwv u n c w) (hb : Below w.heap.size w w') : Rwv u n c w' := by
  obtain ⟨A, ca, h1, h2, h3, h4, h5, h6⟩ := h
  exact ⟨A, ca, h1, h2.below hb h3, h3.mono hb.size, h4, h5, h6⟩
/-- The slice of slices that begins at ao: m rows M of n + 1 elements. -/
def MatR (ao : Option Addr) (m n : Nat) (M : Nat → Nat → Nat) (w : World) : Prop := ∀ i, i < m → ∃ b off u, ao = some ⟨b, off, none⟩ ∧ w.cell? ⟨b, off + i, none⟩ = some u ∧ Rwv u n (M i) w
theorem MatR.below {ao : Option Addr} {m n : Nat} {M : Nat → Nat → Nat} {w w' : World} (h : MatR ao m n M w) (hb : Below w.heap.size w w') : MatR ao m n M w' := fun i hi => by
  obtain ⟨b, off, u, e, hc, hr⟩ := h i hi
  exact ⟨b, off, u, e, ((bcell hb).1 b (off + i) (cell_lt hc)).trans hc, hr.below hb⟩
/-- A list of numbers is no list of lists. -/
theorem OwnI.apart {base base' : Nat} {u v : Value} {l : List Int} {l' : List Value} {w : World} (h : OwnI base u l w) (h' : OwnV base' v l' w) : u.ownBlock = none ∨ u.ownBlock ≠ v.ownBlock := by
  rcases h.2 with ⟨h1, _⟩ | ⟨g, cap, cur, hv, _, hh, _⟩
  · left; rw [h1]; rfl
  · right
    rcases h'.2 with ⟨h2, _⟩ | ⟨g', cap', cur', hv', _, hh', _⟩
    · rw [hv, h2]; intro e; cases e
    · rw [hv, hv']
      intro e
      have e : some g = some g' := e
      cases e
      rw [hh] at hh'
      simp at hh'
end Go.Proofs.YtppggchhkckobaaGreat

/- The reference's matrices: products (Product). -/
namespace Go.Proofs.YtppggchhkckobaaGreat
open Go.RowKit Go.Sort

end Go.Proofs.YtppggchhkckobaaGreat

/- The reference's matrices: which may be (MatrixMay). -/
namespace Go.Proofs.YtppggchhkckobaaGreat
open Go.RowKit Go.Sort

/-- A matrix that is handed in: m lists of whatever length. -/
structure MatZ (ao : Option Addr) (m : Nat) (A : Nat → Option Addr) (N C : Nat → Nat) (Z : Nat → Nat → Int) (w : World) : Prop where
  cell : ∀ i, i < m → ∃ b off, ao = some ⟨b, off, none⟩ ∧ w.cell? ⟨b, off + i, none⟩ = some (.slice (A i) (N i) (C i))
  sl : ∀ i, i < m → SlZ (A i) (N i) (Z i) w
  le : ∀ i, i < m → N i ≤ C i
  cap : ∀ i, i < m → C i ≤ 9223372036854775807
  nil : ∀ i, i < m → A i = none → C i = 0
  few : ∀ i, i < m → N i ≤ 1000000
theorem MatZ.below {ao : Option Addr} {m : Nat} {A : Nat → Option Addr} {N C : Nat → Nat} {Z : Nat → Nat → Int} {w w' : World} (h : MatZ ao m A N C Z w) (hb : Below w.heap.size w w') : MatZ ao m A N C Z w' :=
  ⟨fun i hi => by
    obtain ⟨b, off, e, hc⟩ := h.cell i hi
    exact ⟨b, off, e, ((bcell hb).1 b (off + i) (cell_lt hc)).trans hc⟩, fun i hi => slz_below (h.sl i hi) hb, h.le, h.cap, h.nil, h.few⟩
/-- What is said of a row of n numbers, where the first row has n0. -/
def FD.mrow (D : FD) (n0 n : Nat) (z : Nat → Int) : Int := if n ≠ n0 ∨ n = 0 then 3 else if 64 < n then 4 else if D.allHas z n = true then 0 else 2
def FD.mchks (D : FD) (N : Nat → Nat) (Z : Nat → Nat → Int) : Nat → Int
  | 0 => 0
  | k + 1 => if D.mchks N Z k = 0 then D.mrow (N 0) (N k) (Z k) else D.mchks N Z k
/-- What is said of a matrix. -/
def FD.mchk (D : FD) (m : Nat) (N : Nat → Nat) (Z : Nat → Nat → Int) : Int := if 64 < m then 4 else D.mchks N Z m
theorem mchks_keep {D : FD} {N : Nat → Nat} {Z : Nat → Nat → Int} {e : Int} (he : e ≠ 0) {r : Nat} (h : D.mchks N Z r = e) : ∀ d, D.mchks N Z (r + d) = e
  | 0 => h
  | d + 1 => by rw [← Nat.add_assoc, FD.mchks, mchks_keep he h d, if_neg he]
theorem mchks_to {D : FD} {N : Nat → Nat} {Z : Nat → Nat → Int} {e : Int} (he : e ≠ 0) {r m : Nat} (h0 : D.mchks N Z r = 0) (hr : r < m) (hm : ¬ 64 < m) (h : D.mrow (N 0) (N r) (Z r) = e) : D.mchk m N Z = e := by
  unfold FD.mchk
  rw [if_neg hm]
  have h1 : D.mchks N Z (r + 1) = e := by rw [FD.mchks, if_pos h0, h]
  have := mchks_keep he h1 (m - (r + 1))
  rwa [show r + 1 + (m - (r + 1)) = m from by omega] at this
theorem mrow_zero {D : FD} {n0 n : Nat} {z : Nat → Int} (h : D.mrow n0 n z = 0) : n = n0 ∧ 1 ≤ n ∧ n ≤ 64 ∧ D.allHas z n = true := by
  unfold FD.mrow at h
  by_cases h1 : n ≠ n0 ∨ n = 0
  · rw [if_pos h1] at h; cases h
  · rw [if_neg h1] at h
    by_cases h2 : 64 < n
    · rw [if_pos h2] at h; cases h
    · rw [if_neg h2] at h
      by_cases h3 : D.allHas z n = true
      · exact ⟨by omega, by omega, by omega, h3⟩
      · rw [if_neg h3] at h; cases h
theorem mchks_zero {D : FD} {N : Nat → Nat} {Z : Nat → Nat → Int} : ∀ {k : Nat}, D.mchks N Z k = 0 → ∀ i, i < k → D.mrow (N 0) (N i) (Z i) = 0
  | 0, _, i, hi => by omega
  | k + 1, h, i, hi => by
    rw [FD.mchks] at h
    by_cases h0 : D.mchks N Z k = 0
    · rw [if_pos h0] at h
      by_cases e : i = k
      · rw [e]; exact h
      · exact mchks_zero h0 i (by omega)
    · rw [if_neg h0] at h; exact absurd h h0
/-- The numbers of a matrix that may be. -/
def mzc (N : Nat → Nat) (Z : Nat → Nat → Int) : Nat → Nat → Nat := fun i => zc (N i) (Z i)
theorem mchk_rows {D : FD} (F : Fld D) {ao : Option Addr} {m : Nat} {A : Nat → Option Addr} {N C : Nat → Nat} {Z : Nat → Nat → Int} {w : World} (h : D.mchk m N Z = 0) (hA : MatZ ao m A N C Z w) (hm : 0 < m) :
    m ≤ 64 ∧ ∃ n, N 0 = n + 1 ∧ n < 64 ∧ (∀ i, i < m → N i = n + 1 ∧ El D (mzc N Z i) ∧ Bd (n + 1) (mzc N Z i)) ∧ MatR ao m n (mzc N Z) w := by
  unfold FD.mchk at h
  by_cases h64 : 64 < m
  · rw [if_pos h64] at h; cases h
  · rw [if_neg h64] at h
    have hrow := mchks_zero h
    have h0 := mrow_zero (hrow 0 hm)
    obtain ⟨n, hn⟩ : ∃ n, N 0 = n + 1 := ⟨N 0 - 1, by omega⟩
    have key : ∀ i, i < m → N i = n + 1 ∧ D.chk (N i) (Z i) = 0 := fun i hi => by
      have h1 := mrow_zero (hrow i hi)
      refine ⟨by omega, ?_⟩
      unfold FD.chk
      rw [if_neg (by omega), if_pos h1.2.2.2]
    refine ⟨by omega, n, hn, by omega, fun i hi => ⟨(key i hi).1, zc_el F (key i hi).2, by have := zc_bd (N i) (Z i); rw [(key i hi).1] at this; unfold mzc; rw [(key i hi).1]; exact this⟩, fun i hi => ?_⟩
    obtain ⟨b, off, e, hc⟩ := hA.cell i hi
    have hk := key i hi
    have hsl := zc_sl hk.2 (hA.sl i hi)
    refine ⟨b, off, _, e, hc, A i, C i, by rw [hk.1], ?_, ?_, hA.nil i hi, by have := hA.le i hi; omega, hA.cap i hi⟩
    · have : Sl (A i) (N i) (zc (N i) (Z i)) w := hsl
      rw [hk.1] at this
      unfold mzc; rw [hk.1]; exact this
    · intro x hx
      obtain ⟨b', off', e', hc'⟩ := hA.sl i hi 0 (by omega)
      rw [hx] at e'
      cases e'
      exact cell_lt hc'

end Go.Proofs.YtppggchhkckobaaGreat

/- The reference's matrices: Reduce's regions that draw their order, each by itself. -/
namespace Go.Proofs.YtppggchhkckobaaGreat
open Go.RowKit Go.Sort

end Go.Proofs.YtppggchhkckobaaGreat

/- The reference's matrices: Reduce's regions that draw their order, each by itself. -/
namespace Go.Proofs.YtppggchhkckobaaGreat
open Go.RowKit Go.Sort

end Go.Proofs.YtppggchhkckobaaGreat

/- The reference's matrices: Reduce's regions that draw their order, each by itself. -/
namespace Go.Proofs.YtppggchhkckobaaGreat
open Go.RowKit Go.Sort

end Go.Proofs.YtppggchhkckobaaGreat

/- The reference's matrices: the one form of what rows span (Reduce). -/
namespace Go.Proofs.YtppggchhkckobaaGreat
open Go.RowKit Go.Sort

end Go.Proofs.YtppggchhkckobaaGreat

/- The program's matrices: how many columns there are (width), which row may stand (checkRow), which matrix may be (Check). -/
namespace Go.Proofs.YtppggchhkckobaaGreat
open Go.RowKit

set_option maxHeartbeats 2000000 in
set_option maxRecDepth 100000 in
theorem width_any {ao : Option Addr} {m ca : Nat} {A : Nat → Option Addr} {N C : Nat → Nat} {Z : Nat → Nat → Int} {w : World} (h : MatZ ao m A N C Z w) :
    Calls Tryz.prog 141 #[.slice ao m ca] w fun e w' => e = .returned (.int .i64 ((if m = 0 then 0 else N 0 : Nat) : Int)) ∧ w' = w := by
  have HS : Hid (MatZ ao m A N C Z w) := h
  clear h
  by_cases hm : m = 0
  · subst hm
    go_enter Tryz.func141, Tryz.ntmps141
    go_wp2
    go_ret
    exact ⟨rfl, rfl⟩
  · obtain ⟨b, off, rfl, hc⟩ := HS.out.cell 0 (by omega)
    rw [Nat.add_zero] at hc
    have hf := HS.out.few 0 (by omega)
    have hm0 : (0 : Int) < (m : Int) := by omega
    have hz : ((m : Int) == 0) = false := by rw [beq_eq_false_iff_ne]; omega
    rw [if_neg hm]
    obtain ⟨N0, hN0⟩ : ∃ N0, N0 = N 0 := ⟨_, rfl⟩
    rw [← hN0] at hc hf ⊢
    clear hN0
    go_enter Tryz.func141, Tryz.ntmps141
    go_wp2
    go_ret
    exact ⟨rfl, rfl⟩

end Go.Proofs.YtppggchhkckobaaGreat
