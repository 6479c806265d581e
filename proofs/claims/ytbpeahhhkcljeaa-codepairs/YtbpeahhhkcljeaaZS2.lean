/- Texts of ours, one behind the other: S2 T1. -/
import Derived.Test.YtbpeahhhkcljeaaZL10
/- Plain mathematics: a row more, put into a reduced form. No Go text here. -/
namespace Go.Proofs.Ytbpeahhhkcljeaa

/-- x put in at place t. -/
def ins {α : Type} (t : Nat) (x : α) (f : Nat → α) : Nat → α := fun i => if i < t then f i else if i = t then x else f (i - 1)
theorem ins_lt {α : Type} {t : Nat} {x : α} {f : Nat → α} {i : Nat} (h : i < t) : ins t x f i = f i := if_pos h
theorem ins_at {α : Type} (t : Nat) (x : α) (f : Nat → α) : ins t x f t = x := by unfold ins; rw [if_neg (by omega), if_pos rfl]
theorem ins_gt {α : Type} {t : Nat} {x : α} {f : Nat → α} {i : Nat} (h : t < i) : ins t x f i = f (i - 1) := by unfold ins; rw [if_neg (by omega), if_neg (by omega)]

/-- o taken from r, c times. -/
def plss (D : FD) (r o : Nat → Nat) (c : Nat) : Nat → Nat := psub D r (pscale D c o)
theorem plss_el {D : FD} (F : Fld D) {r : Nat → Nat} (o : Nat → Nat) (c : Nat) (hr : El D r) : El D (plss D r o c) := el_sub F hr (el_scale F _ _)
theorem plss_bd {D : FD} (F : Fld D) {r o : Nat → Nat} {n : Nat} (c : Nat) (hr : Bd n r) (ho : Bd n o) : Bd n (plss D r o c) := fun k hk => by
  show D.sb (r k) (D.mul c (o k)) = 0
  rw [hr k hk, ho k hk, mul0 F, sb_self F (zero_lt' F)]
theorem plss_zero {D : FD} (F : Fld D) {r : Nat → Nat} (o : Nat → Nat) (hr : El D r) {c k : Nat} (h : c = 0 ∨ o k = 0) : plss D r o c k = r k := by
  show D.sb (r k) (D.mul c (o k)) = r k
  rcases h with h | h
  · rw [h, zmul F, sb_zero F (hr k)]
  · rw [h, mul0 F, sb_zero F (hr k)]
theorem plss_spn {D : FD} (F : Fld D) {P : (Nat → Nat) → Prop} {r o : Nat → Nat} (c : Nat) (h : Spn D P r) (k : Spn D P o) : Spn D P (plss D r o c) := spn_sub F h (spn_scale F c k)
theorem plss_add {D : FD} (F : Fld D) {r : Nat → Nat} (o : Nat → Nat) (c : Nat) (hr : El D r) : padd D (pscale D c o) (plss D r o c) = r := psub_add F hr (el_scale F _ _)

/-- What is left of a row by a reduced form, row by row. -/
structure Lft (D : FD) (n k : Nat) (R : Nat → Nat → Nat) (p : Nat → Nat) (r0 : Nat → Nat) (t : Nat) (r : Nat → Nat) : Prop where
  el : El D r
  bd : Bd n r
  zero : ∀ j, j < t → r (p j) = 0
  spn : Spn D (RowsOf k R) (psub D r0 r)
theorem lft_first {D : FD} (F : Fld D) {n k : Nat} {R : Nat → Nat → Nat} {p r0 : Nat → Nat} (he : El D r0) (hb : Bd n r0) : Lft D n k R p r0 0 r0 :=
  ⟨he, hb, fun j hj => by omega, by rw [psub_self F he]; exact spn_nil _ _⟩
theorem lft_step {D : FD} (F : Fld D) {n k : Nat} {R : Nat → Nat → Nat} {p r0 r : Nat → Nat} {t : Nat} (h : RRE D n k R p) (he : El D r0) (hl : Lft D n k R p r0 t r) (ht : t < k) : Lft D n k R p r0 (t + 1) (plss D r (R t) (r (p t))) := by
  refine ⟨plss_el F _ _ hl.el, plss_bd F _ hl.bd (h.bd t ht), fun j hj => ?_, ?_⟩
  · by_cases e : j = t
    · subst e
      show D.sb (r (p j)) (D.mul (r (p j)) (R j (p j))) = 0
      rw [h.one j ht, mul1 F (hl.el _), sb_self F (hl.el _)]
    · rw [plss_zero F _ hl.el (Or.inr (h.zero t j ht (by omega) (fun x => e x.symm)))]
      exact hl.zero j (by omega)
  · have e : psub D r0 (plss D r (R t) (r (p t))) = padd D (psub D r0 r) (pscale D (r (p t)) (R t)) := by
      funext i
      show D.sb (r0 i) (D.sb (r i) (D.mul (r (p t)) (R t i))) = D.ad (D.sb (r0 i) (r i)) (D.mul (r (p t)) (R t i))
      have a := he i
      have b := hl.el i
      have c := F.mul_lt (r (p t)) (R t i)
      refine ad_cancel F (a := D.sb (r i) (D.mul (r (p t)) (R t i))) (sb_lt F b c) (sb_lt F a (sb_lt F b c)) (ad_lt F (sb_lt F a b) c) ?_
      rw [ad_sb F a (sb_lt F b c), ad_comm F (D.sb (r0 i) (r i)), ← ad_assoc F (sb_lt F b c) c (sb_lt F a b), ad_comm F (D.sb (r i) _), ad_sb F b c, ad_sb F a b]
    rw [e]
    exact spn_add F hl.spn (spn_scale F _ (spn_mem F (h.el t ht) ⟨t, ht, rfl⟩))

/-- The rows P and one more. -/
def Wth (P : (Nat → Nat) → Prop) (r : Nat → Nat) (v : Nat → Nat) : Prop := P v ∨ v = r
theorem wth_rows (k : Nat) (M : Nat → Nat → Nat) (v : Nat → Nat) : RowsOf (k + 1) M v ↔ Wth (RowsOf k M) (M k) v := by
  constructor
  · rintro ⟨i, hi, rfl⟩
    by_cases e : i = k
    · subst e; exact Or.inr rfl
    · exact Or.inl ⟨i, by omega, rfl⟩
  · rintro (⟨i, hi, rfl⟩ | rfl)
    · exact ⟨i, by omega, rfl⟩
    · exact ⟨k, by omega, rfl⟩
theorem spn_congr {D : FD} {P Q : (Nat → Nat) → Prop} (h : ∀ v, P v ↔ Q v) (v : Nat → Nat) : Spn D P v ↔ Spn D Q v :=
  ⟨fun ⟨l, h1, h2⟩ => ⟨l, fun x hx => (h _).1 (h1 x hx), h2⟩, fun ⟨l, h1, h2⟩ => ⟨l, fun x hx => (h _).2 (h1 x hx), h2⟩⟩
theorem spn_in {D : FD} {P : (Nat → Nat) → Prop} {r v : Nat → Nat} (h : Spn D P v) : Spn D (Wth P r) v := by
  obtain ⟨l, h1, h2⟩ := h
  exact ⟨l, fun x hx => Or.inl (h1 x hx), h2⟩
/-- A row that is spanned adds nothing. -/
theorem spn_idle {D : FD} (F : Fld D) {P : (Nat → Nat) → Prop} {r : Nat → Nat} (hP : ∀ v, P v → El D v) (h : Spn D P r) (v : Nat → Nat) : Spn D (Wth P r) v ↔ Spn D P v :=
  ⟨fun hv => spn_le F (fun u hu => by rcases hu with hu | rfl; exact spn_mem F (hP u hu) hu; exact h) hv, spn_in⟩
/-- Rows that differ by what is spanned span the same. -/
theorem spn_other {D : FD} (F : Fld D) {P : (Nat → Nat) → Prop} {r s : Nat → Nat} (hP : ∀ v, P v → El D v) (hr : Spn D (Wth P s) r) (hs : Spn D (Wth P r) s) (v : Nat → Nat) : Spn D (Wth P r) v ↔ Spn D (Wth P s) v :=
  ⟨fun hv => spn_le F (fun u hu => by rcases hu with hu | rfl; exact spn_in (spn_mem F (hP u hu) hu); exact hr) hv,
   fun hv => spn_le F (fun u hu => by rcases hu with hu | rfl; exact spn_in (spn_mem F (hP u hu) hu); exact hs) hv⟩
theorem spn_both {D : FD} (F : Fld D) {P Q : (Nat → Nat) → Prop} {r : Nat → Nat} (hP : ∀ v, P v → El D v) (hQ : ∀ v, Q v → El D v) (hr : El D r) (h : ∀ v, Spn D P v ↔ Spn D Q v) (v : Nat → Nat) : Spn D (Wth P r) v ↔ Spn D (Wth Q r) v := by
  have key : ∀ {P Q : (Nat → Nat) → Prop}, (∀ v, P v → El D v) → (∀ v, Spn D P v → Spn D Q v) → ∀ v, Spn D (Wth P r) v → Spn D (Wth Q r) v := fun hP h v hv =>
    spn_le F (fun u hu => by rcases hu with hu | rfl; exact spn_in (h u (spn_mem F (hP u hu) hu)); exact spn_mem F hr (Or.inr rfl)) hv
  exact ⟨key hP (fun v => (h v).1) v, key hQ (fun v => (h v).2) v⟩

/-- A row put into a reduced form. -/
theorem rre_ins {D : FD} (F : Fld D) {n k : Nat} {R : Nat → Nat → Nat} {p : Nat → Nat} (h : RRE D n k R p) {r : Nat → Nat} {at' t : Nat} (er : El D r) (hb : Bd n r) (hat : at' < n) (h1 : r at' = 1) (hl : ∀ c, c < at' → r c = 0) (hz : ∀ j, j < k → r (p j) = 0)
    (htk : t ≤ k) (ht1 : ∀ j, j < t → p j < at') (ht2 : ∀ j, t ≤ j → j < k → at' < p j) :
    RRE D n (k + 1) (ins t r fun i => plss D (R i) r (R i at')) (ins t at' p) := by
  have hat0 : ∀ i, t ≤ i → i < k → R i at' = 0 := fun i h2 h3 => h.lead i at' h3 (ht2 i h2 h3)
  have cas : ∀ i, i < k + 1 → (i < t) ∨ i = t ∨ (t < i ∧ i - 1 < k) := fun i hi => by omega
  refine ⟨fun i hi => ?_, fun i hi => ?_, fun i hi => ?_, fun i j hij hj => ?_, fun i hi => ?_, fun i j hi hj hij => ?_, fun i c hi hc => ?_⟩
  · rcases cas i hi with e | e | ⟨e, e2⟩
    · rw [ins_lt e]; exact plss_el F _ _ (h.el i (by omega))
    · rw [e, ins_at]; exact er
    · rw [ins_gt e]; exact plss_el F _ _ (h.el _ e2)
  · rcases cas i hi with e | e | ⟨e, e2⟩
    · rw [ins_lt e]; exact plss_bd F _ (h.bd i (by omega)) hb
    · rw [e, ins_at]; exact hb
    · rw [ins_gt e]; exact plss_bd F _ (h.bd _ e2) hb
  · rcases cas i hi with e | e | ⟨e, e2⟩
    · rw [ins_lt e]; exact h.lt i (by omega)
    · rw [e, ins_at]; exact hat
    · rw [ins_gt e]; exact h.lt _ e2
  · rcases cas j hj with e | e | ⟨e, e2⟩
    · rw [ins_lt e, ins_lt (by omega)]; exact h.mono i j hij (by omega)
    · rw [e, ins_at, ins_lt (by omega)]; exact ht1 i (by omega)
    · rw [ins_gt e]
      rcases Nat.lt_trichotomy i t with e3 | e3 | e3
      · rw [ins_lt e3]
        have := ht1 i e3
        have := ht2 (j - 1) (by omega) e2
        omega
      · rw [e3, ins_at]; exact ht2 _ (by omega) e2
      · rw [ins_gt e3]; exact h.mono _ _ (by omega) e2
  · rcases cas i hi with e | e | ⟨e, e2⟩
    · rw [ins_lt e, ins_lt e, plss_zero F _ (h.el i (by omega)) (Or.inr (hz i (by omega)))]; exact h.one i (by omega)
    · rw [e, ins_at, ins_at]; exact h1
    · rw [ins_gt e, ins_gt e, plss_zero F _ (h.el _ e2) (Or.inr (hz _ e2))]; exact h.one _ e2
  · have col : ∀ i, i < k → plss D (R i) r (R i at') at' = 0 := fun i hi => by
      show D.sb (R i at') (D.mul (R i at') (r at')) = 0
      rw [h1, mul1 F (h.el i hi _), sb_self F (h.el i hi _)]
    have row : ∀ i j, i < k → j < k → i ≠ j → plss D (R i) r (R i at') (p j) = 0 := fun i j hi hj hij => by
      rw [plss_zero F _ (h.el i hi) (Or.inr (hz j hj))]; exact h.zero i j hi hj hij
    rcases cas j hj with e | e | ⟨e, e2⟩
    · rw [ins_lt (x := at') e]
      rcases cas i hi with e3 | e3 | ⟨e3, e4⟩
      · rw [ins_lt e3]; exact row i j (by omega) (by omega) hij
      · rw [e3, ins_at]; exact hz j (by omega)
      · rw [ins_gt e3]; exact row _ j e4 (by omega) (by omega)
    · subst e
      rw [ins_at j at']
      rcases cas i hi with e3 | e3 | ⟨e3, e4⟩
      · rw [ins_lt e3]; exact col i (by omega)
      · exact absurd e3 hij
      · rw [ins_gt e3]; exact col _ e4
    · rw [ins_gt (x := at') e]
      rcases cas i hi with e3 | e3 | ⟨e3, e4⟩
      · rw [ins_lt e3]; exact row i _ (by omega) e2 (by omega)
      · rw [e3, ins_at]; exact hz _ e2
      · rw [ins_gt e3]; exact row _ _ e4 e2 (by omega)
  · rcases cas i hi with e | e | ⟨e, e2⟩
    · rw [ins_lt e] at hc
      rw [ins_lt e]
      have := ht1 i e
      rw [plss_zero F _ (h.el i (by omega)) (Or.inr (hl c (by omega)))]
      exact h.lead i c (by omega) hc
    · rw [e, ins_at] at hc
      rw [e, ins_at]
      exact hl c hc
    · rw [ins_gt e] at hc
      rw [ins_gt e, plss_zero F _ (h.el _ e2) (Or.inl (hat0 _ (by omega) e2))]
      exact h.lead _ c e2 hc
theorem rre_ins_spn {D : FD} (F : Fld D) {n k : Nat} {R : Nat → Nat → Nat} {p : Nat → Nat} (h : RRE D n k R p) {r : Nat → Nat} {at' t : Nat} (er : El D r) (htk : t ≤ k) (v : Nat → Nat) :
    Spn D (RowsOf (k + 1) (ins t r fun i => plss D (R i) r (R i at'))) v ↔ Spn D (Wth (RowsOf k R) r) v := by
  have hr : Spn D (RowsOf (k + 1) (ins t r fun i => plss D (R i) r (R i at'))) r := spn_mem F er ⟨t, by omega, (ins_at _ _ _).symm⟩
  constructor
  · intro hv
    refine spn_le F ?_ hv
    have old : ∀ i, i < k → Spn D (Wth (RowsOf k R) r) (plss D (R i) r (R i at')) := fun i hi =>
      plss_spn F _ (spn_in (spn_mem F (h.el i hi) ⟨i, hi, rfl⟩)) (spn_mem F er (Or.inr rfl))
    rintro u ⟨i, hi, rfl⟩
    rcases Nat.lt_trichotomy i t with e | e | e
    · rw [ins_lt e]; exact old i (by omega)
    · rw [e, ins_at]; exact spn_mem F er (Or.inr rfl)
    · rw [ins_gt e]; exact old _ (by omega)
  · intro hv
    refine spn_le F ?_ hv
    rintro u (⟨i, hi, rfl⟩ | rfl)
    · have hp : Spn D (RowsOf (k + 1) (ins t r fun i => plss D (R i) r (R i at'))) (plss D (R i) r (R i at')) := by
        refine spn_mem F (plss_el F _ _ (h.el i hi)) ?_
        by_cases e : i < t
        · exact ⟨i, by omega, by rw [ins_lt e]⟩
        · exact ⟨i + 1, by omega, by rw [ins_gt (by omega), Nat.add_sub_cancel]⟩
      rw [← plss_add F r (R i at') (h.el i hi)]
      exact spn_add F (spn_scale F _ hr) hp
    · exact hr
/-- One row of a matrix more: what is left of it is nought. -/
theorem red_idle {D : FD} (F : Fld D) {n k i : Nat} {R M : Nat → Nat → Nat} {p : Nat → Nat} (hM : ∀ j, j ≤ i → El D (M j)) (hs : ∀ v, Spn D (RowsOf k R) v ↔ Spn D (RowsOf i M) v) (hl : Lft D n k R p (M i) k pnil) (v : Nat → Nat) : Spn D (RowsOf k R) v ↔ Spn D (RowsOf (i + 1) M) v := by
  have h1 := hl.spn
  rw [psub_nil F (hM i (Nat.le_refl _))] at h1
  rw [spn_congr (wth_rows i M), spn_idle F (fun v ⟨j, hj, e⟩ => by rw [e]; exact hM j (by omega)) ((hs _).1 h1)]
  exact hs v
/-- One row of a matrix more: what is left of it is put in. -/
theorem red_put {D : FD} (F : Fld D) {n k i : Nat} {R M : Nat → Nat → Nat} {p : Nat → Nat} (h : RRE D n k R p) (hM : ∀ j, j ≤ i → El D (M j)) (hs : ∀ v, Spn D (RowsOf k R) v ↔ Spn D (RowsOf i M) v) {r : Nat → Nat} (hl : Lft D n k R p (M i) k r) {inv at' t : Nat} (hi : D.mul (r at') inv = 1) (htk : t ≤ k) (v : Nat → Nat) :
    Spn D (RowsOf (k + 1) (ins t (pscale D inv r) fun i => plss D (R i) (pscale D inv r) (R i at'))) v ↔ Spn D (RowsOf (i + 1) M) v := by
  have hR : ∀ v, RowsOf k R v → El D v := fun v ⟨j, hj, e⟩ => by rw [e]; exact h.el j hj
  rw [rre_ins_spn F h (el_scale F _ _) htk, spn_congr (wth_rows i M), ← spn_both F hR (fun v ⟨j, hj, e⟩ => by rw [e]; exact hM j (by omega)) (hM i (Nat.le_refl _)) hs]
  refine spn_other F hR ?_ ?_ v
  · have e : r = psub D (M i) (psub D (M i) r) := by
      funext j
      show r j = D.sb (M i j) (D.sb (M i j) (r j))
      have a := hM i (Nat.le_refl _) j
      have b := hl.el j
      refine ad_cancel F (a := D.sb (M i j) (r j)) (sb_lt F a b) b (sb_lt F a (sb_lt F a b)) ?_
      rw [ad_sb F a (sb_lt F a b), ad_comm F, ad_sb F a b]
    refine spn_scale F _ ?_
    rw [e]
    exact spn_sub F (spn_mem F (hM i (Nat.le_refl _)) (Or.inr rfl)) (spn_in hl.spn)
  · have e : M i = padd D r (psub D (M i) r) := (psub_add F (hM i (Nat.le_refl _)) hl.el).symm
    have e2 : r = pscale D (r at') (pscale D inv r) := by rw [pscale_pscale F, hi, pscale_one F hl.el]
    rw [e]
    refine spn_add F ?_ (spn_in hl.spn)
    rw [e2]
    exact spn_scale F _ (spn_mem F (el_scale F _ _) (Or.inr (by rw [← e2])))
end Go.Proofs.Ytbpeahhhkcljeaa

/- The reference's matrices: a row less another (less). -/
namespace Go.Proofs.Ytbpeahhhkcljeaa
open Go.RowKit Go.Sort

/-- Numbers that are elements, in a list of the call's own. -/
theorem elm_of_own {base n : Nat} {v : Value} {c : Nat → Nat} {w : World} (h : OwnI base v (zl (n + 1) fun j => ((c j : Nat) : Int)) w) : Elm v (n, c) w ∧ ∀ k, v.ownBlock = some k → base ≤ k := by
  have h2 := h.ownC c (fun k hk => by rw [zl_len] at hk; exact zl_getD _ _ k hk)
  rw [zl_len] at h2
  exact ⟨h2.elm, h2.block⟩

set_option maxHeartbeats 8000000 in
set_option maxRecDepth 100000 in
theorem rless_any {D : FD} (hD : D ∈ fieldsL) (gen gm cm : Nat) {vr vo : Value} {n c : Nat} {r o : Nat → Nat} {w : World} (hn : n ≤ 1000) (hr : El D r) (ho : El D o) (hc : c < D.q) (hvr : Elm vr (n, r) w) (hvo : Elm vo (n, o) w) (hM : ModAt D (.slice (some ⟨gm, 0, none⟩) (D.m + 1) cm) D.md w) :
    Calls Try.prog 95 #[.agg #[.int .i64 D.q, .int .i64 D.p, .int .i64 D.m, .int .i64 gen, .slice (some ⟨gm, 0, none⟩) (D.m + 1) cm], vr, vo, .int .i64 c] w fun e w' => ∃ v, e = .returned v ∧ Elm v (n, plss D r o c) w' ∧ (∀ k, v.ownBlock = some k → w.heap.size ≤ k) ∧ Below w.heap.size w w' := by
  obtain ⟨gr, cr, rfl, _, _, hrr⟩ := hvr
  obtain ⟨go, co, rfl, _, _, hro⟩ := hvo
  have hbl : Below w.heap.size w (w.alloc (.cells #[.int .i64 D.q, .int .i64 D.p, .int .i64 D.m, .int .i64 gen, .slice (some ⟨gm, 0, none⟩) (D.m + 1) cm] 28)) := (Below.refl _ _).alloc (Nat.le_refl _) _
  have HF : Hid (D ∈ fieldsL ∧ El D r ∧ El D o ∧ Row gr (n + 1) r w ∧ Row go (n + 1) o w ∧ ModAt D (.slice (some ⟨gm, 0, none⟩) (D.m + 1) cm) D.md w) := ⟨hD, hr, ho, hrr, hro, hM⟩
  have HB0 : Hid (Box w.heap.size D gen (.slice (some ⟨gm, 0, none⟩) (D.m + 1) cm) (w.alloc (.cells #[.int .i64 D.q, .int .i64 D.p, .int .i64 D.m, .int .i64 gen, .slice (some ⟨gm, 0, none⟩) (D.m + 1) cm] 28)) ∧ Below w.heap.size w (w.alloc (.cells #[.int .i64 D.q, .int .i64 D.p, .int .i64 D.m, .int .i64 gen, .slice (some ⟨gm, 0, none⟩) (D.m + 1) cm] 28))) := ⟨box_new D gen _ w, hbl⟩
  clear hD hr ho hrr hro hM hbl
  go_enter Try.func95, Try.ntmps95
  go_wp2
  go_loopw [9, 10] (fun vl i wr => ∃ j : Nat, j ≤ n + 1 ∧ i = .int .i64 j ∧ Hid (OwnI (w.heap.size + 1) vl (zl j fun k => ((plss D r o c k : Nat) : Int)) wr ∧ Below w.heap.size w wr ∧ Box w.heap.size D gen (.slice (some ⟨gm, 0, none⟩) (D.m + 1) cm) wr) ∧ w.heap.size < wr.heap.size) (fun _ i _ => n + 1 - (intOf i).toNat)
  case atStart => exact ⟨0, by omega, rfl, ⟨OwnI.nil _ _, HB0.out.2, HB0.out.1⟩, by simp⟩
  case round =>
    clear HB0
    obtain ⟨j, hj, rfl, HG, hsz⟩ := hrel
    by_cases hlt : j < n + 1
    · have hib : (j : Int) < (n : Int) + 1 := by omega
      have hib0 : (0 : Int) ≤ (j : Int) := by omega
      obtain ⟨x, hx⟩ : ∃ x, x = r j := ⟨_, rfl⟩
      obtain ⟨y, hy⟩ : ∃ y, y = o j := ⟨_, rfl⟩
      obtain ⟨u, hu⟩ : ∃ u, u = plss D r o c j := ⟨_, rfl⟩
      have hc1 : wr.cell? ⟨gr, j, none⟩ = some (.int .i64 (x : Nat)) := by rw [hx]; exact (HF.out.2.2.2.1.below HG.out.2.1 HF.out.2.2.2.1.lt).cell j hlt
      have hc2 : wr.cell? ⟨go, j, none⟩ = some (.int .i64 (y : Nat)) := by rw [hy]; exact (HF.out.2.2.2.2.1.below HG.out.2.1 HF.out.2.2.2.2.1.lt).cell j hlt
      have HX : Hid (x = r j ∧ y = o j ∧ u = plss D r o c j) := ⟨hx, hy, hu⟩
      clear hx hy hu
      obtain ⟨bz, hbz⟩ : ∃ bz, bz = decide (¬ (c = 0 ∨ y = 0)) := ⟨_, rfl⟩
      have HBZ : Hid (bz = decide (¬ (c = 0 ∨ y = 0))) := hbz
      clear hbz
      go_upto_region 6 with fail
      go_cut [30] (fun vb wx => vb = .bool bz ∧ wx = wr)
      case first =>
        by_cases hz2 : c = 0
        · have hb1 : ((c : Int) != 0) = false := by rw [hz2]; rfl
          have hbz : bz = false := by rw [HBZ.out, decide_eq_false]; intro h; exact h (Or.inl hz2)
          clear hz2
          go_wp2
          go_meet
          case rel => exact ⟨by rw [hbz], rfl⟩
        · have hb1 : ((c : Int) != 0) = true := by rw [bne_iff_ne]; omega
          by_cases hz : y = 0
          · have hb2 : ((y : Int) != 0) = false := by rw [hz]; rfl
            have hbz : bz = false := by rw [HBZ.out, decide_eq_false]; intro h; exact h (Or.inr hz)
            clear hz2 hz
            go_wp2
            go_meet
            case rel => exact ⟨by rw [hbz], rfl⟩
          · have hb2 : ((y : Int) != 0) = true := by rw [bne_iff_ne]; omega
            have hbz : bz = true := by rw [HBZ.out, decide_eq_true]; omega
            clear hz2 hz
            go_wp2
            go_meet
            case rel => exact ⟨by rw [hbz], rfl⟩
      case rest =>
      obtain ⟨hv30, hwx⟩ := hcut
      have hwx := hwx.symm
      subst hv30 hwx
      go_upto_if 30 with fail
      go_cut [11] (fun vx wx => vx = .int .i64 (u : Nat) ∧ Hid (Below wr.heap.size wr wx))
      case first =>
        cases bz with
        | false =>
          have HU : Hid ((x : Int) = (u : Int)) := by
            show _ = _
            have hz : c = 0 ∨ y = 0 := by
              have h := HBZ.out
              exact Classical.byContradiction fun hn => by rw [decide_eq_true hn] at h; cases h
            have h := plss_zero (fld HF.out.1) o HF.out.2.1 (c := c) (k := j) (by rcases hz with h | h; exact Or.inl h; exact Or.inr (by rw [← HX.out.2.1]; exact h))
            rw [← HX.out.2.2, ← HX.out.1] at h
            omega
          go_wp2
          go_meet
          case rel => exact ⟨by rw [HU.out], Below.refl _ _⟩
        | true =>
          obtain ⟨m, hm⟩ : ∃ m, m = D.mul c y := ⟨_, rfl⟩
          have hxq : x < D.q := by rw [HX.out.1]; exact HF.out.2.1 j
          have hyq : y < D.q := by rw [HX.out.2.1]; exact HF.out.2.2.1 j
          have hmq : m < D.q := by rw [hm]; exact (fld HF.out.1).mul_lt _ _
          have k0 := cell_regrown HG.out.2.2.c0
          have k1 := cell_regrown HG.out.2.2.c1
          have k2 := cell_regrown HG.out.2.2.c2
          have k3 := cell_regrown HG.out.2.2.c3
          have k4 := cell_regrown HG.out.2.2.c4
          have k5 := cell_regrown hc2
          have HC1 : Hid (∀ d os, Calls Try.prog 50 #[.agg #[.int .i64 D.q, .int .i64 D.p, .int .i64 D.m, .int .i64 gen, .slice (some ⟨gm, 0, none⟩) (D.m + 1) cm], .int .i64 (c : Nat), .int .i64 (y : Nat)] (grow (redrawn wr d) os) fun e w'' => e = .returned (.int .i64 (m : Nat)) ∧ ∃ p : Regrown, w'' = grow (redrawn wr p.d) p.os) := fun d os => by
            rw [hm]
            exact Calls.regrown_of (rmul_nat HF.out.1 gen HF.out.2.2.2.2.2 c y hc hyq _ (bel_up' HG.out.2.1 (below_regrown wr d os)))
          have HC2 : Hid (∀ d os, Calls Try.prog 102 #[.agg #[.int .i64 D.q, .int .i64 D.p, .int .i64 D.m, .int .i64 gen, .slice (some ⟨gm, 0, none⟩) (D.m + 1) cm], .int .i64 (x : Nat), .int .i64 (m : Nat)] (grow (redrawn wr d) os) fun e w'' => e = .returned (.int .i64 (u : Nat)) ∧ ∃ p : Regrown, w'' = grow (redrawn wr p.d) p.os) := fun d os => by
            have h := rsub_any HF.out.1 gen (.slice (some ⟨gm, 0, none⟩) (D.m + 1) cm) (x : Nat) (m : Nat) (grow (redrawn wr d) os)
            rw [subZ_nat (fld HF.out.1) hxq hmq, show D.sb x m = u from by rw [HX.out.2.2, HX.out.1, hm, HX.out.2.1]; rfl] at h
            exact Calls.regrown_of h
          clear hm hc1 hc2
          go_wp2
          refine wp_region_quiet_below (by kernel_rfl) (by kernel_rfl) ?_
          repeat (go_big_quiet_step (first | (go_at_call 50; exact HC1.out _ _) | (go_at_call 102; exact HC2.out _ _)))
          refine wpQuiet_nil ?_
          intro _ hw'
          obtain ⟨⟨dq, osq⟩, hw''⟩ := hw'
          subst hw''
          have HBQ : Hid (Below wr.heap.size wr (grow (redrawn wr dq) osq)) := below_regrown wr dq osq
          clear k0 k1 k2 k3 k4 k5 HC1 HC2
          go_wp2
          go_meet
          case rel => exact ⟨rfl, HBQ.out⟩
      case rest =>
        obtain ⟨hv11, HBX⟩ := hcut
        subst hv11
        clear hc1 hc2
        have hsx := HBX.out.size
        have HGX : Hid (OwnI (w.heap.size + 1) u9 (zl j fun k => ((plss D r o c k : Nat) : Int)) wc ∧ Below w.heap.size w wc ∧ Box w.heap.size D gen (.slice (some ⟨gm, 0, none⟩) (D.m + 1) cm) wc) := ⟨HG.out.1.below HBX.out (fun k hk => (HG.out.1.lt k hk).2), bel_up' HG.out.2.1 HBX.out, HG.out.2.2.below HBX.out hsz⟩
        go_wp2_with (at_builtin; refine append_int rfl _ _ rfl (w.heap.size + 1) _ (zl j fun k => ((plss D r o c k : Nat) : Int)) rfl (HGX.out.1.alloc _) ⟨_, 0, none⟩ 1 u rfl (by simp) (by rw [zl_len]; omega) (by simp; omega) ?_; intro v2 w4 hown4 hg4)
        have hal : Below wc.heap.size wc (wc.alloc (.cells #[.int .i64 (u : Int)] 3)) := (Below.refl _ _).alloc (Nat.le_refl _) _
        have hs4 := hg4.size
        have HR : Hid (OwnI (w.heap.size + 1) v2 (zl (j + 1) fun k => ((plss D r o c k : Nat) : Int)) w4 ∧ Below w.heap.size w w4 ∧ Box w.heap.size D gen (.slice (some ⟨gm, 0, none⟩) (D.m + 1) cm) w4) := by
          refine ⟨by rw [zl_succ, ← HX.out.2.2]; exact hown4, (bel_up' HGX.out.2.1 hal).grown hg4 (by simp; omega) (fun k hk => by have := (HGX.out.1.lt k hk).1; omega), ?_⟩
          refine (HGX.out.2.2.below hal (by omega)).other (hg4.block w.heap.size (by simp; omega) fun e => ?_)
          have := (HGX.out.1.lt _ e.symm).1
          omega
        simp at hs4
        clear hown4 hg4 hal
        go_roundw
        case rel => exact ⟨j + 1, by omega, by go_num, HR.out, by omega⟩
        case measure => simp [intOf]; omega
    · have hib : ¬ (j : Int) < (n : Int) + 1 := by omega
      have hje : j = n + 1 := by omega
      subst hje
      go_wp2
      go_ret
      have h := elm_of_own HG.out.1
      exact ⟨_, rfl, h.1, fun k hk => by have := h.2 k hk; omega, HG.out.2.1⟩
end Go.Proofs.Ytbpeahhhkcljeaa
