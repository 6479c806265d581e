/- Texts of ours, one behind the other: S5 O2 O3. -/
import Derived.Test.YthmjdcajaoilgakZX11
import Derived.Test.YthmjdcajaoilgakZS4
import Derived.Test.YthmjdcajaoilgakZL10
import Derived.Test.YthmjdcajaoilgakZT2
/- Plain mathematics: linear equations (Solve): the rows with what they are to be behind them. -/
namespace Go.Proofs.Ythmjdcajaoilgak

/-- The rows M of n numbers, each with one number more. -/
def aug (n : Nat) (M : Nat → Nat → Nat) (b : Nat → Nat) : Nat → Nat → Nat := fun i j => if j = n then b i else M i j
theorem aug_el {D : FD} {n : Nat} {M : Nat → Nat → Nat} {b : Nat → Nat} {i : Nat} (h : El D (M i)) (hb : b i < D.q) : El D (aug n M b i) := fun j => by
  unfold aug
  by_cases e : j = n
  · rw [if_pos e]; exact hb
  · rw [if_neg e]; exact h j
theorem aug_bd {n : Nat} {M : Nat → Nat → Nat} {b : Nat → Nat} {i : Nat} (h : Bd n (M i)) : Bd (n + 1) (aug n M b i) := fun j hj => by
  unfold aug
  rw [if_neg (by omega)]; exact h j (by omega)
/-- The solution that a reduced form tells, by its first r rows. -/
def slx (R : Nat → Nat → Nat) (p : Nat → Nat) (n : Nat) : Nat → Nat → Nat
  | 0, _ => 0
  | r + 1, j => if j = p r then R r n else slx R p n r j
theorem slx_congr {R R' : Nat → Nat → Nat} {p p' : Nat → Nat} (n : Nat) : ∀ r, (∀ i, i < r → p i = p' i ∧ R i = R' i) → slx R p n r = slx R' p' n r
  | 0, _ => rfl
  | r + 1, h => by
    funext j
    show (if j = p r then R r n else slx R p n r j) = if j = p' r then R' r n else slx R' p' n r j
    rw [(h r (by omega)).1, (h r (by omega)).2, slx_congr n r (fun i hi => h i (by omega))]
/-- Rows reduced but for the last column, and the one form of all: where there is a solution. -/
theorem solve_yes {D : FD} (F : Fld D) {m n k kr : Nat} {R Rr : Nat → Nat → Nat} {p pr : Nat → Nat} (h : Rdg D m (n + 1) n k R p) (h0 : ∀ i, k ≤ i → i < m → R i n = 0) (hr : RRE D (n + 1) kr Rr pr) (hs : ∀ v, Spn D (RowsOf m R) v ↔ Spn D (RowsOf kr Rr) v) : kr = k ∧ (∀ i, i < k → p i = pr i ∧ R i = Rr i) ∧ ∀ i, i < kr → pr i ≠ n := by
  have h1 : Rdg D m (n + 1) (n + 1) k R p := rdg_skip h h0
  obtain ⟨h2, _, h3⟩ := rdg_end F h1
  obtain ⟨hk, he⟩ := rre_uniq F h2 hr (fun v => (h3 v).trans (hs v))
  refine ⟨hk.symm, he, fun i hi => ?_⟩
  have a := (he i (by omega)).1
  have b := h.lt i (by omega)
  omega
theorem solve_no {D : FD} (F : Fld D) {m n k kr : Nat} {R Rr : Nat → Nat → Nat} {p pr : Nat → Nat} (h : Rdg D m (n + 1) n k R p) (h0 : ∃ i, k ≤ i ∧ i < m ∧ R i n ≠ 0) (hr : RRE D (n + 1) kr Rr pr) (hs : ∀ v, Spn D (RowsOf m R) v ↔ Spn D (RowsOf kr Rr) v) : ∃ i, i < kr ∧ pr i = n := by
  obtain ⟨i, h1, h2, h3⟩ := h0
  obtain ⟨j, hj, e⟩ := (rre_lead F hr n).1 ⟨R i, (hs _).1 (spn_mem F (h.el i h2) ⟨i, h2, rfl⟩), h3, fun c hc => h.rest i c h1 h2 hc⟩
  exact ⟨j, hj, e.symm⟩

/-- The first n numbers. -/
def cutN (n : Nat) (v : Nat → Nat) : Nat → Nat := fun j => if j < n then v j else 0
theorem cutN_add {D : FD} (F : Fld D) (n : Nat) (u v : Nat → Nat) : cutN n (padd D u v) = padd D (cutN n u) (cutN n v) := by
  funext j
  show (if j < n then D.ad (u j) (v j) else 0) = D.ad (if j < n then u j else 0) (if j < n then v j else 0)
  by_cases e : j < n
  · rw [if_pos e, if_pos e, if_pos e]
  · rw [if_neg e, if_neg e, if_neg e, ad_zero F (zero_lt' F)]
theorem cutN_scale {D : FD} (F : Fld D) (n s : Nat) (v : Nat → Nat) : cutN n (pscale D s v) = pscale D s (cutN n v) := by
  funext j
  show (if j < n then D.mul s (v j) else 0) = D.mul s (if j < n then v j else 0)
  by_cases e : j < n
  · rw [if_pos e, if_pos e]
  · rw [if_neg e, if_neg e, mul0 F]
theorem cutN_nil (n : Nat) : cutN n pnil = pnil := by
  funext j
  show (if j < n then 0 else 0) = 0
  by_cases e : j < n
  · rw [if_pos e]
  · rw [if_neg e]
theorem cutN_el {D : FD} (F : Fld D) (n : Nat) {v : Nat → Nat} (h : El D v) : El D (cutN n v) := fun j => by
  unfold cutN
  by_cases e : j < n
  · rw [if_pos e]; exact h j
  · rw [if_neg e]; exact zero_lt' F
theorem spn_cut {D : FD} (F : Fld D) {m n : Nat} {R : Nat → Nat → Nat} (he : ∀ i, i < m → El D (R i)) {v : Nat → Nat} (h : Spn D (RowsOf m R) v) : Spn D (RowsOf m fun i => cutN n (R i)) (cutN n v) := by
  refine spn_ind (Q := fun v => Spn D (RowsOf m fun i => cutN n (R i)) (cutN n v)) ?_ (fun u v hu hv => ?_) (fun s v hv => ?_) (fun v hv => ?_) h
  · rw [cutN_nil]; exact spn_nil D _
  · rw [cutN_add F]; exact spn_add F hu hv
  · rw [cutN_scale F]; exact spn_scale F _ hv
  · obtain ⟨i, hi, rfl⟩ := hv
    exact spn_mem F (cutN_el F n (he i hi)) ⟨i, hi, rfl⟩
/-- Rows that span the same, cut, span the same. -/
theorem spn_cut_le {D : FD} (F : Fld D) {m m' n : Nat} {R R' : Nat → Nat → Nat} (he : ∀ i, i < m → El D (R i)) (he' : ∀ i, i < m' → El D (R' i)) (h : ∀ v, Spn D (RowsOf m R) v → Spn D (RowsOf m' R') v) {v : Nat → Nat} (hv : Spn D (RowsOf m fun i => cutN n (R i)) v) : Spn D (RowsOf m' fun i => cutN n (R' i)) v := by
  refine spn_le F (fun u hu => ?_) hv
  obtain ⟨i, hi, rfl⟩ := hu
  exact spn_cut F he' (h _ (spn_mem F (he i hi) ⟨i, hi, rfl⟩))
/-- Rows reduced in their first n columns, cut behind these, are the one form. -/
theorem rdg_cut {D : FD} (F : Fld D) {m n n' k : Nat} {R : Nat → Nat → Nat} {p : Nat → Nat} (h : Rdg D m n' n k R p) : Rdg D m n n k (fun i => cutN n (R i)) p := by
  have at' : ∀ i c, c < n → cutN n (R i) c = R i c := fun i c hc => by unfold cutN; rw [if_pos hc]
  refine ⟨fun i hi => cutN_el F n (h.el i hi), fun i hi c hc => by unfold cutN; rw [if_neg (by omega)], h.le, h.lt, h.mono, fun i hi => ?_, fun i j hi hj hij => ?_, fun i c hi hc => ?_, fun i c hk hi hc => ?_⟩
  · show cutN n (R i) (p i) = 1
    rw [at' i _ (h.lt i hi)]; exact h.one i hi
  · show cutN n (R i) (p j) = 0
    rw [at' i _ (h.lt j hj)]; exact h.zero i j hi hj hij
  · show cutN n (R i) c = 0
    have := h.lt i hi
    rw [at' i _ (by omega)]; exact h.lead i c hi hc
  · show cutN n (R i) c = 0
    rw [at' i _ hc]; exact h.rest i c hk hi hc
/-- The rows with a row of the unit behind each. -/
def augI (n : Nat) (M : Nat → Nat → Nat) : Nat → Nat → Nat := fun i j => if j < n then M i j else if j = n + i then 1 else 0
theorem augI_el {D : FD} (F : Fld D) {n : Nat} {M : Nat → Nat → Nat} {i : Nat} (h : El D (M i)) : El D (augI n M i) := fun j => by
  unfold augI
  by_cases e : j < n
  · rw [if_pos e]; exact h j
  · rw [if_neg e]
    by_cases e2 : j = n + i
    · rw [if_pos e2]; exact one_lt' F
    · rw [if_neg e2]; exact zero_lt' F
theorem augI_bd {n m : Nat} {M : Nat → Nat → Nat} {i : Nat} (hi : i < m) : Bd (n + m) (augI n M i) := fun j hj => by
  unfold augI
  rw [if_neg (by omega), if_neg (by omega)]
theorem augI_cut {n : Nat} {M : Nat → Nat → Nat} {i : Nat} (h : Bd n (M i)) : cutN n (augI n M i) = M i := by
  funext j
  unfold cutN augI
  by_cases e : j < n
  · rw [if_pos e, if_pos e]
  · rw [if_neg e, h j (by omega)]
/-- How many begin in the first n columns: as many as of the rows themselves. -/
theorem inv_rank {D : FD} (F : Fld D) {m n n' k kr : Nat} {R M Rr : Nat → Nat → Nat} {p pr : Nat → Nat} (hM : ∀ i, i < m → El D (M i) ∧ Bd n (M i)) (h : Rdg D m n' n k R p) (hs : ∀ v, Spn D (RowsOf m R) v ↔ Spn D (RowsOf m (augI n M)) v) (hr : RRE D n kr Rr pr) (hsr : ∀ v, Spn D (RowsOf kr Rr) v ↔ Spn D (RowsOf m M) v) : k = kr := by
  obtain ⟨h1, _, h2⟩ := rdg_end F (rdg_cut F h)
  have hel := fun i (hi : i < m) => augI_el F (n := n) (hM i hi).1
  have e : ∀ v, Spn D (RowsOf m fun i => cutN n (augI n M i)) v ↔ Spn D (RowsOf m M) v := fun v => by
    constructor
    · refine fun hv => spn_le F (fun u hu => ?_) hv
      obtain ⟨i, hi, rfl⟩ := hu
      have e2 := augI_cut (hM i hi).2
      show Spn D (RowsOf m M) (cutN n (augI n M i))
      rw [e2]; exact spn_mem F (hM i hi).1 ⟨i, hi, rfl⟩
    · refine fun hv => spn_le F (fun u hu => ?_) hv
      obtain ⟨i, hi, rfl⟩ := hu
      exact spn_mem F (hM i hi).1 ⟨i, hi, (augI_cut (hM i hi).2).symm⟩
  refine (rre_uniq F h1 hr (fun v => (h2 v).trans (Iff.trans ?_ ((e v).trans (hsr v).symm)))).1
  exact ⟨fun hv => spn_cut_le F h.el hel (fun u hu => (hs u).1 hu) hv, fun hv => spn_cut_le F hel h.el (fun u hu => (hs u).2 hu) hv⟩
/-- As many columns as rows begin: then row i begins in column i. -/
theorem mono_id {n : Nat} {p : Nat → Nat} (hm : ∀ i j, i < j → j < n → p i < p j) (hl : ∀ i, i < n → p i < n) : ∀ i, i < n → p i = i := by
  have lo : ∀ i, i < n → i ≤ p i := fun i => by
    induction i with
    | zero => intro _; omega
    | succ i ih =>
      intro hi
      have := hm i (i + 1) (by omega) hi
      have := ih (by omega)
      omega
  have hi : ∀ d i, i + d + 1 = n → p i + d < n := fun d => by
    induction d with
    | zero => intro i hi; exact hl i (by omega)
    | succ d ih =>
      intro i hi
      have := ih (i + 1) (by omega)
      have := hm i (i + 1) (by omega) (by omega)
      omega
  intro i hin
  have a := lo i hin
  have b := hi (n - i - 1) i (by omega)
  omega
/-- The right half is the inverse. -/
theorem minv_is {D : FD} (F : Fld D) {n : Nat} {R M : Nat → Nat → Nat} {p : Nat → Nat} (h : Rdg D n (n + n) n n R p) (hs : ∀ v, Spn D (RowsOf n R) v ↔ Spn D (RowsOf n (augI n M)) v) (hM : ∀ i, i < n → El D (M i)) (i c : Nat) (hi : i < n) : prodR D (M i) (fun i c => R i (n + c)) n c = if c = i then 1 else 0 := by
  have hid := mono_id h.mono h.lt
  have hre : RRE D (n + n) n R p := ⟨h.el, h.bd, fun i hi => by have := h.lt i hi; omega, h.mono, h.one, h.zero, h.lead⟩
  have hv : Spn D (RowsOf n R) (augI n M i) := (hs _).2 (spn_mem F (augI_el F (hM i hi)) ⟨i, hi, rfl⟩)
  have h1 := congrFun (rre_coord F hre hv) (n + c)
  have key : ∀ k, k ≤ n → lcR D R p (augI n M i) k (n + c) = prodR D (M i) (fun i c => R i (n + c)) k c := fun k => by
    induction k with
    | zero => intro _; rfl
    | succ k ih =>
      intro hk
      show D.ad (lcR D R p (augI n M i) k (n + c)) (D.mul (augI n M i (p k)) (R k (n + c))) = D.ad (prodR D (M i) (fun i c => R i (n + c)) k c) (D.mul (M i k) (R k (n + c)))
      rw [ih (by omega), hid k (by omega)]
      have e : augI n M i k = M i k := by unfold augI; rw [if_pos (by omega)]
      rw [e]
  rw [key n (Nat.le_refl _)] at h1
  rw [← h1]
  unfold augI
  rw [if_neg (by omega)]
  by_cases e : c = i
  · rw [if_pos e, if_pos (by omega)]
  · rw [if_neg e, if_neg (by omega)]
end Go.Proofs.Ythmjdcajaoilgak

/- A list of lists of numbers that a statement is given, opened. -/
namespace Go.Proofs.Ythmjdcajaoilgak
open Go.ChangeShapes Go.WideShapes Go.ChangeAt Go.RowKit

theorem Try.cellsSl : Try.prog.cellsOf 22 = 1 := by kernel_rfl
theorem Try.bytesSl : Try.prog.bytesOf 22 = 24 := by kernel_rfl

/-- A matrix that is handed in: m lists of whatever length. -/
structure MatO (ao : Option Addr) (m : Nat) (A : Nat → Option Addr) (N C : Nat → Nat) (Z : Nat → Nat → Int) (w : World) : Prop where
  cell : ∀ i, i < m → ∃ b off, ao = some ⟨b, off, none⟩ ∧ w.cell? ⟨b, off + i, none⟩ = some (.slice (A i) (N i) (C i))
  sl : ∀ i, i < m → SlZ (A i) (N i) (Z i) w
  le : ∀ i, i < m → N i ≤ C i
  cap : ∀ i, i < m → C i ≤ 9223372036854775807
  nil : ∀ i, i < m → A i = none → C i = 0
theorem MatO.matZ {ao : Option Addr} {m : Nat} {A : Nat → Option Addr} {N C : Nat → Nat} {Z : Nat → Nat → Int} {w : World} (h : MatO ao m A N C Z w) (hf : ∀ i, i < m → N i ≤ 1000000) : MatZ ao m A N C Z w := ⟨h.cell, h.sl, h.le, h.cap, h.nil, hf⟩

theorem spot_none {w : World} {a : Addr} {v : Value} (h : w.cell? a = some v) : a.spot = none := by
  obtain ⟨b, off, spot⟩ := a
  cases spot with
  | none => rfl
  | some s =>
    exfalso
    simp only [World.cell?] at h
    split at h <;> simp at h

/-- How long a list of lists may be, and its lists. -/
def RowsD {H : Type} (m ca : Nat) (C : Nat → Nat) (d : DataW H) : Prop := (d = .nil ∧ m = 0 ∧ ca = 0) ∨ ∃ es sp, d = .slice es sp ∧ es.length = m ∧ es.length + sp.length = ca ∧ ∀ i, i < m → ∃ di, es[i]? = some di ∧ ((di = .nil ∧ C i = 0) ∨ ∃ e2 s2, di = .slice e2 s2 ∧ e2.length + s2.length = C i)

set_option maxRecDepth 100000 in
theorem open_rows {H : Type} {enc : TypeId × Value → H} {W : World} {base : Nat} {v : Value} {d : DataW H} {p : List MemPlace} (hok : Value.okWide Try.prog W .any base 43 v)
    (h : DataW.Trod enc Try.prog W 0 (fun _ => true) true 43 v d p) :
    ∃ ao m ca A N C Z, v = .slice ao m ca ∧ MatO ao m A N C Z W ∧ m ≤ ca ∧ RowsD m ca C d := by
  obtain ⟨a0, len, cap, rfl⟩ := okWide_slice Try.underlying43 hok
  obtain ⟨fuel, hf⟩ := h
  rcases DataW.trod_slice Try.underlying43 hf with ⟨hcs, hx⟩ | ⟨a, len', cap', elems, rest, n, _, hcs, hx, hb, hl, hm, hlen, hel, hsp, hns⟩
  · simp [Value.cells] at hcs
    obtain ⟨rfl, rfl, rfl⟩ := hcs
    simp only [Prod.mk.injEq] at hx
    exact ⟨none, 0, 0, fun _ => none, fun _ => 0, fun _ => 0, fun _ _ => 0, rfl, ⟨fun i hi => by omega, fun i hi => by omega, fun i hi => by omega, fun i hi => by omega, fun i hi => by omega⟩, Nat.le_refl _, Or.inl ⟨hx.1, rfl, rfl⟩⟩
  · simp [Value.cells] at hcs
    obtain ⟨rfl, rfl, rfl⟩ := hcs
    simp only [Prod.mk.injEq] at hx
    have key : ∀ i, ∃ x : Option Addr × Nat × Nat × (Nat → Int), i < len → (∃ b off, some a = some ⟨b, off, none⟩ ∧ W.cell? ⟨b, off + i, none⟩ = some (.slice x.1 x.2.1 x.2.2.1)) ∧ SlZ x.1 x.2.1 x.2.2.2 W ∧ x.2.1 ≤ x.2.2.1 ∧ x.2.2.1 ≤ 9223372036854775807 ∧ (x.1 = none → x.2.2.1 = 0) ∧
        ∃ di, (elems.map (·.1))[i]? = some di ∧ ((di = .nil ∧ x.2.2.1 = 0) ∨ ∃ e2 s2, di = .slice e2 s2 ∧ e2.length + s2.length = x.2.2.1) := fun i => by
      by_cases hi : i < len
      · have hE := hel i hi
        rw [Try.cellsSl, Nat.mul_one] at hE
        have hy : ∃ y, elems[i]? = some y := ⟨elems[i]'(by omega), List.getElem?_eq_getElem _⟩
        obtain ⟨y, hy⟩ := hy
        rw [hy, Option.bind_eq_some_iff] at hE
        obtain ⟨cs', hcs', hyt⟩ := hE
        have haddr : ∀ u, cs' = [u] → ∃ b off, some a = some (⟨b, off, none⟩ : Addr) ∧ W.cell? ⟨b, off + i, none⟩ = some u := fun u hu => by
          rw [hu] at hcs'
          have hc := cell_of_cells?_one hcs'
          obtain ⟨b, off, spot⟩ := a
          by_cases h0 : i = 0
          · subst h0
            have e : (⟨b, off, spot⟩ : Addr).add 0 = ⟨b, off, spot⟩ := rfl
            rw [e] at hc
            have hs : spot = none := spot_none hc
            subst hs
            exact ⟨b, off, rfl, hc⟩
          · have hsp0 : spot = none := by
              have h00 := hel 0 (by omega)
              rw [Try.cellsSl, Nat.mul_one] at h00
              have hy0 : ∃ y, elems[0]? = some y := ⟨elems[0]'(by omega), List.getElem?_eq_getElem _⟩
              obtain ⟨y0, hy0⟩ := hy0
              rw [hy0, Option.bind_eq_some_iff] at h00
              obtain ⟨c0, hc0, _⟩ := h00
              obtain ⟨_, hl0, hr0⟩ := World.cells?_some hc0
              have h1 := hr0 0 (by omega)
              have hne : ∃ v, W.cell? ⟨b, off, spot⟩ = some v := by
                rw [List.getElem?_eq_getElem (by omega)] at h1
                exact ⟨_, h1⟩
              obtain ⟨v, hv⟩ := hne
              exact spot_none hv
            subst hsp0
            rw [add_off] at hc
            exact ⟨b, off, rfl, hc⟩
        rcases open_ints Try.underlying22 Try.underlying3 Try.cellsInt hyt with ⟨hc1, hy1⟩ | ⟨a', l', c', zs, hc1, _, hl1, hm1, hz1, hy1, hcell1, _⟩
        · refine ⟨(none, 0, 0, fun _ => 0), fun _ => ⟨haddr _ hc1, (fun j hj => absurd hj (Nat.not_lt_zero _)), Nat.le_refl _, Nat.zero_le _, (fun _ => rfl), .nil, ?_, Or.inl ⟨rfl, rfl⟩⟩⟩
          rw [List.getElem?_map, hy, hy1]; rfl
        · simp only [if_true] at hz1
          refine ⟨(some a', l', c', fun j => zs.getD j 0), fun _ => ⟨haddr _ hc1, fun j hj => ?_, hl1, hm1, (fun e => by cases e), .slice (lits .i64 (zs.take l')) (lits .i64 (zs.drop l')), (by rw [List.getElem?_map, hy, hy1]; rfl), Or.inr ⟨_, _, rfl, ?_⟩⟩⟩
          · obtain ⟨b, off, spot⟩ := a'
            have h0 := hcell1 0 (by have : j < l' := hj; omega)
            have e : (⟨b, off, spot⟩ : Addr).add 0 = ⟨b, off, spot⟩ := rfl
            rw [e] at h0
            have hs : spot = none := spot_none h0
            subst hs
            have h1 := hcell1 j (by have : j < l' := hj; omega)
            rw [add_off] at h1
            exact ⟨b, off, rfl, h1⟩
          · simp [lits]
            omega
      · exact ⟨(none, 0, 0, fun _ => 0), fun h => absurd h hi⟩
    obtain ⟨f, hf'⟩ := Classical.axiomOfChoice key
    refine ⟨some a, len, cap, fun i => (f i).1, fun i => (f i).2.1, fun i => (f i).2.2.1, fun i => (f i).2.2.2, rfl, ⟨fun i hi => (hf' i hi).1, fun i hi => (hf' i hi).2.1, fun i hi => (hf' i hi).2.2.1, fun i hi => (hf' i hi).2.2.2.1, fun i hi => (hf' i hi).2.2.2.2.1⟩, hl, Or.inr ⟨_, _, hx.1, by rw [List.length_map, hlen], ?_, fun i hi => (hf' i hi).2.2.2.2.2⟩⟩
    rw [List.length_map, List.length_map, hlen, (hsp rfl).1]
    omega
/-- No list of lists that is handed in takes more than the form's own reach, nor do its lists. -/
theorem sized_rows {H : Type} {ts : List TypeId} {ds : List (DataW H)} {d : DataW H} {m ca j : Nat} {C : Nat → Nat} (h : (DataW.weightsEach Try.prog ts ds).all (· ≤ reachBytes) = true) (ht : ts[j]? = some 43) (hd : ds[j]? = some d)
    (hc : RowsD m ca C d) : ca ≤ 17592186044416 ∧ ∀ i, i < m → C i ≤ 17592186044416 := by
  rcases hc with ⟨_, rfl, rfl⟩ | ⟨es, sp, rfl, hm, hca, hrow⟩
  · exact ⟨by omega, fun i hi => by omega⟩
  · have h1 := sized_slice h ht hd Try.underlying43
    rw [Try.bytesSl] at h1
    unfold reachBytes at h1
    refine ⟨by omega, fun i hi => ?_⟩
    obtain ⟨di, hdi, hdi2⟩ := hrow i hi
    rcases hdi2 with ⟨_, h0⟩ | ⟨e2, s2, rfl, h2⟩
    · omega
    · have hall : ∀ (l : List (DataW H)) (k : Nat), l[k]? = some (.slice e2 s2) → (e2.length + s2.length) * Try.prog.bytesOf 3 ∈ DataW.weightsAll Try.prog 22 l := fun l => by
        induction l with
        | nil => intro k hk; simp at hk
        | cons x xs ih =>
          intro k hk
          unfold DataW.weightsAll
          rw [List.mem_append]
          cases k with
          | zero =>
            simp at hk
            subst hk
            left
            simp [DataW.weights, Try.underlying22]
          | succ k => exact Or.inr (ih k (by simpa using hk))
      have hmem := DataW.weights_mem_each (P := Try.prog) ht hd ((e2.length + s2.length) * Try.prog.bytesOf 3) (by
        simp only [DataW.weights, Try.underlying43]
        exact List.mem_cons_of_mem _ (List.mem_append.2 (Or.inl (hall es i hdi))))
      have := List.all_eq_true.1 h _ hmem
      rw [Try.bytesInt] at this
      unfold reachBytes at this
      simp at this
      omega
end Go.Proofs.Ythmjdcajaoilgak

/- How heavy a list of lists is that a statement is given. -/
namespace Go.Proofs.Ythmjdcajaoilgak
open Go.RowKit Go.Sort

/-- The lists' number, and the lengths of the first i, added up to where it is above 6,000. -/
def hvs (N : Nat → Nat) (m : Nat) : Nat → Nat
  | 0 => m
  | i + 1 => if hvs N m i ≤ 6000 then hvs N m i + N i else hvs N m i
theorem hvs_stay {N : Nat → Nat} {m i : Nat} (h : ¬ hvs N m i ≤ 6000) : ∀ d, hvs N m (i + d) = hvs N m i
  | 0 => rfl
  | d + 1 => by
    show (if hvs N m (i + d) ≤ 6000 then hvs N m (i + d) + N (i + d) else hvs N m (i + d)) = _
    rw [hvs_stay h d, if_neg h]
theorem hvs_few {N : Nat → Nat} {m : Nat} : ∀ i, hvs N m i ≤ 6000 → m ≤ 6000 ∧ ∀ j, j < i → N j ≤ 6000
  | 0, h => ⟨h, fun j hj => by omega⟩
  | i + 1, h => by
    by_cases e : hvs N m i ≤ 6000
    · have h' : (if hvs N m i ≤ 6000 then hvs N m i + N i else hvs N m i) ≤ 6000 := h
      rw [if_pos e] at h'
      have ih := hvs_few i e
      refine ⟨ih.1, fun j hj => ?_⟩
      by_cases e2 : j = i
      · rw [e2]; omega
      · exact ih.2 j (by omega)
    · have h' : (if hvs N m i ≤ 6000 then hvs N m i + N i else hvs N m i) ≤ 6000 := h
      rw [if_neg e] at h'
      exact absurd h' e

end Go.Proofs.Ythmjdcajaoilgak
