/- Texts of ours, one behind the other: S14 S15 S16 K7 W12 K9. -/
import Derived.Test.YtppggchhkckobaaGreatZS12
import Derived.Test.YtppggchhkckobaaGreatZX18
import Derived.Test.YtppggchhkckobaaGreatZI5
import Derived.Test.YtppggchhkckobaaGreatZI18
import Derived.Test.YtppggchhkckobaaGreatZS11
/- Plain mathematics: the dual of the dual. No Go text here. -/
namespace Go.Proofs.YtppggchhkckobaaGreat

/-- Of two increasing sequences of one length, the one within the other, none is left out. -/
theorem mono_within {p q : Nat → Nat} : ∀ k, (∀ i j, i < j → j < k → p i < p j) → (∀ i j, i < j → j < k → q i < q j) → (∀ i, i < k → ∃ j, j < k ∧ p i = q j) → ∀ i, i < k → p i = q i := by
  intro k hp hq hs
  have up : ∀ i, i < k → ∀ j, j < k → p i = q j → i ≤ j := fun i => by
    induction i with
    | zero => intro _ j _ _; exact Nat.zero_le _
    | succ i ih =>
      intro hi j hj e
      obtain ⟨l, hl, el⟩ := hs i (by omega)
      have h1 := ih (by omega) l hl el
      have h2 := hp i (i + 1) (by omega) hi
      have h3 : l < j := by
        rcases Nat.lt_or_ge l j with h | h
        · exact h
        · rcases Nat.lt_or_eq_of_le h with h | h
          · have := hq j l h hl; omega
          · subst h; omega
      omega
  have down : ∀ d i, i + d + 1 = k → ∀ j, j < k → p i = q j → j ≤ i := fun d => by
    induction d with
    | zero => intro i hi j hj _; omega
    | succ d ih =>
      intro i hi j hj e
      obtain ⟨l, hl, el⟩ := hs (i + 1) (by omega)
      have h1 := ih (i + 1) (by omega) l hl el
      have h2 := hp i (i + 1) (by omega) (by omega)
      have h3 : j < l := by
        rcases Nat.lt_or_ge j l with h | h
        · exact h
        · rcases Nat.lt_or_eq_of_le h with h | h
          · have := hq l j h hj; omega
          · subst h; omega
      omega
  intro i hi
  obtain ⟨j, hj, e⟩ := hs i hi
  have h1 := up i hi j hj e
  have h2 := down (k - 1 - i) i (by omega) j hj e
  have : j = i := by omega
  rw [e, this]
/-- Rows within others', as many in their one form: they span the same. -/
theorem rre_within {D : FD} (F : Fld D) {n k : Nat} {R R' : Nat → Nat → Nat} {p p' : Nat → Nat} (h : RRE D n k R p) (h' : RRE D n k R' p') (hs : ∀ v, Spn D (RowsOf k R) v → Spn D (RowsOf k R') v) (v : Nat → Nat) : Spn D (RowsOf k R) v ↔ Spn D (RowsOf k R') v := by
  refine ⟨hs v, fun hv => ?_⟩
  have hp : ∀ i, i < k → p i = p' i := mono_within k h.mono h'.mono (fun i hi => by
    have hl : Lead D (RowsOf k R) (p i) := (rre_lead F h (p i)).2 ⟨i, hi, rfl⟩
    obtain ⟨u, h1, h2⟩ := hl
    obtain ⟨j, hj, e⟩ := (rre_lead F h' (p i)).1 ⟨u, hs u h1, h2⟩
    exact ⟨j, hj, e⟩)
  have hc := lcR_spn F (K := k) (R := R) p v h.el k (Nat.le_refl _)
  have hd : Spn D (RowsOf k R') (psub D v (lcR D R p v k)) := spn_sub F hv (hs _ hc)
  have hz := rre_nil F h' hd (fun j hj => by
    show D.sb (v (p' j)) (lcR D R p v k (p' j)) = 0
    rw [← hp j hj, lcR_own F (hv.el F) (fun a b ha hb => by
      by_cases e : a = b
      · subst e; rw [if_pos rfl, h.one a ha]
      · rw [if_neg e, h.zero a b ha hb e]) hj k (Nat.le_refl _), if_pos hj, sb_self F (hv.el F _)])
  rw [psub_eq_nil F (hv.el F) (hc.el F) hz]
  exact hc
/-- The dual of the dual. -/
theorem Dul.dul {D : FD} (F : Fld D) {n m k2 k3 : Nat} {M R2 R3 : Nat → Nat → Nat} (h : Dul D n m M k2 R2) (hh : Dul D n k2 R2 k3 R3) (hM : ∀ i, i < m → El D (M i) ∧ Bd n (M i)) (v : Nat → Nat) : Spn D (RowsOf k3 R3) v ↔ Spn D (RowsOf m M) v := by
  have hR2 := h.rows
  have i2 := h.iff F (fun i hi => (hM i hi).1)
  have i3 := hh.iff F hR2.1
  obtain ⟨k, R, p, p2, h1, h2, h3, h4, e2⟩ := h
  obtain ⟨k', R', p', p3, g1, g2, g3, g4, e3⟩ := hh
  have hk' := (rre_uniq F g1 h3 g2).1
  have c2 := nct_all h1.mono h1.lt
  have c3 := nct_all g1.mono g1.lt
  have hk3 : k3 = k := by omega
  subst hk3
  refine ((rre_within F h1 g3 (fun u hu => ?_) v).symm).trans (h2 v)
  have hu' := (h2 u).1 hu
  refine (i3 u).2 ⟨hu.el F, ?_, fun i hi => ?_⟩
  · exact spn_ind (Q := Bd n) (fun _ _ => rfl) (fun u w hu hw c hc => by show D.ad (u c) (w c) = 0; rw [hu c hc, hw c hc, ad_zero F (zero_lt' F)]) (fun s u hu c hc => by show D.mul s (u c) = 0; rw [hu c hc, mul0 F]) (fun u ⟨j, hj, e⟩ => by rw [e]; exact h1.bd j hj) hu
  · rw [dot_comm F]
    refine dot_spn F hu' (fun x ⟨j, hj, e⟩ => ?_)
    rw [e]
    exact ((i2 (R2 i)).1 (spn_mem F (hR2.1 i hi) ⟨i, hi, rfl⟩)).2.2 j hj
end Go.Proofs.YtppggchhkckobaaGreat

/- Plain mathematics: how many rows sums and meets of codes have. No Go text here. -/
namespace Go.Proofs.YtppggchhkckobaaGreat

end Go.Proofs.YtppggchhkckobaaGreat

/- Plain mathematics: the rows of sum and meet together are both's. No Go text here. -/
namespace Go.Proofs.YtppggchhkckobaaGreat

theorem RRE.take {D : FD} {n k j : Nat} {R : Nat → Nat → Nat} {p : Nat → Nat} (h : RRE D n k R p) (hj : j ≤ k) : RRE D n j R p :=
  ⟨fun i hi => h.el i (by omega), fun i hi => h.bd i (by omega), fun i hi => h.lt i (by omega), fun a b h1 h2 => h.mono a b h1 (by omega), fun i hi => h.one i (by omega), fun a b h1 h2 => h.zero a b (by omega) (by omega), fun i c hi => h.lead i c (by omega)⟩
theorem orth_back {D : FD} (F : Fld D) {n k : Nat} {R : Nat → Nat → Nat} {p : Nat → Nat} (h : RRE D n k R p) {v : Nat → Nat} (hv : El D v) (hb : Bd n v) (ho : ∀ j, j < nct k p n → dot D (nul D R p k n j) v n = 0) : Spn D (RowsOf k R) v := by
  have hs := lcR_spn F (K := k) (R := R) p v h.el k (Nat.le_refl _)
  obtain ⟨s, hse⟩ : ∃ s, s = lcR D R p v k := ⟨_, rfl⟩
  rw [← hse] at hs
  have hsel : El D s := hs.el F
  have hpiv : ∀ i, i < k → D.sb (v (p i)) (s (p i)) = 0 := fun i hi => by
    have h1 := lcR_own F (K := k) (R := R) (p := p) hv (fun a b ha hb => by
      by_cases e : a = b
      · subst e; rw [if_pos rfl, h.one a ha]
      · rw [if_neg e, h.zero a b ha hb e]) hi k (Nat.le_refl _)
    rw [if_pos hi, ← hse] at h1
    rw [h1, sb_self F (hv _)]
  have horth : ∀ j, j < nct k p n → dot D (nul D R p k n j) (psub D v s) n = 0 := fun j hj => by
    have e : dot D v (nul D R p k n j) n = 0 := by rw [dot_comm F]; exact ho j hj
    have e2 : dot D s (nul D R p k n j) n = 0 := dot_spn F hs (fun x ⟨i, hi, hx⟩ => by rw [hx]; exact nul_orth F h hi hj)
    have e3 : psub D v s = padd D v (pscale D (D.ng 1) s) := by
      funext c
      show D.sb (v c) (s c) = D.ad (v c) (D.mul (D.ng 1) (s c))
      rw [F.mul_comm, mul_ng F (one_lt' F), mul1 F (hsel c)]; rfl
    rw [dot_comm F, e3, dot_add F hv (el_scale F _ _), dot_scale F, e, e2, mul0 F, ad_zero F (zero_lt' F)]
  have hu : ∀ c, D.sb (v c) (s c) = 0 := fun c => by
    by_cases hc : c < n
    · by_cases hf : ∀ j, j < k → p j ≠ c
      · obtain ⟨j, hj, ej⟩ := fcs_all hf n hc
        subst ej
        have h1 := dot_only F (a := nul D R p k n j) (b := psub D v s) n hc (fun t ht hne => by
          by_cases hf2 : ∀ l, l < k → p l ≠ t
          · obtain ⟨l, hl, el⟩ := fcs_all hf2 n ht
            subst el
            rw [nul_one hj hl, if_neg (fun e => hne (by rw [e])), zmul F]
          · obtain ⟨l, hl, e⟩ : ∃ l, l < k ∧ p l = t := Classical.byContradiction (fun hn => hf2 (fun j hj e => hn ⟨j, hj, e⟩))
            subst e
            show D.mul _ (D.sb (v (p l)) (s (p l))) = 0
            rw [hpiv l hl, mul0 F])
        rw [horth j hj, nul_one hj hj, if_pos rfl] at h1
        have h2 : D.mul 1 (D.sb (v (fcs k p n j)) (s (fcs k p n j))) = 0 := h1.symm
        rw [omul F (sb_lt F (hv _) (hsel _))] at h2
        exact h2
      · obtain ⟨i, hi, e⟩ : ∃ i, i < k ∧ p i = c := Classical.byContradiction (fun hn => hf (fun j hj e => hn ⟨j, hj, e⟩))
        rw [← e]; exact hpiv i hi
    · have h1 : s c = 0 := by rw [hse]; exact lcR_at F _ _ _ c k (fun i hi => by rw [h.bd i hi c (by omega), mul0 F])
      rw [h1, hb c (by omega), sb_self F (zero_lt' F)]
  have e : v = s := by
    funext c
    exact sb_eq_zero F (hv c) (hsel c) (hu c)
  rw [e]; exact hs
/-- What the dual makes 0. -/
theorem Dul.back {D : FD} (F : Fld D) {n m k2 : Nat} {M R2 : Nat → Nat → Nat} (h : Dul D n m M k2 R2) (hM : ∀ i, i < m → El D (M i) ∧ Bd n (M i)) (v : Nat → Nat) : Spn D (RowsOf m M) v ↔ El D v ∧ Bd n v ∧ ∀ i, i < k2 → dot D (R2 i) v n = 0 := by
  have hR2 := h.rows
  have i2 := h.iff F (fun i hi => (hM i hi).1)
  obtain ⟨k, R, p, p2, h1, h2, h3, h4, e2⟩ := h
  constructor
  · intro hv
    refine ⟨hv.el F, ?_, fun i hi => ?_⟩
    · exact spn_ind (Q := Bd n) (fun _ _ => rfl) (fun u w hu hw c hc => by show D.ad (u c) (w c) = 0; rw [hu c hc, hw c hc, ad_zero F (zero_lt' F)]) (fun s u hu c hc => by show D.mul s (u c) = 0; rw [hu c hc, mul0 F]) (fun u ⟨j, hj, e⟩ => by rw [e]; exact (hM j hj).2) hv
    · rw [dot_comm F]
      refine dot_spn F hv (fun x ⟨j, hj, e⟩ => ?_)
      rw [e]
      exact ((i2 (R2 i)).1 (spn_mem F (hR2.1 i hi) ⟨i, hi, rfl⟩)).2.2 j hj
  · rintro ⟨he, hb, ho⟩
    refine (h2 v).1 (orth_back F h1 he hb (fun j hj => ?_))
    have hn := (h4 _).2 (spn_mem F (nul_el F h1.el n j) ⟨j, hj, rfl⟩)
    exact dot_spn F hn (fun x ⟨i, hi, e⟩ => by rw [e]; exact ho i hi)
end Go.Proofs.YtppggchhkckobaaGreat

/- Codes in hand: what was told is handed in again (Sum, Meet, Make, Dual). -/
namespace Go.Proofs.YtppggchhkckobaaGreat
open Go.RowKit Go.Sort

/-- A code that can be handed in, of the rows M. -/
def Cod (D : FD) (n : Nat) (ao : Option Addr) (m : Nat) (M : Nat → Nat → Nat) (w : World) : Prop := ∃ A N C Z, CdZ D ao m n A N C Z w ∧ ∀ i, i < m → mzc N Z i = M i
theorem Cod.below {D : FD} {n m : Nat} {ao : Option Addr} {M : Nat → Nat → Nat} {w w' : World} (h : Cod D n ao m M w) (hb : Below w.heap.size w w') : Cod D n ao m M w' := by
  obtain ⟨A, N, C, Z, h1, h2⟩ := h
  exact ⟨A, N, C, Z, h1.below hb, h2⟩
theorem Cod.rows {D : FD} (F : Fld D) {n m : Nat} {ao : Option Addr} {M : Nat → Nat → Nat} {w : World} (h : Cod D n ao m M w) : m ≤ 64 ∧ (1 ≤ n ∧ n ≤ 64) ∧ ∀ i, i < m → El D (M i) ∧ Bd n (M i) := by
  obtain ⟨A, N, C, Z, h1, h2⟩ := h
  obtain ⟨g1, g2, g3, _⟩ := h1.rows F
  exact ⟨g1, ⟨h1.n1, h1.n64⟩, fun i hi => by rw [← h2 i hi]; exact ⟨g2 i hi, g3 i hi⟩⟩
theorem MV.cod {D : FD} {B n k : Nat} {ro : Option Addr} {rc : Nat} {R : Nat → Nat → Nat} {w : World} (h : MV B (.slice ro k rc) k n R w) (hn1 : 1 ≤ n) (hn : n ≤ 64) (hk : k ≤ 64) (he : ∀ i, i < k → El D (R i)) (hb : ∀ i, i < k → Bd n (R i)) : Cod D n ro k R w := by
  obtain ⟨A, C, hc⟩ := (h.rlz (by omega)).cdz (D := D) hn1 hn hk he
  exact ⟨A, _, C, _, hc, fun i hi => mzc_rows hb i hi⟩
theorem Cod.chk {D : FD} (hD : D ∈ fieldsL) {n m : Nat} (ca : Nat) {ao : Option Addr} {M : Nat → Nat → Nat} {w : World} (h : Cod D n ao m M w) (wx : World) (hx : Below w.heap.size w wx) :
    Calls Tryz.prog 96 #[.agg #[.int .i64 D.q, .int .i64 (n : Nat), .slice ao m ca]] wx fun x w' => x = .returned (.int .i64 0) ∧ Below wx.heap.size wx w' := by
  obtain ⟨A, N, C, Z, h1, _⟩ := h.below hx
  have e : D.cchk (n : Nat) m N Z = 0 := by
    have a1 := h1.n1
    have a2 := h1.n64
    unfold FD.cchk
    rw [if_neg (by omega), h1.chk, if_neg (fun h => h rfl), if_neg]
    rintro ⟨b1, b2⟩
    exact b2 (by rw [h1.wd b1])
  have := ccheck_any hD (ca := ca) (n : Nat) h1.mat (h1.few (fld hD))
  rw [e] at this
  exact this
theorem Red.of_eq {D : FD} {n m k : Nat} {M M' R : Nat → Nat → Nat} (h : Red D n m M k R) (e : ∀ i, i < m → M i = M' i) : Red D n m M' k R := by
  obtain ⟨p, h1, h2⟩ := h
  exact ⟨p, h1, fun v => (h2 v).trans (rows_congr e v)⟩
/-- A code's variable, newly made. -/
theorem box_at (q n : Int) (v : Value) (w : World) : Below w.heap.size w (w.alloc (.cells #[.int .i64 q, .int .i64 n, v] 35)) ∧ CB w.heap.size q n v (w.alloc (.cells #[.int .i64 q, .int .i64 n, v] 35)) ∧ (w.alloc (.cells #[.int .i64 q, .int .i64 n, v] 35)).heap.size = w.heap.size + 1 :=
  ⟨(Below.refl _ _).alloc (Nat.le_refl _) _, CB.new _ _ _ _, by simp⟩
end Go.Proofs.YtppggchhkckobaaGreat

/- A region that draws its order: one of two operations comes next. No Go text here. -/
namespace Go.Proofs.YtppggchhkckobaaGreat
open Go

end Go.Proofs.YtppggchhkckobaaGreat

/- Codes in hand: Encode, Has; words of a code and of its dual. -/
namespace Go.Proofs.YtppggchhkckobaaGreat
open Go.RowKit Go.Sort

/-- A word that was told: it can be handed in again. -/
def Wrd (n : Nat) (v : Nat → Nat) (gr c : Nat) (w : World) : Prop := Row gr n v w ∧ n ≤ c ∧ c ≤ 9223372036854775807
theorem Wrd.below {n gr c : Nat} {v : Nat → Nat} {w w' : World} (h : Wrd n v gr c w) (hb : Below w.heap.size w w') : Wrd n v gr c w' := ⟨h.1.below hb h.1.lt, h.2⟩
theorem Wrd.arg {n gr c : Nat} {v : Nat → Nat} {w : World} (h : Wrd n v gr c w) (hn : n ≤ 1000) : Arg (some ⟨gr, 0, none⟩) n c (fun i => ((v i : Nat) : Int)) w :=
  ⟨slz_of (h.1.sl (Nat.le_refl _)), fun x hx => by cases hx; exact h.1.lt, by omega, (fun e => by cases e), h.2.1, h.2.2⟩
theorem enw_spn {D : FD} (F : Fld D) {R : Nat → Nat → Nat} {z : Nat → Nat} {K : Nat} (hR : ∀ i, i < K → El D (R i)) : ∀ k, k ≤ K → Spn D (RowsOf K R) (enw D R z k)
  | 0, _ => spn_nil D _
  | k + 1, h => spn_add F (enw_spn F hR k (by omega)) (spn_scale F _ (spn_mem F (hR k (by omega)) ⟨k, by omega, rfl⟩))
theorem blw_nchk {D : FD} {k : Nat} {y : Nat → Int} (h : Blw D.q k y) : D.nchk k y (k : Nat) = 0 := by
  unfold FD.nchk
  rw [if_neg (fun h => h rfl), if_neg]
  rw [anyB_no k (fun j hj => ?_)]
  · intro e; cases e
  · have hh : D.has (y j) = true := by
      have := h j hj
      unfold FD.has
      rw [decide_eq_true_eq]; exact this
    rw [hh]; rfl
theorem Cod.encode {D : FD} (hD : D ∈ fieldsL) {n m k my : Nat} (ca : Nat) {ao yo : Option Addr} {cy : Nat} {M R : Nat → Nat → Nat} {y : Nat → Int} {w : World} (h : Cod D n ao m M w) (hY : Arg yo my cy y w) (hR : Red D n m M k R) (hk : D.nchk my y k = 0) :
    Calls Tryz.prog 26 #[.agg #[.int .i64 D.q, .int .i64 (n : Nat), .slice ao m ca], .slice yo my cy] w fun x w' => ∃ v gr c, x = .returned (.tuple #[.slice (some ⟨gr, 0, none⟩) n c, .int .i64 0]) ∧ Wrd n v gr c w' ∧ (El D v ∧ Spn D (RowsOf m M) v) ∧ Below w.heap.size w w' := by
  have hc := h.chk hD ca
  obtain ⟨A, N, C, Z, h1, h2⟩ := h
  refine (cEncode_ok hD h1 hY (hR.of_eq (fun i hi => (h2 i hi).symm)) hk hc).mono ?_
  rintro x w' ⟨⟨gr, c, rfl, hrow, _, hc1, hc2⟩, hb⟩
  refine ⟨_, gr, c, rfl, ⟨hrow, hc1, hc2⟩, ⟨enw_el (fld hD) k, ?_⟩, hb⟩
  obtain ⟨p, q1, q2⟩ := hR
  exact (q2 _).1 (enw_spn (fld hD) q1.el k (Nat.le_refl _))
theorem Cod.has {D : FD} (hD : D ∈ fieldsL) {n m gr c : Nat} (ca : Nat) {ao : Option Addr} {M : Nat → Nat → Nat} {v : Nat → Nat} {w : World} (h : Cod D n ao m M w) (hW : Wrd n v gr c w) (hv : El D v) (hs : Spn D (RowsOf m M) v) {k : Nat} {R : Nat → Nat → Nat} (hdu : Dul D n m M k R) :
    Calls Tryz.prog 27 #[.agg #[.int .i64 D.q, .int .i64 (n : Nat), .slice ao m ca], .slice (some ⟨gr, 0, none⟩) n c] w fun x w' => x = .returned (.tuple #[.bool true, .int .i64 0]) ∧ Below w.heap.size w w' := by
  have hr := h.rows (fld hD)
  have hc := h.chk hD ca
  obtain ⟨_, hbd, hd0⟩ := (hdu.back (fld hD) hr.2.2 v).1 hs
  obtain ⟨A, N, C, Z, h1, h2⟩ := h
  have hdu2 : Dul D n m (mzc N Z) k R := hdu.of_spn (fun u => rows_congr (fun i hi => (h2 i hi).symm) u)
  have hk : D.nchk n (fun i => ((v i : Nat) : Int)) (n : Nat) = 0 := blw_nchk (fun j _ => ⟨by omega, by have := hv j; omega⟩)
  have hz : zc n (fun i => ((v i : Nat) : Int)) = v := by
    funext j
    unfold zc
    by_cases e : j < n
    · rw [if_pos e, Int.toNat_natCast]
    · rw [if_neg e, hbd j (by omega)]
  refine (cHas_ok D.q (n : Nat) (k := k) (v := fun i => dot D (R i) v n) (by have := hdu.le; omega) (fun wx hx => ?_)).mono ?_
  · have := cSyn_ok hD (h1.below hx) ((hW.below hx).arg (by omega)) hdu2 hk (fun wy hy => hc wy (bel_up' hx hy))
    rw [hz] at this
    exact this
  · rintro x w' ⟨rfl, hb⟩
    refine ⟨?_, hb⟩
    have h0 : ct (fun i => !decide (((dot D (R i) v n : Nat) : Int) = 0)) k = 0 := ct_none k (fun i hi => by
      have e := hd0 i hi
      simp [e])
    rw [h0]
    rfl
end Go.Proofs.YtppggchhkckobaaGreat
