/- Texts of ours, one behind the other: S15 S16 S17 S18 I32 I33 I34 I35 I36 K7 I37 S19 I38. -/
import Derived.Test.YtmbglikcanchbadZI12
import Derived.Test.YtmbglikcanchbadZS4
import Derived.Test.YtmbglikcanchbadZI4
import Derived.Test.YtmbglikcanchbadZS2
import Derived.Test.YtmbglikcanchbadZU10
import Derived.Test.YtmbglikcanchbadZS8
import Derived.Test.YtmbglikcanchbadZW4
/- Plain mathematics: how many rows sums and meets of codes have. No Go text here. -/
namespace Go.Proofs.Ytmbglikcanchbad

theorem mono_few {p q : Nat → Nat} {k k' : Nat} (hp : ∀ i j, i < j → j < k → p i < p j) (hq : ∀ i j, i < j → j < k' → q i < q j) (hs : ∀ i, i < k → ∃ j, j < k' ∧ p i = q j) : k ≤ k' := by
  have up : ∀ i, i < k → ∀ j, j < k' → p i = q j → i ≤ j := fun i => by
    induction i with
    | zero => intro _ j _ _; exact Nat.zero_le _
    | succ i ih =>
      intro hi j hj e
      obtain ⟨l, hl, el⟩ := hs i (by omega)
      have h1 := ih (by omega) l hl el
      have h2 := hp i (i + 1) (by omega) hi
      have h3 : l < j := by
        rcases Nat.lt_or_ge l j with h | h
        · exact h
        · rcases Nat.lt_or_eq_of_le h with h | h
          · have := hq j l h hl; omega
          · subst h; omega
      omega
  rcases Nat.eq_zero_or_pos k with e | e
  · omega
  · obtain ⟨j, hj, ej⟩ := hs (k - 1) (by omega)
    have := up (k - 1) (by omega) j hj ej
    omega
/-- So many rows span it. -/
def Dim (D : FD) (n : Nat) (Q : (Nat → Nat) → Prop) (k : Nat) : Prop := ∃ R p, RRE D n k R p ∧ ∀ v, Spn D (RowsOf k R) v ↔ Q v
theorem Dim.uniq {D : FD} (F : Fld D) {n k k' : Nat} {Q Q' : (Nat → Nat) → Prop} (h : Dim D n Q k) (h' : Dim D n Q' k') (e : ∀ v, Q v ↔ Q' v) : k = k' := by
  obtain ⟨R, p, h1, h2⟩ := h
  obtain ⟨R', p', h3, h4⟩ := h'
  exact (rre_uniq F h1 h3 (fun v => (h2 v).trans ((e v).trans (h4 v).symm))).1
theorem Dim.congr {D : FD} {n k : Nat} {Q Q' : (Nat → Nat) → Prop} (h : Dim D n Q k) (e : ∀ v, Q v ↔ Q' v) : Dim D n Q' k := by
  obtain ⟨R, p, h1, h2⟩ := h
  exact ⟨R, p, h1, fun v => (h2 v).trans (e v)⟩
theorem Dim.spn {D : FD} (F : Fld D) {n k : Nat} {Q : (Nat → Nat) → Prop} (h : Dim D n Q k) (v : Nat → Nat) : Spn D Q v ↔ Q v := by
  obtain ⟨R, p, h1, h2⟩ := h
  refine ⟨fun hv => (h2 v).1 (spn_le F (fun u hu => (h2 u).2 hu) hv), fun hv => spn_mem F (((h2 v).2 hv).el F) hv⟩
theorem Dim.el {D : FD} (F : Fld D) {n k : Nat} {Q : (Nat → Nat) → Prop} (h : Dim D n Q k) {v : Nat → Nat} (hv : Q v) : El D v := ((h.spn F v).2 hv).el F
theorem Dim.add {D : FD} (F : Fld D) {n k : Nat} {Q : (Nat → Nat) → Prop} (h : Dim D n Q k) {u v : Nat → Nat} (hu : Q u) (hv : Q v) : Q (padd D u v) := (h.spn F _).1 (spn_add F ((h.spn F u).2 hu) ((h.spn F v).2 hv))
/-- A row more that it has not. -/
theorem Dim.next {D : FD} (hD : D ∈ fieldsL) {n k : Nat} {Q : (Nat → Nat) → Prop} (h : Dim D n Q k) {x : Nat → Nat} (ex : El D x) (bx : Bd n x) (hx : ¬ Q x) : Dim D n (Spn D (Wth Q x)) (k + 1) := by
  have F := fld hD
  obtain ⟨R, p, h1, h2⟩ := h
  obtain ⟨M, hM⟩ : ∃ M : Nat → Nat → Nat, M = fun i => if i < k then R i else x := ⟨_, rfl⟩
  have hrow : ∀ v, RowsOf (k + 1) M v ↔ Wth (RowsOf k R) x v := fun v => by
    rw [wth_rows]
    have a1 : ∀ i, i < k → M i = R i := fun i hi => by rw [hM]; exact if_pos hi
    have a2 : M k = x := by rw [hM]; exact if_neg (by omega)
    rw [a2]
    exact or_congr ⟨fun ⟨i, hi, e⟩ => ⟨i, hi, by rw [e, a1 i hi]⟩, fun ⟨i, hi, e⟩ => ⟨i, hi, by rw [a1 i hi]; exact e⟩⟩ Iff.rfl
  have hME : ∀ i, i < k + 1 → El D (M i) := fun i hi => by
    rw [hM]; show El D (if i < k then R i else x); split
    · exact h1.el i (by omega)
    · exact ex
  have hMB : ∀ i, i < k + 1 → Bd n (M i) := fun i hi => by
    rw [hM]; show Bd n (if i < k then R i else x); split
    · exact h1.bd i (by omega)
    · exact bx
  obtain ⟨k', R', p', hk', g1, g2⟩ := rre_ex hD hME hMB
  have hspan : ∀ v, Spn D (RowsOf k' R') v ↔ Spn D (Wth (RowsOf k R) x) v := fun v => (g2 v).trans (spn_congr hrow v)
  have hsub : ∀ v, Spn D (RowsOf k R) v → Spn D (RowsOf k' R') v := fun v hv => (hspan v).2 (spn_in hv)
  have hk : k ≤ k' := mono_few h1.mono g1.mono (fun i hi => by
    obtain ⟨u, u1, u2⟩ := (rre_lead F h1 (p i)).2 ⟨i, hi, rfl⟩
    obtain ⟨j, hj, e⟩ := (rre_lead F g1 (p i)).1 ⟨u, hsub u u1, u2⟩
    exact ⟨j, hj, e⟩)
  have hne : k ≠ k' := fun e => by
    subst e
    have := (rre_within F h1 g1 hsub x).2 ((hspan x).2 (spn_mem F ex (Or.inr rfl)))
    exact hx ((h2 x).1 this)
  have e : k' = k + 1 := by omega
  subst e
  refine ⟨R', p', g1, fun v => (hspan v).trans ⟨fun hv => ?_, fun hv => ?_⟩⟩
  · refine spn_le F (fun u hu => ?_) hv
    rcases hu with ⟨i, hi, e⟩ | e
    · exact spn_mem F (by rw [e]; exact h1.el i hi) (Or.inl ((h2 u).1 (by rw [e]; exact spn_mem F (h1.el i hi) ⟨i, hi, rfl⟩)))
    · rw [e]; exact spn_mem F ex (Or.inr rfl)
  · refine spn_le F (fun u hu => ?_) hv
    rcases hu with hu | e
    · exact spn_in ((h2 u).2 hu)
    · rw [e]; exact spn_mem F ex (Or.inr rfl)
end Go.Proofs.Ytmbglikcanchbad

/- Plain mathematics: the rows of sum and meet together are both's. No Go text here. -/
namespace Go.Proofs.Ytmbglikcanchbad

theorem RRE.take {D : FD} {n k j : Nat} {R : Nat → Nat → Nat} {p : Nat → Nat} (h : RRE D n k R p) (hj : j ≤ k) : RRE D n j R p :=
  ⟨fun i hi => h.el i (by omega), fun i hi => h.bd i (by omega), fun i hi => h.lt i (by omega), fun a b h1 h2 => h.mono a b h1 (by omega), fun i hi => h.one i (by omega), fun a b h1 h2 => h.zero a b (by omega) (by omega), fun i c hi => h.lead i c (by omega)⟩
end Go.Proofs.Ytmbglikcanchbad

/- Plain mathematics: words without a place; the dual of the punctured dual. No Go text here. -/
namespace Go.Proofs.Ytmbglikcanchbad

/-- A word without place a. -/
def wo (a : Nat) (v : Nat → Nat) : Nat → Nat := fun j => if j < a then v j else v (j + 1)
/-- A word with 0 put in at place a. -/
def wi (a : Nat) (u : Nat → Nat) : Nat → Nat := fun j => if j < a then u j else if j = a then 0 else u (j - 1)
end Go.Proofs.Ytmbglikcanchbad

/- Plain mathematics: the rows that are left where one place is 0. No Go text here. -/
namespace Go.Proofs.Ytmbglikcanchbad

/-- The first of i rows that is not 0 at place a. -/
def shF (M : Nat → Nat → Nat) (a : Nat) : Nat → Option Nat
  | 0 => none
  | i + 1 => match shF M a i with
    | some f => some f
    | none => if M i a = 0 then none else some i
end Go.Proofs.Ytmbglikcanchbad

/- A word without a place (the reference's Without). -/
namespace Go.Proofs.Ytmbglikcanchbad
open Go.RowKit Go.Sort

end Go.Proofs.Ytmbglikcanchbad

/- A code without a place (the reference's Punctured). -/
namespace Go.Proofs.Ytmbglikcanchbad
open Go.RowKit Go.Sort

theorem zl_cast_getD (n : Nat) (c : Nat → Nat) (k : Nat) (hk : k < (zl n fun j => ((c j : Nat) : Int)).length) : (zl n fun j => ((c j : Nat) : Int)).getD k 0 = (c k : Nat) := by
  rw [zl_len] at hk
  exact zl_getD _ _ _ hk
theorem own_elm {base n2 : Nat} {v : Value} {c : Nat → Nat} {w : World} (h : OwnI base v (zl (n2 + 1) fun j => ((c j : Nat) : Int)) w) : Elm v (n2, c) w := by
  have h1 := h.ownC c (fun k hk => zl_cast_getD _ _ _ hk)
  rw [zl_len] at h1
  exact h1.elm

end Go.Proofs.Ytmbglikcanchbad

/- A code without a place (the program's puncture). -/
namespace Go.Proofs.Ytmbglikcanchbad
open Go.RowKit Go.Sort

end Go.Proofs.Ytmbglikcanchbad

/- Puncture, with its check. -/
namespace Go.Proofs.Ytmbglikcanchbad
open Go.RowKit Go.Sort

end Go.Proofs.Ytmbglikcanchbad

/- Shorten, with its check. -/
namespace Go.Proofs.Ytmbglikcanchbad
open Go.RowKit Go.Sort

/-- The one form of the words that are 0 at place a, without it. -/
def ShR (D : FD) (N1 a m : Nat) (M : Nat → Nat → Nat) (k : Nat) (R : Nat → Nat → Nat) : Prop := ∃ p, RRE D N1 k R p ∧ ∀ u, Spn D (RowsOf k R) u ↔ El D u ∧ Bd N1 u ∧ Spn D (RowsOf m M) (wi a u)
theorem ShR.uniq {D : FD} (F : Fld D) {N1 a m k k' : Nat} {M R R' : Nat → Nat → Nat} (h : ShR D N1 a m M k R) (h' : ShR D N1 a m M k' R') : k = k' ∧ ∀ i, i < k → R i = R' i := by
  obtain ⟨p, h1, h2⟩ := h
  obtain ⟨p', h1', h2'⟩ := h'
  exact Red.uniq F (m := k) (M := R) (m' := k') (M' := R') ⟨p, h1, fun _ => Iff.rfl⟩ ⟨p', h1', fun _ => Iff.rfl⟩ (fun v => (h2 v).trans (h2' v).symm)
theorem ShR.le {D : FD} {N1 a m k : Nat} {M R : Nat → Nat → Nat} (h : ShR D N1 a m M k R) : k ≤ N1 := by
  obtain ⟨p, h1, h2⟩ := h
  exact Red.le (m := k) (M := R) ⟨p, h1, fun _ => Iff.rfl⟩

end Go.Proofs.Ytmbglikcanchbad

/- Codes in hand: what was told is handed in again (Sum, Meet, Make, Dual). -/
namespace Go.Proofs.Ytmbglikcanchbad
open Go.RowKit Go.Sort

/-- A code that can be handed in, of the rows M. -/
def Cod (D : FD) (n : Nat) (ao : Option Addr) (m : Nat) (M : Nat → Nat → Nat) (w : World) : Prop := ∃ A N C Z, CdZ D ao m n A N C Z w ∧ ∀ i, i < m → mzc N Z i = M i
theorem Cod.below {D : FD} {n m : Nat} {ao : Option Addr} {M : Nat → Nat → Nat} {w w' : World} (h : Cod D n ao m M w) (hb : Below w.heap.size w w') : Cod D n ao m M w' := by
  obtain ⟨A, N, C, Z, h1, h2⟩ := h
  exact ⟨A, N, C, Z, h1.below hb, h2⟩
theorem Cod.rows {D : FD} (F : Fld D) {n m : Nat} {ao : Option Addr} {M : Nat → Nat → Nat} {w : World} (h : Cod D n ao m M w) : m ≤ 64 ∧ (1 ≤ n ∧ n ≤ 64) ∧ ∀ i, i < m → El D (M i) ∧ Bd n (M i) := by
  obtain ⟨A, N, C, Z, h1, h2⟩ := h
  obtain ⟨g1, g2, g3, _⟩ := h1.rows F
  exact ⟨g1, ⟨h1.n1, h1.n64⟩, fun i hi => by rw [← h2 i hi]; exact ⟨g2 i hi, g3 i hi⟩⟩
theorem MV.cod {D : FD} {B n k : Nat} {ro : Option Addr} {rc : Nat} {R : Nat → Nat → Nat} {w : World} (h : MV B (.slice ro k rc) k n R w) (hn1 : 1 ≤ n) (hn : n ≤ 64) (hk : k ≤ 64) (he : ∀ i, i < k → El D (R i)) (hb : ∀ i, i < k → Bd n (R i)) : Cod D n ro k R w := by
  obtain ⟨A, C, hc⟩ := (h.rlz (by omega)).cdz (D := D) hn1 hn hk he
  exact ⟨A, _, C, _, hc, fun i hi => mzc_rows hb i hi⟩
theorem Cod.chk {D : FD} (hD : D ∈ fieldsL) {n m : Nat} (ca : Nat) {ao : Option Addr} {M : Nat → Nat → Nat} {w : World} (h : Cod D n ao m M w) (wx : World) (hx : Below w.heap.size w wx) :
    Calls Try.prog 122 #[.agg #[.int .i64 D.q, .int .i64 (n : Nat), .slice ao m ca]] wx fun x w' => x = .returned (.int .i64 0) ∧ Below wx.heap.size wx w' := by
  obtain ⟨A, N, C, Z, h1, _⟩ := h.below hx
  have e : D.cchk (n : Nat) m N Z = 0 := by
    have a1 := h1.n1
    have a2 := h1.n64
    unfold FD.cchk
    rw [if_neg (by omega), h1.chk, if_neg (fun h => h rfl), if_neg]
    rintro ⟨b1, b2⟩
    exact b2 (by rw [h1.wd b1])
  have := ccheck_any hD (ca := ca) (n : Nat) h1.mat (h1.few (fld hD))
  rw [e] at this
  exact this
theorem Red.of_eq {D : FD} {n m k : Nat} {M M' R : Nat → Nat → Nat} (h : Red D n m M k R) (e : ∀ i, i < m → M i = M' i) : Red D n m M' k R := by
  obtain ⟨p, h1, h2⟩ := h
  exact ⟨p, h1, fun v => (h2 v).trans (rows_congr e v)⟩
theorem Cod.make {D : FD} (hD : D ∈ fieldsL) {n m : Nat} (ca : Nat) {ao : Option Addr} {M : Nat → Nat → Nat} {w : World} (h : Cod D n ao m M w) :
    Calls Try.prog 121 #[.agg #[.int .i64 D.q, .int .i64 (n : Nat), .slice ao m ca]] w fun x w' => ∃ k R ro rc, x = .returned (.tuple #[.agg #[.int .i64 D.q, .int .i64 (n : Nat), .slice ro k rc], .int .i64 0]) ∧ (Cod D n ro k R w' ∧ RL (.slice ro k rc) k n R w') ∧ Red D n m M k R ∧ Below w.heap.size w w' := by
  have hr := h.rows (fld hD)
  have hc := h.chk hD ca
  obtain ⟨A, N, C, Z, h1, h2⟩ := h
  refine (cMake_ok hD h1 hc).mono ?_
  rintro x w' ⟨k, R, ro, rc, rfl, hmv, hred, hb⟩
  have hkn := hred.le
  exact ⟨k, R, ro, rc, rfl, ⟨hmv.cod hr.2.1.1 hr.2.1.2 (by omega) hred.rows.1 hred.rows.2, hmv.rl⟩, hred.of_eq h2, hb⟩
/-- A code's variable, newly made. -/
theorem box_at (q n : Int) (v : Value) (w : World) : Below w.heap.size w (w.alloc (.cells #[.int .i64 q, .int .i64 n, v] 58)) ∧ CB w.heap.size q n v (w.alloc (.cells #[.int .i64 q, .int .i64 n, v] 58)) ∧ (w.alloc (.cells #[.int .i64 q, .int .i64 n, v] 58)).heap.size = w.heap.size + 1 :=
  ⟨(Below.refl _ _).alloc (Nat.le_refl _) _, CB.new _ _ _ _, by simp⟩
end Go.Proofs.Ytmbglikcanchbad

/- A row less another, wherever they lie (the reference's less). -/
namespace Go.Proofs.Ytmbglikcanchbad
open Go.RowKit Go.Sort

end Go.Proofs.Ytmbglikcanchbad

/- Plain mathematics: words with one number more, so that all together are 0. No Go text here. -/
namespace Go.Proofs.Ytmbglikcanchbad

theorem ng_ad19 {D : FD} (F : Fld D) {a b : Nat} (ha : a < D.q) (hb : b < D.q) : D.ng (D.ad a b) = D.ad (D.ng a) (D.ng b) := by
  have h1 : D.ad (D.ad a b) (D.ad (D.ng a) (D.ng b)) = 0 := by
    rw [ad4 F ha hb (ng_lt F ha) (ng_lt F hb), ad_ng F ha, ad_ng F hb, ad_zero F (zero_lt' F)]
  exact (ad_cancel F (ad_lt F ha hb) (ad_lt F (ng_lt F ha) (ng_lt F hb)) (ng_lt F (ad_lt F ha hb)) (h1.trans (ad_ng F (ad_lt F ha hb)).symm)).symm
/-- The sum of the first numbers. -/
def xsm (D : FD) (v : Nat → Nat) : Nat → Nat
  | 0 => 0
  | n + 1 => D.ad (xsm D v n) (v n)
/-- 0 less the first numbers. -/
def xng (D : FD) (v : Nat → Nat) : Nat → Nat
  | 0 => 0
  | n + 1 => D.sb (xng D v n) (v n)
theorem xsm_lt {D : FD} (F : Fld D) {v : Nat → Nat} (hv : El D v) : ∀ n, xsm D v n < D.q
  | 0 => zero_lt' F
  | n + 1 => ad_lt F (xsm_lt F hv n) (hv n)
theorem xng_lt {D : FD} (F : Fld D) {v : Nat → Nat} (hv : El D v) : ∀ n, xng D v n < D.q
  | 0 => zero_lt' F
  | n + 1 => sb_lt F (xng_lt F hv n) (hv n)
theorem xng_is {D : FD} (F : Fld D) {v : Nat → Nat} (hv : El D v) : ∀ n, xng D v n = D.ng (xsm D v n)
  | 0 => (ng_zero F).symm
  | n + 1 => by
    show D.ad (xng D v n) (D.ng (v n)) = D.ng (D.ad (xsm D v n) (v n))
    rw [xng_is F hv n, ng_ad19 F (xsm_lt F hv n) (hv n)]
/-- The word with the opposite of its sum behind it. -/
def xtd (D : FD) (n : Nat) (v : Nat → Nat) : Nat → Nat := fun j => if j = n then D.ng (xsm D v n) else v j
theorem xtd_el {D : FD} (F : Fld D) {n : Nat} {v : Nat → Nat} (hv : El D v) : El D (xtd D n v) := fun j => by
  unfold xtd
  by_cases e : j = n
  · rw [if_pos e]; exact ng_lt F (xsm_lt F hv n)
  · rw [if_neg e]; exact hv j
theorem xtd_bd {D : FD} {n : Nat} {v : Nat → Nat} (hb : Bd n v) : Bd (n + 1) (xtd D n v) := fun j hj => by
  unfold xtd
  rw [if_neg (by omega)]; exact hb j (by omega)
end Go.Proofs.Ytmbglikcanchbad

/- Words that are 0 at a place, without it (the reference's Shortened). -/
namespace Go.Proofs.Ytmbglikcanchbad
open Go.RowKit Go.Sort

/-- The row that is not 0 there, if one was met. -/
def OneV (va : Nat → Value) (M : Nat → Nat → Nat) (a i : Nat) (v : Value) : Prop := match shF M a i with
  | none => v = .slice none 0 0
  | some f => v = va f
theorem OneV.none {va : Nat → Value} {M : Nat → Nat → Nat} {a i : Nat} {v : Value} (h : OneV va M a i v) (e : shF M a i = none) : v = .slice none 0 0 := by unfold OneV at h; rw [e] at h; exact h
theorem OneV.some {va : Nat → Value} {M : Nat → Nat → Nat} {a i f : Nat} {v : Value} (h : OneV va M a i v) (e : shF M a i = some f) : v = va f := by unfold OneV at h; rw [e] at h; exact h
theorem OneV.stay {va : Nat → Value} {M : Nat → Nat → Nat} {a i : Nat} {v : Value} (h : OneV va M a i v) (e : shF M a (i + 1) = shF M a i) : OneV va M a (i + 1) v := by unfold OneV at h ⊢; rw [e]; exact h
end Go.Proofs.Ytmbglikcanchbad
