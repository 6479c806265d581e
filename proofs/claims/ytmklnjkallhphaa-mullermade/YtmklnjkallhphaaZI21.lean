/- Texts of ours, one behind the other: I21 I22 I23 S12 I24 I25 I26 I27 I28 I29 I30 I31 S13 S14 S15 S16 S17 I32 I33 I34 I35 I36 K6 K7 K8 W12 K9 E7 S19 I40 S20 KA1 KA2 KA3 KA4 KA5. -/
import Derived.Test.YtmklnjkallhphaaZI10
import Derived.Test.YtmklnjkallhphaaZS8
import Derived.Test.YtmklnjkallhphaaZS4
import Derived.Lib.AppendZerosOnto
import Derived.Test.YtmklnjkallhphaaZI4
import Derived.Test.YtmklnjkallhphaaZX18
import Derived.Test.YtmklnjkallhphaaZI6
import Derived.Test.YtmklnjkallhphaaZX12
import Derived.Test.YtmklnjkallhphaaZW11
import Derived.Test.YtmklnjkallhphaaZV7
import Derived.Test.YtmklnjkallhphaaZA1
import Derived.Test.YtmklnjkallhphaaZR3
import Derived.Test.YtmklnjkallhphaaZM3
import Derived.Test.YtmklnjkallhphaaZN1
import Derived.Deep.CutBlock
import Derived.Deep.DeepCutAuto
import Derived.Test.YtmklnjkallhphaaZR9
/- Encode: the sum of the rows of the one form. -/
namespace Go.Proofs.Ytmklnjkallhphaa
open Go.RowKit Go.Sort

/-- The sum of the first rows, each so many times. -/
def enw (D : FD) (R : Nat → Nat → Nat) (z : Nat → Nat) : Nat → Nat → Nat
  | 0 => pnil
  | k + 1 => padd D (enw D R z k) (pscale D (z k) (R k))
end Go.Proofs.Ytmklnjkallhphaa

/- Encoded: the reference's sum of rows. -/
namespace Go.Proofs.Ytmklnjkallhphaa
open Go.RowKit Go.Sort

end Go.Proofs.Ytmklnjkallhphaa

/- Encode: where there is nothing to tell. -/
namespace Go.Proofs.Ytmklnjkallhphaa
open Go.RowKit Go.Sort

end Go.Proofs.Ytmklnjkallhphaa

/- Plain mathematics: products of rows; what makes rows 0. No Go text here. -/
namespace Go.Proofs.Ytmklnjkallhphaa

end Go.Proofs.Ytmklnjkallhphaa

/- WordMay and Dot of the reference. -/
namespace Go.Proofs.Ytmklnjkallhphaa
open Go.RowKit Go.Sort

end Go.Proofs.Ytmklnjkallhphaa

/- Syndrome and Has. -/
namespace Go.Proofs.Ytmklnjkallhphaa
open Go.RowKit Go.Sort

end Go.Proofs.Ytmklnjkallhphaa

/- Has. -/
namespace Go.Proofs.Ytmklnjkallhphaa
open Go.RowKit Go.Sort

theorem slz_of {ao : Option Addr} {n : Nat} {a : Nat → Nat} {w : World} (h : Sl ao n a w) : SlZ ao n (fun i => ((a i : Nat) : Int)) w := h
end Go.Proofs.Ytmklnjkallhphaa

/- CodeSays: the words of a code. -/
namespace Go.Proofs.Ytmklnjkallhphaa
open Go.RowKit Go.Sort

end Go.Proofs.Ytmklnjkallhphaa

/- CodeSays: the words of a code that may be. -/
namespace Go.Proofs.Ytmklnjkallhphaa
open Go.RowKit Go.Sort

/-- The three codes' variables and the field's. -/
def CW (b : Nat) (D : FD) (n : Nat) (vc vo vd : Value) (f gm cm : Nat) (wx : World) : Prop := CB b D.q n vc wx ∧ CB (b + 1) D.q n vo wx ∧ CB (b + 1 + 1) D.q n vd wx ∧ Box f D D.gen (.slice (some ⟨gm, 0, none⟩) (D.m + 1) cm) wx ∧ f < wx.heap.size
theorem CW.keep {b : Nat} {D : FD} {n : Nat} {vc vo vd : Value} {f gm cm : Nat} {wx wy : World} (h : CW b D n vc vo vd f gm cm wx) (hb : Below wx.heap.size wx wy) : CW b D n vc vo vd f gm cm wy :=
  ⟨h.1.keep hb, h.2.1.keep hb, h.2.2.1.keep hb, h.2.2.2.1.below hb h.2.2.2.2, Nat.lt_of_lt_of_le h.2.2.2.2 hb.size⟩
end Go.Proofs.Ytmklnjkallhphaa

/- Places that a code may lose. -/
namespace Go.Proofs.Ytmklnjkallhphaa
open Go.RowKit Go.Sort

end Go.Proofs.Ytmklnjkallhphaa

/- Room ahead (slices.Grow of nothing). -/
namespace Go.Proofs.Ytmklnjkallhphaa
open Go.RowKit Go.Sort

end Go.Proofs.Ytmklnjkallhphaa

/- TwoL lists behind one another (slices.Concat). -/
namespace Go.Proofs.Ytmklnjkallhphaa
open Go.RowKit Go.Sort

def cat2 (n1 n2 : Nat) (a b : Nat → Int) : Nat → List Int
  | 0 => []
  | 1 => zl n1 a
  | _ => zl n1 a ++ zl n2 b
def sum2 (n1 n2 : Nat) : Nat → Nat
  | 0 => 0
  | 1 => n1
  | _ => n1 + n2
/-- One of two lists that lie in an array of two. -/
structure TwoL (B : Nat) (n1 n2 : Nat) (a b : Nat → Int) (w : World) : Prop where
  get : ∀ r, r < 2 → ∃ x n c z, w.cell? ⟨B, r, none⟩ = some (.slice x n c) ∧ SlZ x n z w ∧ LtB x w.heap.size ∧ (x = none → c = 0) ∧ sum2 n1 n2 r + n = sum2 n1 n2 (r + 1) ∧ cat2 n1 n2 a b r ++ zl n z = cat2 n1 n2 a b (r + 1)
theorem TwoL.below {B : Nat} {n1 n2 : Nat} {a b : Nat → Int} {w w' : World} (h : TwoL B n1 n2 a b w) (hb : Below w.heap.size w w') : TwoL B n1 n2 a b w' := ⟨fun r hr => by
  obtain ⟨x, n, c, z, h1, h2, h3, h4, h5, h6⟩ := h.get r hr
  exact ⟨x, n, c, z, ((bcell hb).1 B r (cell_lt h1)).trans h1, h2.below hb h3, fun y hy => Nat.lt_of_lt_of_le (h3 y hy) hb.size, h4, h5, h6⟩⟩
end Go.Proofs.Ytmklnjkallhphaa

/- Plain mathematics: what makes rows 0 is what the null rows span; the dual of the dual. No Go text here. -/
namespace Go.Proofs.Ytmklnjkallhphaa

theorem lcR_spn {D : FD} (F : Fld D) {K : Nat} {R : Nat → Nat → Nat} (p v : Nat → Nat) (hR : ∀ i, i < K → El D (R i)) : ∀ k, k ≤ K → Spn D (RowsOf K R) (lcR D R p v k)
  | 0, _ => spn_nil D _
  | k + 1, h => spn_add F (lcR_spn F p v hR k (by omega)) (spn_scale F _ (spn_mem F (hR k (by omega)) ⟨k, by omega, rfl⟩))
/-- At its own place a sum of rows is what was asked for. -/
theorem lcR_own {D : FD} (F : Fld D) {K : Nat} {R : Nat → Nat → Nat} {p v : Nat → Nat} (hv : El D v) (ho : ∀ i j, i < K → j < K → R i (p j) = if i = j then 1 else 0) {j : Nat} (hj : j < K) : ∀ k, k ≤ K → lcR D R p v k (p j) = if j < k then v (p j) else 0
  | 0, _ => by rw [if_neg (by omega)]; rfl
  | k + 1, h => by
    show D.ad (lcR D R p v k (p j)) (D.mul (v (p k)) (R k (p j))) = _
    rw [lcR_own F hv ho hj k (by omega), ho k j (by omega) hj]
    by_cases e : k = j
    · subst e
      rw [if_neg (by omega), if_pos rfl, if_pos (by omega), mul1 F (hv _), zero_ad F (hv _)]
    · rw [if_neg e, mul0 F]
      by_cases e2 : j < k
      · rw [if_pos e2, if_pos (by omega), ad_zero F (hv _)]
      · rw [if_neg e2, if_neg (by omega), ad_zero F (zero_lt' F)]
end Go.Proofs.Ytmklnjkallhphaa

/- Plain mathematics: the dual of the dual. No Go text here. -/
namespace Go.Proofs.Ytmklnjkallhphaa

/-- Of two increasing sequences of one length, the one within the other, none is left out. -/
theorem mono_within {p q : Nat → Nat} : ∀ k, (∀ i j, i < j → j < k → p i < p j) → (∀ i j, i < j → j < k → q i < q j) → (∀ i, i < k → ∃ j, j < k ∧ p i = q j) → ∀ i, i < k → p i = q i := by
  intro k hp hq hs
  have up : ∀ i, i < k → ∀ j, j < k → p i = q j → i ≤ j := fun i => by
    induction i with
    | zero => intro _ j _ _; exact Nat.zero_le _
    | succ i ih =>
      intro hi j hj e
      obtain ⟨l, hl, el⟩ := hs i (by omega)
      have h1 := ih (by omega) l hl el
      have h2 := hp i (i + 1) (by omega) hi
      have h3 : l < j := by
        rcases Nat.lt_or_ge l j with h | h
        · exact h
        · rcases Nat.lt_or_eq_of_le h with h | h
          · have := hq j l h hl; omega
          · subst h; omega
      omega
  have down : ∀ d i, i + d + 1 = k → ∀ j, j < k → p i = q j → j ≤ i := fun d => by
    induction d with
    | zero => intro i hi j hj _; omega
    | succ d ih =>
      intro i hi j hj e
      obtain ⟨l, hl, el⟩ := hs (i + 1) (by omega)
      have h1 := ih (i + 1) (by omega) l hl el
      have h2 := hp i (i + 1) (by omega) (by omega)
      have h3 : j < l := by
        rcases Nat.lt_or_ge j l with h | h
        · exact h
        · rcases Nat.lt_or_eq_of_le h with h | h
          · have := hq l j h hj; omega
          · subst h; omega
      omega
  intro i hi
  obtain ⟨j, hj, e⟩ := hs i hi
  have h1 := up i hi j hj e
  have h2 := down (k - 1 - i) i (by omega) j hj e
  have : j = i := by omega
  rw [e, this]
/-- Rows within others', as many in their one form: they span the same. -/
theorem rre_within {D : FD} (F : Fld D) {n k : Nat} {R R' : Nat → Nat → Nat} {p p' : Nat → Nat} (h : RRE D n k R p) (h' : RRE D n k R' p') (hs : ∀ v, Spn D (RowsOf k R) v → Spn D (RowsOf k R') v) (v : Nat → Nat) : Spn D (RowsOf k R) v ↔ Spn D (RowsOf k R') v := by
  refine ⟨hs v, fun hv => ?_⟩
  have hp : ∀ i, i < k → p i = p' i := mono_within k h.mono h'.mono (fun i hi => by
    have hl : Lead D (RowsOf k R) (p i) := (rre_lead F h (p i)).2 ⟨i, hi, rfl⟩
    obtain ⟨u, h1, h2⟩ := hl
    obtain ⟨j, hj, e⟩ := (rre_lead F h' (p i)).1 ⟨u, hs u h1, h2⟩
    exact ⟨j, hj, e⟩)
  have hc := lcR_spn F (K := k) (R := R) p v h.el k (Nat.le_refl _)
  have hd : Spn D (RowsOf k R') (psub D v (lcR D R p v k)) := spn_sub F hv (hs _ hc)
  have hz := rre_nil F h' hd (fun j hj => by
    show D.sb (v (p' j)) (lcR D R p v k (p' j)) = 0
    rw [← hp j hj, lcR_own F (hv.el F) (fun a b ha hb => by
      by_cases e : a = b
      · subst e; rw [if_pos rfl, h.one a ha]
      · rw [if_neg e, h.zero a b ha hb e]) hj k (Nat.le_refl _), if_pos hj, sb_self F (hv.el F _)])
  rw [psub_eq_nil F (hv.el F) (hc.el F) hz]
  exact hc
end Go.Proofs.Ytmklnjkallhphaa

/- Plain mathematics: how many rows sums and meets of codes have. No Go text here. -/
namespace Go.Proofs.Ytmklnjkallhphaa

theorem mono_few {p q : Nat → Nat} {k k' : Nat} (hp : ∀ i j, i < j → j < k → p i < p j) (hq : ∀ i j, i < j → j < k' → q i < q j) (hs : ∀ i, i < k → ∃ j, j < k' ∧ p i = q j) : k ≤ k' := by
  have up : ∀ i, i < k → ∀ j, j < k' → p i = q j → i ≤ j := fun i => by
    induction i with
    | zero => intro _ j _ _; exact Nat.zero_le _
    | succ i ih =>
      intro hi j hj e
      obtain ⟨l, hl, el⟩ := hs i (by omega)
      have h1 := ih (by omega) l hl el
      have h2 := hp i (i + 1) (by omega) hi
      have h3 : l < j := by
        rcases Nat.lt_or_ge l j with h | h
        · exact h
        · rcases Nat.lt_or_eq_of_le h with h | h
          · have := hq j l h hl; omega
          · subst h; omega
      omega
  rcases Nat.eq_zero_or_pos k with e | e
  · omega
  · obtain ⟨j, hj, ej⟩ := hs (k - 1) (by omega)
    have := up (k - 1) (by omega) j hj ej
    omega
/-- So many rows span it. -/
def Dim (D : FD) (n : Nat) (Q : (Nat → Nat) → Prop) (k : Nat) : Prop := ∃ R p, RRE D n k R p ∧ ∀ v, Spn D (RowsOf k R) v ↔ Q v
theorem Dim.uniq {D : FD} (F : Fld D) {n k k' : Nat} {Q Q' : (Nat → Nat) → Prop} (h : Dim D n Q k) (h' : Dim D n Q' k') (e : ∀ v, Q v ↔ Q' v) : k = k' := by
  obtain ⟨R, p, h1, h2⟩ := h
  obtain ⟨R', p', h3, h4⟩ := h'
  exact (rre_uniq F h1 h3 (fun v => (h2 v).trans ((e v).trans (h4 v).symm))).1
theorem Dim.congr {D : FD} {n k : Nat} {Q Q' : (Nat → Nat) → Prop} (h : Dim D n Q k) (e : ∀ v, Q v ↔ Q' v) : Dim D n Q' k := by
  obtain ⟨R, p, h1, h2⟩ := h
  exact ⟨R, p, h1, fun v => (h2 v).trans (e v)⟩
theorem Dim.spn {D : FD} (F : Fld D) {n k : Nat} {Q : (Nat → Nat) → Prop} (h : Dim D n Q k) (v : Nat → Nat) : Spn D Q v ↔ Q v := by
  obtain ⟨R, p, h1, h2⟩ := h
  refine ⟨fun hv => (h2 v).1 (spn_le F (fun u hu => (h2 u).2 hu) hv), fun hv => spn_mem F (((h2 v).2 hv).el F) hv⟩
theorem Dim.el {D : FD} (F : Fld D) {n k : Nat} {Q : (Nat → Nat) → Prop} (h : Dim D n Q k) {v : Nat → Nat} (hv : Q v) : El D v := ((h.spn F v).2 hv).el F
theorem Dim.add {D : FD} (F : Fld D) {n k : Nat} {Q : (Nat → Nat) → Prop} (h : Dim D n Q k) {u v : Nat → Nat} (hu : Q u) (hv : Q v) : Q (padd D u v) := (h.spn F _).1 (spn_add F ((h.spn F u).2 hu) ((h.spn F v).2 hv))
/-- A row more that it has not. -/
theorem Dim.next {D : FD} (hD : D ∈ fieldsL) {n k : Nat} {Q : (Nat → Nat) → Prop} (h : Dim D n Q k) {x : Nat → Nat} (ex : El D x) (bx : Bd n x) (hx : ¬ Q x) : Dim D n (Spn D (Wth Q x)) (k + 1) := by
  have F := fld hD
  obtain ⟨R, p, h1, h2⟩ := h
  obtain ⟨M, hM⟩ : ∃ M : Nat → Nat → Nat, M = fun i => if i < k then R i else x := ⟨_, rfl⟩
  have hrow : ∀ v, RowsOf (k + 1) M v ↔ Wth (RowsOf k R) x v := fun v => by
    rw [wth_rows]
    have a1 : ∀ i, i < k → M i = R i := fun i hi => by rw [hM]; exact if_pos hi
    have a2 : M k = x := by rw [hM]; exact if_neg (by omega)
    rw [a2]
    exact or_congr ⟨fun ⟨i, hi, e⟩ => ⟨i, hi, by rw [e, a1 i hi]⟩, fun ⟨i, hi, e⟩ => ⟨i, hi, by rw [a1 i hi]; exact e⟩⟩ Iff.rfl
  have hME : ∀ i, i < k + 1 → El D (M i) := fun i hi => by
    rw [hM]; show El D (if i < k then R i else x); split
    · exact h1.el i (by omega)
    · exact ex
  have hMB : ∀ i, i < k + 1 → Bd n (M i) := fun i hi => by
    rw [hM]; show Bd n (if i < k then R i else x); split
    · exact h1.bd i (by omega)
    · exact bx
  obtain ⟨k', R', p', hk', g1, g2⟩ := rre_ex hD hME hMB
  have hspan : ∀ v, Spn D (RowsOf k' R') v ↔ Spn D (Wth (RowsOf k R) x) v := fun v => (g2 v).trans (spn_congr hrow v)
  have hsub : ∀ v, Spn D (RowsOf k R) v → Spn D (RowsOf k' R') v := fun v hv => (hspan v).2 (spn_in hv)
  have hk : k ≤ k' := mono_few h1.mono g1.mono (fun i hi => by
    obtain ⟨u, u1, u2⟩ := (rre_lead F h1 (p i)).2 ⟨i, hi, rfl⟩
    obtain ⟨j, hj, e⟩ := (rre_lead F g1 (p i)).1 ⟨u, hsub u u1, u2⟩
    exact ⟨j, hj, e⟩)
  have hne : k ≠ k' := fun e => by
    subst e
    have := (rre_within F h1 g1 hsub x).2 ((hspan x).2 (spn_mem F ex (Or.inr rfl)))
    exact hx ((h2 x).1 this)
  have e : k' = k + 1 := by omega
  subst e
  refine ⟨R', p', g1, fun v => (hspan v).trans ⟨fun hv => ?_, fun hv => ?_⟩⟩
  · refine spn_le F (fun u hu => ?_) hv
    rcases hu with ⟨i, hi, e⟩ | e
    · exact spn_mem F (by rw [e]; exact h1.el i hi) (Or.inl ((h2 u).1 (by rw [e]; exact spn_mem F (h1.el i hi) ⟨i, hi, rfl⟩)))
    · rw [e]; exact spn_mem F ex (Or.inr rfl)
  · refine spn_le F (fun u hu => ?_) hv
    rcases hu with hu | e
    · exact spn_in ((h2 u).2 hu)
    · rw [e]; exact spn_mem F ex (Or.inr rfl)
end Go.Proofs.Ytmklnjkallhphaa

/- Plain mathematics: the rows of sum and meet together are both's. No Go text here. -/
namespace Go.Proofs.Ytmklnjkallhphaa

theorem RRE.take {D : FD} {n k j : Nat} {R : Nat → Nat → Nat} {p : Nat → Nat} (h : RRE D n k R p) (hj : j ≤ k) : RRE D n j R p :=
  ⟨fun i hi => h.el i (by omega), fun i hi => h.bd i (by omega), fun i hi => h.lt i (by omega), fun a b h1 h2 => h.mono a b h1 (by omega), fun i hi => h.one i (by omega), fun a b h1 h2 => h.zero a b (by omega) (by omega), fun i c hi => h.lead i c (by omega)⟩
end Go.Proofs.Ytmklnjkallhphaa

/- Plain mathematics: words without a place; the dual of the punctured dual. No Go text here. -/
namespace Go.Proofs.Ytmklnjkallhphaa

/-- A word with 0 put in at place a. -/
def wi (a : Nat) (u : Nat → Nat) : Nat → Nat := fun j => if j < a then u j else if j = a then 0 else u (j - 1)
end Go.Proofs.Ytmklnjkallhphaa

/- A word without a place (the reference's Without). -/
namespace Go.Proofs.Ytmklnjkallhphaa
open Go.RowKit Go.Sort

end Go.Proofs.Ytmklnjkallhphaa

/- A code without a place (the reference's Punctured). -/
namespace Go.Proofs.Ytmklnjkallhphaa
open Go.RowKit Go.Sort

theorem zl_cast_getD (n : Nat) (c : Nat → Nat) (k : Nat) (hk : k < (zl n fun j => ((c j : Nat) : Int)).length) : (zl n fun j => ((c j : Nat) : Int)).getD k 0 = (c k : Nat) := by
  rw [zl_len] at hk
  exact zl_getD _ _ _ hk
theorem own_elm {base n2 : Nat} {v : Value} {c : Nat → Nat} {w : World} (h : OwnI base v (zl (n2 + 1) fun j => ((c j : Nat) : Int)) w) : Elm v (n2, c) w := by
  have h1 := h.ownC c (fun k hk => zl_cast_getD _ _ _ hk)
  rw [zl_len] at h1
  exact h1.elm

end Go.Proofs.Ytmklnjkallhphaa

/- A code without a place (the program's puncture). -/
namespace Go.Proofs.Ytmklnjkallhphaa
open Go.RowKit Go.Sort

end Go.Proofs.Ytmklnjkallhphaa

/- Puncture, with its check. -/
namespace Go.Proofs.Ytmklnjkallhphaa
open Go.RowKit Go.Sort

end Go.Proofs.Ytmklnjkallhphaa

/- Shorten, with its check. -/
namespace Go.Proofs.Ytmklnjkallhphaa
open Go.RowKit Go.Sort

/-- The one form of the words that are 0 at place a, without it. -/
def ShR (D : FD) (N1 a m : Nat) (M : Nat → Nat → Nat) (k : Nat) (R : Nat → Nat → Nat) : Prop := ∃ p, RRE D N1 k R p ∧ ∀ u, Spn D (RowsOf k R) u ↔ El D u ∧ Bd N1 u ∧ Spn D (RowsOf m M) (wi a u)
theorem ShR.uniq {D : FD} (F : Fld D) {N1 a m k k' : Nat} {M R R' : Nat → Nat → Nat} (h : ShR D N1 a m M k R) (h' : ShR D N1 a m M k' R') : k = k' ∧ ∀ i, i < k → R i = R' i := by
  obtain ⟨p, h1, h2⟩ := h
  obtain ⟨p', h1', h2'⟩ := h'
  exact Red.uniq F (m := k) (M := R) (m' := k') (M' := R') ⟨p, h1, fun _ => Iff.rfl⟩ ⟨p', h1', fun _ => Iff.rfl⟩ (fun v => (h2 v).trans (h2' v).symm)
theorem ShR.le {D : FD} {N1 a m k : Nat} {M R : Nat → Nat → Nat} (h : ShR D N1 a m M k R) : k ≤ N1 := by
  obtain ⟨p, h1, h2⟩ := h
  exact Red.le (m := k) (M := R) ⟨p, h1, fun _ => Iff.rfl⟩

end Go.Proofs.Ytmklnjkallhphaa

/- Codes out of raw numbers (Few, CodeOf). -/
namespace Go.Proofs.Ytmklnjkallhphaa
open Go.RowKit Go.Sort

theorem blw_mchk6 {D : FD} {m c : Nat} {Z : Nat → Nat → Int} (hm : m ≤ 64) (hc0 : 1 ≤ c) (hc : c ≤ 64) (h : ∀ i, i < m → Blw D.q c (Z i)) : D.mchk m (fun _ => c) Z = 0 := by
  refine mchk_of hm (fun i hi => ?_)
  unfold FD.mrow
  rw [if_neg (by omega), if_neg (by omega), if_pos]
  refine allHas_iff.2 (fun j hj => ?_)
  have := h i hi j hj
  unfold FD.has
  rw [decide_eq_true_eq]; exact this
theorem pick_nat6 {m : Int} {k : Nat} (hk : 0 < k) : ∃ M : Nat, pick m (k : Int) = (M : Int) ∧ M < k := by
  have h1 := pick_lo m (k : Int) (by omega)
  have h2 := pick_hi m (k : Int) (by omega)
  exact ⟨(pick m (k : Int)).toNat, by omega, by omega⟩
/-- Rows of raw numbers are rows of a code. -/
theorem MkS.cdz {D : FD} {base n r : Nat} {v : Value} {vs : Nat → Value} {Z : Nat → Nat → Int} {w : World} (h : MkS base D.q n r v vs Z w) (hr : r ≤ 64) (hn1 : 1 ≤ n) (hn : n ≤ 64) : ∃ mo mc, v = .slice mo r mc ∧ CdZ D mo r n (fun j => slA (vs j)) (fun _ => n) (fun j => slC (vs j)) Z w := by
  obtain ⟨mo, mc, rfl, hz⟩ := h.matZ (by omega)
  exact ⟨mo, mc, rfl, hz, blw_mchk6 hr hn1 hn h.blw, fun _ => rfl, hn1, hn⟩
end Go.Proofs.Ytmklnjkallhphaa

/- Codes in hand: what was told is handed in again (Sum, Meet, Make, Dual). -/
namespace Go.Proofs.Ytmklnjkallhphaa
open Go.RowKit Go.Sort

/-- A code that can be handed in, of the rows M. -/
def Cod (D : FD) (n : Nat) (ao : Option Addr) (m : Nat) (M : Nat → Nat → Nat) (w : World) : Prop := ∃ A N C Z, CdZ D ao m n A N C Z w ∧ ∀ i, i < m → mzc N Z i = M i
theorem Cod.below {D : FD} {n m : Nat} {ao : Option Addr} {M : Nat → Nat → Nat} {w w' : World} (h : Cod D n ao m M w) (hb : Below w.heap.size w w') : Cod D n ao m M w' := by
  obtain ⟨A, N, C, Z, h1, h2⟩ := h
  exact ⟨A, N, C, Z, h1.below hb, h2⟩
theorem Cod.rows {D : FD} (F : Fld D) {n m : Nat} {ao : Option Addr} {M : Nat → Nat → Nat} {w : World} (h : Cod D n ao m M w) : m ≤ 64 ∧ (1 ≤ n ∧ n ≤ 64) ∧ ∀ i, i < m → El D (M i) ∧ Bd n (M i) := by
  obtain ⟨A, N, C, Z, h1, h2⟩ := h
  obtain ⟨g1, g2, g3, _⟩ := h1.rows F
  exact ⟨g1, ⟨h1.n1, h1.n64⟩, fun i hi => by rw [← h2 i hi]; exact ⟨g2 i hi, g3 i hi⟩⟩
theorem MV.cod {D : FD} {B n k : Nat} {ro : Option Addr} {rc : Nat} {R : Nat → Nat → Nat} {w : World} (h : MV B (.slice ro k rc) k n R w) (hn1 : 1 ≤ n) (hn : n ≤ 64) (hk : k ≤ 64) (he : ∀ i, i < k → El D (R i)) (hb : ∀ i, i < k → Bd n (R i)) : Cod D n ro k R w := by
  obtain ⟨A, C, hc⟩ := (h.rlz (by omega)).cdz (D := D) hn1 hn hk he
  exact ⟨A, _, C, _, hc, fun i hi => mzc_rows hb i hi⟩
theorem Cod.chk {D : FD} (hD : D ∈ fieldsL) {n m : Nat} (ca : Nat) {ao : Option Addr} {M : Nat → Nat → Nat} {w : World} (h : Cod D n ao m M w) (wx : World) (hx : Below w.heap.size w wx) :
    Calls Try.prog 43 #[.agg #[.int .i64 D.q, .int .i64 (n : Nat), .slice ao m ca]] wx fun x w' => x = .returned (.int .i64 0) ∧ Below wx.heap.size wx w' := by
  obtain ⟨A, N, C, Z, h1, _⟩ := h.below hx
  have e : D.cchk (n : Nat) m N Z = 0 := by
    have a1 := h1.n1
    have a2 := h1.n64
    unfold FD.cchk
    rw [if_neg (by omega), h1.chk, if_neg (fun h => h rfl), if_neg]
    rintro ⟨b1, b2⟩
    exact b2 (by rw [h1.wd b1])
  have := ccheck_any hD (ca := ca) (n : Nat) h1.mat (h1.few (fld hD))
  rw [e] at this
  exact this
theorem Red.of_eq {D : FD} {n m k : Nat} {M M' R : Nat → Nat → Nat} (h : Red D n m M k R) (e : ∀ i, i < m → M i = M' i) : Red D n m M' k R := by
  obtain ⟨p, h1, h2⟩ := h
  exact ⟨p, h1, fun v => (h2 v).trans (rows_congr e v)⟩
theorem Cod.make {D : FD} (hD : D ∈ fieldsL) {n m : Nat} (ca : Nat) {ao : Option Addr} {M : Nat → Nat → Nat} {w : World} (h : Cod D n ao m M w) :
    Calls Try.prog 34 #[.agg #[.int .i64 D.q, .int .i64 (n : Nat), .slice ao m ca]] w fun x w' => ∃ k R ro rc, x = .returned (.tuple #[.agg #[.int .i64 D.q, .int .i64 (n : Nat), .slice ro k rc], .int .i64 0]) ∧ (Cod D n ro k R w' ∧ RL (.slice ro k rc) k n R w') ∧ Red D n m M k R ∧ Below w.heap.size w w' := by
  have hr := h.rows (fld hD)
  have hc := h.chk hD ca
  obtain ⟨A, N, C, Z, h1, h2⟩ := h
  refine (cMake_ok hD h1 hc).mono ?_
  rintro x w' ⟨k, R, ro, rc, rfl, hmv, hred, hb⟩
  have hkn := hred.le
  exact ⟨k, R, ro, rc, rfl, ⟨hmv.cod hr.2.1.1 hr.2.1.2 (by omega) hred.rows.1 hred.rows.2, hmv.rl⟩, hred.of_eq h2, hb⟩
theorem Cod.dual {D : FD} (hD : D ∈ fieldsL) {n m : Nat} (ca : Nat) {ao : Option Addr} {M : Nat → Nat → Nat} {w : World} (h : Cod D n ao m M w) :
    Calls Try.prog 24 #[.agg #[.int .i64 D.q, .int .i64 (n : Nat), .slice ao m ca]] w fun x w' => ∃ k R ro rc, x = .returned (.tuple #[.agg #[.int .i64 D.q, .int .i64 (n : Nat), .slice ro k rc], .int .i64 0]) ∧ (Cod D n ro k R w' ∧ RL (.slice ro k rc) k n R w') ∧ Dul D n m M k R ∧ Below w.heap.size w w' := by
  have hr := h.rows (fld hD)
  have hc := h.chk hD ca
  obtain ⟨A, N, C, Z, h1, h2⟩ := h
  refine (cDual_ok hD h1 hc).mono ?_
  rintro x w' ⟨k, R, ro, rc, rfl, hmv, hdu, hb⟩
  have hkn := hdu.le
  exact ⟨k, R, ro, rc, rfl, ⟨hmv.cod hr.2.1.1 hr.2.1.2 (by omega) hdu.rows.1 hdu.rows.2, hmv.rl⟩, hdu.of_spn (fun v => rows_congr h2 v), hb⟩
theorem Cod.chkBoth {D : FD} (hD : D ∈ fieldsL) {n m m' : Nat} (ca cb : Nat) {ao bo : Option Addr} {M M' : Nat → Nat → Nat} {w : World} (h : Cod D n ao m M w) (h' : Cod D n bo m' M' w) (wx : World) (hx : Below w.heap.size w wx) :
    Calls Try.prog 46 #[.agg #[.int .i64 D.q, .int .i64 (n : Nat), .slice ao m ca], .agg #[.int .i64 D.q, .int .i64 (n : Nat), .slice bo m' cb]] wx fun x w' => x = .returned (.int .i64 0) ∧ Below wx.heap.size wx w' := by
  refine (checkBoth_any 0 0 D.q D.q (n : Nat) (n : Nat) (fun wy hy => h.chk hD ca wy (bel_up' hx hy)) (fun wy hy => h'.chk hD cb wy (bel_up' hx hy))).mono ?_
  rintro x w' ⟨rfl, hb⟩
  exact ⟨by rw [cboth, if_neg (fun h => h rfl), if_neg (fun h => h rfl), if_neg (by simp)], hb⟩
theorem apr_congr {m m' : Nat} {A A' B B' : Nat → Nat → Nat} (ha : ∀ i, i < m → A i = A' i) (hb : ∀ i, i < m' → B i = B' i) : ∀ i, i < m + m' → apr m A B i = apr m A' B' i := fun i hi => by
  unfold apr
  by_cases e : i < m
  · rw [if_pos e, if_pos e, ha i e]
  · rw [if_neg e, if_neg e, hb (i - m) (by omega)]
theorem Cod.sum {D : FD} (hD : D ∈ fieldsL) {n m m' : Nat} (ca cb : Nat) {ao bo : Option Addr} {M M' : Nat → Nat → Nat} {w : World} (h : Cod D n ao m M w) (h' : Cod D n bo m' M' w) :
    Calls Try.prog 26 #[.agg #[.int .i64 D.q, .int .i64 (n : Nat), .slice ao m ca], .agg #[.int .i64 D.q, .int .i64 (n : Nat), .slice bo m' cb]] w fun x w' => ∃ k R ro rc, x = .returned (.tuple #[.agg #[.int .i64 D.q, .int .i64 (n : Nat), .slice ro k rc], .int .i64 0]) ∧ (Cod D n ro k R w' ∧ RL (.slice ro k rc) k n R w') ∧ Red D n (m + m') (apr m M M') k R ∧ Below w.heap.size w w' := by
  have hr := h.rows (fld hD)
  have hc := h.chkBoth hD ca cb h'
  obtain ⟨A, N, C, Z, h1, h2⟩ := h
  obtain ⟨A', N', C', Z', h1', h2'⟩ := h'
  refine (cSum_ok hD h1 h1' hc).mono ?_
  rintro x w' ⟨k, R, ro, rc, rfl, hmv, hred, hb⟩
  have hkn := hred.le
  exact ⟨k, R, ro, rc, rfl, ⟨hmv.cod hr.2.1.1 hr.2.1.2 (by omega) hred.rows.1 hred.rows.2, hmv.rl⟩, hred.of_eq (apr_congr h2 h2'), hb⟩
/-- A code's variable, newly made. -/
theorem box_at (q n : Int) (v : Value) (w : World) : Below w.heap.size w (w.alloc (.cells #[.int .i64 q, .int .i64 n, v] 27)) ∧ CB w.heap.size q n v (w.alloc (.cells #[.int .i64 q, .int .i64 n, v] 27)) ∧ (w.alloc (.cells #[.int .i64 q, .int .i64 n, v] 27)).heap.size = w.heap.size + 1 :=
  ⟨(Below.refl _ _).alloc (Nat.le_refl _) _, CB.new _ _ _ _, by simp⟩
end Go.Proofs.Ytmklnjkallhphaa

/- Codes out of raw numbers (CodeOf). -/
namespace Go.Proofs.Ytmklnjkallhphaa
open Go.RowKit Go.Sort

theorem MkS.laid {base q c i b : Nat} {v : Value} {vs : Nat → Value} {Z : Nat → Nat → Int} {w : World} (h : MkS base q c i v vs Z w) (hb : b < base) (x y : Int) (u : Value) : MkS base q c i v vs Z (laid w b x y u) :=
  ⟨h.own.same (fun g hg => laid_heap w b x y u (by have := h.own.open_ge g hg; omega)), fun j hj => (h.row j hj).same (fun g hg => laid_heap w b x y u (by have := ((h.row j hj).lt g hg).1; omega)), h.blw⟩

end Go.Proofs.Ytmklnjkallhphaa

/- A region that draws its order: one of two operations comes next. No Go text here. -/
namespace Go.Proofs.Ytmklnjkallhphaa
open Go

end Go.Proofs.Ytmklnjkallhphaa

/- Codes in hand: Encode, Has; words of a code and of its dual. -/
namespace Go.Proofs.Ytmklnjkallhphaa
open Go.RowKit Go.Sort

/-- A word that was told: it can be handed in again. -/
def Wrd (n : Nat) (v : Nat → Nat) (gr c : Nat) (w : World) : Prop := Row gr n v w ∧ n ≤ c ∧ c ≤ 9223372036854775807
theorem Wrd.below {n gr c : Nat} {v : Nat → Nat} {w w' : World} (h : Wrd n v gr c w) (hb : Below w.heap.size w w') : Wrd n v gr c w' := ⟨h.1.below hb h.1.lt, h.2⟩
theorem Wrd.arg {n gr c : Nat} {v : Nat → Nat} {w : World} (h : Wrd n v gr c w) (hn : n ≤ 1000) : Arg (some ⟨gr, 0, none⟩) n c (fun i => ((v i : Nat) : Int)) w :=
  ⟨slz_of (h.1.sl (Nat.le_refl _)), fun x hx => by cases hx; exact h.1.lt, by omega, (fun e => by cases e), h.2.1, h.2.2⟩
end Go.Proofs.Ytmklnjkallhphaa

/- TopDual: the walk of the statement, whatever raw numbers it is given. -/
namespace Go.Proofs.Ytmklnjkallhphaa
open Go.RowKit Go.Sort

theorem Dul.red {D : FD} {n m k : Nat} {M R : Nat → Nat → Nat} (h : Dul D n m M k R) {m' : Nat} {M' : Nat → Nat → Nat} (hs : ∀ v, Spn D (RowsOf k R) v ↔ Spn D (RowsOf m' M') v) : Red D n m' M' k R := by
  obtain ⟨_, _, _, p, _, _, q1, _⟩ := h
  exact ⟨p, q1, hs⟩
/-- The dual's own one form. -/
theorem Dul.own {D : FD} {n m k : Nat} {M R : Nat → Nat → Nat} (h : Dul D n m M k R) : Red D n k R k R := h.red (fun _ => Iff.rfl)

end Go.Proofs.Ytmklnjkallhphaa

/- Plain mathematics: words with one number more, so that all together are 0. No Go text here. -/
namespace Go.Proofs.Ytmklnjkallhphaa

end Go.Proofs.Ytmklnjkallhphaa

/- Extend (the program's). -/
namespace Go.Proofs.Ytmklnjkallhphaa
open Go.RowKit Go.Sort

set_option maxHeartbeats 1000000 in
set_option maxRecDepth 100000 in
theorem cloneI_any {b off n cap : Nat} {z : Nat → Int} {w : World} (h : SlZ (some ⟨b, off, none⟩) n z w) (hn : n ≤ 1000000) (hl : b < w.heap.size) :
    Calls Try.prog 38 #[.slice (some ⟨b, off, none⟩) n cap] w fun e w' => ∃ v, e = .returned v ∧ OwnI w.heap.size v (zl n z) w' ∧ Below w.heap.size w w' := by
  have HS : Hid (SlZ (some ⟨b, off, none⟩) n z w ∧ LtB (some ⟨b, off, none⟩) w.heap.size) := ⟨h, fun x hx => by cases hx; exact hl⟩
  clear h hl
  have hrn : ∀ w1 : World, Sem.run Try.prog (binOp BinOp.eql 22 (Value.slice (some ⟨b, off, none⟩) n cap) (Value.slice none 0 0)) w1 = .ok (.bool false) w1 := fun w1 => Lib.run_eql_slice_nil w1 _ 3 (some ⟨b, off, none⟩) n cap 0 0 Try.underlying22
  go_enter Try.func38, Try.ntmps38
  go_wp2_with (at_builtin; refine append_ints rfl _ _ rfl w.heap.size _ [] rfl (own_empty (two_new _) (Nat.le_refl _)) (some ⟨b, off, none⟩) n cap z rfl (HS.out.1.below ((Below.refl _ _).alloc (Nat.le_refl _) _) HS.out.2) (fun e => by cases e) (by simpa using hn) (by simp) ?_; intro v' w' hown hgrow)
  go_ret
  exact ⟨_, rfl, hown, ((Below.refl _ _).alloc (Nat.le_refl _) _).grown hgrow (by simp) (by intro k hk; have hk : some w.heap.size = some k := hk; cases hk; exact Nat.le_refl _)⟩

end Go.Proofs.Ytmklnjkallhphaa

/- Plain mathematics: how many sets there are; Krawtchouk's numbers. No Go text here. -/
namespace Go.Proofs.Ytmklnjkallhphaa

/-- Of a product of two, the first j terms. -/
def cv (A B : Nat → Int) (k : Nat) : Nat → Int
  | 0 => 0
  | j + 1 => cv A B k j + A j * B (k - j)
end Go.Proofs.Ytmklnjkallhphaa

/- Weights: powers and numbers of sets (the program's power, over). -/
namespace Go.Proofs.Ytmklnjkallhphaa
open Go.RowKit

end Go.Proofs.Ytmklnjkallhphaa

/- Weights: Krawtchouk's numbers (the program's krawtchouk). -/
namespace Go.Proofs.Ytmklnjkallhphaa
open Go.RowKit

end Go.Proofs.Ytmklnjkallhphaa

/- Weights: Krawtchouk's numbers (the reference's Kraw). -/
namespace Go.Proofs.Ytmklnjkallhphaa
open Go.RowKit

/-- Whole numbers, below 0 too, in a row of the call's own. -/
def RowZ (g N : Nat) (z : Nat → Int) (w : World) : Prop := ∃ cap f, RowF g cap 3 f w ∧ N ≤ cap ∧ ∀ k, k < N → f k = .int .i64 (z k)
theorem RowZ.of {g N : Nat} {c : Nat → Nat} {w : World} (h : Row g N c w) : RowZ g N (fun k => ((c k : Nat) : Int)) w := by
  obtain ⟨cap, f, h1, h2, h3⟩ := h
  exact ⟨cap, f, h1, h2, h3⟩
theorem RowZ.cell {g N : Nat} {z : Nat → Int} {w : World} (h : RowZ g N z w) (k : Nat) (hk : k < N) : w.cell? ⟨g, k, none⟩ = some (.int .i64 (z k)) := by
  obtain ⟨cap, f, h1, h2, h3⟩ := h
  rw [h1.cell k (by omega), h3 k hk]
theorem RowZ.free {g N : Nat} {z : Nat → Int} {w : World} (h : RowZ g N z w) (k : Nat) : w.frozen? ⟨g, k, none⟩ = false := by
  obtain ⟨cap, f, h1, h2, h3⟩ := h
  exact h1.free k
theorem RowZ.store {g N : Nat} {z y : Nat → Int} {w : World} (h : RowZ g N z w) (k : Nat) (v : Int) (hd : ∀ j, j < N → y j = if j = k then v else z j) : RowZ g N y (w.setCell ⟨g, k, none⟩ (.int .i64 v)) := by
  obtain ⟨cap, f, h1, h2, h3⟩ := h
  refine ⟨cap, _, h1.store k _, h2, fun j hj => ?_⟩
  unfold upd
  rw [hd j hj]
  by_cases e : j = k
  · rw [if_pos e, if_pos e]
  · rw [if_neg e, if_neg e, h3 j hj]
theorem RowZ.congr {g N : Nat} {z y : Nat → Int} {w : World} (h : RowZ g N z w) (e : ∀ k, k < N → z k = y k) : RowZ g N y w := by
  obtain ⟨cap, f, h1, h2, h3⟩ := h
  exact ⟨cap, f, h1, h2, fun k hk => by rw [h3 k hk, e k hk]⟩
theorem RowZ.below {g N B : Nat} {z : Nat → Int} {w w' : World} (h : RowZ g N z w) (hb : Below B w w') (hB : g < B) : RowZ g N z w' := by
  obtain ⟨cap, f, h1, h2, h3⟩ := h
  exact ⟨cap, f, h1.below hb hB, h2, h3⟩
end Go.Proofs.Ytmklnjkallhphaa

/- Weights: what is said of a size and a length, on both sides (Check, CountMay). -/
namespace Go.Proofs.Ytmklnjkallhphaa
open Go.RowKit

end Go.Proofs.Ytmklnjkallhphaa

/- Weights: sums and looks by closures (the program's times, found, outside; Shows' closures). -/
namespace Go.Proofs.Ytmklnjkallhphaa
open Go.RowKit Go.Sort

/-- The sum of the first products. -/
def vsm (f K : Nat → Int) : Nat → Int
  | 0 => 0
  | r + 1 => vsm f K r + f r * K r
end Go.Proofs.Ytmklnjkallhphaa
