/- Texts of ours, one behind the other: I18 I19 I20 I21 I22 I23 S12 I24 I25 I26 S13 S14 S15 S16 K6. -/
import Derived.Test.YtmklnjkallhphaaZI10
import Derived.Test.YtmklnjkallhphaaZL14
import Derived.Test.YtmklnjkallhphaaZZ9
import Derived.Test.YtmklnjkallhphaaZS4
import Derived.Test.YtmklnjkallhphaaZI4
import Derived.Test.YtmklnjkallhphaaZX18
import Derived.Test.YtmklnjkallhphaaZI5
/- Make and Dual, with their checks. -/
namespace Go.Proofs.Ytmklnjkallhphaa
open Go.RowKit Go.Sort

set_option maxHeartbeats 4000000 in
set_option maxRecDepth 100000 in
theorem cMake_ok {D : FD} (hD : D ∈ fieldsL) {ao : Option Addr} {m n ca : Nat} {A : Nat → Option Addr} {N C : Nat → Nat} {Z : Nat → Nat → Int} {w : World} (ha : CdZ D ao m n A N C Z w)
    (hC : ∀ wx, Below w.heap.size w wx → Calls Try.prog 43 #[.agg #[.int .i64 D.q, .int .i64 (n : Nat), .slice ao m ca]] wx fun x w' => x = .returned (.int .i64 0) ∧ Below wx.heap.size wx w') :
    Calls Try.prog 34 #[.agg #[.int .i64 D.q, .int .i64 (n : Nat), .slice ao m ca]] w fun x w' => ∃ k R ro rc, x = .returned (.tuple #[.agg #[.int .i64 D.q, .int .i64 (n : Nat), .slice ro k rc], .int .i64 0]) ∧ MV w.heap.size (.slice ro k rc) k n R w' ∧ Red D n m (mzc N Z) k R ∧ Below w.heap.size w w' := by
  obtain ⟨w0, hw0⟩ : ∃ w0, w0 = (w.alloc (.cells #[.int .i64 D.q, .int .i64 (n : Nat), .slice ao m ca] 27)).alloc (.cells #[.int .i64 0, .int .i64 0, .slice none 0 0] 27) := ⟨_, rfl⟩
  have HW : Hid (Below w.heap.size w w0 ∧ RB (w.heap.size + 1) w0 ∧ CB w.heap.size D.q n (.slice ao m ca) w0 ∧ w0.heap.size = w.heap.size + 2) := by
    obtain ⟨h1, h2, h3, h4⟩ := two_boxes D.q n 0 0 (.slice ao m ca) (.slice none 0 0) w
    have h6 := RBt.new #[.int .i64 0, .int .i64 0, .slice none 0 0] (w.alloc (.cells #[.int .i64 D.q, .int .i64 (n : Nat), .slice ao m ca] 27))
    rw [show (w.alloc (.cells #[.int .i64 D.q, .int .i64 (n : Nat), .slice ao m ca] 27)).heap.size = w.heap.size + 1 by simp] at h6
    rw [hw0]; exact ⟨h1, RB.of h3 h6, h2, by simp⟩
  have HA : Hid (D ∈ fieldsL ∧ CdZ D ao m n A N C Z w) := ⟨hD, ha⟩
  have HC : Hid _ := hC
  have hn1 := ha.n1
  have hn := ha.n64
  clear hD ha hC
  go_enter Try.func34, Try.ntmps34
  go_wp2_with fail
  rw [← hw0]
  clear hw0
  refine (HC.out _ HW.out.1).mono ?_
  rintro x w1 ⟨rfl, hb1⟩
  have H1 : Hid (Below w.heap.size w w1 ∧ RB (w.heap.size + 1) w1 ∧ CB w.heap.size D.q n (.slice ao m ca) w1 ∧ w.heap.size + 2 ≤ w1.heap.size) := ⟨bel_up' HW.out.1 hb1, HW.out.2.1.keep hb1, HW.out.2.2.1.keep hb1, by have := hb1.size; have := HW.out.2.2.2; omega⟩
  clear hb1
  have hcb1 := H1.out.2.2.1
  obtain ⟨a0, a1, a2⟩ := hcb1
  go_wp2_with fail
  refine (oneForm_any HA.out.1 (HA.out.2.below H1.out.1)).mono ?_
  rintro x w2 ⟨k, R, ro, rc, rfl, hmv, hred, hb2⟩
  have H2 : Hid (MV w1.heap.size (.slice ro k rc) k n R w2 ∧ Red D n m (mzc N Z) k R ∧ Below w.heap.size w w2 ∧ RB (w.heap.size + 1) w2) := ⟨hmv, hred, bel_up' H1.out.1 hb2, H1.out.2.1.keep hb2⟩
  clear hmv hred hb2 a0 a1 a2
  obtain ⟨⟨x0, c0⟩, ⟨x1, c1⟩, ⟨x2, c2⟩, f0, f1, f2⟩ := H2.out.2.2.2
  go_wp2
  obtain ⟨w3, hw3⟩ : ∃ w3, w3 = laid w2 (w.heap.size + 1) D.q n (.slice ro k rc) := ⟨_, rfl⟩
  have H3 : Hid (CB (w.heap.size + 1) D.q n (.slice ro k rc) w3 ∧ MV w.heap.size (.slice ro k rc) k n R w3 ∧ Below w.heap.size w w3) := by
    have := H1.out.2.2.2
    rw [hw3]; exact ⟨laid_cb H2.out.2.2.2 _ _ _, (laid_mv H2.out.1 (by omega) _ _ _).mono (by omega), laid_below H2.out.2.2.1 (by omega) _ _ _⟩
  unfold laid at hw3
  rw [← hw3]
  clear hw3 c0 c1 c2 f0 f1 f2
  obtain ⟨c0, c1, c2⟩ := H3.out.1
  refine bodyPost_ret (v := .tuple #[.agg #[.int .i64 D.q, .int .i64 (n : Nat), .slice ro k rc], .int .i64 0]) (by simp [results, Try.results34, go_sem, c0, c1, c2]) rfl ?_
  exact ⟨_, R, _, _, rfl, H3.out.2.1, H2.out.2.1, H3.out.2.2⟩
set_option maxHeartbeats 4000000 in
set_option maxRecDepth 100000 in
theorem cDual_ok {D : FD} (hD : D ∈ fieldsL) {ao : Option Addr} {m n ca : Nat} {A : Nat → Option Addr} {N C : Nat → Nat} {Z : Nat → Nat → Int} {w : World} (ha : CdZ D ao m n A N C Z w)
    (hC : ∀ wx, Below w.heap.size w wx → Calls Try.prog 43 #[.agg #[.int .i64 D.q, .int .i64 (n : Nat), .slice ao m ca]] wx fun x w' => x = .returned (.int .i64 0) ∧ Below wx.heap.size wx w') :
    Calls Try.prog 24 #[.agg #[.int .i64 D.q, .int .i64 (n : Nat), .slice ao m ca]] w fun x w' => ∃ k R ro rc, x = .returned (.tuple #[.agg #[.int .i64 D.q, .int .i64 (n : Nat), .slice ro k rc], .int .i64 0]) ∧ MV w.heap.size (.slice ro k rc) k n R w' ∧ Dul D n m (mzc N Z) k R ∧ Below w.heap.size w w' := by
  obtain ⟨w0, hw0⟩ : ∃ w0, w0 = (w.alloc (.cells #[.int .i64 D.q, .int .i64 (n : Nat), .slice ao m ca] 27)).alloc (.cells #[.int .i64 0, .int .i64 0, .slice none 0 0] 27) := ⟨_, rfl⟩
  have HW : Hid (Below w.heap.size w w0 ∧ RB (w.heap.size + 1) w0 ∧ CB w.heap.size D.q n (.slice ao m ca) w0 ∧ w0.heap.size = w.heap.size + 2) := by
    obtain ⟨h1, h2, h3, h4⟩ := two_boxes D.q n 0 0 (.slice ao m ca) (.slice none 0 0) w
    have h6 := RBt.new #[.int .i64 0, .int .i64 0, .slice none 0 0] (w.alloc (.cells #[.int .i64 D.q, .int .i64 (n : Nat), .slice ao m ca] 27))
    rw [show (w.alloc (.cells #[.int .i64 D.q, .int .i64 (n : Nat), .slice ao m ca] 27)).heap.size = w.heap.size + 1 by simp] at h6
    rw [hw0]; exact ⟨h1, RB.of h3 h6, h2, by simp⟩
  have HA : Hid (D ∈ fieldsL ∧ CdZ D ao m n A N C Z w) := ⟨hD, ha⟩
  have HC : Hid _ := hC
  have hn1 := ha.n1
  have hn := ha.n64
  clear hD ha hC
  go_enter Try.func24, Try.ntmps24
  go_wp2_with fail
  rw [← hw0]
  clear hw0
  refine (HC.out _ HW.out.1).mono ?_
  rintro x w1 ⟨rfl, hb1⟩
  have H1 : Hid (Below w.heap.size w w1 ∧ RB (w.heap.size + 1) w1 ∧ CB w.heap.size D.q n (.slice ao m ca) w1 ∧ w.heap.size + 2 ≤ w1.heap.size) := ⟨bel_up' HW.out.1 hb1, HW.out.2.1.keep hb1, HW.out.2.2.1.keep hb1, by have := hb1.size; have := HW.out.2.2.2; omega⟩
  clear hb1
  have hcb1 := H1.out.2.2.1
  obtain ⟨a0, a1, a2⟩ := hcb1
  go_wp2_with fail
  refine (dual_any HA.out.1 (HA.out.2.below H1.out.1)).mono ?_
  rintro x w2 ⟨k, R, ro, rc, rfl, hmv, hred, hb2⟩
  have H2 : Hid (MV w1.heap.size (.slice ro k rc) k n R w2 ∧ Dul D n m (mzc N Z) k R ∧ Below w.heap.size w w2 ∧ RB (w.heap.size + 1) w2) := ⟨hmv, hred, bel_up' H1.out.1 hb2, H1.out.2.1.keep hb2⟩
  clear hmv hred hb2 a0 a1 a2
  obtain ⟨⟨x0, c0⟩, ⟨x1, c1⟩, ⟨x2, c2⟩, f0, f1, f2⟩ := H2.out.2.2.2
  go_wp2
  obtain ⟨w3, hw3⟩ : ∃ w3, w3 = laid w2 (w.heap.size + 1) D.q n (.slice ro k rc) := ⟨_, rfl⟩
  have H3 : Hid (CB (w.heap.size + 1) D.q n (.slice ro k rc) w3 ∧ MV w.heap.size (.slice ro k rc) k n R w3 ∧ Below w.heap.size w w3) := by
    have := H1.out.2.2.2
    rw [hw3]; exact ⟨laid_cb H2.out.2.2.2 _ _ _, (laid_mv H2.out.1 (by omega) _ _ _).mono (by omega), laid_below H2.out.2.2.1 (by omega) _ _ _⟩
  unfold laid at hw3
  rw [← hw3]
  clear hw3 c0 c1 c2 f0 f1 f2
  obtain ⟨c0, c1, c2⟩ := H3.out.1
  refine bodyPost_ret (v := .tuple #[.agg #[.int .i64 D.q, .int .i64 (n : Nat), .slice ro k rc], .int .i64 0]) (by simp [results, Try.results24, go_sem, c0, c1, c2]) rfl ?_
  exact ⟨_, R, _, _, rfl, H3.out.2.1, H2.out.2.1, H3.out.2.2⟩
end Go.Proofs.Ytmklnjkallhphaa

/- Weights and distances of words, on both sides. -/
namespace Go.Proofs.Ytmklnjkallhphaa
open Go.RowKit Go.Sort

end Go.Proofs.Ytmklnjkallhphaa

/- Numbers of a word: may they be? The program's numbers. -/
namespace Go.Proofs.Ytmklnjkallhphaa
open Go.RowKit Go.Sort

end Go.Proofs.Ytmklnjkallhphaa

/- Encode: the sum of the rows of the one form. -/
namespace Go.Proofs.Ytmklnjkallhphaa
open Go.RowKit Go.Sort

/-- The sum of the first rows, each so many times. -/
def enw (D : FD) (R : Nat → Nat → Nat) (z : Nat → Nat) : Nat → Nat → Nat
  | 0 => pnil
  | k + 1 => padd D (enw D R z k) (pscale D (z k) (R k))
end Go.Proofs.Ytmklnjkallhphaa

/- Encoded: the reference's sum of rows. -/
namespace Go.Proofs.Ytmklnjkallhphaa
open Go.RowKit Go.Sort

end Go.Proofs.Ytmklnjkallhphaa

/- Encode: where there is nothing to tell. -/
namespace Go.Proofs.Ytmklnjkallhphaa
open Go.RowKit Go.Sort

end Go.Proofs.Ytmklnjkallhphaa

/- Plain mathematics: products of rows; what makes rows 0. No Go text here. -/
namespace Go.Proofs.Ytmklnjkallhphaa

end Go.Proofs.Ytmklnjkallhphaa

/- WordMay and Dot of the reference. -/
namespace Go.Proofs.Ytmklnjkallhphaa
open Go.RowKit Go.Sort

end Go.Proofs.Ytmklnjkallhphaa

/- Syndrome and Has. -/
namespace Go.Proofs.Ytmklnjkallhphaa
open Go.RowKit Go.Sort

end Go.Proofs.Ytmklnjkallhphaa

/- Has. -/
namespace Go.Proofs.Ytmklnjkallhphaa
open Go.RowKit Go.Sort

theorem slz_of {ao : Option Addr} {n : Nat} {a : Nat → Nat} {w : World} (h : Sl ao n a w) : SlZ ao n (fun i => ((a i : Nat) : Int)) w := h
end Go.Proofs.Ytmklnjkallhphaa

/- Plain mathematics: what makes rows 0 is what the null rows span; the dual of the dual. No Go text here. -/
namespace Go.Proofs.Ytmklnjkallhphaa

theorem lcR_spn {D : FD} (F : Fld D) {K : Nat} {R : Nat → Nat → Nat} (p v : Nat → Nat) (hR : ∀ i, i < K → El D (R i)) : ∀ k, k ≤ K → Spn D (RowsOf K R) (lcR D R p v k)
  | 0, _ => spn_nil D _
  | k + 1, h => spn_add F (lcR_spn F p v hR k (by omega)) (spn_scale F _ (spn_mem F (hR k (by omega)) ⟨k, by omega, rfl⟩))
/-- At its own place a sum of rows is what was asked for. -/
theorem lcR_own {D : FD} (F : Fld D) {K : Nat} {R : Nat → Nat → Nat} {p v : Nat → Nat} (hv : El D v) (ho : ∀ i j, i < K → j < K → R i (p j) = if i = j then 1 else 0) {j : Nat} (hj : j < K) : ∀ k, k ≤ K → lcR D R p v k (p j) = if j < k then v (p j) else 0
  | 0, _ => by rw [if_neg (by omega)]; rfl
  | k + 1, h => by
    show D.ad (lcR D R p v k (p j)) (D.mul (v (p k)) (R k (p j))) = _
    rw [lcR_own F hv ho hj k (by omega), ho k j (by omega) hj]
    by_cases e : k = j
    · subst e
      rw [if_neg (by omega), if_pos rfl, if_pos (by omega), mul1 F (hv _), zero_ad F (hv _)]
    · rw [if_neg e, mul0 F]
      by_cases e2 : j < k
      · rw [if_pos e2, if_pos (by omega), ad_zero F (hv _)]
      · rw [if_neg e2, if_neg (by omega), ad_zero F (zero_lt' F)]
end Go.Proofs.Ytmklnjkallhphaa

/- Plain mathematics: the dual of the dual. No Go text here. -/
namespace Go.Proofs.Ytmklnjkallhphaa

/-- Of two increasing sequences of one length, the one within the other, none is left out. -/
theorem mono_within {p q : Nat → Nat} : ∀ k, (∀ i j, i < j → j < k → p i < p j) → (∀ i j, i < j → j < k → q i < q j) → (∀ i, i < k → ∃ j, j < k ∧ p i = q j) → ∀ i, i < k → p i = q i := by
  intro k hp hq hs
  have up : ∀ i, i < k → ∀ j, j < k → p i = q j → i ≤ j := fun i => by
    induction i with
    | zero => intro _ j _ _; exact Nat.zero_le _
    | succ i ih =>
      intro hi j hj e
      obtain ⟨l, hl, el⟩ := hs i (by omega)
      have h1 := ih (by omega) l hl el
      have h2 := hp i (i + 1) (by omega) hi
      have h3 : l < j := by
        rcases Nat.lt_or_ge l j with h | h
        · exact h
        · rcases Nat.lt_or_eq_of_le h with h | h
          · have := hq j l h hl; omega
          · subst h; omega
      omega
  have down : ∀ d i, i + d + 1 = k → ∀ j, j < k → p i = q j → j ≤ i := fun d => by
    induction d with
    | zero => intro i hi j hj _; omega
    | succ d ih =>
      intro i hi j hj e
      obtain ⟨l, hl, el⟩ := hs (i + 1) (by omega)
      have h1 := ih (i + 1) (by omega) l hl el
      have h2 := hp i (i + 1) (by omega) (by omega)
      have h3 : j < l := by
        rcases Nat.lt_or_ge j l with h | h
        · exact h
        · rcases Nat.lt_or_eq_of_le h with h | h
          · have := hq l j h hj; omega
          · subst h; omega
      omega
  intro i hi
  obtain ⟨j, hj, e⟩ := hs i hi
  have h1 := up i hi j hj e
  have h2 := down (k - 1 - i) i (by omega) j hj e
  have : j = i := by omega
  rw [e, this]
/-- Rows within others', as many in their one form: they span the same. -/
theorem rre_within {D : FD} (F : Fld D) {n k : Nat} {R R' : Nat → Nat → Nat} {p p' : Nat → Nat} (h : RRE D n k R p) (h' : RRE D n k R' p') (hs : ∀ v, Spn D (RowsOf k R) v → Spn D (RowsOf k R') v) (v : Nat → Nat) : Spn D (RowsOf k R) v ↔ Spn D (RowsOf k R') v := by
  refine ⟨hs v, fun hv => ?_⟩
  have hp : ∀ i, i < k → p i = p' i := mono_within k h.mono h'.mono (fun i hi => by
    have hl : Lead D (RowsOf k R) (p i) := (rre_lead F h (p i)).2 ⟨i, hi, rfl⟩
    obtain ⟨u, h1, h2⟩ := hl
    obtain ⟨j, hj, e⟩ := (rre_lead F h' (p i)).1 ⟨u, hs u h1, h2⟩
    exact ⟨j, hj, e⟩)
  have hc := lcR_spn F (K := k) (R := R) p v h.el k (Nat.le_refl _)
  have hd : Spn D (RowsOf k R') (psub D v (lcR D R p v k)) := spn_sub F hv (hs _ hc)
  have hz := rre_nil F h' hd (fun j hj => by
    show D.sb (v (p' j)) (lcR D R p v k (p' j)) = 0
    rw [← hp j hj, lcR_own F (hv.el F) (fun a b ha hb => by
      by_cases e : a = b
      · subst e; rw [if_pos rfl, h.one a ha]
      · rw [if_neg e, h.zero a b ha hb e]) hj k (Nat.le_refl _), if_pos hj, sb_self F (hv.el F _)])
  rw [psub_eq_nil F (hv.el F) (hc.el F) hz]
  exact hc
end Go.Proofs.Ytmklnjkallhphaa

/- Plain mathematics: how many rows sums and meets of codes have. No Go text here. -/
namespace Go.Proofs.Ytmklnjkallhphaa

theorem mono_few {p q : Nat → Nat} {k k' : Nat} (hp : ∀ i j, i < j → j < k → p i < p j) (hq : ∀ i j, i < j → j < k' → q i < q j) (hs : ∀ i, i < k → ∃ j, j < k' ∧ p i = q j) : k ≤ k' := by
  have up : ∀ i, i < k → ∀ j, j < k' → p i = q j → i ≤ j := fun i => by
    induction i with
    | zero => intro _ j _ _; exact Nat.zero_le _
    | succ i ih =>
      intro hi j hj e
      obtain ⟨l, hl, el⟩ := hs i (by omega)
      have h1 := ih (by omega) l hl el
      have h2 := hp i (i + 1) (by omega) hi
      have h3 : l < j := by
        rcases Nat.lt_or_ge l j with h | h
        · exact h
        · rcases Nat.lt_or_eq_of_le h with h | h
          · have := hq j l h hl; omega
          · subst h; omega
      omega
  rcases Nat.eq_zero_or_pos k with e | e
  · omega
  · obtain ⟨j, hj, ej⟩ := hs (k - 1) (by omega)
    have := up (k - 1) (by omega) j hj ej
    omega
/-- So many rows span it. -/
def Dim (D : FD) (n : Nat) (Q : (Nat → Nat) → Prop) (k : Nat) : Prop := ∃ R p, RRE D n k R p ∧ ∀ v, Spn D (RowsOf k R) v ↔ Q v
theorem Dim.uniq {D : FD} (F : Fld D) {n k k' : Nat} {Q Q' : (Nat → Nat) → Prop} (h : Dim D n Q k) (h' : Dim D n Q' k') (e : ∀ v, Q v ↔ Q' v) : k = k' := by
  obtain ⟨R, p, h1, h2⟩ := h
  obtain ⟨R', p', h3, h4⟩ := h'
  exact (rre_uniq F h1 h3 (fun v => (h2 v).trans ((e v).trans (h4 v).symm))).1
theorem Dim.congr {D : FD} {n k : Nat} {Q Q' : (Nat → Nat) → Prop} (h : Dim D n Q k) (e : ∀ v, Q v ↔ Q' v) : Dim D n Q' k := by
  obtain ⟨R, p, h1, h2⟩ := h
  exact ⟨R, p, h1, fun v => (h2 v).trans (e v)⟩
theorem Dim.spn {D : FD} (F : Fld D) {n k : Nat} {Q : (Nat → Nat) → Prop} (h : Dim D n Q k) (v : Nat → Nat) : Spn D Q v ↔ Q v := by
  obtain ⟨R, p, h1, h2⟩ := h
  refine ⟨fun hv => (h2 v).1 (spn_le F (fun u hu => (h2 u).2 hu) hv), fun hv => spn_mem F (((h2 v).2 hv).el F) hv⟩
theorem Dim.el {D : FD} (F : Fld D) {n k : Nat} {Q : (Nat → Nat) → Prop} (h : Dim D n Q k) {v : Nat → Nat} (hv : Q v) : El D v := ((h.spn F v).2 hv).el F
theorem Dim.add {D : FD} (F : Fld D) {n k : Nat} {Q : (Nat → Nat) → Prop} (h : Dim D n Q k) {u v : Nat → Nat} (hu : Q u) (hv : Q v) : Q (padd D u v) := (h.spn F _).1 (spn_add F ((h.spn F u).2 hu) ((h.spn F v).2 hv))
/-- A row more that it has not. -/
theorem Dim.next {D : FD} (hD : D ∈ fieldsL) {n k : Nat} {Q : (Nat → Nat) → Prop} (h : Dim D n Q k) {x : Nat → Nat} (ex : El D x) (bx : Bd n x) (hx : ¬ Q x) : Dim D n (Spn D (Wth Q x)) (k + 1) := by
  have F := fld hD
  obtain ⟨R, p, h1, h2⟩ := h
  obtain ⟨M, hM⟩ : ∃ M : Nat → Nat → Nat, M = fun i => if i < k then R i else x := ⟨_, rfl⟩
  have hrow : ∀ v, RowsOf (k + 1) M v ↔ Wth (RowsOf k R) x v := fun v => by
    rw [wth_rows]
    have a1 : ∀ i, i < k → M i = R i := fun i hi => by rw [hM]; exact if_pos hi
    have a2 : M k = x := by rw [hM]; exact if_neg (by omega)
    rw [a2]
    exact or_congr ⟨fun ⟨i, hi, e⟩ => ⟨i, hi, by rw [e, a1 i hi]⟩, fun ⟨i, hi, e⟩ => ⟨i, hi, by rw [a1 i hi]; exact e⟩⟩ Iff.rfl
  have hME : ∀ i, i < k + 1 → El D (M i) := fun i hi => by
    rw [hM]; show El D (if i < k then R i else x); split
    · exact h1.el i (by omega)
    · exact ex
  have hMB : ∀ i, i < k + 1 → Bd n (M i) := fun i hi => by
    rw [hM]; show Bd n (if i < k then R i else x); split
    · exact h1.bd i (by omega)
    · exact bx
  obtain ⟨k', R', p', hk', g1, g2⟩ := rre_ex hD hME hMB
  have hspan : ∀ v, Spn D (RowsOf k' R') v ↔ Spn D (Wth (RowsOf k R) x) v := fun v => (g2 v).trans (spn_congr hrow v)
  have hsub : ∀ v, Spn D (RowsOf k R) v → Spn D (RowsOf k' R') v := fun v hv => (hspan v).2 (spn_in hv)
  have hk : k ≤ k' := mono_few h1.mono g1.mono (fun i hi => by
    obtain ⟨u, u1, u2⟩ := (rre_lead F h1 (p i)).2 ⟨i, hi, rfl⟩
    obtain ⟨j, hj, e⟩ := (rre_lead F g1 (p i)).1 ⟨u, hsub u u1, u2⟩
    exact ⟨j, hj, e⟩)
  have hne : k ≠ k' := fun e => by
    subst e
    have := (rre_within F h1 g1 hsub x).2 ((hspan x).2 (spn_mem F ex (Or.inr rfl)))
    exact hx ((h2 x).1 this)
  have e : k' = k + 1 := by omega
  subst e
  refine ⟨R', p', g1, fun v => (hspan v).trans ⟨fun hv => ?_, fun hv => ?_⟩⟩
  · refine spn_le F (fun u hu => ?_) hv
    rcases hu with ⟨i, hi, e⟩ | e
    · exact spn_mem F (by rw [e]; exact h1.el i hi) (Or.inl ((h2 u).1 (by rw [e]; exact spn_mem F (h1.el i hi) ⟨i, hi, rfl⟩)))
    · rw [e]; exact spn_mem F ex (Or.inr rfl)
  · refine spn_le F (fun u hu => ?_) hv
    rcases hu with hu | e
    · exact spn_in ((h2 u).2 hu)
    · rw [e]; exact spn_mem F ex (Or.inr rfl)
end Go.Proofs.Ytmklnjkallhphaa

/- Plain mathematics: the rows of sum and meet together are both's. No Go text here. -/
namespace Go.Proofs.Ytmklnjkallhphaa

theorem RRE.take {D : FD} {n k j : Nat} {R : Nat → Nat → Nat} {p : Nat → Nat} (h : RRE D n k R p) (hj : j ≤ k) : RRE D n j R p :=
  ⟨fun i hi => h.el i (by omega), fun i hi => h.bd i (by omega), fun i hi => h.lt i (by omega), fun a b h1 h2 => h.mono a b h1 (by omega), fun i hi => h.one i (by omega), fun a b h1 h2 => h.zero a b (by omega) (by omega), fun i c hi => h.lead i c (by omega)⟩
end Go.Proofs.Ytmklnjkallhphaa

/- Codes out of raw numbers (Few, CodeOf). -/
namespace Go.Proofs.Ytmklnjkallhphaa
open Go.RowKit Go.Sort

theorem blw_mchk6 {D : FD} {m c : Nat} {Z : Nat → Nat → Int} (hm : m ≤ 64) (hc0 : 1 ≤ c) (hc : c ≤ 64) (h : ∀ i, i < m → Blw D.q c (Z i)) : D.mchk m (fun _ => c) Z = 0 := by
  refine mchk_of hm (fun i hi => ?_)
  unfold FD.mrow
  rw [if_neg (by omega), if_neg (by omega), if_pos]
  refine allHas_iff.2 (fun j hj => ?_)
  have := h i hi j hj
  unfold FD.has
  rw [decide_eq_true_eq]; exact this
/-- Rows of raw numbers are rows of a code. -/
theorem MkS.cdz {D : FD} {base n r : Nat} {v : Value} {vs : Nat → Value} {Z : Nat → Nat → Int} {w : World} (h : MkS base D.q n r v vs Z w) (hr : r ≤ 64) (hn1 : 1 ≤ n) (hn : n ≤ 64) : ∃ mo mc, v = .slice mo r mc ∧ CdZ D mo r n (fun j => slA (vs j)) (fun _ => n) (fun j => slC (vs j)) Z w := by
  obtain ⟨mo, mc, rfl, hz⟩ := h.matZ (by omega)
  exact ⟨mo, mc, rfl, hz, blw_mchk6 hr hn1 hn h.blw, fun _ => rfl, hn1, hn⟩
end Go.Proofs.Ytmklnjkallhphaa
