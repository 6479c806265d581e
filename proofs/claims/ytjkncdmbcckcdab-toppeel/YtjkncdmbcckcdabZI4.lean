/- Codes: one form, and the dual (the program's oneForm, unit, dual). -/
import Derived.Test.YtjkncdmbcckcdabZI1
import Derived.Test.YtjkncdmbcckcdabZX18
namespace Go.Proofs.Ytjkncdmbcckcdab
open Go.RowKit Go.Sort

/-- The reduced form of m rows. -/
def Red (D : FD) (n m : Nat) (M : Nat → Nat → Nat) (k : Nat) (R : Nat → Nat → Nat) : Prop := ∃ p, RRE D n k R p ∧ ∀ v, Spn D (RowsOf k R) v ↔ Spn D (RowsOf m M) v
theorem Red.uniq {D : FD} (F : Fld D) {n m m' k k' : Nat} {M M' R R' : Nat → Nat → Nat} (h : Red D n m M k R) (h' : Red D n m' M' k' R') (hs : ∀ v, Spn D (RowsOf m M) v ↔ Spn D (RowsOf m' M') v) : k = k' ∧ ∀ i, i < k → R i = R' i := by
  obtain ⟨p, h1, h2⟩ := h
  obtain ⟨p', h1', h2'⟩ := h'
  obtain ⟨e, h⟩ := rre_uniq F h1 h1' (fun v => ((h2 v).trans (hs v)).trans (h2' v).symm)
  exact ⟨e, fun i hi => (h i hi).2⟩
/-- The reduced form of what makes m rows 0. -/
def Dul (D : FD) (n m : Nat) (M : Nat → Nat → Nat) (k2 : Nat) (R2 : Nat → Nat → Nat) : Prop := ∃ k R p p2, RRE D n k R p ∧ (∀ v, Spn D (RowsOf k R) v ↔ Spn D (RowsOf m M) v) ∧ RRE D n k2 R2 p2 ∧ (∀ v, Spn D (RowsOf k2 R2) v ↔ Spn D (RowsOf (nct k p n) (nul D R p k n)) v) ∧ k2 = nct k p n
theorem Dul.uniq {D : FD} (F : Fld D) {n m m' k k' : Nat} {M M' R R' : Nat → Nat → Nat} (h : Dul D n m M k R) (h' : Dul D n m' M' k' R') (hs : ∀ v, Spn D (RowsOf m M) v ↔ Spn D (RowsOf m' M') v) : k = k' ∧ ∀ i, i < k → R i = R' i := by
  obtain ⟨a, A, q, q2, h1, h2, h3, h4, _⟩ := h
  obtain ⟨a', A', q', q2', h1', h2', h3', h4', _⟩ := h'
  obtain ⟨rfl, he⟩ := rre_uniq F h1 h1' (fun v => ((h2 v).trans (hs v)).trans (h2' v).symm)
  rw [nct_congr (fun i hi => (he i hi).1) _, nul_congr he _] at h4
  obtain ⟨e, h⟩ := rre_uniq F h3 h3' (fun v => (h4 v).trans (h4' v).symm)
  exact ⟨e, fun i hi => (h i hi).2⟩
theorem Dul.le {D : FD} {n m k : Nat} {M R : Nat → Nat → Nat} (h : Dul D n m M k R) : k ≤ n := by
  obtain ⟨a, A, q, q2, _, _, _, _, e⟩ := h
  rw [e]; exact nct_le _ _ _
theorem Dul.rows {D : FD} {n m k : Nat} {M R : Nat → Nat → Nat} (h : Dul D n m M k R) : (∀ i, i < k → El D (R i)) ∧ ∀ i, i < k → Bd n (R i) := by
  obtain ⟨a, A, q, q2, _, _, h3, _, e⟩ := h
  exact ⟨h3.el, h3.bd⟩
theorem Red.rows {D : FD} {n m k : Nat} {M R : Nat → Nat → Nat} (h : Red D n m M k R) : (∀ i, i < k → El D (R i)) ∧ ∀ i, i < k → Bd n (R i) := by
  obtain ⟨p, h3, _⟩ := h
  exact ⟨h3.el, h3.bd⟩
theorem rre_le {p : Nat → Nat} {n : Nat} : ∀ k, (∀ i j, i < j → j < k → p i < p j) → (∀ i, i < k → p i < n) → k ≤ n := by
  intro k hm hl
  have key : ∀ i, i < k → i ≤ p i := fun i => by
    induction i with
    | zero => intro _; omega
    | succ i ih =>
      intro hi
      have := ih (by omega)
      have := hm i (i + 1) (by omega) hi
      omega
  rcases Nat.eq_zero_or_pos k with h | h
  · omega
  · have := key (k - 1) (by omega)
    have := hl (k - 1) (by omega)
    omega
theorem Red.le {D : FD} {n m k : Nat} {M R : Nat → Nat → Nat} (h : Red D n m M k R) : k ≤ n := by
  obtain ⟨p, h3, _⟩ := h
  exact rre_le k h3.mono h3.lt
theorem RLz.congr {v : Value} {k n : Nat} {R R' : Nat → Nat → Nat} {w : World} (h : RLz v k n R w) (e : ∀ i, i < k → R i = R' i) : RLz v k n R' w := by
  obtain ⟨ao, ca, A, C, e1, hm⟩ := h
  exact ⟨ao, ca, A, C, e1, ⟨hm.cell, fun i hi => by have := hm.sl i hi; simp only [e i hi] at this; exact this, hm.le, hm.cap, hm.nil, hm.few⟩⟩
theorem RLz.below {v : Value} {k n : Nat} {R : Nat → Nat → Nat} {w w' : World} (h : RLz v k n R w) (hb : Below w.heap.size w w') : RLz v k n R w' := by
  obtain ⟨ao, ca, A, C, e, hm⟩ := h
  exact ⟨ao, ca, A, C, e, hm.below hb⟩
/-- A code's rows as they are handed in: m rows of n elements. -/
structure CdZ (D : FD) (ao : Option Addr) (m n : Nat) (A : Nat → Option Addr) (N C : Nat → Nat) (Z : Nat → Nat → Int) (w : World) : Prop where
  mat : MatZ ao m A N C Z w
  chk : D.mchk m N Z = 0
  wd : 0 < m → N 0 = n
  n1 : 1 ≤ n
  n64 : n ≤ 64
theorem CdZ.below {D : FD} {ao : Option Addr} {m n : Nat} {A : Nat → Option Addr} {N C : Nat → Nat} {Z : Nat → Nat → Int} {w w' : World} (h : CdZ D ao m n A N C Z w) (hb : Below w.heap.size w w') : CdZ D ao m n A N C Z w' := ⟨h.mat.below hb, h.chk, h.wd, h.n1, h.n64⟩
theorem CdZ.rows {D : FD} (F : Fld D) {ao : Option Addr} {m n : Nat} {A : Nat → Option Addr} {N C : Nat → Nat} {Z : Nat → Nat → Int} {w : World} (h : CdZ D ao m n A N C Z w) : m ≤ 64 ∧ (∀ i, i < m → El D (mzc N Z i)) ∧ (∀ i, i < m → Bd n (mzc N Z i)) ∧ MatR ao m (n - 1) (mzc N Z) w := by
  have hn := h.n1
  rcases Nat.eq_zero_or_pos m with e | e
  · exact ⟨by omega, fun i hi => absurd hi (by omega), fun i hi => absurd hi (by omega), fun i hi => absurd hi (by omega)⟩
  · obtain ⟨h1, n', h2, h3, h4, h5⟩ := mchk_rows F h.chk h.mat e
    have hn' : n' + 1 = n := by have := h.wd e; omega
    have e2 : n - 1 = n' := by omega
    rw [e2, ← hn']
    exact ⟨h1, fun i hi => (h4 i hi).2.1, fun i hi => (h4 i hi).2.2, h5⟩
theorem CdZ.few {D : FD} (F : Fld D) {ao : Option Addr} {m n : Nat} {A : Nat → Option Addr} {N C : Nat → Nat} {Z : Nat → Nat → Int} {w : World} (h : CdZ D ao m n A N C Z w) : m ≤ 1000000 := by
  have := (h.rows F).1
  omega
/-- What was told can be handed in. -/
theorem RLz.cdz {D : FD} {ao : Option Addr} {k n ca : Nat} {R : Nat → Nat → Nat} {w : World} (h : RLz (.slice ao k ca) k n R w) (hn1 : 1 ≤ n) (hn : n ≤ 64) (hk : k ≤ 64) (he : ∀ i, i < k → El D (R i)) : ∃ A C, CdZ D ao k n A (fun _ => n) C (fun i j => ((R i j : Nat) : Int)) w := by
  obtain ⟨ao', ca', A, C, e, hm⟩ := h
  cases e
  refine ⟨A, C, hm, mchk_of hk (fun i hi => ?_), fun _ => rfl, hn1, hn⟩
  unfold FD.mrow
  rw [if_neg (by omega), if_neg (by omega), if_pos]
  exact allHas_iff.2 (fun j _ => has_of_lt (he i hi j))
theorem mzc_rows {k n : Nat} {R : Nat → Nat → Nat} (hb : ∀ i, i < k → Bd n (R i)) (i : Nat) (hi : i < k) : mzc (fun _ => n) (fun i j => ((R i j : Nat) : Int)) i = R i := by
  funext j
  show (if j < n then Int.toNat _ else 0) = _
  split
  · rw [Int.toNat_natCast]
  · exact (hb i hi j (by omega)).symm
theorem rows_congr {D : FD} {k : Nat} {R R' : Nat → Nat → Nat} (h : ∀ i, i < k → R i = R' i) (v : Nat → Nat) : Spn D (RowsOf k R) v ↔ Spn D (RowsOf k R') v := by
  refine spn_congr (fun v => ⟨fun ⟨i, hi, e⟩ => ⟨i, hi, by rw [e, h i hi]⟩, fun ⟨i, hi, e⟩ => ⟨i, hi, by rw [e, h i hi]⟩⟩) v
/-- Where a call's answer is laid: three cells that may be written. -/
structure RB (b : Nat) (w : World) : Prop where
  c0 : ∃ v, w.cell? ⟨b, 0, none⟩ = some v
  c1 : ∃ v, w.cell? ⟨b, 1, none⟩ = some v
  c2 : ∃ v, w.cell? ⟨b, 2, none⟩ = some v
  f0 : w.frozen? ⟨b, 0, none⟩ = false
  f1 : w.frozen? ⟨b, 1, none⟩ = false
  f2 : w.frozen? ⟨b, 2, none⟩ = false
theorem RB.new (x y z : Value) (w : World) : RB w.heap.size (w.alloc (.cells #[x, y, z] 27)) :=
  ⟨⟨_, by rw [cell_of_row _ _ _ _ _ (0, 0) (two_new _)]; rfl⟩, ⟨_, by rw [cell_of_row _ _ _ _ _ (0, 0) (two_new _)]; rfl⟩, ⟨_, by rw [cell_of_row _ _ _ _ _ (0, 0) (two_new _)]; rfl⟩, frozen_of_row _ _ _ _ _ (two_new _), frozen_of_row _ _ _ _ _ (two_new _), frozen_of_row _ _ _ _ _ (two_new _)⟩
theorem RB.keep {b : Nat} {w w' : World} (h : RB b w) (hb : Below w.heap.size w w') : RB b w' := by
  obtain ⟨v0, h0⟩ := h.c0
  obtain ⟨v1, h1⟩ := h.c1
  obtain ⟨v2, h2⟩ := h.c2
  have hh := hb.block b (cell_lt h0)
  have e : ∀ o, w'.cell? ⟨b, o, none⟩ = w.cell? ⟨b, o, none⟩ := fun o => by simp [World.cell?, hh]
  have f : ∀ o, w'.frozen? ⟨b, o, none⟩ = w.frozen? ⟨b, o, none⟩ := fun o => by simp [World.frozen?, hh]
  exact ⟨⟨v0, (e 0).trans h0⟩, ⟨v1, (e 1).trans h1⟩, ⟨v2, (e 2).trans h2⟩, (f 0).trans h.f0, (f 1).trans h.f1, (f 2).trans h.f2⟩
theorem rre_none (D : FD) (n : Nat) (R : Nat → Nat → Nat) (p : Nat → Nat) : RRE D n 0 R p := ⟨fun i hi => absurd hi (by omega), fun i hi => absurd hi (by omega), fun i hi => absurd hi (by omega), fun i j _ hj => absurd hj (by omega), fun i hi => absurd hi (by omega), fun i j hi => absurd hi (by omega), fun i c hi => absurd hi (by omega)⟩
theorem RLz.none (ao : Option Addr) (ca n : Nat) (R : Nat → Nat → Nat) (w : World) : RLz (.slice ao 0 ca) 0 n R w :=
  ⟨ao, ca, fun _ => Option.none, fun _ => 0, rfl, ⟨fun i hi => absurd hi (by omega), fun i hi => absurd hi (by omega), fun i hi => absurd hi (by omega), fun i hi => absurd hi (by omega), fun i hi => absurd hi (by omega), fun i hi => absurd hi (by omega)⟩⟩

/-- The answer is laid. -/
def laid (w : World) (b : Nat) (q n : Int) (v : Value) : World := ((w.setCell ⟨b, 0, none⟩ (.int .i64 q)).setCell ⟨b, 1, none⟩ (.int .i64 n)).setCell ⟨b, 2, none⟩ v
theorem laid_cb {b : Nat} {w : World} (h : RB b w) (q n : Int) (v : Value) : CB b q n v (laid w b q n v) := by
  obtain ⟨v0, h0⟩ := h.c0
  obtain ⟨v1, h1⟩ := h.c1
  obtain ⟨v2, h2⟩ := h.c2
  have n01 : (⟨b, 0, none⟩ : Addr) ≠ ⟨b, 1, none⟩ := fun e => by cases e
  have n02 : (⟨b, 0, none⟩ : Addr) ≠ ⟨b, 2, none⟩ := fun e => by cases e
  have n12 : (⟨b, 1, none⟩ : Addr) ≠ ⟨b, 2, none⟩ := fun e => by cases e
  unfold laid
  refine ⟨?_, ?_, ?_⟩
  · rw [World.cell?_setCell_other _ _ _ _ n02.symm, World.cell?_setCell_other _ _ _ _ n01.symm, World.cell?_setCell_same _ _ _ h0]
  · rw [World.cell?_setCell_other _ _ _ _ n12.symm]
    exact World.cell?_setCell_same _ _ _ (by rw [World.cell?_setCell_other _ _ _ _ n01]; exact h1)
  · exact World.cell?_setCell_same _ _ _ (by rw [World.cell?_setCell_other _ _ _ _ n12, World.cell?_setCell_other _ _ _ _ n02]; exact h2)
theorem laid_heap (w : World) (b : Nat) (q n : Int) (v : Value) {g : Nat} (h : g ≠ b) : (laid w b q n v).heap[g]? = w.heap[g]? := by
  unfold laid
  rw [Below.heap_setCell _ _ _ _ h, Below.heap_setCell _ _ _ _ h, Below.heap_setCell _ _ _ _ h]
theorem laid_below {B b : Nat} {u w : World} (h : Below B u w) (hb : B ≤ b) (q n : Int) (v : Value) : Below B u (laid w b q n v) := ((h.setCell hb _).setCell hb _).setCell hb _
theorem laid_mv {B b : Nat} {w : World} {v : Value} {k n' : Nat} {R : Nat → Nat → Nat} (h : MV B v k n' R w) (hb : b < B) (q n : Int) (u : Value) : MV B v k n' R (laid w b q n u) := by
  rcases h with h | ⟨G, mc, m, hh, ev, hm⟩
  · exact Or.inl h
  · exact Or.inr ⟨G, mc, m, hh, ev, hm.keep (laid_heap w b q n u (by have := hm.geG; omega)) (fun i hi => laid_heap w b q n u (by have := hm.ge i hi; omega))⟩
theorem MV.mono {B B' : Nat} {v : Value} {k n : Nat} {R : Nat → Nat → Nat} {w : World} (h : MV B v k n R w) (hB : B' ≤ B) : MV B' v k n R w := by
  rcases h with h | ⟨G, mc, m, hh, ev, hm⟩
  · exact Or.inl h
  · exact Or.inr ⟨G, mc, m, hh, ev, hm.mono hB⟩
theorem Mx.less {B G m k j n : Nat} {R : Nat → Nat → Nat} {h : Nat → Nat} {w : World} (H : Mx B G m k n R h w) (hj : j ≤ k) : Mx B G m j n R h w := by
  obtain ⟨f, hf, hf'⟩ := H.outer
  exact ⟨⟨f, hf, fun i hi => hf' i (by omega)⟩, fun i hi => H.row i (by omega), H.geG, fun i hi => H.ge i (by omega), fun i hi j hj => H.inj i (by omega) j (by omega), fun i hi => H.ne i (by omega), by have := H.le; omega⟩

set_option maxHeartbeats 4000000 in
set_option maxRecDepth 100000 in
theorem oneForm_any {D : FD} (hD : D ∈ fieldsL) {ao : Option Addr} {m n ca : Nat} {A : Nat → Option Addr} {N C : Nat → Nat} {Z : Nat → Nat → Int} {w : World} (h : CdZ D ao m n A N C Z w) :
    Calls Try.prog 35 #[.int .i64 D.q, .int .i64 (n : Nat), .slice ao m ca] w fun e w' => ∃ k R ro rc, e = .returned (.agg #[.int .i64 D.q, .int .i64 (n : Nat), .slice ro k rc]) ∧ MV w.heap.size (.slice ro k rc) k n R w' ∧ Red D n m (mzc N Z) k R ∧ Below w.heap.size w w' := by
  obtain ⟨wa, hwa⟩ : ∃ wa, wa = w.alloc (.cells #[.int .i64 0, .int .i64 0, .slice none 0 0] 27) := ⟨_, rfl⟩
  have hba : Below w.heap.size w wa := by rw [hwa]; exact (Below.refl _ _).alloc (Nat.le_refl _) _
  have HA : Hid (D ∈ fieldsL ∧ CdZ D ao m n A N C Z w ∧ Below w.heap.size w wa ∧ RB w.heap.size wa ∧ w.heap.size < wa.heap.size) := ⟨hD, h, hba, by rw [hwa]; exact RB.new _ _ _ _, by rw [hwa]; simp⟩
  have hm := h.few (fld hD)
  clear hD h hba
  go_enter Try.func35, Try.ntmps35
  go_wp2_with fail
  rw [← hwa]
  clear hwa
  refine (mreduce_any HA.out.1 (HA.out.2.1.mat.below HA.out.2.2.1) hm).mono ?_
  rintro e w1 ⟨hb1, hr⟩
  rcases hr with ⟨h0, _⟩ | ⟨_, G, k, R', p, h', pv, W, rfl, hG, hW, hkm, hmx, hpv, hre, hsp⟩
  · exact absurd HA.out.2.1.chk h0
  · have H1 : Hid (MV wa.heap.size (.slice (some ⟨G, 0, none⟩) k m) k n R' w1 ∧ Red D n m (mzc N Z) k R' ∧ Below w.heap.size w w1 ∧ RB w.heap.size w1) := by
      rcases Nat.eq_zero_or_pos m with e | e
      · have hk0 : k = 0 := by omega
        subst hk0
        exact ⟨Or.inl ⟨rfl, _, _, rfl⟩, ⟨p, rre_none _ _ _ _, hsp⟩, bel_up' HA.out.2.2.1 hb1, HA.out.2.2.2.1.keep hb1⟩
      · have hWn : W = n := by rw [hW e, HA.out.2.1.wd e]
        subst hWn
        exact ⟨Or.inr ⟨G, m, m, h', rfl, hmx.less hkm⟩, ⟨p, hre, hsp⟩, bel_up' HA.out.2.2.1 hb1, HA.out.2.2.2.1.keep hb1⟩
    clear hb1 hG hW hkm hmx hpv hre hsp
    obtain ⟨⟨x0, c0⟩, ⟨x1, c1⟩, ⟨x2, c2⟩, f0, f1, f2⟩ := H1.out.2.2.2
    go_wp2
    obtain ⟨w2, hw2⟩ : ∃ w2, w2 = laid w1 w.heap.size D.q n (.slice (some ⟨G, 0, none⟩) k m) := ⟨_, rfl⟩
    have H2 : Hid (CB w.heap.size D.q n (.slice (some ⟨G, 0, none⟩) k m) w2 ∧ MV w.heap.size (.slice (some ⟨G, 0, none⟩) k m) k n R' w2 ∧ Below w.heap.size w w2) := by
      rw [hw2]
      exact ⟨laid_cb H1.out.2.2.2 _ _ _, (laid_mv H1.out.1 HA.out.2.2.2.2 _ _ _).mono (by have := HA.out.2.2.2.2; omega), laid_below H1.out.2.2.1 (Nat.le_refl _) _ _ _⟩
    unfold laid at hw2
    rw [← hw2]
    clear hw2 c0 c1 c2 f0 f1 f2
    obtain ⟨c0, c1, c2⟩ := H2.out.1
    refine bodyPost_ret (v := .agg #[.int .i64 D.q, .int .i64 (n : Nat), .slice (some ⟨G, 0, none⟩) k m]) (by simp [results, Try.results35, go_sem, c0, c1, c2]) rfl ?_
    exact ⟨k, R', _, _, rfl, H2.out.2.1, H1.out.2.1, H2.out.2.2⟩
end Go.Proofs.Ytjkncdmbcckcdab
