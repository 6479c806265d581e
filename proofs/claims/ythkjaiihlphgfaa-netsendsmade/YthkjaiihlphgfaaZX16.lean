/- Texts of ours, one behind the other: X16 S4 T9 X17 X18 S5. -/
import Derived.Test.YthkjaiihlphgfaaZX12
import Derived.Test.YthkjaiihlphgfaaZL10
import Derived.Test.YthkjaiihlphgfaaZL1
import Derived.Test.YthkjaiihlphgfaaZT3
import Derived.Test.YthkjaiihlphgfaaZR8
import Derived.Test.YthkjaiihlphgfaaZX11
/- The program's matrices: ranks (Rank); what is said where there is no field. -/
namespace Go.Proofs.Ythkjaiihlphgfaa
open Go.RowKit

set_option maxHeartbeats 4000000 in
set_option maxRecDepth 100000 in
theorem mrank_any {D : FD} (hD : D ∈ fieldsL) {ao : Option Addr} {m ca : Nat} {A : Nat → Option Addr} {N C : Nat → Nat} {Z : Nat → Nat → Int} {w : World} (ha : MatZ ao m A N C Z w) (hm : m ≤ 1000000) :
    Calls Try.prog 98 #[.int .i64 D.q, .slice ao m ca] w fun e w' => Below w.heap.size w w' ∧
      ((D.mchk m N Z ≠ 0 ∧ e = .returned (.tuple #[.int .i64 0, .int .i64 (D.mchk m N Z)])) ∨
       (D.mchk m N Z = 0 ∧ ∃ k R' p W, e = .returned (.tuple #[.int .i64 (k : Nat), .int .i64 0]) ∧ (0 < m → W = N 0) ∧ k ≤ m ∧ RRE D W k R' p ∧ ∀ v, Spn D (RowsOf k R') v ↔ Spn D (RowsOf m (mzc N Z)) v)) := by
  have HA : Hid (D ∈ fieldsL ∧ MatZ ao m A N C Z w) := ⟨hD, ha⟩
  clear hD ha
  go_enter Try.func98, Try.ntmps98
  go_wp2_with fail
  refine (mreduce_any HA.out.1 HA.out.2 hm).mono ?_
  rintro e w1 ⟨hb1, hr⟩
  rcases hr with ⟨h0, rfl⟩ | ⟨h0, G, k, R', p, h', pv, W, rfl, hG, hW, hk, hmx, hown, hR, hS⟩
  · have HW : Hid (D.mchk m N Z ≠ 0 ∧ Below w.heap.size w w1) := ⟨h0, hb1⟩
    clear h0 hb1
    go_wp2
    go_ret2
    exact ⟨HW.out.2, Or.inl ⟨HW.out.1, rfl⟩⟩
  · obtain ⟨po, pc, rfl, _⟩ := hown.argL
    have HW : Hid (D.mchk m N Z = 0 ∧ Below w.heap.size w w1 ∧ (0 < m → W = N 0) ∧ k ≤ m ∧ RRE D W k R' p ∧ ∀ v, Spn D (RowsOf k R') v ↔ Spn D (RowsOf m (mzc N Z)) v) := ⟨h0, hb1, hW, hk, hR, hS⟩
    clear h0 hb1 hG hW hmx hown hR hS
    go_wp2
    go_ret2
    exact ⟨HW.out.2.1, Or.inr ⟨HW.out.1, k, R', p, W, rfl, HW.out.2.2⟩⟩
end Go.Proofs.Ythkjaiihlphgfaa

/- Plain mathematics: one row for each column in which no row of a reduced form begins (Null). -/
namespace Go.Proofs.Ythkjaiihlphgfaa

/-- Of the first c columns, in how many none of the k rows begins. -/
def nct (k : Nat) (p : Nat → Nat) : Nat → Nat
  | 0 => 0
  | c + 1 => if ∀ i, i < k → p i ≠ c then nct k p c + 1 else nct k p c
/-- The i-th of these columns. -/
def fcs (k : Nat) (p : Nat → Nat) : Nat → Nat → Nat
  | 0, _ => 0
  | c + 1, i => if i = nct k p c then c else fcs k p c i
theorem nct_yes {k : Nat} {p : Nat → Nat} {c : Nat} (h : ∀ i, i < k → p i ≠ c) : nct k p (c + 1) = nct k p c + 1 := if_pos h
theorem nct_no {k : Nat} {p : Nat → Nat} {c : Nat} (h : ¬ ∀ i, i < k → p i ≠ c) : nct k p (c + 1) = nct k p c := if_neg h
theorem fcs_at (k : Nat) (p : Nat → Nat) (c : Nat) : fcs k p (c + 1) (nct k p c) = c := if_pos rfl
theorem fcs_lo {k : Nat} {p : Nat → Nat} {c i : Nat} (h : i < nct k p c) : fcs k p (c + 1) i = fcs k p c i := if_neg (by omega)
theorem fcs_ok {k : Nat} {p : Nat → Nat} : ∀ c i, i < nct k p c → fcs k p c i < c ∧ ∀ j, j < k → p j ≠ fcs k p c i
  | 0, i, hi => absurd hi (by simp [nct])
  | c + 1, i, hi => by
    by_cases h : ∀ i, i < k → p i ≠ c
    · rw [nct_yes h] at hi
      by_cases e : i = nct k p c
      · rw [e, fcs_at]; exact ⟨by omega, h⟩
      · rw [fcs_lo (by omega)]
        have := fcs_ok (k := k) (p := p) c i (by omega)
        exact ⟨Nat.lt_succ_of_lt this.1, this.2⟩
    · rw [nct_no h] at hi
      rw [fcs_lo hi]
      have := fcs_ok (k := k) (p := p) c i hi
      exact ⟨Nat.lt_succ_of_lt this.1, this.2⟩
/-- The row for column c, the first r of the beginnings filled in. -/
def nrv (D : FD) (R : Nat → Nat → Nat) (p : Nat → Nat) (c : Nat) : Nat → Nat → Nat
  | 0, j => if j = c then 1 else 0
  | r + 1, j => if j = p r then D.ng (R r c) else nrv D R p c r j
theorem nrv_el {D : FD} (F : Fld D) {R : Nat → Nat → Nat} {p : Nat → Nat} {c : Nat} : ∀ r, (∀ i, i < r → El D (R i)) → El D (nrv D R p c r)
  | 0, _ => fun j => by
    show (if j = c then 1 else 0) < D.q
    by_cases e : j = c
    · rw [if_pos e]; exact one_lt' F
    · rw [if_neg e]; exact zero_lt' F
  | r + 1, h => fun j => by
    show (if j = p r then D.ng (R r c) else nrv D R p c r j) < D.q
    by_cases e : j = p r
    · rw [if_pos e]; exact ng_lt F (h r (by omega) c)
    · rw [if_neg e]; exact nrv_el F r (fun i hi => h i (by omega)) j
theorem nrv_bd {D : FD} {R : Nat → Nat → Nat} {p : Nat → Nat} {c n : Nat} (hc : c < n) : ∀ r, (∀ i, i < r → p i < n) → Bd n (nrv D R p c r)
  | 0, _ => fun j hj => by
    show (if j = c then 1 else 0) = 0
    rw [if_neg (by omega)]
  | r + 1, h => fun j hj => by
    show (if j = p r then D.ng (R r c) else nrv D R p c r j) = 0
    rw [if_neg (by have := h r (by omega); omega)]
    exact nrv_bd hc r (fun i hi => h i (by omega)) j hj
/-- The rows for the first c columns. -/
def nul (D : FD) (R : Nat → Nat → Nat) (p : Nat → Nat) (k c : Nat) : Nat → Nat → Nat := fun i => nrv D R p (fcs k p c i) k
theorem nul_el {D : FD} (F : Fld D) {k : Nat} {R : Nat → Nat → Nat} {p : Nat → Nat} (h : ∀ i, i < k → El D (R i)) (c i : Nat) : El D (nul D R p k c i) := nrv_el F k h
theorem nul_bd {D : FD} {n k : Nat} {R : Nat → Nat → Nat} {p : Nat → Nat} (h : ∀ i, i < k → p i < n) {i : Nat} (hi : i < nct k p n) : Bd n (nul D R p k n i) := nrv_bd (fcs_ok n i hi).1 k h
end Go.Proofs.Ythkjaiihlphgfaa

/- The reference's matrices: the rows that make all rows 0 (Null). -/
namespace Go.Proofs.Ythkjaiihlphgfaa
open Go.RowKit Go.Sort

theorem RwsO.matR {base : Nat} {ro : Option Addr} {k rc n : Nat} {R : Nat → Nat → Nat} {vs : Nat → Value} {w : World} (h : RwsO base ro k rc n R vs w) : MatR ro k n R w := fun i hi => by
  obtain ⟨g, e, hc, _⟩ := h.cell i hi
  exact ⟨g, 0, _, e, by rw [Nat.zero_add]; exact hc, (h.row i hi).rwv⟩

end Go.Proofs.Ythkjaiihlphgfaa

/- The program's matrices: is a number in a list (slices.Contains); the rows that make a reduced form 0 (madeNought). -/
namespace Go.Proofs.Ythkjaiihlphgfaa
open Go.RowKit

end Go.Proofs.Ythkjaiihlphgfaa

/- The program's matrices: what makes all rows 0 (Null); matrices as they are told. -/
namespace Go.Proofs.Ythkjaiihlphgfaa
open Go.RowKit

/-- The slice v reads as k rows R of n elements. -/
def RL (v : Value) (k n : Nat) (R : Nat → Nat → Nat) (w : World) : Prop := ∃ ao ca, v = .slice ao k ca ∧ ∀ i, i < k → ∃ b off x cx, ao = some ⟨b, off, none⟩ ∧ w.cell? ⟨b, off + i, none⟩ = some (.slice x n cx) ∧ Sl x n (R i) w
theorem RL.below {v : Value} {k n : Nat} {R : Nat → Nat → Nat} {w w' : World} (h : RL v k n R w) (hb : Below w.heap.size w w') : RL v k n R w' := by
  obtain ⟨ao, ca, e, h⟩ := h
  refine ⟨ao, ca, e, fun i hi => ?_⟩
  obtain ⟨b, off, x, cx, e1, hc, hs⟩ := h i hi
  exact ⟨b, off, x, cx, e1, ((bcell hb).1 b (off + i) (cell_lt hc)).trans hc, slz_below hs hb⟩
theorem RL.congr {v : Value} {k n : Nat} {R R' : Nat → Nat → Nat} {w : World} (h : RL v k n R w) (e : ∀ i, i < k → R i = R' i) : RL v k n R' w := by
  obtain ⟨ao, ca, e1, h⟩ := h
  exact ⟨ao, ca, e1, fun i hi => by rw [← e i hi]; exact h i hi⟩
theorem Mx.rl {B G m k j n : Nat} {R : Nat → Nat → Nat} {h : Nat → Nat} {w : World} (H : Mx B G m k n R h w) (hj : j ≤ k) (mc : Nat) : RL (.slice (some ⟨G, 0, none⟩) j mc) j n R w :=
  ⟨_, _, rfl, fun i hi => ⟨G, 0, _, n, rfl, by rw [Nat.zero_add]; exact H.cell i (by omega), (H.row i (by omega)).sl (Nat.le_refl _)⟩⟩
theorem LLs.rl {base : Nat} {v : Value} {k n : Nat} {R : Nat → Nat → Nat} {w : World} (h : LLs base v (rl k n R) w) : RL v k (n + 1) R w := by
  obtain ⟨ro, rc, vs, rfl, hw⟩ := h.rws
  refine ⟨ro, rc, rfl, fun i hi => ?_⟩
  obtain ⟨g, e, hc, _⟩ := hw.cell i hi
  obtain ⟨x, cx, e2, hs, _⟩ := (hw.row i hi).rwv
  exact ⟨g, 0, x, cx, e, by rw [Nat.zero_add, ← e2]; exact hc, hs⟩
theorem RL.nil (n : Nat) (R : Nat → Nat → Nat) (w : World) : RL (.slice none 0 0) 0 n R w := ⟨none, 0, rfl, fun i hi => by omega⟩

theorem Mx.any {B G m n n' : Nat} {R : Nat → Nat → Nat} {h : Nat → Nat} {w : World} (H : Mx B G m 0 n R h w) : Mx B G m 0 n' R h w :=
  ⟨by obtain ⟨f, hf, _⟩ := H.outer; exact ⟨f, hf, fun i hi => by omega⟩, fun i hi => by omega, H.geG, fun i hi => by omega, fun i hi => by omega, fun i hi => by omega, H.le⟩

end Go.Proofs.Ythkjaiihlphgfaa

/- Plain mathematics: linear equations (Solve): the rows with what they are to be behind them. -/
namespace Go.Proofs.Ythkjaiihlphgfaa

/-- The rows M of n numbers, each with one number more. -/
def aug (n : Nat) (M : Nat → Nat → Nat) (b : Nat → Nat) : Nat → Nat → Nat := fun i j => if j = n then b i else M i j
theorem aug_el {D : FD} {n : Nat} {M : Nat → Nat → Nat} {b : Nat → Nat} {i : Nat} (h : El D (M i)) (hb : b i < D.q) : El D (aug n M b i) := fun j => by
  unfold aug
  by_cases e : j = n
  · rw [if_pos e]; exact hb
  · rw [if_neg e]; exact h j
theorem aug_bd {n : Nat} {M : Nat → Nat → Nat} {b : Nat → Nat} {i : Nat} (h : Bd n (M i)) : Bd (n + 1) (aug n M b i) := fun j hj => by
  unfold aug
  rw [if_neg (by omega)]; exact h j (by omega)
/-- The solution that a reduced form tells, by its first r rows. -/
def slx (R : Nat → Nat → Nat) (p : Nat → Nat) (n : Nat) : Nat → Nat → Nat
  | 0, _ => 0
  | r + 1, j => if j = p r then R r n else slx R p n r j
theorem slx_congr {R R' : Nat → Nat → Nat} {p p' : Nat → Nat} (n : Nat) : ∀ r, (∀ i, i < r → p i = p' i ∧ R i = R' i) → slx R p n r = slx R' p' n r
  | 0, _ => rfl
  | r + 1, h => by
    funext j
    show (if j = p r then R r n else slx R p n r j) = if j = p' r then R' r n else slx R' p' n r j
    rw [(h r (by omega)).1, (h r (by omega)).2, slx_congr n r (fun i hi => h i (by omega))]
/-- Rows reduced but for the last column, and the one form of all: where there is a solution. -/
theorem solve_yes {D : FD} (F : Fld D) {m n k kr : Nat} {R Rr : Nat → Nat → Nat} {p pr : Nat → Nat} (h : Rdg D m (n + 1) n k R p) (h0 : ∀ i, k ≤ i → i < m → R i n = 0) (hr : RRE D (n + 1) kr Rr pr) (hs : ∀ v, Spn D (RowsOf m R) v ↔ Spn D (RowsOf kr Rr) v) : kr = k ∧ (∀ i, i < k → p i = pr i ∧ R i = Rr i) ∧ ∀ i, i < kr → pr i ≠ n := by
  have h1 : Rdg D m (n + 1) (n + 1) k R p := rdg_skip h h0
  obtain ⟨h2, _, h3⟩ := rdg_end F h1
  obtain ⟨hk, he⟩ := rre_uniq F h2 hr (fun v => (h3 v).trans (hs v))
  refine ⟨hk.symm, he, fun i hi => ?_⟩
  have a := (he i (by omega)).1
  have b := h.lt i (by omega)
  omega
theorem solve_no {D : FD} (F : Fld D) {m n k kr : Nat} {R Rr : Nat → Nat → Nat} {p pr : Nat → Nat} (h : Rdg D m (n + 1) n k R p) (h0 : ∃ i, k ≤ i ∧ i < m ∧ R i n ≠ 0) (hr : RRE D (n + 1) kr Rr pr) (hs : ∀ v, Spn D (RowsOf m R) v ↔ Spn D (RowsOf kr Rr) v) : ∃ i, i < kr ∧ pr i = n := by
  obtain ⟨i, h1, h2, h3⟩ := h0
  obtain ⟨j, hj, e⟩ := (rre_lead F hr n).1 ⟨R i, (hs _).1 (spn_mem F (h.el i h2) ⟨i, h2, rfl⟩), h3, fun c hc => h.rest i c h1 h2 hc⟩
  exact ⟨j, hj, e.symm⟩

end Go.Proofs.Ythkjaiihlphgfaa
