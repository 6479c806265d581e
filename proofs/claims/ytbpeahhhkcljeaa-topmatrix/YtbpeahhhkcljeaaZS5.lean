/- Texts of ours, one behind the other: S5 T10 X19 X20 S6 O2 O3 L11 L12 L13 L14. -/
import Derived.Test.YtbpeahhhkcljeaaZS3
import Derived.Test.YtbpeahhhkcljeaaZS4
import Derived.Test.YtbpeahhhkcljeaaZX18
import Derived.Test.YtbpeahhhkcljeaaZL10
import Derived.Test.YtbpeahhhkcljeaaZT1
/- Plain mathematics: linear equations (Solve): the rows with what they are to be behind them. -/
namespace Go.Proofs.Ytbpeahhhkcljeaa

end Go.Proofs.Ytbpeahhhkcljeaa

/- The reference's matrices: linear equations (Solve). -/
namespace Go.Proofs.Ytbpeahhhkcljeaa
open Go.RowKit Go.Sort

end Go.Proofs.Ytbpeahhhkcljeaa

/- The program's matrices: linear equations (Solve). -/
namespace Go.Proofs.Ytbpeahhhkcljeaa
open Go.RowKit

end Go.Proofs.Ytbpeahhhkcljeaa

/- The program's matrices: inverses (rightOf, Inverse). -/
namespace Go.Proofs.Ytbpeahhhkcljeaa
open Go.RowKit

end Go.Proofs.Ytbpeahhhkcljeaa

/- Plain mathematics: there is a reduced form. -/
namespace Go.Proofs.Ytbpeahhhkcljeaa

theorem rdg_ex {D : FD} (hD : D ∈ fieldsL) {m n : Nat} {R : Nat → Nat → Nat} (he : ∀ i, i < m → El D (R i)) (hb : ∀ i, i < m → Bd n (R i)) : ∀ c, ∃ k R' p, Rdg D m n c k R' p ∧ ∀ v, Spn D (RowsOf m R') v ↔ Spn D (RowsOf m R) v
  | 0 => ⟨0, R, fun _ => 0, rdg_start he hb _, fun _ => Iff.rfl⟩
  | c + 1 => by
    obtain ⟨k, R', p, h, hs⟩ := rdg_ex hD he hb c
    by_cases hx : ∃ i, k ≤ i ∧ i < m ∧ R' i c ≠ 0
    · obtain ⟨b, h1, h2, h3⟩ := hx
      have hk : k < m := by omega
      have hw := rdg_swap h h1 h2
      have h0 : swpR R' k b k c ≠ 0 := by unfold swpR; rw [if_pos rfl]; exact h3
      exact ⟨k + 1, _, _, rdg_clear hD hw hk h0, fun v => by rw [spn_clear hD hk hw.el h0 v, spn_swap (fld hD) hk h2 h.el v]; exact hs v⟩
    · exact ⟨k, R', p, rdg_skip h (fun i h1 h2 => Classical.byContradiction fun h3 => hx ⟨i, h1, h2, h3⟩), hs⟩
theorem rre_ex {D : FD} (hD : D ∈ fieldsL) {m n : Nat} {R : Nat → Nat → Nat} (he : ∀ i, i < m → El D (R i)) (hb : ∀ i, i < m → Bd n (R i)) : ∃ k R' p, k ≤ m ∧ RRE D n k R' p ∧ ∀ v, Spn D (RowsOf k R') v ↔ Spn D (RowsOf m R) v := by
  obtain ⟨k, R', p, h, hs⟩ := rdg_ex hD he hb n
  obtain ⟨h1, _, h2⟩ := rdg_end (fld hD) h
  exact ⟨k, R', p, h.le, h1, fun v => (h2 v).trans (hs v)⟩
end Go.Proofs.Ytbpeahhhkcljeaa

/- A list of lists of numbers that a statement is given, opened. -/
namespace Go.Proofs.Ytbpeahhhkcljeaa
open Go.ChangeShapes Go.WideShapes Go.ChangeAt Go.RowKit

end Go.Proofs.Ytbpeahhhkcljeaa

/- How heavy a list of lists is that a statement is given. -/
namespace Go.Proofs.Ytbpeahhhkcljeaa
open Go.RowKit Go.Sort

end Go.Proofs.Ytbpeahhhkcljeaa

/- MatrixSays: lists of lists held against one another; how heavy a matrix is; are all numbers elements. -/
namespace Go.Proofs.Ytbpeahhhkcljeaa
open Go.RowKit Go.Sort

end Go.Proofs.Ytbpeahhhkcljeaa

/- MatrixSays: inverses. -/
namespace Go.Proofs.Ytbpeahhhkcljeaa
open Go.RowKit Go.Sort

theorem mchk_of {D : FD} {m : Nat} {N : Nat → Nat} {Z : Nat → Nat → Int} (hm : m ≤ 64) (h : ∀ i, i < m → D.mrow (N 0) (N i) (Z i) = 0) : D.mchk m N Z = 0 := by
  have key : ∀ k, k ≤ m → D.mchks N Z k = 0 := fun k => by
    induction k with
    | zero => intro _; rfl
    | succ k ih =>
      intro hk
      rw [FD.mchks, ih (by omega)]
      simp [h k (by omega)]
  unfold FD.mchk
  rw [if_neg (by omega)]
  exact key m (Nat.le_refl _)
end Go.Proofs.Ytbpeahhhkcljeaa

/- MatrixSays: one matrix (matrixOne), where it may not be, and where it has no row. -/
namespace Go.Proofs.Ytbpeahhhkcljeaa
open Go.RowKit Go.Sort

end Go.Proofs.Ytbpeahhhkcljeaa

/- MatrixSays: one matrix that may be: what the calls on both sides tell, in one form. -/
namespace Go.Proofs.Ytbpeahhhkcljeaa
open Go.RowKit Go.Sort

/-- A matrix that may be, of at least one row; its reduced form; the rows for its free columns, and their reduced form. -/
structure MOk (D : FD) (ao : Option Addr) (m n : Nat) (A : Nat → Option Addr) (N C : Nat → Nat) (Z : Nat → Nat → Int) (w : World) (k : Nat) (R : Nat → Nat → Nat) (p : Nat → Nat) (k2 : Nat) (R2 : Nat → Nat → Nat) (p2 : Nat → Nat) : Prop where
  hD : D ∈ fieldsL
  mat : MatZ ao m A N C Z w
  chk : D.mchk m N Z = 0
  pos : 0 < m
  m64 : m ≤ 64
  n64 : n < 64
  wd : N 0 = n + 1
  el : ∀ i, i < m → El D (mzc N Z i) ∧ Bd (n + 1) (mzc N Z i)
  km : k ≤ m
  rre : RRE D (n + 1) k R p
  spn : ∀ v, Spn D (RowsOf k R) v ↔ Spn D (RowsOf m (mzc N Z)) v
  km2 : k2 ≤ nct k p (n + 1)
  rre2 : RRE D (n + 1) k2 R2 p2
  spn2 : ∀ v, Spn D (RowsOf k2 R2) v ↔ Spn D (RowsOf (nct k p (n + 1)) (nul D R p k (n + 1))) v
theorem mok_ex {D : FD} (hD : D ∈ fieldsL) {ao : Option Addr} {m : Nat} {A : Nat → Option Addr} {N C : Nat → Nat} {Z : Nat → Nat → Int} {w : World} (ha : MatZ ao m A N C Z w) (h0 : D.mchk m N Z = 0) (hm : 0 < m) : ∃ n k R p k2 R2 p2, MOk D ao m n A N C Z w k R p k2 R2 p2 := by
  obtain ⟨h1, n, h2, h3, h4, h5⟩ := mchk_rows (fld hD) h0 ha hm
  obtain ⟨k, R, p, a1, a2, a3⟩ := rre_ex hD (m := m) (n := n + 1) (R := mzc N Z) (fun i hi => (h4 i hi).2.1) (fun i hi => (h4 i hi).2.2)
  obtain ⟨k2, R2, p2, b1, b2, b3⟩ := rre_ex hD (m := nct k p (n + 1)) (n := n + 1) (R := nul D R p k (n + 1)) (fun i _ => nul_el (fld hD) a2.el _ _) (fun i hi => nul_bd a2.lt hi)
  exact ⟨n, k, R, p, k2, R2, p2, hD, ha, h0, hm, h1, h3, h2, fun i hi => (h4 i hi).2, a1, a2, a3, b1, b2, b3⟩
theorem MOk.below {D : FD} {ao : Option Addr} {m n : Nat} {A : Nat → Option Addr} {N C : Nat → Nat} {Z : Nat → Nat → Int} {w w' : World} {k : Nat} {R : Nat → Nat → Nat} {p : Nat → Nat} {k2 : Nat} {R2 : Nat → Nat → Nat} {p2 : Nat → Nat} (h : MOk D ao m n A N C Z w k R p k2 R2 p2) (hb : Below w.heap.size w w') : MOk D ao m n A N C Z w' k R p k2 R2 p2 :=
  ⟨h.hD, h.mat.below hb, h.chk, h.pos, h.m64, h.n64, h.wd, h.el, h.km, h.rre, h.spn, h.km2, h.rre2, h.spn2⟩
theorem RL.open {v : Value} {k n : Nat} {R : Nat → Nat → Nat} {w : World} (h : RL v k n R w) : ∃ ao ca, v = .slice ao k ca := by
  obtain ⟨ao, ca, e, _⟩ := h
  exact ⟨ao, ca, e⟩
theorem KI.open {v : Value} {k : Nat} {z : Nat → Int} {w : World} (h : KI v (zl k z) w) : ∃ ao ca, v = .slice ao k ca := by
  rcases h.1 with ⟨e, ao, ca, rfl⟩ | ⟨_, _, b, off, ca, rfl, _⟩
  · have := congrArg List.length e
    rw [zl_len] at this
    have : k = 0 := this
    subst this
    exact ⟨ao, ca, rfl⟩
  · rw [zl_len]; exact ⟨_, _, rfl⟩


theorem c_red {D : FD} {ao : Option Addr} {m n ca : Nat} {A : Nat → Option Addr} {N C : Nat → Nat} {Z : Nat → Nat → Int} {w : World} {k : Nat} {R : Nat → Nat → Nat} {p : Nat → Nat} {k2 : Nat} {R2 : Nat → Nat → Nat} {p2 : Nat → Nat} (h : MOk D ao m n A N C Z w k R p k2 R2 p2) :
    Calls Try.prog 39 #[.int .i64 D.q, .slice ao m ca] w fun e w' => ∃ ro rc po pc, e = .returned (.tuple #[.slice ro k rc, .slice po k pc, .int .i64 0]) ∧ RL (.slice ro k rc) k (n + 1) R w' ∧ KI (.slice po k pc) (zl k fun j => ((p j : Nat) : Int)) w' ∧ Below w.heap.size w w' := by
  have h1 := h.m64
  have h2 := h.n64
  refine (mreduce_any h.hD h.mat (by omega)).mono ?_
  rintro e w' ⟨hb, hr⟩
  rcases hr with ⟨h0, _⟩ | ⟨_, G, k', R', p', h', pv, W, rfl, _, hW, hk, hmx, hown, hR', hS'⟩
  · exact absurd h.chk h0
  · have hWe : W = n + 1 := by rw [hW h.pos, h.wd]
    subst hWe
    obtain ⟨rfl, he⟩ := rre_uniq (fld h.hD) hR' h.rre (fun v => (hS' v).trans (h.spn v).symm)
    have hki : KI pv (zl k' fun j => ((p j : Nat) : Int)) w' := by
      have h3 := hown.ki (by rw [zl_len]; omega)
      rw [zl_congr (y := fun j => ((p j : Nat) : Int)) (fun j hj => by rw [(he j hj).1])] at h3
      exact h3
    obtain ⟨po, pc, rfl⟩ := hki.open
    exact ⟨_, m, po, pc, rfl, (hmx.rl hk m).congr (fun i hi => (he i hi).2), hki, hb⟩
theorem c_rank {D : FD} {ao : Option Addr} {m n ca : Nat} {A : Nat → Option Addr} {N C : Nat → Nat} {Z : Nat → Nat → Int} {w : World} {k : Nat} {R : Nat → Nat → Nat} {p : Nat → Nat} {k2 : Nat} {R2 : Nat → Nat → Nat} {p2 : Nat → Nat} (h : MOk D ao m n A N C Z w k R p k2 R2 p2) :
    Calls Try.prog 37 #[.int .i64 D.q, .slice ao m ca] w fun e w' => e = .returned (.tuple #[.int .i64 (k : Nat), .int .i64 0]) ∧ Below w.heap.size w w' := by
  have h1 := h.m64
  refine (mrank_any h.hD h.mat (by omega)).mono ?_
  rintro e w' ⟨hb, hr⟩
  rcases hr with ⟨h0, _⟩ | ⟨_, k', R', p', W, rfl, hW, hk, hR', hS'⟩
  · exact absurd h.chk h0
  · have hWe : W = n + 1 := by rw [hW h.pos, h.wd]
    subst hWe
    obtain ⟨rfl, _⟩ := rre_uniq (fld h.hD) hR' h.rre (fun v => (hS' v).trans (h.spn v).symm)
    exact ⟨rfl, hb⟩
theorem c_null {D : FD} {ao : Option Addr} {m n ca : Nat} {A : Nat → Option Addr} {N C : Nat → Nat} {Z : Nat → Nat → Int} {w : World} {k : Nat} {R : Nat → Nat → Nat} {p : Nat → Nat} {k2 : Nat} {R2 : Nat → Nat → Nat} {p2 : Nat → Nat} (h : MOk D ao m n A N C Z w k R p k2 R2 p2) :
    Calls Try.prog 38 #[.int .i64 D.q, .slice ao m ca] w fun e w' => ∃ lo lc, e = .returned (.tuple #[.slice lo (nct k p (n + 1)) lc, .int .i64 0]) ∧ (k2 = nct k p (n + 1) → RL (.slice lo (nct k p (n + 1)) lc) (nct k p (n + 1)) (n + 1) R2 w') ∧ Below w.heap.size w w' := by
  have h1 := h.m64
  refine (mnull_any h.hD h.mat (by omega)).mono ?_
  rintro e w' ⟨hb, hr⟩
  rcases hr with ⟨h0, _⟩ | ⟨_, v, k', R', p', k2', R2', p2', W, rfl, _, hW, hR', hS', hrl, hk2, hR2, hS2⟩
  · exact absurd h.chk h0
  · have hWe : W = n + 1 := by rw [hW h.pos, h.wd]
    subst hWe
    replace hrl := hrl.rl
    obtain ⟨rfl, he⟩ := rre_uniq (fld h.hD) hR' h.rre (fun v => (hS' v).trans (h.spn v).symm)
    have hc : nct k' p' (n + 1) = nct k' p (n + 1) := nct_congr (fun i hi => (he i hi).1) _
    have hn : nul D R' p' k' (n + 1) = nul D R p k' (n + 1) := nul_congr he _
    rw [hc] at hrl hk2 hS2
    rw [hn] at hS2
    obtain ⟨hk2e, he2⟩ := rre_uniq (fld h.hD) hR2 h.rre2 (fun v => (hS2 v).trans (h.spn2 v).symm)
    obtain ⟨lo, lc, rfl⟩ := hrl.open
    exact ⟨lo, lc, rfl, fun e => hrl.congr (fun i hi => (he2 i (by omega)).2), hb⟩
end Go.Proofs.Ytbpeahhhkcljeaa
