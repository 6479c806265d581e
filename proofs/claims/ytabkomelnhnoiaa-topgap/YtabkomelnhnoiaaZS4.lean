/- Texts of ours, one behind the other: S4 T9 X17 X18 S5 T10 X19 X20 S6 O2 O3. -/
import Derived.Test.YtabkomelnhnoiaaZS1
import Derived.Test.YtabkomelnhnoiaaZL1
import Derived.Test.YtabkomelnhnoiaaZT3
import Derived.Test.YtabkomelnhnoiaaZR5
import Derived.Test.YtabkomelnhnoiaaZL10
import Derived.Test.YtabkomelnhnoiaaZS3
import Derived.Test.YtabkomelnhnoiaaZT2
/- Plain mathematics: one row for each column in which no row of a reduced form begins (Null). -/
namespace Go.Proofs.Ytabkomelnhnoiaa

/-- Of the first c columns, in how many none of the k rows begins. -/
def nct (k : Nat) (p : Nat → Nat) : Nat → Nat
  | 0 => 0
  | c + 1 => if ∀ i, i < k → p i ≠ c then nct k p c + 1 else nct k p c
/-- The i-th of these columns. -/
def fcs (k : Nat) (p : Nat → Nat) : Nat → Nat → Nat
  | 0, _ => 0
  | c + 1, i => if i = nct k p c then c else fcs k p c i
theorem nct_yes {k : Nat} {p : Nat → Nat} {c : Nat} (h : ∀ i, i < k → p i ≠ c) : nct k p (c + 1) = nct k p c + 1 := if_pos h
theorem nct_no {k : Nat} {p : Nat → Nat} {c : Nat} (h : ¬ ∀ i, i < k → p i ≠ c) : nct k p (c + 1) = nct k p c := if_neg h
theorem nct_le (k : Nat) (p : Nat → Nat) : ∀ c, nct k p c ≤ c
  | 0 => Nat.le_refl _
  | c + 1 => by
    have := nct_le k p c
    by_cases h : ∀ i, i < k → p i ≠ c
    · rw [nct_yes h]; omega
    · rw [nct_no h]; omega
/-- The row for column c, the first r of the beginnings filled in. -/
def nrv (D : FD) (R : Nat → Nat → Nat) (p : Nat → Nat) (c : Nat) : Nat → Nat → Nat
  | 0, j => if j = c then 1 else 0
  | r + 1, j => if j = p r then D.ng (R r c) else nrv D R p c r j
/-- The rows for the first c columns. -/
def nul (D : FD) (R : Nat → Nat → Nat) (p : Nat → Nat) (k c : Nat) : Nat → Nat → Nat := fun i => nrv D R p (fcs k p c i) k
end Go.Proofs.Ytabkomelnhnoiaa

/- The reference's matrices: the rows that make all rows 0 (Null). -/
namespace Go.Proofs.Ytabkomelnhnoiaa
open Go.RowKit Go.Sort

end Go.Proofs.Ytabkomelnhnoiaa

/- The program's matrices: is a number in a list (slices.Contains); the rows that make a reduced form 0 (madeNought). -/
namespace Go.Proofs.Ytabkomelnhnoiaa
open Go.RowKit

/-- c rows of n numbers, each made by the call itself and appended to a list of its own. -/
structure NSt (base n c : Nat) (NR : Nat → Nat → Nat) (v : Value) (h : Nat → Nat) (wr : World) : Prop where
  own : OwnV base v (vl c fun i => .slice (some ⟨h i, 0, none⟩) n n) wr
  row : ∀ i, i < c → Row (h i) n (NR i) wr
  ge : ∀ i, i < c → base ≤ h i
  inj : ∀ i, i < c → ∀ j, j < c → h i = h j → i = j
theorem NSt.below {base n c : Nat} {NR : Nat → Nat → Nat} {v : Value} {h : Nat → Nat} {w w' : World} (H : NSt base n c NR v h w) (hb : Below w.heap.size w w') : NSt base n c NR v h w' :=
  ⟨H.own.below hb (Nat.le_refl _), fun i hi => (H.row i hi).below hb (H.row i hi).lt, H.ge, H.inj⟩
theorem NSt.congr {base n c : Nat} {NR NR' : Nat → Nat → Nat} {v : Value} {h : Nat → Nat} {w : World} (H : NSt base n c NR v h w) (e : ∀ i, i < c → NR i = NR' i) : NSt base n c NR' v h w :=
  ⟨H.own, fun i hi => by rw [← e i hi]; exact H.row i hi, H.ge, H.inj⟩
theorem NSt.push {base n c g : Nat} {NR : Nat → Nat → Nat} {d : Nat → Nat} {v v' : Value} {h : Nat → Nat} {w w' : World} (H : NSt base n c NR v h w) (hr : Row g n d w) (hg : base ≤ g) (hlt : ∀ i, i < c → h i < g) (ho : OwnV base v' (vl c (fun i => .slice (some ⟨h i, 0, none⟩) n n) ++ [.slice (some ⟨g, 0, none⟩) n n]) w') (hgr : w.grownBy w' v.ownBlock) :
    NSt base n (c + 1) (fun i => if i = c then d else NR i) v' (fun i => if i = c then g else h i) w' := by
  have hkeep : ∀ {b : Nat} {e : Nat → Nat}, Row b n e w → Row b n e w' := fun {b e} hb => hb.other (hgr.block b hb.lt (fun e' => hb.apart H.own e'))
  refine ⟨?_, fun i hi => ?_, fun i hi => ?_, fun i hi j hj e => ?_⟩
  · have e : vl (c + 1) (fun i => Value.slice (some ⟨if i = c then g else h i, 0, none⟩) n n) = vl c (fun i => .slice (some ⟨h i, 0, none⟩) n n) ++ [.slice (some ⟨g, 0, none⟩) n n] := by
      unfold vl
      rw [List.range_succ, List.map_append]
      congr 1
      · exact List.map_congr_left (fun j hj => by rw [if_neg (by have := List.mem_range.1 hj; omega)])
      · simp
    rw [e]; exact ho
  · by_cases e : i = c
    · simp only [if_pos e]; exact hkeep hr
    · simp only [if_neg e]; exact hkeep (H.row i (by omega))
  · by_cases e : i = c
    · simp only [if_pos e]; exact hg
    · simp only [if_neg e]; exact H.ge i (by omega)
  · by_cases e1 : i = c
    · by_cases e2 : j = c
      · omega
      · simp only [if_pos e1, if_neg e2] at e
        have := hlt j (by omega); omega
    · by_cases e2 : j = c
      · simp only [if_neg e1, if_pos e2] at e
        have := hlt i (by omega); omega
      · simp only [if_neg e1, if_neg e2] at e
        exact H.inj i (by omega) j (by omega) e
theorem NSt.mx {base n c : Nat} {NR : Nat → Nat → Nat} {v : Value} {h : Nat → Nat} {w : World} (H : NSt base n c NR v h w) (hc : 0 < c) : ∃ G mc, v = .slice (some ⟨G, 0, none⟩) c mc ∧ Mx base G mc c n NR h w := by
  rcases H.own.2 with ⟨h1, h2⟩ | ⟨g, cap, cur, hv, hb, hh, hle, hcm, hsz, htake⟩
  · rw [vl_len] at h2; omega
  · rw [vl_len] at hv hle htake
    have hsz' : cur.size = cap := by omega
    refine ⟨g, cap, hv, ⟨⟨fun o => (cur[o]?).getD undef, ⟨cur, hh, hsz', fun o ho => ?_⟩, fun i hi => ?_⟩, H.row, hb, H.ge, H.inj, fun i hi e => ?_, by omega⟩⟩
    · show cur[o]? = some ((cur[o]?).getD undef)
      rw [Array.getElem?_eq_getElem (by omega)]; rfl
    · have h3 : (cur.toList.take (c * 1))[i]? = (vl c fun i => Value.slice (some ⟨h i, 0, none⟩) n n)[i]? := by rw [htake]
      rw [List.getElem?_take, if_pos (by omega), vl_get _ _ i hi, Array.getElem?_toList] at h3
      show (cur[i]?).getD undef = _
      rw [h3]; rfl
    · have := (H.row i hi).apart H.own
      rw [hv, e] at this
      exact this rfl
theorem NSt.nil {base n : Nat} {NR : Nat → Nat → Nat} {v : Value} {h : Nat → Nat} {w : World} (H : NSt base n 0 NR v h w) (hv : ∀ k, v.ownBlock = some k → False) : v = .slice none 0 0 := by
  rcases H.own.2 with ⟨h1, h2⟩ | ⟨g, cap, cur, hv', hb, _⟩
  · exact h1
  · exact absurd (by rw [hv']; rfl) (hv g)

end Go.Proofs.Ytabkomelnhnoiaa

/- The program's matrices: what makes all rows 0 (Null); matrices as they are told. -/
namespace Go.Proofs.Ytabkomelnhnoiaa
open Go.RowKit

/-- The slice v reads as k rows R of n elements. -/
def RL (v : Value) (k n : Nat) (R : Nat → Nat → Nat) (w : World) : Prop := ∃ ao ca, v = .slice ao k ca ∧ ∀ i, i < k → ∃ b off x cx, ao = some ⟨b, off, none⟩ ∧ w.cell? ⟨b, off + i, none⟩ = some (.slice x n cx) ∧ Sl x n (R i) w
theorem RL.below {v : Value} {k n : Nat} {R : Nat → Nat → Nat} {w w' : World} (h : RL v k n R w) (hb : Below w.heap.size w w') : RL v k n R w' := by
  obtain ⟨ao, ca, e, h⟩ := h
  refine ⟨ao, ca, e, fun i hi => ?_⟩
  obtain ⟨b, off, x, cx, e1, hc, hs⟩ := h i hi
  exact ⟨b, off, x, cx, e1, ((bcell hb).1 b (off + i) (cell_lt hc)).trans hc, slz_below hs hb⟩
theorem RL.congr {v : Value} {k n : Nat} {R R' : Nat → Nat → Nat} {w : World} (h : RL v k n R w) (e : ∀ i, i < k → R i = R' i) : RL v k n R' w := by
  obtain ⟨ao, ca, e1, h⟩ := h
  exact ⟨ao, ca, e1, fun i hi => by rw [← e i hi]; exact h i hi⟩
theorem Mx.rl {B G m k j n : Nat} {R : Nat → Nat → Nat} {h : Nat → Nat} {w : World} (H : Mx B G m k n R h w) (hj : j ≤ k) (mc : Nat) : RL (.slice (some ⟨G, 0, none⟩) j mc) j n R w :=
  ⟨_, _, rfl, fun i hi => ⟨G, 0, _, n, rfl, by rw [Nat.zero_add]; exact H.cell i (by omega), (H.row i (by omega)).sl (Nat.le_refl _)⟩⟩
theorem LLs.rl {base : Nat} {v : Value} {k n : Nat} {R : Nat → Nat → Nat} {w : World} (h : LLs base v (rl k n R) w) : RL v k (n + 1) R w := by
  obtain ⟨ro, rc, vs, rfl, hw⟩ := h.rws
  refine ⟨ro, rc, rfl, fun i hi => ?_⟩
  obtain ⟨g, e, hc, _⟩ := hw.cell i hi
  obtain ⟨x, cx, e2, hs, _⟩ := (hw.row i hi).rwv
  exact ⟨g, 0, x, cx, e, by rw [Nat.zero_add, ← e2]; exact hc, hs⟩
/-- The same, with all that a matrix that is handed on has. -/
def RLz (v : Value) (k n : Nat) (R : Nat → Nat → Nat) (w : World) : Prop := ∃ ao ca A C, v = .slice ao k ca ∧ MatZ ao k A (fun _ => n) C (fun i j => ((R i j : Nat) : Int)) w
theorem RLz.rl {v : Value} {k n : Nat} {R : Nat → Nat → Nat} {w : World} (h : RLz v k n R w) : RL v k n R w := by
  obtain ⟨ao, ca, A, C, e, h⟩ := h
  refine ⟨ao, ca, e, fun i hi => ?_⟩
  obtain ⟨b, off, e1, hc⟩ := h.cell i hi
  exact ⟨b, off, A i, C i, e1, hc, h.sl i hi⟩
theorem RLz.nil (n : Nat) (R : Nat → Nat → Nat) (w : World) : RLz (.slice none 0 0) 0 n R w := ⟨none, 0, fun _ => none, fun _ => 0, rfl, ⟨fun i hi => by omega, fun i hi => by omega, fun i hi => by omega, fun i hi => by omega, fun i hi => by omega, fun i hi => by omega⟩⟩
/-- The slice v has k rows R of n elements, in blocks of their own behind block number B, of numbers; or there is none. -/
def MV (B : Nat) (v : Value) (k n : Nat) (R : Nat → Nat → Nat) (w : World) : Prop := (k = 0 ∧ ∃ ao ca, v = .slice ao 0 ca) ∨ ∃ G mc m h, v = .slice (some ⟨G, 0, none⟩) k mc ∧ Mx B G m k n R h w
theorem MV.rl {B : Nat} {v : Value} {k n : Nat} {R : Nat → Nat → Nat} {w : World} (h : MV B v k n R w) : RL v k n R w := by
  rcases h with ⟨e, ao, ca, ev⟩ | ⟨G, mc, m, hh, ev, hm⟩
  · rw [e, ev]
    exact ⟨ao, ca, rfl, fun i hi => by omega⟩
  · rw [ev]; exact hm.rl (Nat.le_refl _) mc
theorem MV.below {B : Nat} {v : Value} {k n : Nat} {R : Nat → Nat → Nat} {w w' : World} (h : MV B v k n R w) (hb : Below w.heap.size w w') : MV B v k n R w' := by
  rcases h with h | ⟨G, mc, m, hh, ev, hm⟩
  · exact Or.inl h
  · exact Or.inr ⟨G, mc, m, hh, ev, hm.below hb⟩
theorem RL.nil (n : Nat) (R : Nat → Nat → Nat) (w : World) : RL (.slice none 0 0) 0 n R w := ⟨none, 0, rfl, fun i hi => by omega⟩

theorem Mx.any {B G m n n' : Nat} {R : Nat → Nat → Nat} {h : Nat → Nat} {w : World} (H : Mx B G m 0 n R h w) : Mx B G m 0 n' R h w :=
  ⟨by obtain ⟨f, hf, _⟩ := H.outer; exact ⟨f, hf, fun i hi => by omega⟩, fun i hi => by omega, H.geG, fun i hi => by omega, fun i hi => by omega, fun i hi => by omega, H.le⟩

end Go.Proofs.Ytabkomelnhnoiaa

/- Plain mathematics: linear equations (Solve): the rows with what they are to be behind them. -/
namespace Go.Proofs.Ytabkomelnhnoiaa

end Go.Proofs.Ytabkomelnhnoiaa

/- The reference's matrices: linear equations (Solve). -/
namespace Go.Proofs.Ytabkomelnhnoiaa
open Go.RowKit Go.Sort

end Go.Proofs.Ytabkomelnhnoiaa

/- The program's matrices: linear equations (Solve). -/
namespace Go.Proofs.Ytabkomelnhnoiaa
open Go.RowKit

end Go.Proofs.Ytabkomelnhnoiaa

/- The program's matrices: inverses (rightOf, Inverse). -/
namespace Go.Proofs.Ytabkomelnhnoiaa
open Go.RowKit

/-- m rows of m numbers: the right half of the rows R. -/
def InvR (G2 m : Nat) (h : Nat → Nat) (R : Nat → Nat → Nat) (w : World) : Prop := ∀ i, i < m → w.cell? ⟨G2, i, none⟩ = some (.slice (some ⟨h i, m, none⟩) m m) ∧ Sl (some ⟨h i, m, none⟩) m (fun c => R i (m + c)) w

end Go.Proofs.Ytabkomelnhnoiaa

/- Plain mathematics: there is a reduced form. -/
namespace Go.Proofs.Ytabkomelnhnoiaa

theorem rdg_ex {D : FD} (hD : D ∈ fieldsL) {m n : Nat} {R : Nat → Nat → Nat} (he : ∀ i, i < m → El D (R i)) (hb : ∀ i, i < m → Bd n (R i)) : ∀ c, ∃ k R' p, Rdg D m n c k R' p ∧ ∀ v, Spn D (RowsOf m R') v ↔ Spn D (RowsOf m R) v
  | 0 => ⟨0, R, fun _ => 0, rdg_start he hb _, fun _ => Iff.rfl⟩
  | c + 1 => by
    obtain ⟨k, R', p, h, hs⟩ := rdg_ex hD he hb c
    by_cases hx : ∃ i, k ≤ i ∧ i < m ∧ R' i c ≠ 0
    · obtain ⟨b, h1, h2, h3⟩ := hx
      have hk : k < m := by omega
      have hw := rdg_swap h h1 h2
      have h0 : swpR R' k b k c ≠ 0 := by unfold swpR; rw [if_pos rfl]; exact h3
      exact ⟨k + 1, _, _, rdg_clear hD hw hk h0, fun v => by rw [spn_clear hD hk hw.el h0 v, spn_swap (fld hD) hk h2 h.el v]; exact hs v⟩
    · exact ⟨k, R', p, rdg_skip h (fun i h1 h2 => Classical.byContradiction fun h3 => hx ⟨i, h1, h2, h3⟩), hs⟩
theorem rre_ex {D : FD} (hD : D ∈ fieldsL) {m n : Nat} {R : Nat → Nat → Nat} (he : ∀ i, i < m → El D (R i)) (hb : ∀ i, i < m → Bd n (R i)) : ∃ k R' p, k ≤ m ∧ RRE D n k R' p ∧ ∀ v, Spn D (RowsOf k R') v ↔ Spn D (RowsOf m R) v := by
  obtain ⟨k, R', p, h, hs⟩ := rdg_ex hD he hb n
  obtain ⟨h1, _, h2⟩ := rdg_end (fld hD) h
  exact ⟨k, R', p, h.le, h1, fun v => (h2 v).trans (hs v)⟩
end Go.Proofs.Ytabkomelnhnoiaa

/- A list of lists of numbers that a statement is given, opened. -/
namespace Go.Proofs.Ytabkomelnhnoiaa
open Go.ChangeShapes Go.WideShapes Go.ChangeAt Go.RowKit

/-- A matrix that is handed in: m lists of whatever length. -/
structure MatO (ao : Option Addr) (m : Nat) (A : Nat → Option Addr) (N C : Nat → Nat) (Z : Nat → Nat → Int) (w : World) : Prop where
  cell : ∀ i, i < m → ∃ b off, ao = some ⟨b, off, none⟩ ∧ w.cell? ⟨b, off + i, none⟩ = some (.slice (A i) (N i) (C i))
  sl : ∀ i, i < m → SlZ (A i) (N i) (Z i) w
  le : ∀ i, i < m → N i ≤ C i
  cap : ∀ i, i < m → C i ≤ 9223372036854775807
  nil : ∀ i, i < m → A i = none → C i = 0
end Go.Proofs.Ytabkomelnhnoiaa

/- How heavy a list of lists is that a statement is given. -/
namespace Go.Proofs.Ytabkomelnhnoiaa
open Go.RowKit Go.Sort

end Go.Proofs.Ytabkomelnhnoiaa
