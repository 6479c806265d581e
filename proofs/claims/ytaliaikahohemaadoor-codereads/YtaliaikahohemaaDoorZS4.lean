/- Texts of ours, one behind the other: S4 T9 X17 X18 S5 T10 X19 X20 S6 O2 O3 L11 L12 K4 W11. -/
import Derived.Test.YtaliaikahohemaaDoorZL10
import Derived.Test.YtaliaikahohemaaDoorZL1
import Derived.Test.YtaliaikahohemaaDoorZT3
import Derived.Test.YtaliaikahohemaaDoorZR18
import Derived.Test.YtaliaikahohemaaDoorZX12
import Derived.Test.YtaliaikahohemaaDoorZX11
import Derived.Test.YtaliaikahohemaaDoorZT5
import Derived.Deep.RegionHeld3
import Derived.WalkKit
/- Plain mathematics: one row for each column in which no row of a reduced form begins (Null). -/
namespace Go.Proofs.YtaliaikahohemaaDoor

/-- Of the first c columns, in how many none of the k rows begins. -/
def nct (k : Nat) (p : Nat → Nat) : Nat → Nat
  | 0 => 0
  | c + 1 => if ∀ i, i < k → p i ≠ c then nct k p c + 1 else nct k p c
/-- The i-th of these columns. -/
def fcs (k : Nat) (p : Nat → Nat) : Nat → Nat → Nat
  | 0, _ => 0
  | c + 1, i => if i = nct k p c then c else fcs k p c i
theorem nct_yes {k : Nat} {p : Nat → Nat} {c : Nat} (h : ∀ i, i < k → p i ≠ c) : nct k p (c + 1) = nct k p c + 1 := if_pos h
theorem nct_no {k : Nat} {p : Nat → Nat} {c : Nat} (h : ¬ ∀ i, i < k → p i ≠ c) : nct k p (c + 1) = nct k p c := if_neg h
theorem nct_le (k : Nat) (p : Nat → Nat) : ∀ c, nct k p c ≤ c
  | 0 => Nat.le_refl _
  | c + 1 => by
    have := nct_le k p c
    by_cases h : ∀ i, i < k → p i ≠ c
    · rw [nct_yes h]; omega
    · rw [nct_no h]; omega
/-- The row for column c, the first r of the beginnings filled in. -/
def nrv (D : FD) (R : Nat → Nat → Nat) (p : Nat → Nat) (c : Nat) : Nat → Nat → Nat
  | 0, j => if j = c then 1 else 0
  | r + 1, j => if j = p r then D.ng (R r c) else nrv D R p c r j
/-- The rows for the first c columns. -/
def nul (D : FD) (R : Nat → Nat → Nat) (p : Nat → Nat) (k c : Nat) : Nat → Nat → Nat := fun i => nrv D R p (fcs k p c i) k
theorem nct_congr {k : Nat} {p p' : Nat → Nat} (h : ∀ i, i < k → p i = p' i) : ∀ c, nct k p c = nct k p' c
  | 0 => rfl
  | c + 1 => by
    by_cases e : ∀ i, i < k → p i ≠ c
    · rw [nct_yes e, nct_yes (fun i hi => by rw [← h i hi]; exact e i hi), nct_congr h c]
    · rw [nct_no e, nct_no (fun e' => e (fun i hi => by rw [h i hi]; exact e' i hi)), nct_congr h c]
theorem fcs_congr {k : Nat} {p p' : Nat → Nat} (h : ∀ i, i < k → p i = p' i) : ∀ c i, fcs k p c i = fcs k p' c i
  | 0, _ => rfl
  | c + 1, i => by
    show (if i = nct k p c then c else fcs k p c i) = if i = nct k p' c then c else fcs k p' c i
    rw [nct_congr h c, fcs_congr h c i]
theorem nrv_congr {D : FD} {R R' : Nat → Nat → Nat} {p p' : Nat → Nat} (c : Nat) : ∀ r, (∀ i, i < r → p i = p' i ∧ R i = R' i) → nrv D R p c r = nrv D R' p' c r
  | 0, _ => rfl
  | r + 1, h => by
    funext j
    show (if j = p r then D.ng (R r c) else nrv D R p c r j) = if j = p' r then D.ng (R' r c) else nrv D R' p' c r j
    rw [(h r (by omega)).1, (h r (by omega)).2, nrv_congr c r (fun i hi => h i (by omega))]
theorem nul_congr {D : FD} {k : Nat} {R R' : Nat → Nat → Nat} {p p' : Nat → Nat} (h : ∀ i, i < k → p i = p' i ∧ R i = R' i) (c : Nat) : nul D R p k c = nul D R' p' k c := by
  funext i
  unfold nul
  rw [fcs_congr (fun i hi => (h i hi).1) c i, nrv_congr _ k h]
end Go.Proofs.YtaliaikahohemaaDoor

/- The reference's matrices: the rows that make all rows 0 (Null). -/
namespace Go.Proofs.YtaliaikahohemaaDoor
open Go.RowKit Go.Sort

end Go.Proofs.YtaliaikahohemaaDoor

/- The program's matrices: is a number in a list (slices.Contains); the rows that make a reduced form 0 (madeNought). -/
namespace Go.Proofs.YtaliaikahohemaaDoor
open Go.RowKit

/-- c rows of n numbers, each made by the call itself and appended to a list of its own. -/
structure NSt (base n c : Nat) (NR : Nat → Nat → Nat) (v : Value) (h : Nat → Nat) (wr : World) : Prop where
  own : OwnV base v (vl c fun i => .slice (some ⟨h i, 0, none⟩) n n) wr
  row : ∀ i, i < c → Row (h i) n (NR i) wr
  ge : ∀ i, i < c → base ≤ h i
  inj : ∀ i, i < c → ∀ j, j < c → h i = h j → i = j
theorem NSt.below {base n c : Nat} {NR : Nat → Nat → Nat} {v : Value} {h : Nat → Nat} {w w' : World} (H : NSt base n c NR v h w) (hb : Below w.heap.size w w') : NSt base n c NR v h w' :=
  ⟨H.own.below hb (Nat.le_refl _), fun i hi => (H.row i hi).below hb (H.row i hi).lt, H.ge, H.inj⟩
theorem NSt.congr {base n c : Nat} {NR NR' : Nat → Nat → Nat} {v : Value} {h : Nat → Nat} {w : World} (H : NSt base n c NR v h w) (e : ∀ i, i < c → NR i = NR' i) : NSt base n c NR' v h w :=
  ⟨H.own, fun i hi => by rw [← e i hi]; exact H.row i hi, H.ge, H.inj⟩
theorem NSt.push {base n c g : Nat} {NR : Nat → Nat → Nat} {d : Nat → Nat} {v v' : Value} {h : Nat → Nat} {w w' : World} (H : NSt base n c NR v h w) (hr : Row g n d w) (hg : base ≤ g) (hlt : ∀ i, i < c → h i < g) (ho : OwnV base v' (vl c (fun i => .slice (some ⟨h i, 0, none⟩) n n) ++ [.slice (some ⟨g, 0, none⟩) n n]) w') (hgr : w.grownBy w' v.ownBlock) :
    NSt base n (c + 1) (fun i => if i = c then d else NR i) v' (fun i => if i = c then g else h i) w' := by
  have hkeep : ∀ {b : Nat} {e : Nat → Nat}, Row b n e w → Row b n e w' := fun {b e} hb => hb.other (hgr.block b hb.lt (fun e' => hb.apart H.own e'))
  refine ⟨?_, fun i hi => ?_, fun i hi => ?_, fun i hi j hj e => ?_⟩
  · have e : vl (c + 1) (fun i => Value.slice (some ⟨if i = c then g else h i, 0, none⟩) n n) = vl c (fun i => .slice (some ⟨h i, 0, none⟩) n n) ++ [.slice (some ⟨g, 0, none⟩) n n] := by
      unfold vl
      rw [List.range_succ, List.map_append]
      congr 1
      · exact List.map_congr_left (fun j hj => by rw [if_neg (by have := List.mem_range.1 hj; omega)])
      · simp
    rw [e]; exact ho
  · by_cases e : i = c
    · simp only [if_pos e]; exact hkeep hr
    · simp only [if_neg e]; exact hkeep (H.row i (by omega))
  · by_cases e : i = c
    · simp only [if_pos e]; exact hg
    · simp only [if_neg e]; exact H.ge i (by omega)
  · by_cases e1 : i = c
    · by_cases e2 : j = c
      · omega
      · simp only [if_pos e1, if_neg e2] at e
        have := hlt j (by omega); omega
    · by_cases e2 : j = c
      · simp only [if_neg e1, if_pos e2] at e
        have := hlt i (by omega); omega
      · simp only [if_neg e1, if_neg e2] at e
        exact H.inj i (by omega) j (by omega) e
theorem NSt.mx {base n c : Nat} {NR : Nat → Nat → Nat} {v : Value} {h : Nat → Nat} {w : World} (H : NSt base n c NR v h w) (hc : 0 < c) : ∃ G mc, v = .slice (some ⟨G, 0, none⟩) c mc ∧ Mx base G mc c n NR h w := by
  rcases H.own.2 with ⟨h1, h2⟩ | ⟨g, cap, cur, hv, hb, hh, hle, hcm, hsz, htake⟩
  · rw [vl_len] at h2; omega
  · rw [vl_len] at hv hle htake
    have hsz' : cur.size = cap := by omega
    refine ⟨g, cap, hv, ⟨⟨fun o => (cur[o]?).getD undef, ⟨cur, hh, hsz', fun o ho => ?_⟩, fun i hi => ?_⟩, H.row, hb, H.ge, H.inj, fun i hi e => ?_, by omega⟩⟩
    · show cur[o]? = some ((cur[o]?).getD undef)
      rw [Array.getElem?_eq_getElem (by omega)]; rfl
    · have h3 : (cur.toList.take (c * 1))[i]? = (vl c fun i => Value.slice (some ⟨h i, 0, none⟩) n n)[i]? := by rw [htake]
      rw [List.getElem?_take, if_pos (by omega), vl_get _ _ i hi, Array.getElem?_toList] at h3
      show (cur[i]?).getD undef = _
      rw [h3]; rfl
    · have := (H.row i hi).apart H.own
      rw [hv, e] at this
      exact this rfl
theorem NSt.nil {base n : Nat} {NR : Nat → Nat → Nat} {v : Value} {h : Nat → Nat} {w : World} (H : NSt base n 0 NR v h w) (hv : ∀ k, v.ownBlock = some k → False) : v = .slice none 0 0 := by
  rcases H.own.2 with ⟨h1, h2⟩ | ⟨g, cap, cur, hv', hb, _⟩
  · exact h1
  · exact absurd (by rw [hv']; rfl) (hv g)

end Go.Proofs.YtaliaikahohemaaDoor

/- The program's matrices: what makes all rows 0 (Null); matrices as they are told. -/
namespace Go.Proofs.YtaliaikahohemaaDoor
open Go.RowKit

/-- The slice v reads as k rows R of n elements. -/
def RL (v : Value) (k n : Nat) (R : Nat → Nat → Nat) (w : World) : Prop := ∃ ao ca, v = .slice ao k ca ∧ ∀ i, i < k → ∃ b off x cx, ao = some ⟨b, off, none⟩ ∧ w.cell? ⟨b, off + i, none⟩ = some (.slice x n cx) ∧ Sl x n (R i) w
theorem RL.below {v : Value} {k n : Nat} {R : Nat → Nat → Nat} {w w' : World} (h : RL v k n R w) (hb : Below w.heap.size w w') : RL v k n R w' := by
  obtain ⟨ao, ca, e, h⟩ := h
  refine ⟨ao, ca, e, fun i hi => ?_⟩
  obtain ⟨b, off, x, cx, e1, hc, hs⟩ := h i hi
  exact ⟨b, off, x, cx, e1, ((bcell hb).1 b (off + i) (cell_lt hc)).trans hc, slz_below hs hb⟩
theorem RL.congr {v : Value} {k n : Nat} {R R' : Nat → Nat → Nat} {w : World} (h : RL v k n R w) (e : ∀ i, i < k → R i = R' i) : RL v k n R' w := by
  obtain ⟨ao, ca, e1, h⟩ := h
  exact ⟨ao, ca, e1, fun i hi => by rw [← e i hi]; exact h i hi⟩
theorem Mx.rl {B G m k j n : Nat} {R : Nat → Nat → Nat} {h : Nat → Nat} {w : World} (H : Mx B G m k n R h w) (hj : j ≤ k) (mc : Nat) : RL (.slice (some ⟨G, 0, none⟩) j mc) j n R w :=
  ⟨_, _, rfl, fun i hi => ⟨G, 0, _, n, rfl, by rw [Nat.zero_add]; exact H.cell i (by omega), (H.row i (by omega)).sl (Nat.le_refl _)⟩⟩
theorem LLs.rl {base : Nat} {v : Value} {k n : Nat} {R : Nat → Nat → Nat} {w : World} (h : LLs base v (rl k n R) w) : RL v k (n + 1) R w := by
  obtain ⟨ro, rc, vs, rfl, hw⟩ := h.rws
  refine ⟨ro, rc, rfl, fun i hi => ?_⟩
  obtain ⟨g, e, hc, _⟩ := hw.cell i hi
  obtain ⟨x, cx, e2, hs, _⟩ := (hw.row i hi).rwv
  exact ⟨g, 0, x, cx, e, by rw [Nat.zero_add, ← e2]; exact hc, hs⟩
/-- The same, with all that a matrix that is handed on has. -/
def RLz (v : Value) (k n : Nat) (R : Nat → Nat → Nat) (w : World) : Prop := ∃ ao ca A C, v = .slice ao k ca ∧ MatZ ao k A (fun _ => n) C (fun i j => ((R i j : Nat) : Int)) w
theorem RLz.rl {v : Value} {k n : Nat} {R : Nat → Nat → Nat} {w : World} (h : RLz v k n R w) : RL v k n R w := by
  obtain ⟨ao, ca, A, C, e, h⟩ := h
  refine ⟨ao, ca, e, fun i hi => ?_⟩
  obtain ⟨b, off, e1, hc⟩ := h.cell i hi
  exact ⟨b, off, A i, C i, e1, hc, h.sl i hi⟩
theorem RLz.nil (n : Nat) (R : Nat → Nat → Nat) (w : World) : RLz (.slice none 0 0) 0 n R w := ⟨none, 0, fun _ => none, fun _ => 0, rfl, ⟨fun i hi => by omega, fun i hi => by omega, fun i hi => by omega, fun i hi => by omega, fun i hi => by omega, fun i hi => by omega⟩⟩
/-- The slice v has k rows R of n elements, in blocks of their own behind block number B, of numbers; or there is none. -/
def MV (B : Nat) (v : Value) (k n : Nat) (R : Nat → Nat → Nat) (w : World) : Prop := (k = 0 ∧ ∃ ao ca, v = .slice ao 0 ca) ∨ ∃ G mc m h, v = .slice (some ⟨G, 0, none⟩) k mc ∧ Mx B G m k n R h w
theorem MV.rl {B : Nat} {v : Value} {k n : Nat} {R : Nat → Nat → Nat} {w : World} (h : MV B v k n R w) : RL v k n R w := by
  rcases h with ⟨e, ao, ca, ev⟩ | ⟨G, mc, m, hh, ev, hm⟩
  · rw [e, ev]
    exact ⟨ao, ca, rfl, fun i hi => by omega⟩
  · rw [ev]; exact hm.rl (Nat.le_refl _) mc
theorem MV.below {B : Nat} {v : Value} {k n : Nat} {R : Nat → Nat → Nat} {w w' : World} (h : MV B v k n R w) (hb : Below w.heap.size w w') : MV B v k n R w' := by
  rcases h with h | ⟨G, mc, m, hh, ev, hm⟩
  · exact Or.inl h
  · exact Or.inr ⟨G, mc, m, hh, ev, hm.below hb⟩
theorem RL.nil (n : Nat) (R : Nat → Nat → Nat) (w : World) : RL (.slice none 0 0) 0 n R w := ⟨none, 0, rfl, fun i hi => by omega⟩

theorem Mx.any {B G m n n' : Nat} {R : Nat → Nat → Nat} {h : Nat → Nat} {w : World} (H : Mx B G m 0 n R h w) : Mx B G m 0 n' R h w :=
  ⟨by obtain ⟨f, hf, _⟩ := H.outer; exact ⟨f, hf, fun i hi => by omega⟩, fun i hi => by omega, H.geG, fun i hi => by omega, fun i hi => by omega, fun i hi => by omega, H.le⟩

end Go.Proofs.YtaliaikahohemaaDoor

/- Plain mathematics: linear equations (Solve): the rows with what they are to be behind them. -/
namespace Go.Proofs.YtaliaikahohemaaDoor

end Go.Proofs.YtaliaikahohemaaDoor

/- The reference's matrices: linear equations (Solve). -/
namespace Go.Proofs.YtaliaikahohemaaDoor
open Go.RowKit Go.Sort

theorem OwnI.elm {base : Nat} {v : Value} {n : Nat} {c : Nat → Nat} {w : World} (h : OwnI base v (zl (n + 1) fun j => ((c j : Nat) : Int)) w) : Elm v (n, c) w := by
  have h1 := h.ownC c (fun k hk => by rw [zl_len] at hk; rw [zl_getD _ _ k hk])
  rw [zl_len] at h1
  exact h1.elm

end Go.Proofs.YtaliaikahohemaaDoor

/- The program's matrices: linear equations (Solve). -/
namespace Go.Proofs.YtaliaikahohemaaDoor
open Go.RowKit

end Go.Proofs.YtaliaikahohemaaDoor

/- The program's matrices: inverses (rightOf, Inverse). -/
namespace Go.Proofs.YtaliaikahohemaaDoor
open Go.RowKit

/-- m rows of m numbers: the right half of the rows R. -/
def InvR (G2 m : Nat) (h : Nat → Nat) (R : Nat → Nat → Nat) (w : World) : Prop := ∀ i, i < m → w.cell? ⟨G2, i, none⟩ = some (.slice (some ⟨h i, m, none⟩) m m) ∧ Sl (some ⟨h i, m, none⟩) m (fun c => R i (m + c)) w

end Go.Proofs.YtaliaikahohemaaDoor

/- Plain mathematics: there is a reduced form. -/
namespace Go.Proofs.YtaliaikahohemaaDoor

end Go.Proofs.YtaliaikahohemaaDoor

/- A list of lists of numbers that a statement is given, opened. -/
namespace Go.Proofs.YtaliaikahohemaaDoor
open Go.ChangeShapes Go.WideShapes Go.ChangeAt Go.RowKit

/-- A matrix that is handed in: m lists of whatever length. -/
structure MatO (ao : Option Addr) (m : Nat) (A : Nat → Option Addr) (N C : Nat → Nat) (Z : Nat → Nat → Int) (w : World) : Prop where
  cell : ∀ i, i < m → ∃ b off, ao = some ⟨b, off, none⟩ ∧ w.cell? ⟨b, off + i, none⟩ = some (.slice (A i) (N i) (C i))
  sl : ∀ i, i < m → SlZ (A i) (N i) (Z i) w
  le : ∀ i, i < m → N i ≤ C i
  cap : ∀ i, i < m → C i ≤ 9223372036854775807
  nil : ∀ i, i < m → A i = none → C i = 0
theorem MatO.matZ {ao : Option Addr} {m : Nat} {A : Nat → Option Addr} {N C : Nat → Nat} {Z : Nat → Nat → Int} {w : World} (h : MatO ao m A N C Z w) (hf : ∀ i, i < m → N i ≤ 1000000) : MatZ ao m A N C Z w := ⟨h.cell, h.sl, h.le, h.cap, h.nil, hf⟩

end Go.Proofs.YtaliaikahohemaaDoor

/- How heavy a list of lists is that a statement is given. -/
namespace Go.Proofs.YtaliaikahohemaaDoor
open Go.RowKit Go.Sort

/-- The lists' number, and the lengths of the first i, added up to where it is above 6,000. -/
def hvs (N : Nat → Nat) (m : Nat) : Nat → Nat
  | 0 => m
  | i + 1 => if hvs N m i ≤ 6000 then hvs N m i + N i else hvs N m i
end Go.Proofs.YtaliaikahohemaaDoor

/- MatrixSays: lists of lists held against one another; how heavy a matrix is; are all numbers elements. -/
namespace Go.Proofs.YtaliaikahohemaaDoor
open Go.RowKit Go.Sort

theorem sl_sliceI {x : Option Addr} {n cx : Nat} {c : Nat → Nat} {w : World} (h : Sl x n c w) (hn : n ≤ 1000000) : SliceI (.slice x n cx) (zl n fun j => ((c j : Nat) : Int)) w := by
  by_cases h0 : n = 0
  · subst h0
    exact Or.inl ⟨rfl, x, cx, rfl⟩
  · obtain ⟨b, off, e, _⟩ := h 0 (by omega)
    refine Or.inr ⟨fun e => ?_, by rw [zl_len]; exact hn, b, off, cx, by rw [zl_len, e], fun j hj => ?_⟩
    · have := congrArg List.length e
      rw [zl_len] at this
      exact h0 this
    · rw [zl_len] at hj
      obtain ⟨b', off', e', hc⟩ := h j hj
      rw [e] at e'
      cases e'
      rw [zl_getD n _ j hj]; exact hc

set_option maxHeartbeats 2000000 in
set_option maxRecDepth 100000 in
theorem sameAll_rl {va vb : Value} {k n : Nat} {R : Nat → Nat → Nat} {w : World} (ha : RL va k n R w) (hb : RL vb k n R w) (hk : k ≤ 1000000) (hn : n ≤ 1000000) :
    Calls Tryd.prog 24 #[va, vb] w fun e w' => e = .returned (.bool true) ∧ ∃ n, w' = w.drewN n := by
  obtain ⟨ao, ca, rfl, ha⟩ := ha
  obtain ⟨bo, cb, rfl, hb⟩ := hb
  have HC : Hid ((∀ i, i < k → ∃ b off x cx, ao = some ⟨b, off, none⟩ ∧ w.cell? ⟨b, off + i, none⟩ = some (.slice x n cx) ∧ Sl x n (R i) w) ∧ ∀ i, i < k → ∃ b off x cx, bo = some ⟨b, off, none⟩ ∧ w.cell? ⟨b, off + i, none⟩ = some (.slice x n cx) ∧ Sl x n (R i) w) := ⟨ha, hb⟩
  clear ha hb
  go_enter Tryd.func24, Tryd.ntmps24
  go_wp2
  go_loopw [5] (fun i wr => ∃ r : Nat, r ≤ k ∧ i = .int .i64 r ∧ ∃ n, wr = w.drewN n) (fun i _ => k - (intOf i).toNat)
  case atStart => exact ⟨0, by omega, rfl, 0, rfl⟩
  case round =>
    obtain ⟨r, hr, rfl, d, rfl⟩ := hrel
    by_cases hlt : r < k
    · obtain ⟨b, off, x, cx, rfl, hc, hs⟩ := HC.out.1 r hlt
      obtain ⟨b', off', x', cx', rfl, hc', hs'⟩ := HC.out.2 r hlt
      have HS : Hid (∀ k, Calls Tryd.prog 41 #[.slice x n cx, .slice x' n cx'] (w.drewN (d + k)) fun e w' => e = .returned (.bool true) ∧ ∃ m, w' = w.drewN (d + m)) := fun k => by
        refine (same_any (w := w.drewN (d + k)) ((sl_sliceI hs hn).drewN _) ((sl_sliceI hs' hn).drewN _)).mono ?_
        rintro e w' ⟨rfl, m, rfl⟩
        exact ⟨by rw [decide_eq_true rfl], k + m, by rw [World.drewN_drewN, Nat.add_assoc]⟩
      have hib : (r : Int) < (k : Int) := by omega
      have hib0 : (0 : Int) ≤ (r : Int) := by omega
      clear hs hs'
      go_wp2
      go_big_quiet (first | (go_at_call 41; exact HS.out _))
      go_wp2
      go_roundw
      case rel => exact ⟨r + 1, by omega, by go_num, _, by first | rfl | rw [World.drewN_drewN]⟩
      case measure => simp [intOf]; omega
    · go_wp2
      go_ret
      exact ⟨rfl, _, rfl⟩

end Go.Proofs.YtaliaikahohemaaDoor

/- MatrixSays: inverses. -/
namespace Go.Proofs.YtaliaikahohemaaDoor
open Go.RowKit Go.Sort

theorem mchk_of {D : FD} {m : Nat} {N : Nat → Nat} {Z : Nat → Nat → Int} (hm : m ≤ 64) (h : ∀ i, i < m → D.mrow (N 0) (N i) (Z i) = 0) : D.mchk m N Z = 0 := by
  have key : ∀ k, k ≤ m → D.mchks N Z k = 0 := fun k => by
    induction k with
    | zero => intro _; rfl
    | succ k ih =>
      intro hk
      rw [FD.mchks, ih (by omega)]
      simp [h k (by omega)]
  unfold FD.mchk
  rw [if_neg (by omega)]
  exact key m (Nat.le_refl _)
theorem InvR.matZ {G2 m : Nat} {h : Nat → Nat} {R : Nat → Nat → Nat} {w : World} (H : InvR G2 m h R w) (hm : m ≤ 64) : MatZ (some ⟨G2, 0, none⟩) m (fun i => some ⟨h i, m, none⟩) (fun _ => m) (fun _ => m) (fun i c => ((R i (m + c) : Nat) : Int)) w :=
  ⟨fun i hi => ⟨G2, 0, rfl, by rw [Nat.zero_add]; exact (H i hi).1⟩, fun i hi => (H i hi).2, fun i _ => Nat.le_refl _, fun i _ => (by omega), (fun i _ e => by cases e), fun i _ => (by omega)⟩
theorem InvR.mchk {D : FD} {m : Nat} {R : Nat → Nat → Nat} (hm0 : 0 < m) (hm : m ≤ 64) (he : ∀ i, i < m → El D (R i)) : D.mchk m (fun _ => m) (fun i c => ((R i (m + c) : Nat) : Int)) = 0 := by
  refine mchk_of hm (fun i hi => ?_)
  unfold FD.mrow
  rw [if_neg (by omega), if_neg (by omega), if_pos]
  exact allHas_iff.2 (fun j _ => has_of_lt (he i hi (m + j)))

end Go.Proofs.YtaliaikahohemaaDoor

/- Matrices out of raw numbers (MatrixOf). -/
namespace Go.Proofs.YtaliaikahohemaaDoor
open Go.RowKit Go.Sort

def slA (v : Value) : Option Addr := match v with | .slice a _ _ => a | _ => none
def slC (v : Value) : Nat := match v with | .slice _ _ c => c | _ => 0
/-- i lists of c numbers below q, in a list of the call's own. -/
structure MkS (base q c i : Nat) (v : Value) (vs : Nat → Value) (Z : Nat → Nat → Int) (w : World) : Prop where
  own : OwnV base v (vl i vs) w
  row : ∀ j, j < i → OwnI base (vs j) (zl c (Z j)) w
  blw : ∀ j, j < i → Blw q c (Z j)
theorem MkS.below {base q c i : Nat} {v : Value} {vs : Nat → Value} {Z : Nat → Nat → Int} {w w' : World} (h : MkS base q c i v vs Z w) (hb : Below w.heap.size w w') : MkS base q c i v vs Z w' :=
  ⟨h.own.below hb (Nat.le_refl _), fun j hj => (h.row j hj).below hb (fun k hk => ((h.row j hj).lt k hk).2), h.blw⟩
theorem MkS.push {base q c i : Nat} {v v' u : Value} {vs : Nat → Value} {Z : Nat → Nat → Int} {y : Nat → Int} {w w' : World} (h : MkS base q c i v vs Z w) (hu : OwnI base u (zl c y) w) (hy : Blw q c y) (ho : OwnV base v' (vl i vs ++ [u]) w') (hg : w.grownBy w' v.ownBlock) :
    MkS base q c (i + 1) v' (fun j => if j = i then u else vs j) (fun j => if j = i then y else Z j) w' := by
  refine ⟨?_, fun j hj => ?_, fun j hj => ?_⟩
  · have e : vl (i + 1) (fun j => if j = i then u else vs j) = vl i vs ++ [u] := by
      unfold vl
      rw [List.range_succ, List.map_append]
      congr 1
      · exact List.map_congr_left (fun j hj => by rw [if_neg (by have := List.mem_range.1 hj; omega)])
      · simp
    rw [e]; exact ho
  · by_cases e : j = i
    · simp only [if_pos e]; exact hu.kept hg (hu.apart h.own)
    · simp only [if_neg e]; exact (h.row j (by omega)).kept hg ((h.row j (by omega)).apart h.own)
  · by_cases e : j = i
    · simp only [if_pos e]; exact hy
    · simp only [if_neg e]; exact h.blw j (by omega)
theorem MkS.matZ {base q c i : Nat} {v : Value} {vs : Nat → Value} {Z : Nat → Nat → Int} {w : World} (h : MkS base q c i v vs Z w) (hc : c ≤ 1000000) : ∃ mo mc, v = .slice mo i mc ∧ MatZ mo i (fun j => slA (vs j)) (fun _ => c) (fun j => slC (vs j)) Z w := by
  obtain ⟨mo, mc, hv, _, _, _, hcell⟩ := h.own.open
  rw [vl_len] at hv
  have key : ∀ j, j < i → ∃ so sc, vs j = .slice so c sc ∧ ArgL so c sc (Z j) w := fun j hj => (h.row j hj).argL
  refine ⟨mo, mc, hv, ⟨fun j hj => ?_, fun j hj => ?_, fun j hj => ?_, fun j hj => ?_, fun j hj => ?_, fun j _ => hc⟩⟩
  · obtain ⟨g, e, hc, _⟩ := hcell j (vs j) (vl_get i vs j hj)
    obtain ⟨so, sc, e2, _⟩ := key j hj
    refine ⟨g, 0, e, ?_⟩
    rw [Nat.zero_add, hc, e2]; rfl
  · obtain ⟨so, sc, e2, ha⟩ := key j hj
    simp only [e2, slA]; exact ha.sl
  · obtain ⟨so, sc, e2, ha⟩ := key j hj
    simp only [e2, slC]; exact ha.le
  · obtain ⟨so, sc, e2, ha⟩ := key j hj
    simp only [e2, slC]; exact ha.cap
  · obtain ⟨so, sc, e2, ha⟩ := key j hj
    simp only [e2, slA, slC]; exact ha.nil

end Go.Proofs.YtaliaikahohemaaDoor

/- A region that draws its order and whose last operation, which waits for all others, writes what another one reads. No Go text here. -/
namespace Go.Proofs.YtaliaikahohemaaDoor
open Go

end Go.Proofs.YtaliaikahohemaaDoor
