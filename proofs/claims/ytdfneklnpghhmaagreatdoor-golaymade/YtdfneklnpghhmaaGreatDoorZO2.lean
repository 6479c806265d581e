/- Texts of ours, one behind the other: O2 O3 L11 L12 L13 L14 U23 H1 H2 H3 H4 K4 S8 Y1 Y2 Y3 S9 Y4 W10 Y5 S10 S11 Z1 Z2 Z3 Z4 Z5 Z6 Z7 Z8 Z9 Z10 Z11 Z12 Q1 Q2. -/
import Derived.Test.YtdfneklnpghhmaaGreatDoorZL10
import Derived.Test.YtdfneklnpghhmaaGreatDoorZT5
import Derived.Test.YtdfneklnpghhmaaGreatDoorZX12
import Derived.Test.YtdfneklnpghhmaaGreatDoorZV7
import Derived.Maps.AppendAt
import Derived.Deep.AppendLies
import Derived.Test.YtdfneklnpghhmaaGreatDoorZW9
import Derived.Test.YtdfneklnpghhmaaGreatDoorZR9
import Derived.Test.YtdfneklnpghhmaaGreatDoorZL1
import Derived.Test.YtdfneklnpghhmaaGreatDoorZX1
import Derived.Test.YtdfneklnpghhmaaGreatDoorZW5
import Derived.Test.YtdfneklnpghhmaaGreatDoorZS2
/- A list of lists of numbers that a statement is given, opened. -/
namespace Go.Proofs.YtdfneklnpghhmaaGreatDoor
open Go.ChangeShapes Go.WideShapes Go.ChangeAt Go.RowKit

/-- A matrix that is handed in: m lists of whatever length. -/
structure MatO (ao : Option Addr) (m : Nat) (A : Nat → Option Addr) (N C : Nat → Nat) (Z : Nat → Nat → Int) (w : World) : Prop where
  cell : ∀ i, i < m → ∃ b off, ao = some ⟨b, off, none⟩ ∧ w.cell? ⟨b, off + i, none⟩ = some (.slice (A i) (N i) (C i))
  sl : ∀ i, i < m → SlZ (A i) (N i) (Z i) w
  le : ∀ i, i < m → N i ≤ C i
  cap : ∀ i, i < m → C i ≤ 9223372036854775807
  nil : ∀ i, i < m → A i = none → C i = 0
theorem MatO.matZ {ao : Option Addr} {m : Nat} {A : Nat → Option Addr} {N C : Nat → Nat} {Z : Nat → Nat → Int} {w : World} (h : MatO ao m A N C Z w) (hf : ∀ i, i < m → N i ≤ 1000000) : MatZ ao m A N C Z w := ⟨h.cell, h.sl, h.le, h.cap, h.nil, hf⟩

end Go.Proofs.YtdfneklnpghhmaaGreatDoor

/- How heavy a list of lists is that a statement is given. -/
namespace Go.Proofs.YtdfneklnpghhmaaGreatDoor
open Go.RowKit Go.Sort

/-- The lists' number, and the lengths of the first i, added up to where it is above 6,000. -/
def hvs (N : Nat → Nat) (m : Nat) : Nat → Nat
  | 0 => m
  | i + 1 => if hvs N m i ≤ 6000 then hvs N m i + N i else hvs N m i
theorem hvs_stay {N : Nat → Nat} {m i : Nat} (h : ¬ hvs N m i ≤ 6000) : ∀ d, hvs N m (i + d) = hvs N m i
  | 0 => rfl
  | d + 1 => by
    show (if hvs N m (i + d) ≤ 6000 then hvs N m (i + d) + N (i + d) else hvs N m (i + d)) = _
    rw [hvs_stay h d, if_neg h]
theorem hvs_few {N : Nat → Nat} {m : Nat} : ∀ i, hvs N m i ≤ 6000 → m ≤ 6000 ∧ ∀ j, j < i → N j ≤ 6000
  | 0, h => ⟨h, fun j hj => by omega⟩
  | i + 1, h => by
    by_cases e : hvs N m i ≤ 6000
    · have h' : (if hvs N m i ≤ 6000 then hvs N m i + N i else hvs N m i) ≤ 6000 := h
      rw [if_pos e] at h'
      have ih := hvs_few i e
      refine ⟨ih.1, fun j hj => ?_⟩
      by_cases e2 : j = i
      · rw [e2]; omega
      · exact ih.2 j (by omega)
    · have h' : (if hvs N m i ≤ 6000 then hvs N m i + N i else hvs N m i) ≤ 6000 := h
      rw [if_neg e] at h'
      exact absurd h' e

set_option maxHeartbeats 2000000 in
set_option maxRecDepth 100000 in
theorem heavy_any {ao : Option Addr} {m ca : Nat} {A : Nat → Option Addr} {N C : Nat → Nat} {w : World} (hc : ∀ i, i < m → ∃ b off, ao = some ⟨b, off, none⟩ ∧ w.cell? ⟨b, off + i, none⟩ = some (.slice (A i) (N i) (C i))) (hm : m ≤ 17592186044416) (hN : ∀ i, i < m → N i ≤ 17592186044416) :
    Calls Tryz.prog 5 #[.slice ao m ca] w fun r w' => r = .returned (.bool (decide (6000 < hvs N m m))) ∧ w' = w := by
  have HC : Hid ((∀ i, i < m → ∃ b off, ao = some ⟨b, off, none⟩ ∧ w.cell? ⟨b, off + i, none⟩ = some (.slice (A i) (N i) (C i))) ∧ ∀ i, i < m → N i ≤ 17592186044416) := ⟨hc, hN⟩
  clear hc hN
  go_enter Tryz.func5, Tryz.ntmps5
  go_wp2
  go_loopw [3, 4] (fun vn vi wr => ∃ (s i : Nat), i ≤ m ∧ vn = .int .i64 s ∧ vi = .int .i64 i ∧ s ≤ 17592186044416 + 17592186044416 ∧ Hid (s = hvs N m i) ∧ wr = w) (fun _ vi _ => m - (intOf vi).toNat)
  case atStart => exact ⟨m, 0, by omega, rfl, rfl, by omega, (show Hid _ from rfl), rfl⟩
  case round =>
    obtain ⟨s, i, hi, rfl, rfl, hs, HG, hw⟩ := hrel
    have hw := hw.symm
    subst hw
    by_cases hlt : i < m
    · have hib : (i : Int) < (m : Int) := by omega
      by_cases h6 : s ≤ 6000
      · have h6b : (s : Int) ≤ 6000 := by omega
        obtain ⟨b, off, rfl, hcl⟩ := HC.out.1 i hlt
        have hNi := HC.out.2 i hlt
        obtain ⟨x, hx⟩ : ∃ x, x = N i := ⟨_, rfl⟩
        rw [← hx] at hcl hNi
        have HV : Hid (s + x = hvs N m (i + 1)) := by
          show s + x = if hvs N m i ≤ 6000 then hvs N m i + N i else hvs N m i
          rw [← HG.out, if_pos h6, hx]
        clear hx
        go_wp2
        go_roundw
        case rel => exact ⟨s + x, i + 1, by omega, by go_num, by go_num, by omega, HV.out, by first | rfl | trivial⟩
        case measure => simp [intOf]; omega
      · have h6b : ¬ (s : Int) ≤ 6000 := by omega
        have h6c : (6000 : Int) < (s : Int) := by omega
        have HV : Hid (decide (6000 < hvs N m m) = true) := by
          show _ = _
          have h1 := hvs_stay (N := N) (m := m) (i := i) (by rw [← HG.out]; exact h6) (m - i)
          rw [show i + (m - i) = m from by omega] at h1
          rw [decide_eq_true_eq, h1, ← HG.out]; omega
        clear h6
        go_wp2
        go_ret
        exact ⟨by rw [HV.out]; rfl, rfl⟩
    · have hib : ¬ (i : Int) < (m : Int) := by omega
      have hie : m = i := by omega
      subst hie
      by_cases h6 : s ≤ 6000
      · have h6c : ¬ (6000 : Int) < (s : Int) := by omega
        have HV : Hid (decide (6000 < hvs N m m) = false) := by
          show _ = _
          rw [decide_eq_false_iff_not, ← HG.out]; omega
        clear h6
        go_wp2
        go_ret
        exact ⟨by rw [HV.out]; rfl, rfl⟩
      · have h6c : (6000 : Int) < (s : Int) := by omega
        have HV : Hid (decide (6000 < hvs N m m) = true) := by
          show _ = _
          rw [decide_eq_true_eq, ← HG.out]; omega
        clear h6
        go_wp2
        go_ret
        exact ⟨by rw [HV.out]; rfl, rfl⟩
end Go.Proofs.YtdfneklnpghhmaaGreatDoor

/- MatrixSays: lists of lists held against one another; how heavy a matrix is; are all numbers elements. -/
namespace Go.Proofs.YtdfneklnpghhmaaGreatDoor
open Go.RowKit Go.Sort

theorem sl_sliceI {x : Option Addr} {n cx : Nat} {c : Nat → Nat} {w : World} (h : Sl x n c w) (hn : n ≤ 1000000) : SliceI (.slice x n cx) (zl n fun j => ((c j : Nat) : Int)) w := by
  by_cases h0 : n = 0
  · subst h0
    exact Or.inl ⟨rfl, x, cx, rfl⟩
  · obtain ⟨b, off, e, _⟩ := h 0 (by omega)
    refine Or.inr ⟨fun e => ?_, by rw [zl_len]; exact hn, b, off, cx, by rw [zl_len, e], fun j hj => ?_⟩
    · have := congrArg List.length e
      rw [zl_len] at this
      exact h0 this
    · rw [zl_len] at hj
      obtain ⟨b', off', e', hc⟩ := h j hj
      rw [e] at e'
      cases e'
      rw [zl_getD n _ j hj]; exact hc

set_option maxHeartbeats 2000000 in
set_option maxRecDepth 100000 in
theorem sameAll_rl {va vb : Value} {k n : Nat} {R : Nat → Nat → Nat} {w : World} (ha : RL va k n R w) (hb : RL vb k n R w) (hk : k ≤ 1000000) (hn : n ≤ 1000000) :
    Calls Tryz.prog 33 #[va, vb] w fun e w' => e = .returned (.bool true) ∧ ∃ n, w' = w.drewN n := by
  obtain ⟨ao, ca, rfl, ha⟩ := ha
  obtain ⟨bo, cb, rfl, hb⟩ := hb
  have HC : Hid ((∀ i, i < k → ∃ b off x cx, ao = some ⟨b, off, none⟩ ∧ w.cell? ⟨b, off + i, none⟩ = some (.slice x n cx) ∧ Sl x n (R i) w) ∧ ∀ i, i < k → ∃ b off x cx, bo = some ⟨b, off, none⟩ ∧ w.cell? ⟨b, off + i, none⟩ = some (.slice x n cx) ∧ Sl x n (R i) w) := ⟨ha, hb⟩
  clear ha hb
  go_enter Tryz.func33, Tryz.ntmps33
  go_wp2
  go_loopw [5] (fun i wr => ∃ r : Nat, r ≤ k ∧ i = .int .i64 r ∧ ∃ n, wr = w.drewN n) (fun i _ => k - (intOf i).toNat)
  case atStart => exact ⟨0, by omega, rfl, 0, rfl⟩
  case round =>
    obtain ⟨r, hr, rfl, d, rfl⟩ := hrel
    by_cases hlt : r < k
    · obtain ⟨b, off, x, cx, rfl, hc, hs⟩ := HC.out.1 r hlt
      obtain ⟨b', off', x', cx', rfl, hc', hs'⟩ := HC.out.2 r hlt
      have HS : Hid (∀ k, Calls Tryz.prog 24 #[.slice x n cx, .slice x' n cx'] (w.drewN (d + k)) fun e w' => e = .returned (.bool true) ∧ ∃ m, w' = w.drewN (d + m)) := fun k => by
        refine (same_any (w := w.drewN (d + k)) ((sl_sliceI hs hn).drewN _) ((sl_sliceI hs' hn).drewN _)).mono ?_
        rintro e w' ⟨rfl, m, rfl⟩
        exact ⟨by rw [decide_eq_true rfl], k + m, by rw [World.drewN_drewN, Nat.add_assoc]⟩
      have hib : (r : Int) < (k : Int) := by omega
      have hib0 : (0 : Int) ≤ (r : Int) := by omega
      clear hs hs'
      go_wp2
      go_big_quiet (first | (go_at_call 24; exact HS.out _))
      go_wp2
      go_roundw
      case rel => exact ⟨r + 1, by omega, by go_num, _, by first | rfl | rw [World.drewN_drewN]⟩
      case measure => simp [intOf]; omega
    · go_wp2
      go_ret
      exact ⟨rfl, _, rfl⟩

set_option maxHeartbeats 2000000 in
theorem lists_rl {va vb : Value} {k n : Nat} {R : Nat → Nat → Nat} {w : World} (ha : RL va k n R w) (hb : RL vb k n R w) (hk : k ≤ 1000000) (hn : n ≤ 1000000) :
    Calls Tryz.prog 9 #[va, .int .i64 0, vb, .int .i64 0] w fun r w' => r = .returned (.bool true) ∧ ∃ n, w' = w.drewN n := by
  have H : Hid (RL va k n R w ∧ RL vb k n R w) := ⟨ha, hb⟩
  clear ha hb
  go_enter Tryz.func9, Tryz.ntmps9
  go_wp2_with fail
  refine (sameAll_rl H.out.1 H.out.2 hk hn).mono ?_
  rintro e w' ⟨rfl, n, rfl⟩
  go_wp2
  go_ret
  exact ⟨rfl, _, rfl⟩

end Go.Proofs.YtdfneklnpghhmaaGreatDoor

/- MatrixSays: inverses. -/
namespace Go.Proofs.YtdfneklnpghhmaaGreatDoor
open Go.RowKit Go.Sort

theorem mchk_of {D : FD} {m : Nat} {N : Nat → Nat} {Z : Nat → Nat → Int} (hm : m ≤ 64) (h : ∀ i, i < m → D.mrow (N 0) (N i) (Z i) = 0) : D.mchk m N Z = 0 := by
  have key : ∀ k, k ≤ m → D.mchks N Z k = 0 := fun k => by
    induction k with
    | zero => intro _; rfl
    | succ k ih =>
      intro hk
      rw [FD.mchks, ih (by omega)]
      simp [h k (by omega)]
  unfold FD.mchk
  rw [if_neg (by omega)]
  exact key m (Nat.le_refl _)
end Go.Proofs.YtdfneklnpghhmaaGreatDoor

/- MatrixSays: one matrix (matrixOne), where it may not be, and where it has no row. -/
namespace Go.Proofs.YtdfneklnpghhmaaGreatDoor
open Go.RowKit Go.Sort

end Go.Proofs.YtdfneklnpghhmaaGreatDoor

/- MatrixSays: one matrix that may be: what the calls on both sides tell, in one form. -/
namespace Go.Proofs.YtdfneklnpghhmaaGreatDoor
open Go.RowKit Go.Sort

theorem RL.open {v : Value} {k n : Nat} {R : Nat → Nat → Nat} {w : World} (h : RL v k n R w) : ∃ ao ca, v = .slice ao k ca := by
  obtain ⟨ao, ca, e, _⟩ := h
  exact ⟨ao, ca, e⟩
end Go.Proofs.YtdfneklnpghhmaaGreatDoor

/- The program's polynomials: a sum with an empty list, wherever that lies. -/
namespace Go.Proofs.YtdfneklnpghhmaaGreatDoor
open Go.RowKit Go.Sort

end Go.Proofs.YtdfneklnpghhmaaGreatDoor

/- Curves (lists.Curve): what both sides reckon; the calls that they make. -/
namespace Go.Proofs.YtdfneklnpghhmaaGreatDoor
open Go.RowKit Go.Sort

theorem OwnP.arg {base n : Nat} {v : Value} {c : Nat → Nat} {w : World} (h : OwnP base v n c w) (hn : n ≤ 1000000) : ∃ so sc, v = .slice so n sc ∧ Arg so n sc (fun j => ((c j : Nat) : Int)) w := by
  obtain ⟨so, sc, rfl, h1, h2, _, h4, h5, h6⟩ := h.open
  exact ⟨so, sc, rfl, h6, h4, hn, h5, h1, h2⟩
theorem MatZ.arg {ao : Option Addr} {m : Nat} {A : Nat → Option Addr} {N C : Nat → Nat} {Z : Nat → Nat → Int} {w : World} (h : MatZ ao m A N C Z w) {j : Nat} (hj : j < m) (hN : N j ≠ 0) : Arg (A j) (N j) (C j) (Z j) w := by
  refine ⟨h.sl j hj, fun x hx => ?_, h.few j hj, h.nil j hj, h.le j hj, h.cap j hj⟩
  obtain ⟨b, off, e, hc⟩ := h.sl j hj 0 (by omega)
  rw [hx] at e
  cases e
  exact cell_lt hc
end Go.Proofs.YtdfneklnpghhmaaGreatDoor

/- Curves: the program's, and the reference's. -/
namespace Go.Proofs.YtdfneklnpghhmaaGreatDoor
open Go.RowKit Go.Sort

end Go.Proofs.YtdfneklnpghhmaaGreatDoor

/- Curves: the reference's. -/
namespace Go.Proofs.YtdfneklnpghhmaaGreatDoor
open Go.RowKit Go.Sort

end Go.Proofs.YtdfneklnpghhmaaGreatDoor

/- ListsCurve: the walk of the statement, whatever it is given. -/
namespace Go.Proofs.YtdfneklnpghhmaaGreatDoor
open Go.RowKit Go.Sort

end Go.Proofs.YtdfneklnpghhmaaGreatDoor

/- Matrices out of raw numbers (MatrixOf). -/
namespace Go.Proofs.YtdfneklnpghhmaaGreatDoor
open Go.RowKit Go.Sort

def slA (v : Value) : Option Addr := match v with | .slice a _ _ => a | _ => none
def slC (v : Value) : Nat := match v with | .slice _ _ c => c | _ => 0
/-- i lists of c numbers below q, in a list of the call's own. -/
structure MkS (base q c i : Nat) (v : Value) (vs : Nat → Value) (Z : Nat → Nat → Int) (w : World) : Prop where
  own : OwnV base v (vl i vs) w
  row : ∀ j, j < i → OwnI base (vs j) (zl c (Z j)) w
  blw : ∀ j, j < i → Blw q c (Z j)
theorem MkS.below {base q c i : Nat} {v : Value} {vs : Nat → Value} {Z : Nat → Nat → Int} {w w' : World} (h : MkS base q c i v vs Z w) (hb : Below w.heap.size w w') : MkS base q c i v vs Z w' :=
  ⟨h.own.below hb (Nat.le_refl _), fun j hj => (h.row j hj).below hb (fun k hk => ((h.row j hj).lt k hk).2), h.blw⟩
theorem MkS.push {base q c i : Nat} {v v' u : Value} {vs : Nat → Value} {Z : Nat → Nat → Int} {y : Nat → Int} {w w' : World} (h : MkS base q c i v vs Z w) (hu : OwnI base u (zl c y) w) (hy : Blw q c y) (ho : OwnV base v' (vl i vs ++ [u]) w') (hg : w.grownBy w' v.ownBlock) :
    MkS base q c (i + 1) v' (fun j => if j = i then u else vs j) (fun j => if j = i then y else Z j) w' := by
  refine ⟨?_, fun j hj => ?_, fun j hj => ?_⟩
  · have e : vl (i + 1) (fun j => if j = i then u else vs j) = vl i vs ++ [u] := by
      unfold vl
      rw [List.range_succ, List.map_append]
      congr 1
      · exact List.map_congr_left (fun j hj => by rw [if_neg (by have := List.mem_range.1 hj; omega)])
      · simp
    rw [e]; exact ho
  · by_cases e : j = i
    · simp only [if_pos e]; exact hu.kept hg (hu.apart h.own)
    · simp only [if_neg e]; exact (h.row j (by omega)).kept hg ((h.row j (by omega)).apart h.own)
  · by_cases e : j = i
    · simp only [if_pos e]; exact hy
    · simp only [if_neg e]; exact h.blw j (by omega)
theorem MkS.matZ {base q c i : Nat} {v : Value} {vs : Nat → Value} {Z : Nat → Nat → Int} {w : World} (h : MkS base q c i v vs Z w) (hc : c ≤ 1000000) : ∃ mo mc, v = .slice mo i mc ∧ MatZ mo i (fun j => slA (vs j)) (fun _ => c) (fun j => slC (vs j)) Z w := by
  obtain ⟨mo, mc, hv, _, _, _, hcell⟩ := h.own.open
  rw [vl_len] at hv
  have key : ∀ j, j < i → ∃ so sc, vs j = .slice so c sc ∧ ArgL so c sc (Z j) w := fun j hj => (h.row j hj).argL
  refine ⟨mo, mc, hv, ⟨fun j hj => ?_, fun j hj => ?_, fun j hj => ?_, fun j hj => ?_, fun j hj => ?_, fun j _ => hc⟩⟩
  · obtain ⟨g, e, hc, _⟩ := hcell j (vs j) (vl_get i vs j hj)
    obtain ⟨so, sc, e2, _⟩ := key j hj
    refine ⟨g, 0, e, ?_⟩
    rw [Nat.zero_add, hc, e2]; rfl
  · obtain ⟨so, sc, e2, ha⟩ := key j hj
    simp only [e2, slA]; exact ha.sl
  · obtain ⟨so, sc, e2, ha⟩ := key j hj
    simp only [e2, slC]; exact ha.le
  · obtain ⟨so, sc, e2, ha⟩ := key j hj
    simp only [e2, slC]; exact ha.cap
  · obtain ⟨so, sc, e2, ha⟩ := key j hj
    simp only [e2, slA, slC]; exact ha.nil

set_option maxHeartbeats 4000000 in
set_option maxRecDepth 100000 in
theorem matrixOf_any {ao : Option Addr} {n ca : Nat} {z : Nat → Int} {w : World} (h : Arg ao n ca z w) (hn : n ≤ 1000) (f q r c : Nat) (hf : f ≤ 1000) (hq : 1 ≤ q) (hq2 : q ≤ 100000) (hr : r ≤ 100) (hc : c ≤ 100) :
    Calls Tryz.prog 40 #[.slice ao n ca, .int .i64 f, .int .i64 q, .int .i64 r, .int .i64 c] w fun e w' => ∃ v vs Z, e = .returned v ∧ MkS w.heap.size q c r v vs Z w' ∧ Below w.heap.size w w' := by
  have HA : Hid (Arg ao n ca z w) := h
  clear h
  go_enter Tryz.func40, Tryz.ntmps40
  go_wp2
  go_loopw [11, 12] (fun v vi wr => ∃ (i : Nat) (vs : Nat → Value) (Z : Nat → Nat → Int), i ≤ r ∧ vi = .int .i64 i ∧ Hid (MkS w.heap.size q c i v vs Z wr ∧ Below w.heap.size w wr)) (fun _ vi _ => r - (intOf vi).toNat)
  case atStart => exact ⟨0, fun _ => undef, fun _ _ => 0, by omega, rfl, ⟨OwnV.nil _ _, fun j hj => absurd hj (by omega), fun j hj => absurd hj (by omega)⟩, Below.refl _ _⟩
  case round =>
    obtain ⟨i, vs, Z, hi, rfl, HG⟩ := hrel
    rename World => wA
    by_cases hlt : i < r
    · have hib : (i : Int) < (r : Int) := by omega
      obtain ⟨ic, hic⟩ : ∃ ic, ic = i * c := ⟨_, rfl⟩
      have hic2 : ic ≤ 10000 := by
        rw [hic]
        have := Nat.mul_le_mul (show i ≤ 100 by omega) hc
        omega
      have hw1 : IntKind.i64.wrap ((i : Int) * (c : Int)) = (ic : Int) := wrap_to (by rw [hic]; simp) (by omega)
      obtain ⟨fi, hfi⟩ : ∃ fi, fi = f + ic := ⟨_, rfl⟩
      have hw2 : IntKind.i64.wrap ((f : Int) + (ic : Int)) = (fi : Int) := wrap_to (by omega) (by omega)
      have HN : Hid (Calls Tryz.prog 66 #[.slice ao n ca, .int .i64 fi, .int .i64 q, .int .i64 c] wA fun e w' => ∃ bo cb y, e = .returned (.slice bo c cb) ∧ OwnI wA.heap.size (.slice bo c cb) (zl c y) w' ∧ Blw q c y ∧ Below wA.heap.size wA w') := by
        refine (numbers_any (HA.out.below HG.out.2) hn fi q c (by omega) hq hq2 (by omega)).mono ?_
        rintro e w' ⟨v, y, rfl, ho, hbl, hb⟩
        obtain ⟨bo, cb, rfl, _⟩ := ho.argL
        exact ⟨bo, cb, y, rfl, ho, hbl, hb⟩
      clear hic hfi
      go_wp2_with fail
      refine HN.out.mono ?_
      rintro e w2 ⟨bo, cb, y, rfl, ho2, hbl2, hb2⟩
      have hs2 := hb2.size
      have hsA := HG.out.2.size
      have H2 : Hid (MkS w.heap.size q c i u11 vs Z w2 ∧ OwnI w.heap.size (.slice bo c cb) (zl c y) w2 ∧ Blw q c y ∧ Below w.heap.size w w2) := ⟨HG.out.1.below hb2, ho2.mono hsA, hbl2, bel_up' HG.out.2 hb2⟩
      have hll : (vl i vs).length ≤ 1000000 := by rw [vl_len]; omega
      clear ho2 hbl2 hb2 HN
      go_wp2_with (at_builtin; refine append_sl rfl _ _ rfl w.heap.size u11 (vl i vs) rfl (H2.out.1.own.below ((Below.refl _ _).alloc (Nat.le_refl _) _) (Nat.le_refl _)) ⟨w2.heap.size, 0, none⟩ 1 (.slice bo c cb) rfl rfl (by rw [cell_of_row _ _ _ _ _ (0, 0) (two_new _)]; rfl) hll (by simp; omega) ?_; intro v' w6 hown6 hg6)
      have hal : Below w2.heap.size w2 (w2.alloc (.cells #[.slice bo c cb] 37)) := (Below.refl _ _).alloc (Nat.le_refl _) _
      have HR : Hid (MkS w.heap.size q c (i + 1) v' (fun j => if j = i then .slice bo c cb else vs j) (fun j => if j = i then y else Z j) w6 ∧ Below w.heap.size w w6) := by
        have ho := H2.out.1.below hal
        exact ⟨ho.push (H2.out.2.1.below hal (fun k hk => (H2.out.2.1.lt k hk).2)) H2.out.2.2.1 hown6 hg6, (bel_up' H2.out.2.2.2 hal).grown hg6 (by simp; omega) (fun k hk => ho.own.open_ge k hk)⟩
      clear hown6 hg6 hal
      go_roundw
      case rel => exact ⟨i + 1, _, _, by omega, by go_num, HR.out⟩
      case measure => simp [intOf]; omega
    · have hib : ¬ (i : Int) < (r : Int) := by omega
      have hie : r = i := by omega
      subst hie
      go_wp2
      go_ret
      exact ⟨_, rfl, ⟨vs, Z, HG.out.1⟩, HG.out.2⟩
end Go.Proofs.YtdfneklnpghhmaaGreatDoor

/- Plain mathematics: the shortest rule of a list (Berlekamp and Massey). -/
namespace Go.Proofs.YtdfneklnpghhmaaGreatDoor

end Go.Proofs.YtdfneklnpghhmaaGreatDoor

/- The program's rules (reed): trim, missed, less. -/
namespace Go.Proofs.YtdfneklnpghhmaaGreatDoor
open Go.RowKit Go.Sort

end Go.Proofs.YtdfneklnpghhmaaGreatDoor

/- The program's rules (reed): the shortest one (shortest, Massey). -/
namespace Go.Proofs.YtdfneklnpghhmaaGreatDoor
open Go.RowKit Go.Sort

theorem Arg.drewN {ao : Option Addr} {n cap : Nat} {z : Nat → Int} {w : World} (h : Arg ao n cap z w) (k : Nat) : Arg ao n cap z (w.drewN k) := ⟨h.sl, h.lt, h.few, h.nil, h.le, h.cap⟩

end Go.Proofs.YtdfneklnpghhmaaGreatDoor

/- The program's Massey; lists that are far too long. -/
namespace Go.Proofs.YtdfneklnpghhmaaGreatDoor
open Go.RowKit Go.Sort

end Go.Proofs.YtdfneklnpghhmaaGreatDoor

/- Equations that can be met, and the rules of shorter length. -/
namespace Go.Proofs.YtdfneklnpghhmaaGreatDoor
open Go.RowKit Go.Sort

end Go.Proofs.YtdfneklnpghhmaaGreatDoor

/- The reference's Rules: does the rule hold? -/
namespace Go.Proofs.YtdfneklnpghhmaaGreatDoor
open Go.RowKit Go.Sort

end Go.Proofs.YtdfneklnpghhmaaGreatDoor

/- 'append' of one number, and where its list lies then. -/
namespace Go.Proofs.YtdfneklnpghhmaaGreatDoor
open Go.RowKit Go.Sort

end Go.Proofs.YtdfneklnpghhmaaGreatDoor

/- The reference's Shortest: is there no shorter rule? What it keeps. -/
namespace Go.Proofs.YtdfneklnpghhmaaGreatDoor
open Go.RowKit Go.Sort

end Go.Proofs.YtdfneklnpghhmaaGreatDoor

/- Lists that a rule makes: the shortest rule of enough of them makes the rest. -/
namespace Go.Proofs.YtdfneklnpghhmaaGreatDoor
open Go.RowKit Go.Sort

end Go.Proofs.YtdfneklnpghhmaaGreatDoor

/- A polynomial that is not nought has fewer roots than coefficients; words of few coefficients are far apart. -/
namespace Go.Proofs.YtdfneklnpghhmaaGreatDoor
open Go.RowKit Go.Sort

/-- How many of the first n. -/
def ct (p : Nat → Bool) : Nat → Nat
  | 0 => 0
  | n + 1 => ct p n + if p n = true then 1 else 0
end Go.Proofs.YtdfneklnpghhmaaGreatDoor

/- The program's words (reed): values, Check and Encode where all may be. -/
namespace Go.Proofs.YtdfneklnpghhmaaGreatDoor
open Go.RowKit Go.Sort

end Go.Proofs.YtdfneklnpghhmaaGreatDoor

/- Places and a dimension: may they be? The program's Check, the reference's ReedMay, whatever they are given. -/
namespace Go.Proofs.YtdfneklnpghhmaaGreatDoor
open Go.RowKit Go.Sort

end Go.Proofs.YtdfneklnpghhmaaGreatDoor

/- The reference's ReedMay, whatever it is given. -/
namespace Go.Proofs.YtdfneklnpghhmaaGreatDoor
open Go.RowKit Go.Sort

end Go.Proofs.YtdfneklnpghhmaaGreatDoor

/- A word that came: may it be? The program's Word. -/
namespace Go.Proofs.YtdfneklnpghhmaaGreatDoor
open Go.RowKit Go.Sort

end Go.Proofs.YtdfneklnpghhmaaGreatDoor

/- A word that came: the reference's ReedWord. -/
namespace Go.Proofs.YtdfneklnpghhmaaGreatDoor
open Go.RowKit Go.Sort

end Go.Proofs.YtdfneklnpghhmaaGreatDoor

/- Whole words, and how many messages there are: the program's checkWhole, messages, digits; the law's wholeWord; the reference's Few. -/
namespace Go.Proofs.YtdfneklnpghhmaaGreatDoor
open Go.RowKit Go.Sort

end Go.Proofs.YtdfneklnpghhmaaGreatDoor

/- How many messages there are, and each by its number: the reference's Few, the program's messages, digits. -/
namespace Go.Proofs.YtdfneklnpghhmaaGreatDoor
open Go.RowKit Go.Sort

/-- The digits of a number, the greatest first. -/
def dgs (q k a : Nat) : Nat → Nat := fun j => if j < k then a / q ^ (k - 1 - j) % q else 0
end Go.Proofs.YtdfneklnpghhmaaGreatDoor

/- At how many places a message's word differs: the reference's Off, of whole words. -/
namespace Go.Proofs.YtdfneklnpghhmaaGreatDoor
open Go.RowKit Go.Sort

end Go.Proofs.YtdfneklnpghhmaaGreatDoor

/- All near messages: the program's Within. -/
namespace Go.Proofs.YtdfneklnpghhmaaGreatDoor
open Go.RowKit Go.Sort

end Go.Proofs.YtdfneklnpghhmaaGreatDoor

/- All near messages: the reference's Near. -/
namespace Go.Proofs.YtdfneklnpghhmaaGreatDoor
open Go.RowKit Go.Sort

theorem dnum_dgs' {q k a : Nat} (hq : 2 ≤ q) (ha : a < q ^ k) : ∀ i, i ≤ k → dnum q (dgs q k a) i = a / q ^ (k - i)
  | 0, _ => by rw [Nat.sub_zero, Nat.div_eq_of_lt ha]; rfl
  | i + 1, hi => by
    rw [dnum, dnum_dgs' hq ha i (by omega)]
    unfold dgs
    rw [if_pos (by omega), show k - 1 - i = k - (i + 1) from by omega]
    obtain ⟨b, hb⟩ : ∃ b, b = a / q ^ (k - (i + 1)) := ⟨_, rfl⟩
    have e : a / q ^ (k - i) = b / q := by
      rw [hb, Nat.div_div_eq_div_mul, ← Nat.pow_succ, show (k - (i + 1)).succ = k - i from by omega]
    rw [e, ← hb, Nat.mul_comm]
    exact Nat.div_add_mod b q
theorem dnum_dgs {q k a : Nat} (hq : 2 ≤ q) (ha : a < q ^ k) : dnum q (dgs q k a) k = a := by
  rw [dnum_dgs' hq ha k (Nat.le_refl _), Nat.sub_self, Nat.pow_zero, Nat.div_one]
theorem dgs_lt {q k a : Nat} (hq : 2 ≤ q) (j : Nat) : dgs q k a j < q := by
  unfold dgs
  split
  · exact Nat.mod_lt _ (by omega)
  · omega
/-- The digits, and a 1 behind them. -/
def dgm (q k a : Nat) : Nat → Nat := fun j => if j = k then 1 else dgs q k a j
theorem dgm_mn {D : FD} (F : Fld D) (k a : Nat) : Mn D k (dgm D.q k a) := by
  refine ⟨fun j => ?_, fun j hj => ?_, if_pos rfl⟩
  · unfold dgm
    split
    · exact one_lt' F
    · exact dgs_lt F.q2 j
  · unfold dgm dgs
    rw [if_neg (by omega), if_neg (by omega)]
theorem dgm_lo {q k a j : Nat} (hj : j < k) : dgm q k a j = dgs q k a j := if_neg (by omega)
theorem dgs_next {D : FD} (F : Fld D) {k a : Nat} {c : Nat → Nat} (ha : a < D.q ^ k) (hc : Mn D k c) (h : Aft D k (dgm D.q k a) k c) : a + 1 < D.q ^ k ∧ ∀ j, j < k → c j = dgs D.q k (a + 1) j := by
  have h1 : dnum D.q c k = a + 1 := by
    rcases h with ⟨_, h⟩ | ⟨h, _⟩
    · rw [h, dnum_congr (e := dgs D.q k a) k (fun j hj => dgm_lo hj), dnum_dgs F.q2 ha]
    · omega
  have h2 : a + 1 < D.q ^ k := by rw [← h1]; exact dnum_lt k (fun i _ => hc.el i)
  exact ⟨h2, dnum_inj k (fun i _ => hc.el i) (fun i _ => dgs_lt F.q2 i) (by rw [h1, dnum_dgs F.q2 h2])⟩
theorem dgs_last {D : FD} (F : Fld D) {k a : Nat} (ha : a < D.q ^ k) (h : ∀ j, 0 ≤ j → j < k → dgm D.q k a j = D.q - 1) : a + 1 = D.q ^ k := by
  have h1 : ∀ i, i ≤ k → dnum D.q (dgs D.q k a) i + 1 = D.q ^ i := fun i => by
    induction i with
    | zero => intro _; rfl
    | succ i ih =>
      intro hi
      have h2 := h i (by omega) (by omega)
      rw [dgm_lo (by omega)] at h2
      have h3 := F.q2
      rw [dnum, h2, Nat.pow_succ, ← ih (by omega), Nat.add_mul]
      omega
  have h2 := h1 k (Nat.le_refl _)
  rw [dnum_dgs F.q2 ha] at h2; exact h2
theorem dgs_zero {q k j : Nat} : dgs q k 0 j = 0 := by
  unfold dgs
  split
  · rw [Nat.zero_div, Nat.zero_mod]
  · rfl
end Go.Proofs.YtdfneklnpghhmaaGreatDoor

/- All near messages: the walk of the reference's Near. -/
namespace Go.Proofs.YtdfneklnpghhmaaGreatDoor
open Go.RowKit Go.Sort

end Go.Proofs.YtdfneklnpghhmaaGreatDoor

/- What it says that places, a dimension and a whole word may be; the calls that say no. -/
namespace Go.Proofs.YtdfneklnpghhmaaGreatDoor
open Go.RowKit Go.Sort

end Go.Proofs.YtdfneklnpghhmaaGreatDoor

/- Sudan's products in their order, and how a list of numbers is parted by them: plain mathematics. -/
namespace Go.Proofs.YtdfneklnpghhmaaGreatDoor
open Go.RowKit

end Go.Proofs.YtdfneklnpghhmaaGreatDoor

/- Lists of lists of the call's own that grow at any of their lists. -/
namespace Go.Proofs.YtdfneklnpghhmaaGreatDoor
open Go.RowKit Go.Sort

/-- Cell j of a list of lists of the call's own is another one now. -/
theorem OwnV.set {base n rc g : Nat} {ro : Option Addr} {vs : Nat → Value} {w1 : World} (hown : OwnV base (.slice ro n rc) (vl n vs) w1) (hg : ro = some ⟨g, 0, none⟩) (j : Nat) (u : Value) : OwnV base (.slice ro n rc) (vl n fun i => if i = j then u else vs i) (w1.setCell ⟨g, j, none⟩ u) := by
  rcases hown.2 with ⟨h1, _⟩ | ⟨g', cap, cur, hv, hb, hh, hle, hcm, hsz, htake⟩
  · rw [hg] at h1; cases h1
  · rw [hg, vl_len] at hv
    cases hv
    have hlt := lt_of_block hh
    have h' : w1.heap[g] = .cells cur 37 (0, 0) := by simpa [Array.getElem?_eq_getElem hlt] using hh
    refine ⟨by rw [vl_len]; omega, Or.inr ⟨g, rc, cur.setIfInBounds j u, by rw [hg, vl_len], hb, ?_, by rw [vl_len]; rw [vl_len] at hle; exact hle, hcm, by rw [Array.size_setIfInBounds]; exact hsz, ?_⟩⟩
    · show (w1.heap.modify g _)[g]? = _
      rw [Array.getElem?_eq_getElem (by simpa using hlt), Array.getElem_modify_self, h']
      rfl
    · rw [vl_len] at htake ⊢
      apply List.ext_getElem?
      intro i
      have h3 : (cur.toList.take (n * 1))[i]? = (vl n vs)[i]? := by rw [htake]
      rw [List.getElem?_take] at h3 ⊢
      by_cases hi : i < n * 1
      · rw [if_pos hi] at h3 ⊢
        have hik : i < n := by omega
        rw [vl_get n vs i hik] at h3
        rw [vl_get n _ i hik, Array.getElem?_toList, Array.getElem?_setIfInBounds]
        rw [Array.getElem?_toList] at h3
        by_cases e : j = i
        · rw [if_pos e, if_pos (by have := (Array.getElem?_eq_some_iff.1 h3).1; omega), if_pos e.symm]
        · rw [if_neg e, if_neg (fun x => e x.symm)]; exact h3
      · rw [if_neg hi, List.getElem?_eq_none (by rw [vl_len]; omega)]
end Go.Proofs.YtdfneklnpghhmaaGreatDoor
