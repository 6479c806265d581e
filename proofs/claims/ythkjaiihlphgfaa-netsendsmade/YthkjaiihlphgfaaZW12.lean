/- Texts of ours, one behind the other: W12 S20 KA1 KA2 KA3 KF1. -/
import Derived.Test.YthkjaiihlphgfaaZS9
import Derived.Test.YthkjaiihlphgfaaZA1
import Derived.Test.YthkjaiihlphgfaaZR3
import Derived.Test.YthkjaiihlphgfaaZM3
import Derived.Test.YthkjaiihlphgfaaZR14
import Derived.Deep.CutBlock
import Derived.Deep.DeepCutAuto
import Derived.Test.YthkjaiihlphgfaaZO3
import Derived.Test.YthkjaiihlphgfaaZL10
/- A region that draws its order: one of two operations comes next. No Go text here. -/
namespace Go.Proofs.Ythkjaiihlphgfaa
open Go

/-- One of two may come now. -/
theorem wpAnyX_two {P : Program} {ops : Array Oper} {Q : Exit → Act → World → Prop} {S : World → Prop} {L i k : Nat} {o o' : Oper} {f : Nat} {s : Array Bool} {a : Act} {w : World} (hr : Region.ready .any ops s = [i, k]) (ho : ops[i]? = some o) (ho' : ops[k]? = some o')
    (h : ∀ K : Act → World → Prop, (∀ a' w', (i ≠ L → S w') → wpAnyX P ops Q S L f (s.setIfInBounds i true) a' w' → K a' w') → if Region.wanted o (yielded ops a.tmps) = true then Oper.wp P o a w K Q else K (a.put o.dst undef) w)
    (h' : ∀ K : Act → World → Prop, (∀ a' w', (k ≠ L → S w') → wpAnyX P ops Q S L f (s.setIfInBounds k true) a' w' → K a' w') → if Region.wanted o' (yielded ops a.tmps) = true then Oper.wp P o' a w K Q else K (a.put o'.dst undef) w) : wpAnyX P ops Q S L (f + 1) s a w := by
  refine ⟨fun e => (by rw [hr] at e; cases e), fun j hj => ?_⟩
  rw [hr, List.mem_cons, List.mem_singleton] at hj
  rcases hj with hj | hj
  · subst hj
    have h1 := h (fun a' w' => (j ≠ L → S w') ∧ wpAnyX P ops Q S L f (s.setIfInBounds j true) a' w') (fun a' w' h1 h2 => ⟨h1, h2⟩)
    unfold wpOp
    simp only [ho]
    split
    · rename_i hw
      rw [if_pos hw] at h1
      exact Or.inl h1
    · rename_i hw
      rw [if_neg hw] at h1
      exact h1
  · subst hj
    have h1 := h' (fun a' w' => (j ≠ L → S w') ∧ wpAnyX P ops Q S L f (s.setIfInBounds j true) a' w') (fun a' w' h1 h2 => ⟨h1, h2⟩)
    unfold wpOp
    simp only [ho']
    split
    · rename_i hw
      rw [if_pos hw] at h1
      exact Or.inl h1
    · rename_i hw
      rw [if_neg hw] at h1
      exact h1
end Go.Proofs.Ythkjaiihlphgfaa

/- Plain mathematics: how many sets there are; Krawtchouk's numbers. No Go text here. -/
namespace Go.Proofs.Ythkjaiihlphgfaa

end Go.Proofs.Ythkjaiihlphgfaa

/- Weights: powers and numbers of sets (the program's power, over). -/
namespace Go.Proofs.Ythkjaiihlphgfaa
open Go.RowKit

end Go.Proofs.Ythkjaiihlphgfaa

/- Weights: Krawtchouk's numbers (the program's krawtchouk). -/
namespace Go.Proofs.Ythkjaiihlphgfaa
open Go.RowKit

end Go.Proofs.Ythkjaiihlphgfaa

/- Weights: Krawtchouk's numbers (the reference's Kraw). -/
namespace Go.Proofs.Ythkjaiihlphgfaa
open Go.RowKit

end Go.Proofs.Ythkjaiihlphgfaa

/- Nets: which may be (net.Check, checkTo; the reference's NetMay, SinkMay). -/
namespace Go.Proofs.Ythkjaiihlphgfaa
open Go.RowKit Go.Sort

/-- Edges that are handed in. -/
def EdZ (eo : Option Addr) (m : Nat) (F T : Nat → Int) (w : World) : Prop := ∀ j, j < m → ∃ b off, eo = some ⟨b, off, none⟩ ∧ w.cell? ⟨b, off + j * 2, none⟩ = some (.int .i64 (F j)) ∧ w.cell? ⟨b, off + j * 2 + 1, none⟩ = some (.int .i64 (T j))
theorem EdZ.below {eo : Option Addr} {m : Nat} {F T : Nat → Int} {w w' : World} (h : EdZ eo m F T w) (hb : Below w.heap.size w w') : EdZ eo m F T w' := fun j hj => by
  obtain ⟨b, off, e, h0, h1⟩ := h j hj
  exact ⟨b, off, e, ((bcell hb).1 b _ (cell_lt h0)).trans h0, ((bcell hb).1 b _ (cell_lt h0)).trans h1⟩
/-- Are all edges edges? -/
def edOk (n : Int) (F T : Nat → Int) : Nat → Bool
  | 0 => true
  | i + 1 => edOk n F T i && decide (0 ≤ F i ∧ F i < T i ∧ T i < n)
theorem edOk_no {n : Int} {F T : Nat → Int} {i : Nat} (h : ¬ (0 ≤ F i ∧ F i < T i ∧ T i < n)) : ∀ m, i < m → edOk n F T m = false
  | 0, hi => absurd hi (by omega)
  | m + 1, hi => by
    show (edOk n F T m && decide (0 ≤ F m ∧ F m < T m ∧ T m < n)) = false
    by_cases e : i = m
    · subst e; rw [decide_eq_false h, Bool.and_false]
    · rw [edOk_no h m (by omega), Bool.false_and]
theorem edOk_yes {n : Int} {F T : Nat → Int} {i : Nat} (h0 : edOk n F T i = true) (h : 0 ≤ F i ∧ F i < T i ∧ T i < n) : edOk n F T (i + 1) = true := by
  show (edOk n F T i && decide (0 ≤ F i ∧ F i < T i ∧ T i < n)) = true
  rw [h0, decide_eq_true h]; rfl
/-- What is said of a net. -/
def nchkE (n : Int) (m : Nat) (F T : Nat → Int) : Int := if n < 2 ∨ 10 < n ∨ 24 < m then 4 else if edOk n F T m = true then 0 else 10
/-- A net's cells, in block b. -/
structure NB (b : Nat) (n : Int) (v : Value) (w : World) : Prop where
  c0 : w.cell? ⟨b, 0, none⟩ = some (.int .i64 n)
  c1 : w.cell? ⟨b, 1, none⟩ = some v
theorem NB.new (n : Int) (v : Value) (w : World) : NB w.heap.size n v (w.alloc (.cells #[.int .i64 n, v] 24)) :=
  ⟨by rw [cell_of_row _ _ _ _ _ (0, 0) (two_new _)]; rfl, by rw [cell_of_row _ _ _ _ _ (0, 0) (two_new _)]; rfl⟩
theorem NB.keep {b : Nat} {n : Int} {v : Value} {w w' : World} (h : NB b n v w) (hb : Below w.heap.size w w') : NB b n v w' :=
  ⟨((bcell hb).1 b 0 (cell_lt h.c0)).trans h.c0, ((bcell hb).1 b 1 (cell_lt h.c0)).trans h.c1⟩

set_option maxHeartbeats 8000000 in
set_option maxRecDepth 100000 in
theorem nCheck_any (n : Int) {eo : Option Addr} {m ec : Nat} {F T : Nat → Int} {w : World} (hE : EdZ eo m F T w) (hm : m ≤ 1000000) :
    Calls Try.prog 97 #[.agg #[.int .i64 n, .slice eo m ec]] w fun e w' => e = .returned (.int .i64 (nchkE n m F T)) ∧ Below w.heap.size w w' := by
  obtain ⟨wa, hwa⟩ : ∃ wa, wa = w.alloc (.cells #[.int .i64 n, .slice eo m ec] 24) := ⟨_, rfl⟩
  obtain ⟨R, hR⟩ : ∃ R, R = nchkE n m F T := ⟨_, rfl⟩
  obtain ⟨B, hB⟩ : ∃ B, B = w.heap.size := ⟨_, rfl⟩
  have HA : Hid (NB B n (.slice eo m ec) wa ∧ EdZ eo m F T w ∧ Below w.heap.size w wa ∧ R = nchkE n m F T) := by
    refine ⟨by rw [hwa, hB]; exact NB.new _ _ _, hE, by rw [hwa]; exact (Below.refl _ _).alloc (Nat.le_refl _) _, hR⟩
  rw [← hR]
  clear hE hR
  go_enter Try.func97, Try.ntmps97
  have hc := HA.out.1
  rw [hwa] at hc
  obtain ⟨c0, c1⟩ := hc
  rw [hB] at c0 c1
  by_cases h1 : n < 2
  · have HV : Hid (R = 4) := by show _ = _; rw [HA.out.2.2.2]; unfold nchkE; rw [if_pos (Or.inl h1)]
    go_wp2
    rw [← hwa]
    go_ret
    exact ⟨by rw [HV.out]; rfl, HA.out.2.2.1⟩
  · by_cases h2 : 10 < n
    · have HV : Hid (R = 4) := by show _ = _; rw [HA.out.2.2.2]; unfold nchkE; rw [if_pos (Or.inr (Or.inl h2))]
      have h2' : n > 10 := h2
      go_wp2
      rw [← hwa]
      go_ret
      exact ⟨by rw [HV.out]; rfl, HA.out.2.2.1⟩
    · have h2' : ¬ n > 10 := h2
      by_cases h3 : 24 < m
      · have HV : Hid (R = 4) := by show _ = _; rw [HA.out.2.2.2]; unfold nchkE; rw [if_pos (Or.inr (Or.inr h3))]
        have h3' : (24 : Int) < (m : Int) := by omega
        have h3'' : (m : Int) > 24 := by omega
        go_wp2
        rw [← hwa]
        go_ret
        exact ⟨by rw [HV.out]; rfl, HA.out.2.2.1⟩
      · have h3' : ¬ (24 : Int) < (m : Int) := by omega
        have h3'' : ¬ (m : Int) > 24 := by omega
        have HV : Hid (R = if edOk n F T m = true then 0 else 10) := by show _ = _; rw [HA.out.2.2.2]; unfold nchkE; rw [if_neg (by omega)]
        go_wp2
        rw [← hwa, ← hB]
        clear c0 c1 hwa hB
        go_loopw [22] (fun vi wx => ∃ i : Nat, i ≤ m ∧ vi = .int .i64 (i : Nat) ∧ Hid (edOk n F T i = true ∧ NB B n (.slice eo m ec) wx ∧ Below w.heap.size w wx)) (fun vi _ => m - (intOf vi).toNat)
        case atStart => exact ⟨0, by omega, rfl, rfl, HA.out.1, HA.out.2.2.1⟩
        case round =>
          obtain ⟨i, hi, rfl, HI⟩ := hrel
          rename World => wr
          by_cases hlt : i < m
          · have hib : (i : Int) < (m : Int) := by omega
            have hib0 : (0 : Int) ≤ (i : Int) := by omega
            obtain ⟨b, off, rfl, e0, e1⟩ := (HA.out.2.1.below HI.out.2.2) i hlt
            obtain ⟨x, hx⟩ : ∃ x, x = F i := ⟨_, rfl⟩
            obtain ⟨y, hy⟩ : ∃ y, y = T i := ⟨_, rfl⟩
            rw [← hx] at e0
            rw [← hy] at e1
            obtain ⟨c0, c1⟩ := HI.out.2.1
            have hal : Below wr.heap.size wr (wr.alloc (.cells #[.int .i64 x, .int .i64 y] 89)) := (Below.refl _ _).alloc (Nat.le_refl _) _
            have HW : Hid (NB B n (.slice (some ⟨b, off, none⟩) m ec) (wr.alloc (.cells #[.int .i64 x, .int .i64 y] 89)) ∧ Below w.heap.size w (wr.alloc (.cells #[.int .i64 x, .int .i64 y] 89))) := ⟨HI.out.2.1.keep hal, bel_up' HI.out.2.2 hal⟩
            have d0 := HW.out.1.c0
            clear hal
            have HNo : Hid (¬ (0 ≤ x ∧ x < y ∧ y < n) → R = 10) := fun h => by
              rw [HV.out, edOk_no (i := i) (by rw [← hx, ← hy]; exact h) m hlt]; rfl
            have HYes : Hid (0 ≤ x ∧ x < y ∧ y < n → edOk n F T (i + 1) = true) := fun h => edOk_yes HI.out.1 (by rw [← hx, ← hy]; exact h)
            clear hx hy
            by_cases k1 : x < 0
            · have HN : Hid (R = 10) := HNo.out (by omega)
              go_wp2
              go_ret
              exact ⟨by rw [HN.out]; rfl, HW.out.2⟩
            · by_cases k2 : y ≤ x
              · have HN : Hid (R = 10) := HNo.out (by omega)
                go_wp2
                go_ret
                exact ⟨by rw [HN.out]; rfl, HW.out.2⟩
              · by_cases k3 : y ≥ n
                · have k3' : n ≤ y := k3
                  have HN : Hid (R = 10) := HNo.out (by omega)
                  go_wp2
                  go_ret
                  exact ⟨by rw [HN.out]; rfl, HW.out.2⟩
                · have k3' : ¬ n ≤ y := k3
                  have HY : Hid (edOk n F T (i + 1) = true) := HYes.out (by omega)
                  go_wp2
                  go_roundw
                  case rel => exact ⟨i + 1, by omega, by go_num, HY.out, HW.out⟩
                  case measure => simp [intOf]; omega
          · have hib : ¬ (i : Int) < (m : Int) := by omega
            have hie : m = i := by omega
            subst hie
            have HN : Hid (R = 0) := by show _ = _; rw [HV.out, HI.out.1]; rfl
            go_wp2
            go_ret
            exact ⟨by rw [HN.out]; rfl, HI.out.2.2⟩

set_option maxHeartbeats 8000000 in
set_option maxRecDepth 100000 in
theorem rnetMay_any (n : Int) {eo : Option Addr} {m ec : Nat} {F T : Nat → Int} {w : World} (hE : EdZ eo m F T w) (hm : m ≤ 1000000) :
    Calls Try.prog 59 #[.agg #[.int .i64 n, .slice eo m ec]] w fun e w' => e = .returned (.int .i64 (nchkE n m F T)) ∧ Below w.heap.size w w' := by
  obtain ⟨wa, hwa⟩ : ∃ wa, wa = w.alloc (.cells #[.int .i64 n, .slice eo m ec] 24) := ⟨_, rfl⟩
  obtain ⟨R, hR⟩ : ∃ R, R = nchkE n m F T := ⟨_, rfl⟩
  obtain ⟨B, hB⟩ : ∃ B, B = w.heap.size := ⟨_, rfl⟩
  have HA : Hid (NB B n (.slice eo m ec) wa ∧ EdZ eo m F T w ∧ Below w.heap.size w wa ∧ R = nchkE n m F T) := by
    refine ⟨by rw [hwa, hB]; exact NB.new _ _ _, hE, by rw [hwa]; exact (Below.refl _ _).alloc (Nat.le_refl _) _, hR⟩
  rw [← hR]
  clear hE hR
  go_enter Try.func59, Try.ntmps59
  have hc := HA.out.1
  rw [hwa] at hc
  obtain ⟨c0, c1⟩ := hc
  rw [hB] at c0 c1
  by_cases h1 : n < 2
  · have HV : Hid (R = 4) := by show _ = _; rw [HA.out.2.2.2]; unfold nchkE; rw [if_pos (Or.inl h1)]
    go_wp2
    rw [← hwa]
    go_ret
    exact ⟨by rw [HV.out]; rfl, HA.out.2.2.1⟩
  · by_cases h2 : 10 < n
    · have HV : Hid (R = 4) := by show _ = _; rw [HA.out.2.2.2]; unfold nchkE; rw [if_pos (Or.inr (Or.inl h2))]
      have h2' : n > 10 := h2
      go_wp2
      rw [← hwa]
      go_ret
      exact ⟨by rw [HV.out]; rfl, HA.out.2.2.1⟩
    · have h2' : ¬ n > 10 := h2
      by_cases h3 : 24 < m
      · have HV : Hid (R = 4) := by show _ = _; rw [HA.out.2.2.2]; unfold nchkE; rw [if_pos (Or.inr (Or.inr h3))]
        have h3' : (24 : Int) < (m : Int) := by omega
        have h3'' : (m : Int) > 24 := by omega
        go_wp2
        rw [← hwa]
        go_ret
        exact ⟨by rw [HV.out]; rfl, HA.out.2.2.1⟩
      · have h3' : ¬ (24 : Int) < (m : Int) := by omega
        have h3'' : ¬ (m : Int) > 24 := by omega
        have HV : Hid (R = if edOk n F T m = true then 0 else 10) := by show _ = _; rw [HA.out.2.2.2]; unfold nchkE; rw [if_neg (by omega)]
        go_wp2
        rw [← hwa, ← hB]
        clear c0 c1 hwa hB
        go_loopw [3] (fun vi wx => ∃ i : Nat, i ≤ m ∧ vi = .int .i64 (i : Nat) ∧ Hid (edOk n F T i = true ∧ NB B n (.slice eo m ec) wx ∧ Below w.heap.size w wx)) (fun vi _ => m - (intOf vi).toNat)
        case atStart => exact ⟨0, by omega, rfl, rfl, HA.out.1, HA.out.2.2.1⟩
        case round =>
          obtain ⟨i, hi, rfl, HI⟩ := hrel
          rename World => wr
          obtain ⟨c0, c1⟩ := HI.out.2.1
          by_cases hlt : i < m
          · have hib : (i : Int) < (m : Int) := by omega
            have hib0 : (0 : Int) ≤ (i : Int) := by omega
            obtain ⟨b, off, rfl, e0, e1⟩ := (HA.out.2.1.below HI.out.2.2) i hlt
            obtain ⟨x, hx⟩ : ∃ x, x = F i := ⟨_, rfl⟩
            obtain ⟨y, hy⟩ : ∃ y, y = T i := ⟨_, rfl⟩
            rw [← hx] at e0
            rw [← hy] at e1
            have HNo : Hid (¬ (0 ≤ x ∧ x < y ∧ y < n) → R = 10) := fun h => by
              rw [HV.out, edOk_no (i := i) (by rw [← hx, ← hy]; exact h) m hlt]; rfl
            have HYes : Hid (0 ≤ x ∧ x < y ∧ y < n → edOk n F T (i + 1) = true) := fun h => edOk_yes HI.out.1 (by rw [← hx, ← hy]; exact h)
            clear hx hy
            by_cases k1 : x < 0
            · have HN : Hid (R = 10) := HNo.out (by omega)
              have t1 : decide (x < 0) = true := decide_eq_true k1
              go_wp2
              go_big_quiet (fail)
              go_wp2
              go_ret
              exact ⟨by rw [HN.out]; rfl, below_drewN2 HI.out.2.2 _⟩
            · have t1 : decide (x < 0) = false := decide_eq_false k1
              by_cases k2 : y ≥ n
              · have k2' : n ≤ y := k2
                have t2 : decide (y ≥ n) = true := decide_eq_true k2
                have t2' : decide (n ≤ y) = true := decide_eq_true k2
                have HN : Hid (R = 10) := HNo.out (by omega)
                go_wp2
                go_big_quiet (fail)
                go_wp2
                go_ret
                exact ⟨by rw [HN.out]; rfl, below_drewN2 HI.out.2.2 _⟩
              · have k2' : ¬ n ≤ y := k2
                have t2 : decide (y ≥ n) = false := decide_eq_false k2
                have t2' : decide (n ≤ y) = false := decide_eq_false k2
                by_cases k3 : x ≥ y
                · have k3' : y ≤ x := k3
                  have t3 : decide (x ≥ y) = true := decide_eq_true k3
                  have t3' : decide (y ≤ x) = true := decide_eq_true k3
                  have HN : Hid (R = 10) := HNo.out (by omega)
                  go_wp2
                  go_big_quiet (fail)
                  go_wp2
                  go_ret
                  exact ⟨by rw [HN.out]; rfl, below_drewN2 HI.out.2.2 _⟩
                · have k3' : ¬ y ≤ x := k3
                  have t3 : decide (x ≥ y) = false := decide_eq_false k3
                  have t3' : decide (y ≤ x) = false := decide_eq_false k3
                  have HY : Hid (edOk n F T (i + 1) = true) := HYes.out (by omega)
                  go_wp2
                  go_big_quiet (fail)
                  go_wp2
                  go_roundw
                  case rel => exact ⟨i + 1, by omega, by go_num, HY.out, ⟨HI.out.2.1.c0, HI.out.2.1.c1⟩, below_drewN2 HI.out.2.2 _⟩
                  case measure => simp [intOf]; omega
          · have hib : ¬ (i : Int) < (m : Int) := by omega
            have hie : m = i := by omega
            subst hie
            have HN : Hid (R = 0) := by show _ = _; rw [HV.out, HI.out.1]; rfl
            go_wp2
            go_ret
            exact ⟨by rw [HN.out]; rfl, HI.out.2.2⟩

/-- What is said of a net and a node. -/
def skchk (n tx e : Int) : Int := if e ≠ 0 then e else if tx < 1 ∨ n ≤ tx then 10 else 0

set_option maxHeartbeats 4000000 in
set_option maxRecDepth 100000 in
theorem nCheckTo_any (n tx : Int) {eo : Option Addr} {m ec : Nat} {F T : Nat → Int} {w : World} (hE : EdZ eo m F T w) (hm : m ≤ 1000000) :
    Calls Try.prog 63 #[.agg #[.int .i64 n, .slice eo m ec], .int .i64 tx] w fun e w' => e = .returned (.int .i64 (skchk n tx (nchkE n m F T))) ∧ Below w.heap.size w w' := by
  obtain ⟨wa, hwa⟩ : ∃ wa, wa = w.alloc (.cells #[.int .i64 n, .slice eo m ec] 24) := ⟨_, rfl⟩
  obtain ⟨E, hEe⟩ : ∃ E, E = nchkE n m F T := ⟨_, rfl⟩
  have hba : Below w.heap.size w wa := by rw [hwa]; exact (Below.refl _ _).alloc (Nat.le_refl _) _
  have HA : Hid (NB w.heap.size n (.slice eo m ec) wa ∧ Below w.heap.size w wa) := ⟨by rw [hwa]; exact NB.new _ _ _, hba⟩
  have HC : Hid (Calls Try.prog 97 #[.agg #[.int .i64 n, .slice eo m ec]] wa fun e w' => e = .returned (.int .i64 E) ∧ Below wa.heap.size wa w') := by
    rw [hEe]; exact nCheck_any n (hE.below hba) hm
  rw [← hEe]
  clear hE hba hEe
  go_enter Try.func63, Try.ntmps63
  go_wp2_with fail
  rw [← hwa]
  clear hwa
  refine HC.out.mono ?_
  rintro e w1 ⟨rfl, hb1⟩
  have H1 : Hid (NB w.heap.size n (.slice eo m ec) w1 ∧ Below w.heap.size w w1) := ⟨HA.out.1.keep hb1, bel_up' HA.out.2 hb1⟩
  clear hb1
  have hc := H1.out.1
  obtain ⟨c0, c1⟩ := hc
  by_cases h0 : E = 0
  · have z0 : (E != 0) = false := by rw [h0]; rfl
    have HV : Hid (skchk n tx E = if tx < 1 ∨ n ≤ tx then 10 else 0) := by show _ = _; unfold skchk; rw [if_neg (fun x => x h0)]
    clear h0
    by_cases h1 : tx < 1
    · go_wp2
      go_ret
      exact ⟨by rw [HV.out, if_pos (Or.inl h1)]; rfl, H1.out.2⟩
    · by_cases h2 : tx ≥ n
      · have h2' : n ≤ tx := h2
        go_wp2
        go_ret
        exact ⟨by rw [HV.out, if_pos (Or.inr h2)]; rfl, H1.out.2⟩
      · have h2' : ¬ n ≤ tx := h2
        go_wp2
        go_ret
        exact ⟨by rw [HV.out, if_neg (by omega)]; rfl, H1.out.2⟩
  · have z0 : (E != 0) = true := bne_iff_ne.2 h0
    have HV : Hid (skchk n tx E = E) := by show _ = _; unfold skchk; rw [if_pos h0]
    clear h0
    go_wp2
    go_ret
    exact ⟨by rw [HV.out]; rfl, H1.out.2⟩

set_option maxHeartbeats 4000000 in
set_option maxRecDepth 100000 in
theorem rsinkMay_any (n tx : Int) {eo : Option Addr} {m ec : Nat} {F T : Nat → Int} {w : World} (hE : EdZ eo m F T w) (hm : m ≤ 1000000) :
    Calls Try.prog 16 #[.agg #[.int .i64 n, .slice eo m ec], .int .i64 tx] w fun e w' => e = .returned (.int .i64 (skchk n tx (nchkE n m F T))) ∧ Below w.heap.size w w' := by
  obtain ⟨wa, hwa⟩ : ∃ wa, wa = w.alloc (.cells #[.int .i64 n, .slice eo m ec] 24) := ⟨_, rfl⟩
  obtain ⟨E, hEe⟩ : ∃ E, E = nchkE n m F T := ⟨_, rfl⟩
  have hba : Below w.heap.size w wa := by rw [hwa]; exact (Below.refl _ _).alloc (Nat.le_refl _) _
  have HA : Hid (NB w.heap.size n (.slice eo m ec) wa ∧ Below w.heap.size w wa) := ⟨by rw [hwa]; exact NB.new _ _ _, hba⟩
  have HC : Hid (Calls Try.prog 59 #[.agg #[.int .i64 n, .slice eo m ec]] wa fun e w' => e = .returned (.int .i64 E) ∧ Below wa.heap.size wa w') := by
    rw [hEe]; exact rnetMay_any n (hE.below hba) hm
  rw [← hEe]
  clear hE hba hEe
  go_enter Try.func16, Try.ntmps16
  go_wp2_with fail
  rw [← hwa]
  clear hwa
  refine HC.out.mono ?_
  rintro e w1 ⟨rfl, hb1⟩
  have H1 : Hid (NB w.heap.size n (.slice eo m ec) w1 ∧ Below w.heap.size w w1) := ⟨HA.out.1.keep hb1, bel_up' HA.out.2 hb1⟩
  clear hb1
  have hc := H1.out.1
  obtain ⟨c0, c1⟩ := hc
  by_cases h0 : E = 0
  · have z0 : (E == 0) = true := by rw [h0]; rfl
    have HV : Hid (skchk n tx E = if tx < 1 ∨ n ≤ tx then 10 else 0) := by show _ = _; unfold skchk; rw [if_neg (fun x => x h0)]
    have HE : Hid (E = 0) := h0
    clear h0
    by_cases h1 : tx < 1
    · go_wp2
      go_ret
      exact ⟨by rw [HV.out, if_pos (Or.inl h1)]; rfl, H1.out.2⟩
    · by_cases h2 : tx ≥ n
      · have h2' : n ≤ tx := h2
        go_wp2
        go_ret
        exact ⟨by rw [HV.out, if_pos (Or.inr h2)]; rfl, H1.out.2⟩
      · have h2' : ¬ n ≤ tx := h2
        go_wp2
        go_ret
        exact ⟨by rw [HV.out, if_neg (by omega), HE.out]; rfl, H1.out.2⟩
  · have z0 : (E == 0) = false := beq_eq_false_iff_ne.2 h0
    have HV : Hid (skchk n tx E = E) := by show _ = _; unfold skchk; rw [if_pos h0]
    clear h0
    go_wp2
    go_ret
    exact ⟨by rw [HV.out]; rfl, H1.out.2⟩
end Go.Proofs.Ythkjaiihlphgfaa
