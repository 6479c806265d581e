/- Texts of ours, one behind the other: KF1 KF2 KF3 KF4 KF5 KF6 KF7 KF8 KF9 KF10 KF11 KF12 KF13 KF14 KF15. -/
import Derived.Test.YtbnkekeeceicaaaGreatZS5
import Derived.Test.YtbnkekeeceicaaaGreatZL10
import Derived.Test.YtbnkekeeceicaaaGreatZS12
import Derived.Test.YtbnkekeeceicaaaGreatZH1
/- Nets: which may be (net.Check, checkTo; the reference's NetMay, SinkMay). -/
namespace Go.Proofs.YtbnkekeeceicaaaGreat
open Go.RowKit Go.Sort

/-- Edges that are handed in. -/
def EdZ (eo : Option Addr) (m : Nat) (F T : Nat → Int) (w : World) : Prop := ∀ j, j < m → ∃ b off, eo = some ⟨b, off, none⟩ ∧ w.cell? ⟨b, off + j * 2, none⟩ = some (.int .i64 (F j)) ∧ w.cell? ⟨b, off + j * 2 + 1, none⟩ = some (.int .i64 (T j))
theorem EdZ.below {eo : Option Addr} {m : Nat} {F T : Nat → Int} {w w' : World} (h : EdZ eo m F T w) (hb : Below w.heap.size w w') : EdZ eo m F T w' := fun j hj => by
  obtain ⟨b, off, e, h0, h1⟩ := h j hj
  exact ⟨b, off, e, ((bcell hb).1 b _ (cell_lt h0)).trans h0, ((bcell hb).1 b _ (cell_lt h0)).trans h1⟩
/-- Are all edges edges? -/
def edOk (n : Int) (F T : Nat → Int) : Nat → Bool
  | 0 => true
  | i + 1 => edOk n F T i && decide (0 ≤ F i ∧ F i < T i ∧ T i < n)
theorem edOk_no {n : Int} {F T : Nat → Int} {i : Nat} (h : ¬ (0 ≤ F i ∧ F i < T i ∧ T i < n)) : ∀ m, i < m → edOk n F T m = false
  | 0, hi => absurd hi (by omega)
  | m + 1, hi => by
    show (edOk n F T m && decide (0 ≤ F m ∧ F m < T m ∧ T m < n)) = false
    by_cases e : i = m
    · subst e; rw [decide_eq_false h, Bool.and_false]
    · rw [edOk_no h m (by omega), Bool.false_and]
theorem edOk_yes {n : Int} {F T : Nat → Int} {i : Nat} (h0 : edOk n F T i = true) (h : 0 ≤ F i ∧ F i < T i ∧ T i < n) : edOk n F T (i + 1) = true := by
  show (edOk n F T i && decide (0 ≤ F i ∧ F i < T i ∧ T i < n)) = true
  rw [h0, decide_eq_true h]; rfl
/-- What is said of a net. -/
def nchkE (n : Int) (m : Nat) (F T : Nat → Int) : Int := if n < 2 ∨ 10 < n ∨ 24 < m then 4 else if edOk n F T m = true then 0 else 10
/-- A net's cells, in block b. -/
structure NB (b : Nat) (n : Int) (v : Value) (w : World) : Prop where
  c0 : w.cell? ⟨b, 0, none⟩ = some (.int .i64 n)
  c1 : w.cell? ⟨b, 1, none⟩ = some v
theorem NB.new (n : Int) (v : Value) (w : World) : NB w.heap.size n v (w.alloc (.cells #[.int .i64 n, v] 24)) :=
  ⟨by rw [cell_of_row _ _ _ _ _ (0, 0) (two_new _)]; rfl, by rw [cell_of_row _ _ _ _ _ (0, 0) (two_new _)]; rfl⟩
theorem NB.keep {b : Nat} {n : Int} {v : Value} {w w' : World} (h : NB b n v w) (hb : Below w.heap.size w w') : NB b n v w' :=
  ⟨((bcell hb).1 b 0 (cell_lt h.c0)).trans h.c0, ((bcell hb).1 b 1 (cell_lt h.c0)).trans h.c1⟩

set_option maxHeartbeats 8000000 in
set_option maxRecDepth 100000 in
theorem nCheck_any (n : Int) {eo : Option Addr} {m ec : Nat} {F T : Nat → Int} {w : World} (hE : EdZ eo m F T w) (hm : m ≤ 1000000) :
    Calls Tryz.prog 10 #[.agg #[.int .i64 n, .slice eo m ec]] w fun e w' => e = .returned (.int .i64 (nchkE n m F T)) ∧ Below w.heap.size w w' := by
  obtain ⟨wa, hwa⟩ : ∃ wa, wa = w.alloc (.cells #[.int .i64 n, .slice eo m ec] 24) := ⟨_, rfl⟩
  obtain ⟨R, hR⟩ : ∃ R, R = nchkE n m F T := ⟨_, rfl⟩
  obtain ⟨B, hB⟩ : ∃ B, B = w.heap.size := ⟨_, rfl⟩
  have HA : Hid (NB B n (.slice eo m ec) wa ∧ EdZ eo m F T w ∧ Below w.heap.size w wa ∧ R = nchkE n m F T) := by
    refine ⟨by rw [hwa, hB]; exact NB.new _ _ _, hE, by rw [hwa]; exact (Below.refl _ _).alloc (Nat.le_refl _) _, hR⟩
  rw [← hR]
  clear hE hR
  go_enter Tryz.func10, Tryz.ntmps10
  have hc := HA.out.1
  rw [hwa] at hc
  obtain ⟨c0, c1⟩ := hc
  rw [hB] at c0 c1
  by_cases h1 : n < 2
  · have HV : Hid (R = 4) := by show _ = _; rw [HA.out.2.2.2]; unfold nchkE; rw [if_pos (Or.inl h1)]
    go_wp2
    rw [← hwa]
    go_ret
    exact ⟨by rw [HV.out]; rfl, HA.out.2.2.1⟩
  · by_cases h2 : 10 < n
    · have HV : Hid (R = 4) := by show _ = _; rw [HA.out.2.2.2]; unfold nchkE; rw [if_pos (Or.inr (Or.inl h2))]
      have h2' : n > 10 := h2
      go_wp2
      rw [← hwa]
      go_ret
      exact ⟨by rw [HV.out]; rfl, HA.out.2.2.1⟩
    · have h2' : ¬ n > 10 := h2
      by_cases h3 : 24 < m
      · have HV : Hid (R = 4) := by show _ = _; rw [HA.out.2.2.2]; unfold nchkE; rw [if_pos (Or.inr (Or.inr h3))]
        have h3' : (24 : Int) < (m : Int) := by omega
        have h3'' : (m : Int) > 24 := by omega
        go_wp2
        rw [← hwa]
        go_ret
        exact ⟨by rw [HV.out]; rfl, HA.out.2.2.1⟩
      · have h3' : ¬ (24 : Int) < (m : Int) := by omega
        have h3'' : ¬ (m : Int) > 24 := by omega
        have HV : Hid (R = if edOk n F T m = true then 0 else 10) := by show _ = _; rw [HA.out.2.2.2]; unfold nchkE; rw [if_neg (by omega)]
        go_wp2
        rw [← hwa, ← hB]
        clear c0 c1 hwa hB
        go_loopw [22] (fun vi wx => ∃ i : Nat, i ≤ m ∧ vi = .int .i64 (i : Nat) ∧ Hid (edOk n F T i = true ∧ NB B n (.slice eo m ec) wx ∧ Below w.heap.size w wx)) (fun vi _ => m - (intOf vi).toNat)
        case atStart => exact ⟨0, by omega, rfl, rfl, HA.out.1, HA.out.2.2.1⟩
        case round =>
          obtain ⟨i, hi, rfl, HI⟩ := hrel
          rename World => wr
          by_cases hlt : i < m
          · have hib : (i : Int) < (m : Int) := by omega
            have hib0 : (0 : Int) ≤ (i : Int) := by omega
            obtain ⟨b, off, rfl, e0, e1⟩ := (HA.out.2.1.below HI.out.2.2) i hlt
            obtain ⟨x, hx⟩ : ∃ x, x = F i := ⟨_, rfl⟩
            obtain ⟨y, hy⟩ : ∃ y, y = T i := ⟨_, rfl⟩
            rw [← hx] at e0
            rw [← hy] at e1
            obtain ⟨c0, c1⟩ := HI.out.2.1
            have hal : Below wr.heap.size wr (wr.alloc (.cells #[.int .i64 x, .int .i64 y] 53)) := (Below.refl _ _).alloc (Nat.le_refl _) _
            have HW : Hid (NB B n (.slice (some ⟨b, off, none⟩) m ec) (wr.alloc (.cells #[.int .i64 x, .int .i64 y] 53)) ∧ Below w.heap.size w (wr.alloc (.cells #[.int .i64 x, .int .i64 y] 53))) := ⟨HI.out.2.1.keep hal, bel_up' HI.out.2.2 hal⟩
            have d0 := HW.out.1.c0
            clear hal
            have HNo : Hid (¬ (0 ≤ x ∧ x < y ∧ y < n) → R = 10) := fun h => by
              rw [HV.out, edOk_no (i := i) (by rw [← hx, ← hy]; exact h) m hlt]; rfl
            have HYes : Hid (0 ≤ x ∧ x < y ∧ y < n → edOk n F T (i + 1) = true) := fun h => edOk_yes HI.out.1 (by rw [← hx, ← hy]; exact h)
            clear hx hy
            by_cases k1 : x < 0
            · have HN : Hid (R = 10) := HNo.out (by omega)
              go_wp2
              go_ret
              exact ⟨by rw [HN.out]; rfl, HW.out.2⟩
            · by_cases k2 : y ≤ x
              · have HN : Hid (R = 10) := HNo.out (by omega)
                go_wp2
                go_ret
                exact ⟨by rw [HN.out]; rfl, HW.out.2⟩
              · by_cases k3 : y ≥ n
                · have k3' : n ≤ y := k3
                  have HN : Hid (R = 10) := HNo.out (by omega)
                  go_wp2
                  go_ret
                  exact ⟨by rw [HN.out]; rfl, HW.out.2⟩
                · have k3' : ¬ n ≤ y := k3
                  have HY : Hid (edOk n F T (i + 1) = true) := HYes.out (by omega)
                  go_wp2
                  go_roundw
                  case rel => exact ⟨i + 1, by omega, by go_num, HY.out, HW.out⟩
                  case measure => simp [intOf]; omega
          · have hib : ¬ (i : Int) < (m : Int) := by omega
            have hie : m = i := by omega
            subst hie
            have HN : Hid (R = 0) := by show _ = _; rw [HV.out, HI.out.1]; rfl
            go_wp2
            go_ret
            exact ⟨by rw [HN.out]; rfl, HI.out.2.2⟩

set_option maxHeartbeats 8000000 in
set_option maxRecDepth 100000 in
theorem rnetMay_any (n : Int) {eo : Option Addr} {m ec : Nat} {F T : Nat → Int} {w : World} (hE : EdZ eo m F T w) (hm : m ≤ 1000000) :
    Calls Tryz.prog 5 #[.agg #[.int .i64 n, .slice eo m ec]] w fun e w' => e = .returned (.int .i64 (nchkE n m F T)) ∧ Below w.heap.size w w' := by
  obtain ⟨wa, hwa⟩ : ∃ wa, wa = w.alloc (.cells #[.int .i64 n, .slice eo m ec] 24) := ⟨_, rfl⟩
  obtain ⟨R, hR⟩ : ∃ R, R = nchkE n m F T := ⟨_, rfl⟩
  obtain ⟨B, hB⟩ : ∃ B, B = w.heap.size := ⟨_, rfl⟩
  have HA : Hid (NB B n (.slice eo m ec) wa ∧ EdZ eo m F T w ∧ Below w.heap.size w wa ∧ R = nchkE n m F T) := by
    refine ⟨by rw [hwa, hB]; exact NB.new _ _ _, hE, by rw [hwa]; exact (Below.refl _ _).alloc (Nat.le_refl _) _, hR⟩
  rw [← hR]
  clear hE hR
  go_enter Tryz.func5, Tryz.ntmps5
  have hc := HA.out.1
  rw [hwa] at hc
  obtain ⟨c0, c1⟩ := hc
  rw [hB] at c0 c1
  by_cases h1 : n < 2
  · have HV : Hid (R = 4) := by show _ = _; rw [HA.out.2.2.2]; unfold nchkE; rw [if_pos (Or.inl h1)]
    go_wp2
    rw [← hwa]
    go_ret
    exact ⟨by rw [HV.out]; rfl, HA.out.2.2.1⟩
  · by_cases h2 : 10 < n
    · have HV : Hid (R = 4) := by show _ = _; rw [HA.out.2.2.2]; unfold nchkE; rw [if_pos (Or.inr (Or.inl h2))]
      have h2' : n > 10 := h2
      go_wp2
      rw [← hwa]
      go_ret
      exact ⟨by rw [HV.out]; rfl, HA.out.2.2.1⟩
    · have h2' : ¬ n > 10 := h2
      by_cases h3 : 24 < m
      · have HV : Hid (R = 4) := by show _ = _; rw [HA.out.2.2.2]; unfold nchkE; rw [if_pos (Or.inr (Or.inr h3))]
        have h3' : (24 : Int) < (m : Int) := by omega
        have h3'' : (m : Int) > 24 := by omega
        go_wp2
        rw [← hwa]
        go_ret
        exact ⟨by rw [HV.out]; rfl, HA.out.2.2.1⟩
      · have h3' : ¬ (24 : Int) < (m : Int) := by omega
        have h3'' : ¬ (m : Int) > 24 := by omega
        have HV : Hid (R = if edOk n F T m = true then 0 else 10) := by show _ = _; rw [HA.out.2.2.2]; unfold nchkE; rw [if_neg (by omega)]
        go_wp2
        rw [← hwa, ← hB]
        clear c0 c1 hwa hB
        go_loopw [3] (fun vi wx => ∃ i : Nat, i ≤ m ∧ vi = .int .i64 (i : Nat) ∧ Hid (edOk n F T i = true ∧ NB B n (.slice eo m ec) wx ∧ Below w.heap.size w wx)) (fun vi _ => m - (intOf vi).toNat)
        case atStart => exact ⟨0, by omega, rfl, rfl, HA.out.1, HA.out.2.2.1⟩
        case round =>
          obtain ⟨i, hi, rfl, HI⟩ := hrel
          rename World => wr
          obtain ⟨c0, c1⟩ := HI.out.2.1
          by_cases hlt : i < m
          · have hib : (i : Int) < (m : Int) := by omega
            have hib0 : (0 : Int) ≤ (i : Int) := by omega
            obtain ⟨b, off, rfl, e0, e1⟩ := (HA.out.2.1.below HI.out.2.2) i hlt
            obtain ⟨x, hx⟩ : ∃ x, x = F i := ⟨_, rfl⟩
            obtain ⟨y, hy⟩ : ∃ y, y = T i := ⟨_, rfl⟩
            rw [← hx] at e0
            rw [← hy] at e1
            have HNo : Hid (¬ (0 ≤ x ∧ x < y ∧ y < n) → R = 10) := fun h => by
              rw [HV.out, edOk_no (i := i) (by rw [← hx, ← hy]; exact h) m hlt]; rfl
            have HYes : Hid (0 ≤ x ∧ x < y ∧ y < n → edOk n F T (i + 1) = true) := fun h => edOk_yes HI.out.1 (by rw [← hx, ← hy]; exact h)
            clear hx hy
            by_cases k1 : x < 0
            · have HN : Hid (R = 10) := HNo.out (by omega)
              have t1 : decide (x < 0) = true := decide_eq_true k1
              go_wp2
              go_big_quiet (fail)
              go_wp2
              go_ret
              exact ⟨by rw [HN.out]; rfl, below_drewN2 HI.out.2.2 _⟩
            · have t1 : decide (x < 0) = false := decide_eq_false k1
              by_cases k2 : y ≥ n
              · have k2' : n ≤ y := k2
                have t2 : decide (y ≥ n) = true := decide_eq_true k2
                have t2' : decide (n ≤ y) = true := decide_eq_true k2
                have HN : Hid (R = 10) := HNo.out (by omega)
                go_wp2
                go_big_quiet (fail)
                go_wp2
                go_ret
                exact ⟨by rw [HN.out]; rfl, below_drewN2 HI.out.2.2 _⟩
              · have k2' : ¬ n ≤ y := k2
                have t2 : decide (y ≥ n) = false := decide_eq_false k2
                have t2' : decide (n ≤ y) = false := decide_eq_false k2
                by_cases k3 : x ≥ y
                · have k3' : y ≤ x := k3
                  have t3 : decide (x ≥ y) = true := decide_eq_true k3
                  have t3' : decide (y ≤ x) = true := decide_eq_true k3
                  have HN : Hid (R = 10) := HNo.out (by omega)
                  go_wp2
                  go_big_quiet (fail)
                  go_wp2
                  go_ret
                  exact ⟨by rw [HN.out]; rfl, below_drewN2 HI.out.2.2 _⟩
                · have k3' : ¬ y ≤ x := k3
                  have t3 : decide (x ≥ y) = false := decide_eq_false k3
                  have t3' : decide (y ≤ x) = false := decide_eq_false k3
                  have HY : Hid (edOk n F T (i + 1) = true) := HYes.out (by omega)
                  go_wp2
                  go_big_quiet (fail)
                  go_wp2
                  go_roundw
                  case rel => exact ⟨i + 1, by omega, by go_num, HY.out, ⟨HI.out.2.1.c0, HI.out.2.1.c1⟩, below_drewN2 HI.out.2.2 _⟩
                  case measure => simp [intOf]; omega
          · have hib : ¬ (i : Int) < (m : Int) := by omega
            have hie : m = i := by omega
            subst hie
            have HN : Hid (R = 0) := by show _ = _; rw [HV.out, HI.out.1]; rfl
            go_wp2
            go_ret
            exact ⟨by rw [HN.out]; rfl, HI.out.2.2⟩

/-- What is said of a net and a node. -/
def skchk (n tx e : Int) : Int := if e ≠ 0 then e else if tx < 1 ∨ n ≤ tx then 10 else 0

set_option maxHeartbeats 4000000 in
set_option maxRecDepth 100000 in
theorem nCheckTo_any (n tx : Int) {eo : Option Addr} {m ec : Nat} {F T : Nat → Int} {w : World} (hE : EdZ eo m F T w) (hm : m ≤ 1000000) :
    Calls Tryz.prog 21 #[.agg #[.int .i64 n, .slice eo m ec], .int .i64 tx] w fun e w' => e = .returned (.int .i64 (skchk n tx (nchkE n m F T))) ∧ Below w.heap.size w w' := by
  obtain ⟨wa, hwa⟩ : ∃ wa, wa = w.alloc (.cells #[.int .i64 n, .slice eo m ec] 24) := ⟨_, rfl⟩
  obtain ⟨E, hEe⟩ : ∃ E, E = nchkE n m F T := ⟨_, rfl⟩
  have hba : Below w.heap.size w wa := by rw [hwa]; exact (Below.refl _ _).alloc (Nat.le_refl _) _
  have HA : Hid (NB w.heap.size n (.slice eo m ec) wa ∧ Below w.heap.size w wa) := ⟨by rw [hwa]; exact NB.new _ _ _, hba⟩
  have HC : Hid (Calls Tryz.prog 10 #[.agg #[.int .i64 n, .slice eo m ec]] wa fun e w' => e = .returned (.int .i64 E) ∧ Below wa.heap.size wa w') := by
    rw [hEe]; exact nCheck_any n (hE.below hba) hm
  rw [← hEe]
  clear hE hba hEe
  go_enter Tryz.func21, Tryz.ntmps21
  go_wp2_with fail
  rw [← hwa]
  clear hwa
  refine HC.out.mono ?_
  rintro e w1 ⟨rfl, hb1⟩
  have H1 : Hid (NB w.heap.size n (.slice eo m ec) w1 ∧ Below w.heap.size w w1) := ⟨HA.out.1.keep hb1, bel_up' HA.out.2 hb1⟩
  clear hb1
  have hc := H1.out.1
  obtain ⟨c0, c1⟩ := hc
  by_cases h0 : E = 0
  · have z0 : (E != 0) = false := by rw [h0]; rfl
    have HV : Hid (skchk n tx E = if tx < 1 ∨ n ≤ tx then 10 else 0) := by show _ = _; unfold skchk; rw [if_neg (fun x => x h0)]
    clear h0
    by_cases h1 : tx < 1
    · go_wp2
      go_ret
      exact ⟨by rw [HV.out, if_pos (Or.inl h1)]; rfl, H1.out.2⟩
    · by_cases h2 : tx ≥ n
      · have h2' : n ≤ tx := h2
        go_wp2
        go_ret
        exact ⟨by rw [HV.out, if_pos (Or.inr h2)]; rfl, H1.out.2⟩
      · have h2' : ¬ n ≤ tx := h2
        go_wp2
        go_ret
        exact ⟨by rw [HV.out, if_neg (by omega)]; rfl, H1.out.2⟩
  · have z0 : (E != 0) = true := bne_iff_ne.2 h0
    have HV : Hid (skchk n tx E = E) := by show _ = _; unfold skchk; rw [if_pos h0]
    clear h0
    go_wp2
    go_ret
    exact ⟨by rw [HV.out]; rfl, H1.out.2⟩

set_option maxHeartbeats 4000000 in
set_option maxRecDepth 100000 in
theorem rsinkMay_any (n tx : Int) {eo : Option Addr} {m ec : Nat} {F T : Nat → Int} {w : World} (hE : EdZ eo m F T w) (hm : m ≤ 1000000) :
    Calls Tryz.prog 6 #[.agg #[.int .i64 n, .slice eo m ec], .int .i64 tx] w fun e w' => e = .returned (.int .i64 (skchk n tx (nchkE n m F T))) ∧ Below w.heap.size w w' := by
  obtain ⟨wa, hwa⟩ : ∃ wa, wa = w.alloc (.cells #[.int .i64 n, .slice eo m ec] 24) := ⟨_, rfl⟩
  obtain ⟨E, hEe⟩ : ∃ E, E = nchkE n m F T := ⟨_, rfl⟩
  have hba : Below w.heap.size w wa := by rw [hwa]; exact (Below.refl _ _).alloc (Nat.le_refl _) _
  have HA : Hid (NB w.heap.size n (.slice eo m ec) wa ∧ Below w.heap.size w wa) := ⟨by rw [hwa]; exact NB.new _ _ _, hba⟩
  have HC : Hid (Calls Tryz.prog 5 #[.agg #[.int .i64 n, .slice eo m ec]] wa fun e w' => e = .returned (.int .i64 E) ∧ Below wa.heap.size wa w') := by
    rw [hEe]; exact rnetMay_any n (hE.below hba) hm
  rw [← hEe]
  clear hE hba hEe
  go_enter Tryz.func6, Tryz.ntmps6
  go_wp2_with fail
  rw [← hwa]
  clear hwa
  refine HC.out.mono ?_
  rintro e w1 ⟨rfl, hb1⟩
  have H1 : Hid (NB w.heap.size n (.slice eo m ec) w1 ∧ Below w.heap.size w w1) := ⟨HA.out.1.keep hb1, bel_up' HA.out.2 hb1⟩
  clear hb1
  have hc := H1.out.1
  obtain ⟨c0, c1⟩ := hc
  by_cases h0 : E = 0
  · have z0 : (E == 0) = true := by rw [h0]; rfl
    have HV : Hid (skchk n tx E = if tx < 1 ∨ n ≤ tx then 10 else 0) := by show _ = _; unfold skchk; rw [if_neg (fun x => x h0)]
    have HE : Hid (E = 0) := h0
    clear h0
    by_cases h1 : tx < 1
    · go_wp2
      go_ret
      exact ⟨by rw [HV.out, if_pos (Or.inl h1)]; rfl, H1.out.2⟩
    · by_cases h2 : tx ≥ n
      · have h2' : n ≤ tx := h2
        go_wp2
        go_ret
        exact ⟨by rw [HV.out, if_pos (Or.inr h2)]; rfl, H1.out.2⟩
      · have h2' : ¬ n ≤ tx := h2
        go_wp2
        go_ret
        exact ⟨by rw [HV.out, if_neg (by omega), HE.out]; rfl, H1.out.2⟩
  · have z0 : (E == 0) = false := beq_eq_false_iff_ne.2 h0
    have HV : Hid (skchk n tx E = E) := by show _ = _; unfold skchk; rw [if_pos h0]
    clear h0
    go_wp2
    go_ret
    exact ⟨by rw [HV.out]; rfl, H1.out.2⟩
end Go.Proofs.YtbnkekeeceicaaaGreat

/- Nets: all elements (allOf), products (product), what is sent (Send). -/
namespace Go.Proofs.YtbnkekeeceicaaaGreat
open Go.RowKit Go.Sort

set_option maxHeartbeats 2000000 in
set_option maxRecDepth 100000 in
theorem nproduct_any {D : FD} (hD : D ∈ fieldsL) {F T : Nat} {g : Nat → Value} {ao bo : Option Addr} {n ca cb : Nat} {a b : Nat → Nat} {w : World} (h : FAt F T D g w) (hA : Sl ao n a w) (hB : Sl bo n b w) (hn : n ≤ 1000) (ha : ∀ i, i < n → a i < D.q) (hb : ∀ i, i < n → b i < D.q) :
    Calls Tryz.prog 69 #[.pointer (some ⟨F, 0, none⟩), .slice ao n ca, .slice bo n cb] w fun e w' => e = .returned (.int .i64 (dot D a b n : Nat)) ∧ ∃ d, w' = w.drewN d := by
  have HF : Hid (FAt F T D g w ∧ D ∈ fieldsL ∧ Sl ao n a w ∧ Sl bo n b w ∧ (∀ i, i < n → a i < D.q) ∧ (∀ i, i < n → b i < D.q)) := ⟨h, hD, hA, hB, ha, hb⟩
  clear h hD hA hB ha hb
  go_enter Tryz.func69, Tryz.ntmps69
  go_wp2
  go_loopw [7, 12] (fun vs vi wx => ∃ (i : Nat), i ≤ n ∧ vi = .int .i64 (i : Nat) ∧ vs = .int .i64 (dot D a b i : Nat) ∧ ∃ d, wx = w.drewN d) (fun _ vi _ => n - (intOf vi).toNat)
  case atStart => exact ⟨0, by omega, rfl, rfl, 0, rfl⟩
  case round =>
    obtain ⟨i, hi, rfl, rfl, d, hwx⟩ := hrel
    subst hwx
    by_cases hlt : i < n
    · have hib : (i : Int) < (n : Int) := by omega
      have hib0 : (0 : Int) ≤ (i : Int) := by omega
      obtain ⟨b1, o1, rfl, h1⟩ := HF.out.2.2.1 i hlt
      obtain ⟨b2, o2, rfl, h2⟩ := HF.out.2.2.2.1 i hlt
      have hdq := dot_lt (fld HF.out.2.1) a b i
      obtain ⟨s, hs⟩ : ∃ s, s = dot D a b i := ⟨_, rfl⟩
      obtain ⟨x, hx⟩ : ∃ x, x = a i := ⟨_, rfl⟩
      obtain ⟨y, hy⟩ : ∃ y, y = b i := ⟨_, rfl⟩
      have hxq := HF.out.2.2.2.2.1 i hlt
      have hyq := HF.out.2.2.2.2.2 i hlt
      rw [← hx] at h1 hxq
      rw [← hy] at h2 hyq
      rw [← hs] at hdq ⊢
      have HV : Hid (dot D a b (i + 1) = sumD D.p D.q s (D.mul x y)) := by show _ = _; rw [hs, hx, hy]; rfl
      have HC1 : Hid (∀ k, Calls Tryz.prog 96 #[.pointer (some ⟨F, 0, none⟩), .int .i64 (x : Nat), .int .i64 (y : Nat)] (w.drewN k) fun e w' => e = .returned (.int .i64 (D.mul x y : Nat)) ∧ ∃ m, w' = (w.drewN k).drewN m) := fun k => mul_nat HF.out.2.1 (HF.out.1.drewN k) hxq hyq
      have HC2 : Hid (∀ k, Calls Tryz.prog 95 #[.pointer (some ⟨F, 0, none⟩), .int .i64 (s : Nat), .int .i64 (D.mul x y : Nat)] (w.drewN k) fun e w' => e = .returned (.int .i64 (sumD D.p D.q s (D.mul x y) : Nat)) ∧ ∃ m, w' = (w.drewN k).drewN m) := fun k => add_nat HF.out.2.1 (HF.out.1.drewN k) hdq ((fld HF.out.2.1).mul_lt _ _)
      clear hs hx hy
      go_wp2_with fail
      refine (HC1.out _).mono ?_
      rintro e w1 ⟨rfl, d1, hw1⟩
      rw [World.drewN_drewN] at hw1
      subst hw1
      go_wp2_with fail
      refine (HC2.out _).mono ?_
      rintro e w1 ⟨rfl, d2, hw1⟩
      rw [World.drewN_drewN] at hw1
      subst hw1
      go_wp2
      go_roundw
      case rel => exact ⟨i + 1, by omega, by go_num, by rw [HV.out], _, rfl⟩
      case measure => simp [intOf]; omega
    · have hib : ¬ (i : Int) < (n : Int) := by omega
      have hie : n = i := by omega
      subst hie
      go_wp2
      go_ret
      exact ⟨rfl, _, rfl⟩

end Go.Proofs.YtbnkekeeceicaaaGreat

/- Nets: which edges come to a node; what their vectors tell (only; the reference's into). -/
namespace Go.Proofs.YtbnkekeeceicaaaGreat
open Go.RowKit Go.Sort

/-- The edges that end at a node. -/
def tlN (T : Nat → Int) (x : Int) : Nat → List Nat
  | 0 => []
  | i + 1 => if T i = x then tlN T x i ++ [i] else tlN T x i
theorem tlN_lt {T : Nat → Int} {x : Int} : ∀ m, ∀ i ∈ tlN T x m, i < m
  | 0, i, h => by cases h
  | m + 1, i, h => by
    have h : i ∈ (if T m = x then tlN T x m ++ [m] else tlN T x m) := h
    by_cases e : T m = x
    · rw [if_pos e] at h
      rcases List.mem_append.1 h with h | h
      · have := tlN_lt m i h; omega
      · rw [List.mem_singleton.1 h]; omega
    · rw [if_neg e] at h
      have := tlN_lt m i h; omega
theorem tlN_len (T : Nat → Int) (x : Int) : ∀ m, (tlN T x m).length ≤ m
  | 0 => Nat.le_refl _
  | m + 1 => by
    have := tlN_len T x m
    show (if T m = x then tlN T x m ++ [m] else tlN T x m).length ≤ m + 1
    split
    · rw [List.length_append]; show _ + 1 ≤ _; omega
    · omega
/-- Rows, as values. -/
def rowsN (A : Nat → Option Addr) (N C : Nat → Nat) (l : List Nat) : List Value := l.map fun i => .slice (A i) (N i) (C i)
theorem sel_lt {l : List Nat} {m : Nat} (hl : ∀ i ∈ l, i < m) (k : Nat) (hk : k < l.length) : l.getD k 0 < m := hl _ (by rw [List.getD_eq_getElem?_getD, List.getElem?_eq_getElem hk]; exact List.getElem_mem hk)
set_option maxHeartbeats 4000000 in
set_option maxRecDepth 100000 in
theorem rinto_any (n x : Int) {eo ao : Option Addr} {m ec ca : Nat} {F T : Nat → Int} {A : Nat → Option Addr} {N C : Nat → Nat} {Z : Nat → Nat → Int} {a1 a2 a3 a4 : Int} {fo : Option Addr} {fn fc : Nat} {w : World} (hE : EdZ eo m F T w) (hA : MatZ ao m A N C Z w) (hm : m ≤ 64) :
    Calls Tryz.prog 38 #[.agg #[.int .i64 a1, .int .i64 a2, .int .i64 a3, .int .i64 a4, .slice fo fn fc], .agg #[.int .i64 n, .slice eo m ec], .slice ao m ca, .int .i64 x] w fun e w' => ∃ v, e = .returned v ∧ OwnV w.heap.size v (rowsN A N C (tlN T x m)) w' ∧ Below w.heap.size w w' := by
  obtain ⟨wa, hwa⟩ : ∃ wa, wa = w.alloc (.cells #[.int .i64 a1, .int .i64 a2, .int .i64 a3, .int .i64 a4, .slice fo fn fc] 42) := ⟨_, rfl⟩
  have hba : Below w.heap.size w wa := by rw [hwa]; exact (Below.refl _ _).alloc (Nat.le_refl _) _
  obtain ⟨wb, hwb⟩ : ∃ wb, wb = wa.alloc (.cells #[.int .i64 n, .slice eo m ec] 24) := ⟨_, rfl⟩
  have hbb : Below wa.heap.size wa wb := by rw [hwb]; exact (Below.refl _ _).alloc (Nat.le_refl _) _
  obtain ⟨B, hB⟩ : ∃ B, B = w.heap.size + 1 := ⟨_, rfl⟩
  have hsa : wa.heap.size = w.heap.size + 1 := by rw [hwa]; simp
  have HA : Hid (NB B n (.slice eo m ec) wb ∧ EdZ eo m F T w ∧ MatZ ao m A N C Z w ∧ Below w.heap.size w wb ∧ w.heap.size ≤ B ∧ B < wb.heap.size) := ⟨by rw [hB, ← hsa, hwb]; exact NB.new _ _ _, hE, hA, bel_up' hba hbb, by omega, by rw [hB, ← hsa, hwb]; simp⟩
  clear hE hA hba hbb hsa
  go_enter Tryz.func38, Tryz.ntmps38
  go_wp2
  rw [← hwa, ← hwb, ← hB]
  clear hwa hwb hB
  go_loopw [9, 10] (fun vl vi wx => ∃ i : Nat, i ≤ m ∧ vi = .int .i64 (i : Nat) ∧ Hid (OwnV wb.heap.size vl (rowsN A N C (tlN T x i)) wx ∧ Below wb.heap.size wb wx)) (fun _ vi _ => m - (intOf vi).toNat)
  case atStart => exact ⟨0, by omega, rfl, OwnV.nil _ _, Below.refl _ _⟩
  case round =>
    obtain ⟨i, hi, rfl, HI⟩ := hrel
    rename World => wr
    have hcb := HA.out.1.keep HI.out.2
    obtain ⟨c0, c1⟩ := hcb
    have hszr := HI.out.2.size
    by_cases hlt : i < m
    · have hib : (i : Int) < (m : Int) := by omega
      have hib0 : (0 : Int) ≤ (i : Int) := by omega
      obtain ⟨b, off, rfl, e0, e1⟩ := (HA.out.2.1.below (bel_up' HA.out.2.2.2.1 HI.out.2)) i hlt
      obtain ⟨y, hy⟩ : ∃ y, y = T i := ⟨_, rfl⟩
      rw [← hy] at e1
      by_cases hyx : y = x
      · have hz : (y == x) = true := by rw [hyx]; simp
        obtain ⟨bv, ov, rfl, hcv⟩ := (HA.out.2.2.1.below (bel_up' HA.out.2.2.2.1 HI.out.2)).cell i hlt
        obtain ⟨Ai, hAi⟩ : ∃ Ai, Ai = A i := ⟨_, rfl⟩
        obtain ⟨Ni, hNi⟩ : ∃ Ni, Ni = N i := ⟨_, rfl⟩
        obtain ⟨Ci, hCi⟩ : ∃ Ci, Ci = C i := ⟨_, rfl⟩
        have HV : Hid (rowsN A N C (tlN T x (i + 1)) = rowsN A N C (tlN T x i) ++ [.slice Ai Ni Ci]) := by
          show rowsN A N C (if T i = x then tlN T x i ++ [i] else tlN T x i) = _
          rw [if_pos (by rw [← hy]; exact hyx), hAi, hNi, hCi]
          unfold rowsN
          rw [List.map_append]; rfl
        rw [← hAi, ← hNi, ← hCi] at hcv
        have hll : (rowsN A N C (tlN T x i)).length ≤ 1000000 := by unfold rowsN; rw [List.length_map]; have := tlN_len T x i; omega
        clear hyx hy hAi hNi hCi
        go_wp2_with (at_builtin; refine append_sl rfl _ _ rfl wb.heap.size u9 (rowsN A N C (tlN T x i)) rfl (HI.out.1.below ((Below.refl _ _).alloc (Nat.le_refl _) _) (Nat.le_refl _)) ⟨wr.heap.size, 0, none⟩ 1 (.slice Ai Ni Ci) rfl rfl (by rw [cell_of_row _ _ _ _ _ (0, 0) (two_new _)]; rfl) hll (by simp; omega) ?_; intro v' w6 hown6 hg6)
        have HR : Hid (OwnV wb.heap.size v' (rowsN A N C (tlN T x (i + 1))) w6 ∧ Below wb.heap.size wb w6) := by
          have hal : Below wr.heap.size wr (wr.alloc (.cells #[.slice Ai Ni Ci] 25)) := (Below.refl _ _).alloc (Nat.le_refl _) _
          exact ⟨by rw [HV.out]; exact hown6, (bel_up' HI.out.2 hal).grown hg6 (by simp; omega) (fun k hk => HI.out.1.open_ge k hk)⟩
        clear hown6 hg6
        go_roundw
        case rel => exact ⟨i + 1, by omega, by go_num, HR.out⟩
        case measure => simp [intOf]; omega
      · have hz : (y == x) = false := beq_eq_false_iff_ne.2 hyx
        have HV : Hid (tlN T x (i + 1) = tlN T x i) := if_neg (by rw [← hy]; exact hyx)
        clear hyx hy
        go_wp2
        go_roundw
        case rel => exact ⟨i + 1, by omega, by go_num, by rw [HV.out]; exact HI.out.1, HI.out.2⟩
        case measure => simp [intOf]; omega
    · have hib : ¬ (i : Int) < (m : Int) := by omega
      have hie : m = i := by omega
      subst hie
      have HR : Hid (OwnV w.heap.size u9 (rowsN A N C (tlN T x m)) wr ∧ Below w.heap.size w wr) := by
        refine ⟨?_, bel_up' HA.out.2.2.2.1 HI.out.2⟩
        obtain ⟨h1, h2⟩ := HI.out.1
        refine ⟨h1, ?_⟩
        rcases h2 with h2 | ⟨g, cap, cur, hv, hg, r⟩
        · exact Or.inl h2
        · exact Or.inr ⟨g, cap, cur, hv, Nat.le_trans HA.out.2.2.2.1.size hg, r⟩
      go_wp2
      go_ret
      exact ⟨_, rfl, HR.out⟩
end Go.Proofs.YtbnkekeeceicaaaGreat

/- Nets: the reference's Heard. -/
namespace Go.Proofs.YtbnkekeeceicaaaGreat
open Go.RowKit Go.Sort

end Go.Proofs.YtbnkekeeceicaaaGreat

/- Nets: what is heard (the program's Hear; printed by make/kf5.py). -/
namespace Go.Proofs.YtbnkekeeceicaaaGreat
open Go.RowKit Go.Sort

end Go.Proofs.YtbnkekeeceicaaaGreat

/- NetSends: ways through it, over what its calls tell (printed by make/kf6.py). -/
namespace Go.Proofs.YtbnkekeeceicaaaGreat
open Go.RowKit Go.Sort
set_option linter.unusedVariables false

end Go.Proofs.YtbnkekeeceicaaaGreat

/- NetSends: ways through it, over what its calls tell (printed by make/kf6.py). -/
namespace Go.Proofs.YtbnkekeeceicaaaGreat
open Go.RowKit Go.Sort
set_option linter.unusedVariables false

end Go.Proofs.YtbnkekeeceicaaaGreat

/- NetSends: ways through it, over what its calls tell (printed by make/kf6.py). -/
namespace Go.Proofs.YtbnkekeeceicaaaGreat
open Go.RowKit Go.Sort
set_option linter.unusedVariables false

end Go.Proofs.YtbnkekeeceicaaaGreat

/- NetSends: ways through it, over what its calls tell (printed by make/kf6.py). -/
namespace Go.Proofs.YtbnkekeeceicaaaGreat
open Go.RowKit Go.Sort
set_option linter.unusedVariables false

end Go.Proofs.YtbnkekeeceicaaaGreat

/- NetSends: ways through it, over what its calls tell (printed by make/kf6.py). -/
namespace Go.Proofs.YtbnkekeeceicaaaGreat
open Go.RowKit Go.Sort
set_option linter.unusedVariables false

end Go.Proofs.YtbnkekeeceicaaaGreat

/- NetSends: ways through it, over what its calls tell (printed by make/kf6.py). -/
namespace Go.Proofs.YtbnkekeeceicaaaGreat
open Go.RowKit Go.Sort
set_option linter.unusedVariables false

end Go.Proofs.YtbnkekeeceicaaaGreat

/- NetSends: whatever it is given. -/
namespace Go.Proofs.YtbnkekeeceicaaaGreat
open Go.RowKit Go.Sort

end Go.Proofs.YtbnkekeeceicaaaGreat

/- NetSends over a field: its ways joined (printed by make/kf13.py). -/
namespace Go.Proofs.YtbnkekeeceicaaaGreat
open Go.RowKit Go.Sort

end Go.Proofs.YtbnkekeeceicaaaGreat

/- NetSends: whatever it is given. -/
namespace Go.Proofs.YtbnkekeeceicaaaGreat
open Go.RowKit Go.Sort

end Go.Proofs.YtbnkekeeceicaaaGreat

/- NetSends: whatever it is given (the walk). -/
namespace Go.Proofs.YtbnkekeeceicaaaGreat
open Go.RowKit Go.Sort

end Go.Proofs.YtbnkekeeceicaaaGreat
