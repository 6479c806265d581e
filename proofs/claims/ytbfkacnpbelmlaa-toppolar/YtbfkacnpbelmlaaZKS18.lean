/- Polar: met (what two parts tell that should be alike). -/
import Derived.Test.YtbfkacnpbelmlaaZKS2
import Derived.Test.YtbfkacnpbelmlaaZKE4
import Derived.BigQuiet
namespace Go.Proofs.Ytbfkacnpbelmlaa
open Go.RowKit Go.Sort

/-- No two differ. -/
def mtb (x y : Nat → Int) : Nat → Bool
  | 0 => true
  | n + 1 => mtb x y n && decide (x n = -1 ∨ y n = -1 ∨ y n = x n)
theorem mtb_no {x y : Nat → Int} {i : Nat} (h : ¬ (x i = -1 ∨ y i = -1 ∨ y i = x i)) : ∀ n, i < n → mtb x y n = false
  | 0, hi => absurd hi (by omega)
  | n + 1, hi => by
    show (mtb x y n && decide (x n = -1 ∨ y n = -1 ∨ y n = x n)) = false
    by_cases e : i = n
    · subst e; rw [decide_eq_false h]; simp
    · rw [mtb_no h n (by omega)]; rfl
theorem mtb_yes {x y : Nat → Int} : ∀ n, (∀ i, i < n → x i = -1 ∨ y i = -1 ∨ y i = x i) → mtb x y n = true
  | 0, _ => rfl
  | n + 1, h => by
    show (mtb x y n && decide (x n = -1 ∨ y n = -1 ∨ y n = x n)) = true
    rw [mtb_yes n (fun i hi => h i (by omega)), decide_eq_true (h n (by omega))]; rfl
theorem bel_drewN {B : Nat} {a w : World} (h : Below B a w) (k : Nat) : Below B a (w.drewN k) := ⟨h.os, h.tape, h.output, h.size, h.block⟩
theorem rowZ_drew {g N : Nat} {z : Nat → Int} {w : World} (h : RowZ g N z w) (k : Nat) : RowZ g N z (w.drewN k) := by
  obtain ⟨cap, f, h1, h2, h3⟩ := h
  exact ⟨cap, f, h1.drewN k, h2, h3⟩

set_option maxHeartbeats 8000000 in
set_option maxRecDepth 100000 in
theorem met_any {b1 o1 n ca cb : Nat} {bo : Option Addr} {x y : Nat → Int} {w : World} (hX : SlZ (some ⟨b1, o1, none⟩) n x w) (hY : SlZ bo n y w) (hlx : b1 < w.heap.size) (hly : LtB bo w.heap.size) (hn1 : 1 ≤ n) (hn : n ≤ 64) :
    Calls Try.prog 52 #[.slice (some ⟨b1, o1, none⟩) n ca, .slice bo n cb] w fun e w' => ∃ v, e = .returned (.tuple #[v, .bool (mtb x y n)]) ∧ (mtb x y n = true → ∃ g c, v = .slice (some ⟨g, 0, none⟩) n c ∧ n ≤ c ∧ c ≤ 9223372036854775807 ∧ w.heap.size ≤ g ∧ RowZ g n (fun i => if x i = -1 then y i else x i) w') ∧ Below w.heap.size w w' := by
  obtain ⟨R, hR⟩ : ∃ R, R = mtb x y n := ⟨_, rfl⟩
  have HX : Hid ((SlZ (some ⟨b1, o1, none⟩) n x w ∧ b1 < w.heap.size) ∧ (SlZ bo n y w ∧ LtB bo w.heap.size) ∧ R = mtb x y n) := ⟨⟨hX, hlx⟩, ⟨hY, hly⟩, hR⟩
  have HC : Hid (Calls Try.prog 30 #[.slice (some ⟨b1, o1, none⟩) n ca] w fun e w' => ∃ g c, e = .returned (.slice (some ⟨g, 0, none⟩) n c) ∧ n ≤ c ∧ c ≤ 9223372036854775807 ∧ w.heap.size ≤ g ∧ RowZ g n x w' ∧ Below w.heap.size w w') := sclone_any hX (by omega) (by omega) hlx
  rw [← hR]
  clear hX hY hlx hly hR
  go_enter Try.func52, Try.ntmps52
  go_wp2_with fail
  refine HC.out.mono ?_
  rintro e w1 ⟨g, c, rfl, hc1, hc2, hg, hZ, hb1⟩
  have H1 : Hid (RowZ g n x w1 ∧ Below w.heap.size w w1 ∧ w.heap.size ≤ g) := ⟨hZ, hb1, hg⟩
  have HCc : Hid (n ≤ c ∧ c ≤ 9223372036854775807) := ⟨hc1, hc2⟩
  clear hc2 hg hZ hb1 HC
  go_wp2
  go_loopw [12] (fun vi wr => ∃ t : Nat, t ≤ n ∧ vi = .int .i64 (t : Nat) ∧ Hid (mtb x y t = true ∧ RowZ g n (fun j => if j < t then (if x j = -1 then y j else x j) else x j) wr ∧ Below w.heap.size w wr)) (fun vi _ => n - (intOf vi).toNat)
  case atStart => exact ⟨0, by omega, rfl, rfl, H1.out.1.congr (fun j _ => (if_neg (by omega)).symm), H1.out.2.1⟩
  case round =>
    obtain ⟨t, ht, rfl, HG⟩ := hrel
    rename World => wr
    by_cases hlt : t < n
    · have hib : (t : Int) < (n : Int) := by omega
      have hib0 : (0 : Int) ≤ (t : Int) := by omega
      obtain ⟨a, ha⟩ : ∃ a, a = x t := ⟨_, rfl⟩
      obtain ⟨b, hb⟩ : ∃ b, b = y t := ⟨_, rfl⟩
      obtain ⟨b1', o1', e1, q1⟩ := HX.out.1.1 t hlt
      cases e1
      obtain ⟨b2, o2, e2, q2⟩ := HX.out.2.1.1 t hlt
      have l2 := HX.out.2.1.2 _ e2
      have c1 : wr.cell? ⟨b1, o1 + t, none⟩ = some (.int .i64 a) := by rw [ha]; exact (HG.out.2.2.cell (p := ⟨b1, o1 + t, none⟩) HX.out.1.2).trans q1
      have c2 : wr.cell? ⟨b2, o2 + t, none⟩ = some (.int .i64 b) := by rw [hb]; exact (HG.out.2.2.cell (p := ⟨b2, o2 + t, none⟩) l2).trans q2
      obtain ⟨o0, hc0⟩ : ∃ o0, wr.cell? ⟨g, t, none⟩ = some (.int .i64 o0) := ⟨_, HG.out.2.1.cell t hlt⟩
      have hf0 := HG.out.2.1.free t
      subst e2
      clear q1 q2 l2
      by_cases h1 : a = -1
      · have HS2 : Hid (mtb x y (t + 1) = true ∧ RowZ g n (fun j => if j < t + 1 then (if x j = -1 then y j else x j) else x j) (wr.setCell ⟨g, t, none⟩ (.int .i64 b)) ∧ Below w.heap.size w (wr.setCell ⟨g, t, none⟩ (.int .i64 b))) := by
          refine ⟨?_, HG.out.2.1.store t b (fun j hj => ?_), HG.out.2.2.setCell (by have := H1.out.2.2; show _ ≤ g; omega) _⟩
          · show (mtb x y t && decide (x t = -1 ∨ y t = -1 ∨ y t = x t)) = true
            rw [HG.out.1, decide_eq_true (Or.inl (by rw [← ha]; exact h1))]; rfl
          · show (if j < t + 1 then _ else _) = if j = t then b else if j < t then _ else _
            by_cases e : j = t
            · subst e; rw [if_pos (show j < j + 1 by omega), if_pos rfl, if_pos (by rw [← ha]; exact h1), hb]
            · rw [if_neg e]
              by_cases e3 : j < t
              · rw [if_pos e3, if_pos (show j < t + 1 by omega)]
              · rw [if_neg e3, if_neg (show ¬ j < t + 1 by omega)]
        subst h1
        clear ha hb
        go_wp2
        go_roundw
        case rel => exact ⟨t + 1, by omega, by go_num, HS2.out⟩
        case measure => simp [intOf]; omega
      · have h1b : (a == -1) = false := by rw [beq_eq_false_iff_ne]; exact h1
        have h1d : decide (a = -1) = false := decide_eq_false h1
        have hk : b = -1 ∨ b = a → Hid (mtb x y (t + 1) = true ∧ RowZ g n (fun j => if j < t + 1 then (if x j = -1 then y j else x j) else x j) wr ∧ Below w.heap.size w wr) := by
          intro hba
          refine ⟨?_, HG.out.2.1.congr (fun j hj => ?_), HG.out.2.2⟩
          · show (mtb x y t && decide (x t = -1 ∨ y t = -1 ∨ y t = x t)) = true
            rw [HG.out.1, decide_eq_true (Or.inr (by rw [← ha, ← hb]; exact hba))]; rfl
          · show (if j < t then _ else _) = if j < t + 1 then _ else _
            by_cases e3 : j < t
            · rw [if_pos e3, if_pos (show j < t + 1 by omega)]
            · rw [if_neg e3]
              by_cases e : j = t
              · subst e; rw [if_pos (show j < j + 1 by omega), if_neg (by rw [← ha]; exact h1)]
              · rw [if_neg (show ¬ j < t + 1 by omega)]
        have hx : ¬ (b = -1 ∨ b = a) → Hid (R = false ∧ Below w.heap.size w wr) := by
          intro hba
          refine ⟨?_, HG.out.2.2⟩
          rw [HX.out.2.2]
          exact mtb_no (i := t) (fun hh => hh.elim (fun e => h1 (by rw [ha]; exact e)) (fun e => hba (by rw [ha, hb]; exact e))) n hlt
        have HK : Hid ((b = -1 ∨ b = a → Hid (mtb x y (t + 1) = true ∧ RowZ g n (fun j => if j < t + 1 then (if x j = -1 then y j else x j) else x j) wr ∧ Below w.heap.size w wr)) ∧ (¬ (b = -1 ∨ b = a) → Hid (R = false ∧ Below w.heap.size w wr))) := ⟨hk, hx⟩
        clear hk hx ha hb
        by_cases h2 : b = -1
        · have H9 := HK.out.1 (Or.inl h2)
          have h2d : decide (b != -1) = false := by rw [h2]; rfl
          clear HK
          subst h2
          go_wp2
          go_quiet (fail)
          go_wp2
          go_roundw
          case rel => exact ⟨t + 1, by omega, by go_num, H9.out.1, rowZ_drew H9.out.2.1 _, bel_drewN H9.out.2.2 _⟩
          case measure => simp [intOf]; omega
        · have h2d : (b != -1) = true := by rw [bne_iff_ne]; exact h2
          by_cases h3 : b = a
          · have H9 := HK.out.1 (Or.inr h3)
            subst h3
            clear HK
            go_wp2
            go_quiet (fail)
            go_wp2
            go_roundw
            case rel => exact ⟨t + 1, by omega, by go_num, H9.out.1, rowZ_drew H9.out.2.1 _, bel_drewN H9.out.2.2 _⟩
            case measure => simp [intOf]; omega
          · have H9 := HK.out.2 (fun h => h.elim h2 h3)
            have h3d : (b != a) = true := by rw [bne_iff_ne]; exact h3
            clear HK
            go_wp2
            go_quiet (fail)
            go_wp2
            go_ret2
            exact ⟨.slice none 0 0, by rw [H9.out.1]; rfl, fun e => (by rw [H9.out.1] at e; cases e), bel_drewN H9.out.2 _⟩
    · have hib : ¬ (t : Int) < (n : Int) := by omega
      have e : n = t := by omega
      subst e
      have HV : Hid (R = true ∧ RowZ g n (fun i => if x i = -1 then y i else x i) wr ∧ Below w.heap.size w wr) := ⟨by rw [HX.out.2.2]; exact HG.out.1, HG.out.2.1.congr (fun j hj => if_pos hj), HG.out.2.2⟩
      clear HG
      go_wp2
      go_ret2
      exact ⟨.slice (some ⟨g, 0, none⟩) n c, by rw [HV.out.1]; rfl, fun _ => ⟨g, c, rfl, HCc.out.1, HCc.out.2, H1.out.2.2, HV.out.2.1⟩, HV.out.2.2⟩
end Go.Proofs.Ytbfkacnpbelmlaa
