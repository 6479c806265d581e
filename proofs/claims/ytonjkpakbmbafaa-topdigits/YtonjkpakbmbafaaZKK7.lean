/- Signs that check: a text's digits (read). -/
import Derived.Test.YtonjkpakbmbafaaZKK6
namespace Go.Proofs.Ytonjkpakbmbafaa
open Go.RowKit

/-- A text's bytes. -/
def byt (s : ByteArray) (i : Nat) : Nat := (s.data.getD i 0).toNat
theorem byt_at (s : ByteArray) (i : Nat) (h : i < s.size) : (s[i]'h).toNat = byt s i := by
  unfold byt
  show ((s.data)[i]'h).toNat = _
  have h' : i < s.data.size := h
  rw [Array.getD, dif_pos h']; rfl
theorem byt_lt (s : ByteArray) (i : Nat) : byt s i < 256 := UInt8.toNat_lt _
/-- Are the first signs digits? -/
def dgs (s : ByteArray) : Nat → Bool
  | 0 => true
  | i + 1 => dgs s i && decide (48 ≤ byt s i ∧ byt s i ≤ 57)
theorem dgs_at {s : ByteArray} : ∀ n, dgs s n = true → ∀ j, j < n → 48 ≤ byt s j ∧ byt s j ≤ 57
  | 0, _, j, hj => absurd hj (by omega)
  | n + 1, h, j, hj => by
    have h : (dgs s n && decide (48 ≤ byt s n ∧ byt s n ≤ 57)) = true := h
    rw [Bool.and_eq_true] at h
    by_cases e : j = n
    · subst e; exact of_decide_eq_true h.2
    · exact dgs_at n h.1 j (by omega)
theorem dgs_no {s : ByteArray} {i : Nat} (h : ¬ (48 ≤ byt s i ∧ byt s i ≤ 57)) : ∀ n, i < n → dgs s n = false
  | 0, hi => absurd hi (by omega)
  | n + 1, hi => by
    show (dgs s n && decide (48 ≤ byt s n ∧ byt s n ≤ 57)) = false
    by_cases e : i = n
    · subst e; rw [decide_eq_false h, Bool.and_false]
    · rw [dgs_no h n (by omega), Bool.false_and]
theorem dgs_yes {s : ByteArray} {i : Nat} (h0 : dgs s i = true) (h : 48 ≤ byt s i ∧ byt s i ≤ 57) : dgs s (i + 1) = true := by
  show (dgs s i && decide (48 ≤ byt s i ∧ byt s i ≤ 57)) = true
  rw [h0, decide_eq_true h]; rfl
/-- A text's digit. -/
def tdg (s : ByteArray) (i : Nat) : Nat := byt s i - 48
theorem tdg_lt {s : ByteArray} {n : Nat} (h : dgs s n = true) : ∀ j, j < n → tdg s j < 10 := fun j hj => by
  have := dgs_at n h j hj
  unfold tdg; omega
/-- What reading a text tells. -/
def RdP (s : ByteArray) (w : World) (e : Ending) (w' : World) : Prop :=
  (dgs s s.size = true ∧ ∃ g, e = .returned (.tuple #[.slice (some ⟨g, 0, none⟩) s.size s.size, .int .i64 0]) ∧ RowZ g s.size (dgz (tdg s)) w' ∧ w.heap.size ≤ g) ∨
  (dgs s s.size = false ∧ e = .returned (.tuple #[.slice none 0 0, .int .i64 11]))

set_option maxHeartbeats 8000000 in
set_option maxRecDepth 100000 in
theorem read_any (s : ByteArray) (w : World) (hs : s.size ≤ 1000) :
    Calls Try.prog 79 #[.string s] w fun e w' => RdP s w e w' ∧ Below w.heap.size w w' := by
  go_enter Try.func79, Try.ntmps79
  go_wp2_with (at_make; refine make_int rfl _ _ rfl _ s.size rfl rfl (by omega) (by omega) ?_; intro w1 hown1 hgrow1)
  have hrz0 := RowZ.of (row_zeros hown1)
  obtain ⟨g, hg⟩ : ∃ g, g = w.heap.size := ⟨_, rfl⟩
  rw [← hg] at hrz0
  try rw [← hg]
  have HI0 : Hid (RowZ g s.size (fun k => ((pnil k : Nat) : Int)) w1 ∧ Below w.heap.size w w1 ∧ g = w.heap.size) := ⟨hrz0, below_grown hgrow1 (Nat.le_refl _) (fun k hk => by cases hk), hg⟩
  clear hown1 hgrow1 hrz0 hg
  obtain ⟨n, hn⟩ : ∃ n, n = s.size := ⟨_, rfl⟩
  go_loopw [11] (fun vi wr => ∃ (t : Nat) (o : Nat → Int), t ≤ s.size ∧ vi = .int .i64 (t : Nat) ∧ Hid (RowZ g s.size o wr ∧ (∀ j, j < t → o j = dgz (tdg s) j) ∧ dgs s t = true ∧ Below w.heap.size w wr)) (fun vi _ => s.size - (intOf vi).toNat)
  case atStart => exact ⟨0, _, by omega, rfl, HI0.out.1, fun j hj => absurd hj (by omega), rfl, HI0.out.2.1⟩
  case round =>
    obtain ⟨t, o, ht, rfl, HG⟩ := hrel
    rename World => wr
    by_cases hlt : t < s.size
    · have hib : (t : Int) < (s.size : Int) := by omega
      have hib0 : (0 : Int) ≤ (t : Int) := by omega
      have hbt := byt_at s t hlt
      have hb256 := byt_lt s t
      by_cases h1 : byt s t < 48
      · have i1 : ((s[t]'hlt).toNat : Int) < 48 := by omega
        have HD : Hid (dgs s s.size = false) := dgs_no (by omega) _ hlt
        clear hbt hb256 h1
        go_wp2
        go_ret2
        exact ⟨Or.inr ⟨HD.out, rfl⟩, HG.out.2.2.2⟩
      have i1 : ¬ ((s[t]'hlt).toNat : Int) < 48 := by omega
      by_cases h2 : 57 < byt s t
      · have i2 : (57 : Int) < ((s[t]'hlt).toNat : Int) := by omega
        have HD : Hid (dgs s s.size = false) := dgs_no (by omega) _ hlt
        clear hbt hb256 h1 h2
        go_wp2
        go_ret2
        exact ⟨Or.inr ⟨HD.out, rfl⟩, HG.out.2.2.2⟩
      have i2 : ¬ (57 : Int) < ((s[t]'hlt).toNat : Int) := by omega
      obtain ⟨y, hy⟩ : ∃ y, y = tdg s t := ⟨_, rfl⟩
      have hyb : byt s t = 48 + y := by rw [hy]; unfold tdg; omega
      have wu : IntKind.u8.wrap (((s[t]'hlt).toNat : Int) - 48) = (y : Int) := by rw [show ((s[t]'hlt).toNat : Int) - 48 = (y : Int) by omega]; exact u8_ten y (by omega)
      have hc0 := HG.out.1.cell t hlt
      have hf0 := HG.out.1.free t
      obtain ⟨o0, ho0⟩ : ∃ o0, o0 = o t := ⟨_, rfl⟩
      rw [← ho0] at hc0
      obtain ⟨ws, hws⟩ : ∃ ws, ws = wr.setCell ⟨g, t, none⟩ (.int .i64 (y : Nat)) := ⟨_, rfl⟩
      have HS2 : Hid (RowZ g s.size (fun j => if j = t then (y : Int) else o j) ws ∧ (∀ j, j < t + 1 → (fun j => if j = t then (y : Int) else o j) j = dgz (tdg s) j) ∧ dgs s (t + 1) = true ∧ Below w.heap.size w ws) := by
        refine ⟨by rw [hws]; exact HG.out.1.store t (y : Int) fun j _ => rfl, fun j hj => ?_, dgs_yes HG.out.2.2.1 (by omega), by rw [hws]; exact HG.out.2.2.2.setCell (by have := HI0.out.2.2; show w.heap.size ≤ g; omega) _⟩
        show (if j = t then (y : Int) else o j) = _
        by_cases e : j = t
        · rw [if_pos e, hy, e]; rfl
        · rw [if_neg e]; exact HG.out.2.1 j (by omega)
      have hy10 : y < 10 := by omega
      clear hbt hb256 h1 h2 hy hyb ho0
      go_wp2
      try rw [← hws]
      clear hws hc0 hf0
      go_roundw
      case rel => exact ⟨t + 1, _, by omega, by go_num, HS2.out⟩
      case measure => simp [intOf]; omega
    · have hib : ¬ (t : Int) < (s.size : Int) := by omega
      have hte : t = s.size := by omega
      have HD : Hid (dgs s s.size = true ∧ RowZ g s.size (dgz (tdg s)) wr ∧ w.heap.size ≤ g) := ⟨by rw [← hte]; exact HG.out.2.2.1, HG.out.1.congr fun k hk => HG.out.2.1 k (by omega), by have := HI0.out.2.2; omega⟩
      clear hte
      go_wp2
      go_ret2
      exact ⟨Or.inl ⟨HD.out.1, g, rfl, HD.out.2⟩, HG.out.2.2.2⟩
end Go.Proofs.Ytonjkpakbmbafaa
