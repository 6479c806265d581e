/- Sums of codes: what is left of rows (the program's sum), its state. -/
import Derived.Test.YtbpeahhhkcljeaaZI5
namespace Go.Proofs.Ytbpeahhhkcljeaa
open Go.RowKit Go.Sort

/-- Of the M lists in block G the first i are the rows V, of n elements, wherever they lie. -/
structure RS (D : FD) (G M n i : Nat) (V : Nat → Nat → Nat) (X : Nat → Option Addr) (C : Nat → Nat) (w : World) : Prop where
  outer : ∃ f, RowF G M 23 f w ∧ ∀ a, a < i → f a = .slice (X a) n (C a)
  sl : ∀ a, a < i → Sl (X a) n (V a) w
  lt : ∀ a, a < i → LtB (X a) w.heap.size
  nil : ∀ a, a < i → X a = none → C a = 0
  le : ∀ a, a < i → n ≤ C a
  cap : ∀ a, a < i → C a ≤ 9223372036854775807
  ne : ∀ a, a < i → ∀ x, X a = some x → x.block ≠ G
  el : ∀ a, a < i → El D (V a)
theorem RS.below {D : FD} {G M n i : Nat} {V : Nat → Nat → Nat} {X : Nat → Option Addr} {C : Nat → Nat} {w w' : World} (h : RS D G M n i V X C w) (hb : Below w.heap.size w w') : RS D G M n i V X C w' := by
  obtain ⟨f, hf, hf'⟩ := h.outer
  exact ⟨⟨f, hf.below hb hf.lt, hf'⟩, fun a ha => (h.sl a ha).below hb (h.lt a ha), fun a ha => (h.lt a ha).mono hb.size, h.nil, h.le, h.cap, h.ne, h.el⟩
theorem RS.cell {D : FD} {G M n i : Nat} {V : Nat → Nat → Nat} {X : Nat → Option Addr} {C : Nat → Nat} {w : World} (h : RS D G M n i V X C w) (a : Nat) (ha : a < i) (hM : i ≤ M) : w.cell? ⟨G, a, none⟩ = some (.slice (X a) n (C a)) ∧ w.frozen? ⟨G, a, none⟩ = false := by
  obtain ⟨f, hf, hf'⟩ := h.outer
  exact ⟨by rw [hf.cell a (by omega), hf' a ha], hf.free a⟩
theorem RS.free {D : FD} {G M n i : Nat} {V : Nat → Nat → Nat} {X : Nat → Option Addr} {C : Nat → Nat} {w : World} (h : RS D G M n i V X C w) (a : Nat) (ha : a < M) : (∃ u, w.cell? ⟨G, a, none⟩ = some u) ∧ w.frozen? ⟨G, a, none⟩ = false := by
  obtain ⟨f, hf, hf'⟩ := h.outer
  exact ⟨⟨_, hf.cell a ha⟩, hf.free a⟩
theorem RS.ltG {D : FD} {G M n i : Nat} {V : Nat → Nat → Nat} {X : Nat → Option Addr} {C : Nat → Nat} {w : World} (h : RS D G M n i V X C w) : G < w.heap.size := by
  obtain ⟨f, hf, _⟩ := h.outer
  exact hf.lt
theorem sl_set {ao : Option Addr} {n : Nat} {c : Nat → Nat} {w : World} {G a : Nat} {u : Value} (h : Sl ao n c w) (hne : ∀ x, ao = some x → x.block ≠ G) : Sl ao n c (w.setCell ⟨G, a, none⟩ u) := fun j hj => by
  obtain ⟨b, off, e, hc⟩ := h j hj
  refine ⟨b, off, e, ?_⟩
  have hb : b ≠ G := hne _ e
  have := Below.heap_setCell w ⟨G, a, none⟩ u b hb
  have e2 : (w.setCell ⟨G, a, none⟩ u).cell? ⟨b, off + j, none⟩ = w.cell? ⟨b, off + j, none⟩ := by simp [World.cell?, this]
  exact e2.trans hc
/-- List a0 is another one now. -/
theorem RS.put {D : FD} {G M n i i' a0 : Nat} {V : Nat → Nat → Nat} {X : Nat → Option Addr} {C : Nat → Nat} {w : World} (h : RS D G M n i V X C w) (hi : ∀ a, a < i' → a ≠ a0 → a < i) {x : Option Addr} {cc : Nat} {v : Nat → Nat} (hsl : Sl x n v w) (hlt : LtB x w.heap.size) (hnil : x = none → cc = 0) (hle : n ≤ cc) (hcap : cc ≤ 9223372036854775807) (hne : ∀ y, x = some y → y.block ≠ G) (hel : El D v) :
    RS D G M n i' (fun a => if a = a0 then v else V a) (fun a => if a = a0 then x else X a) (fun a => if a = a0 then cc else C a) (w.setCell ⟨G, a0, none⟩ (.slice x n cc)) := by
  obtain ⟨f, hf, hf'⟩ := h.outer
  have hsz : (w.setCell ⟨G, a0, none⟩ (.slice x n cc)).heap.size = w.heap.size := by simp
  refine ⟨⟨_, hf.store a0 (.slice x n cc), fun a ha => ?_⟩, fun a ha => ?_, fun a ha => ?_, fun a ha => ?_, fun a ha => ?_, fun a ha => ?_, fun a ha => ?_, fun a ha => ?_⟩
  · by_cases e : a = a0
    · rw [e, upd_at]; simp only [if_true]
    · simp only [if_neg e]
      rw [upd_ne _ _ _ e]; exact hf' a (hi a ha e)
  · by_cases e : a = a0
    · simp only [if_pos e]; exact sl_set hsl hne
    · simp only [if_neg e]; exact sl_set (h.sl a (hi a ha e)) (h.ne a (hi a ha e))
  · by_cases e : a = a0
    · simp only [if_pos e]; rw [hsz]; exact hlt
    · simp only [if_neg e]; rw [hsz]; exact h.lt a (hi a ha e)
  · by_cases e : a = a0
    · simp only [if_pos e]; exact hnil
    · simp only [if_neg e]; exact h.nil a (hi a ha e)
  · by_cases e : a = a0
    · simp only [if_pos e]; exact hle
    · simp only [if_neg e]; exact h.le a (hi a ha e)
  · by_cases e : a = a0
    · simp only [if_pos e]; exact hcap
    · simp only [if_neg e]; exact h.cap a (hi a ha e)
  · by_cases e : a = a0
    · simp only [if_pos e]; exact hne
    · simp only [if_neg e]; exact h.ne a (hi a ha e)
  · by_cases e : a = a0
    · simp only [if_pos e]; exact hel
    · simp only [if_neg e]; exact h.el a (hi a ha e)
theorem RS.matZ {D : FD} {G M n : Nat} {V : Nat → Nat → Nat} {X : Nat → Option Addr} {C : Nat → Nat} {w : World} (h : RS D G M n M V X C w) (hn : n ≤ 64) : MatZ (some ⟨G, 0, none⟩) M X (fun _ => n) C (fun i j => ((V i j : Nat) : Int)) w :=
  ⟨fun i hi => ⟨G, 0, rfl, by rw [Nat.zero_add]; exact (h.cell i hi (Nat.le_refl _)).1⟩, h.sl, h.le, h.cap, h.nil, fun _ _ => by omega⟩
theorem RS.cdz {D : FD} {G M n : Nat} {V : Nat → Nat → Nat} {X : Nat → Option Addr} {C : Nat → Nat} {w : World} (h : RS D G M n M V X C w) (hn1 : 1 ≤ n) (hn : n ≤ 64) (hM : M ≤ 64) : CdZ D (some ⟨G, 0, none⟩) M n X (fun _ => n) C (fun i j => ((V i j : Nat) : Int)) w := by
  refine ⟨h.matZ hn, mchk_of hM (fun i hi => ?_), fun _ => rfl, hn1, hn⟩
  unfold FD.mrow
  rw [if_neg (by omega), if_neg (by omega), if_pos]
  exact allHas_iff.2 (fun j _ => has_of_lt (h.el i hi j))
/-- A row that a matrix has, told as it lies. -/
theorem CdZ.row {D : FD} (F : Fld D) {ao : Option Addr} {m n : Nat} {A : Nat → Option Addr} {N C : Nat → Nat} {Z : Nat → Nat → Int} {w : World} (h : CdZ D ao m n A N C Z w) (i : Nat) (hi : i < m) : ∃ b off c, ao = some ⟨b, off, none⟩ ∧ w.cell? ⟨b, off + i, none⟩ = some (.slice (A i) n c) ∧ Sl (A i) n (mzc N Z i) w ∧ LtB (A i) w.heap.size ∧ (A i = none → c = 0) ∧ n ≤ c ∧ c ≤ 9223372036854775807 := by
  obtain ⟨_, _, _, hm⟩ := h.rows F
  have hn := h.n1
  obtain ⟨b, off, u, e, hc, A', ca', eu, hs, hl, h1, h2, h3⟩ := hm i hi
  obtain ⟨b', off', e', hc'⟩ := h.mat.cell i hi
  rw [e] at e'
  cases e'
  rw [hc, eu] at hc'
  have hc2 := Option.some.inj hc'
  simp only [Value.slice.injEq] at hc2
  obtain ⟨rfl, _, _⟩ := hc2
  rw [show n - 1 + 1 = n from by omega] at eu hs h2
  exact ⟨b, off, ca', e, by rw [hc, eu], hs, hl, h1, h2, h3⟩
end Go.Proofs.Ytbpeahhhkcljeaa
