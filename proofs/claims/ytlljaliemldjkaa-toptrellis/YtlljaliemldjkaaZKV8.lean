/- Trellises: ways. -/
import Derived.Test.YtlljaliemldjkaaZKV7
import Derived.RangeFuncRecord
namespace Go.Proofs.Ytlljaliemldjkaa
open Go.RowKit Go.Sort

/-- A way, as it is handed on. -/
def wyV (p : Nat × Nat) : Value := .agg #[.int .i64 (p.1 : Nat), .int .i64 (p.2 : Nat)]
/-- The better of two. -/
def wyB (p q : Nat × Nat) : Nat × Nat := if q.1 < p.1 ∨ (q.1 = p.1 ∧ q.2 < p.2) then q else p
theorem wy_mts : Mts wyB := by
  constructor
  · rintro ⟨a, b⟩ ⟨c, d⟩
    unfold wyB
    by_cases h1 : c < a ∨ (c = a ∧ d < b)
    · rw [if_pos h1, if_neg (by show ¬ (a < c ∨ (a = c ∧ b < d)); omega)]
    · rw [if_neg h1]
      by_cases h2 : a < c ∨ (a = c ∧ b < d)
      · rw [if_pos h2]
      · rw [if_neg h2]
        have : a = c ∧ b = d := by
          have h1' : ¬ (c < a ∨ (c = a ∧ d < b)) := h1
          omega
        rw [this.1, this.2]
  · rintro ⟨a, b⟩ ⟨c, d⟩ ⟨e, f⟩
    unfold wyB
    by_cases h1 : c < a ∨ (c = a ∧ d < b)
    · rw [if_pos h1]
      by_cases h2 : e < c ∨ (e = c ∧ f < d)
      · rw [if_pos h2, if_pos (by show e < a ∨ (e = a ∧ f < b); omega)]
      · rw [if_neg h2, if_pos h1]
    · rw [if_neg h1]
      by_cases h2 : e < c ∨ (e = c ∧ f < d)
      · rw [if_pos h2]
      · rw [if_neg h2, if_neg h1, if_neg (by show ¬ (e < a ∨ (e = a ∧ f < b)); have h1' : ¬ (c < a ∨ (c = a ∧ d < b)) := h1; have h2' : ¬ (e < c ∨ (e = c ∧ f < d)) := h2; omega)]
/-- A variable that holds a way. -/
def W2 (b : Nat) (p q : Int) (w : World) : Prop := w.heap[b]? = some (.cells #[.int .i64 p, .int .i64 q] 59)
theorem W2.c0 {b : Nat} {p q : Int} {w : World} (h : W2 b p q w) : w.cell? ⟨b, 0, none⟩ = some (.int .i64 p) := by rw [cell_of_row _ _ _ _ _ (0, 0) h]; rfl
theorem W2.c1 {b : Nat} {p q : Int} {w : World} (h : W2 b p q w) : w.cell? ⟨b, 1, none⟩ = some (.int .i64 q) := by rw [cell_of_row _ _ _ _ _ (0, 0) h]; rfl
theorem W2.free {b : Nat} {p q : Int} {w : World} (h : W2 b p q w) (i : Nat) : w.frozen? ⟨b, i, none⟩ = false := frozen_of_row _ _ _ _ _ h
theorem W2.new (p q : Int) (w : World) : W2 w.heap.size p q (w.alloc (.cells #[.int .i64 p, .int .i64 q] 59)) := World.alloc_heap_new w _
theorem W2.alloc {b : Nat} {p q : Int} {w : World} (h : W2 b p q w) (o : Obj) : W2 b p q (w.alloc o) := (Below.heap_alloc _ _ _ (lt_of_block h)).trans h
theorem W2.below {b : Nat} {p q : Int} {w w' : World} (h : W2 b p q w) (hb : Below w.heap.size w w') : W2 b p q w' := (hb.block b (lt_of_block h)).trans h

set_option maxHeartbeats 4000000 in
set_option maxRecDepth 100000 in
theorem better_any (p q : Nat × Nat) (w : World) : Calls Try.prog 38 #[wyV p, wyV q] w fun e w' => e = .returned (wyV (wyB p q)) ∧ Below w.heap.size w w' := by
  obtain ⟨a, b⟩ := p
  obtain ⟨c, d⟩ := q
  have al : ∀ o1 o2 o3 : Obj, Below w.heap.size w (((w.alloc o1).alloc o2).alloc o3) := fun o1 o2 o3 => (((Below.refl _ _).alloc (Nat.le_refl _) _).alloc (by simp) _).alloc (by simp; omega) _
  have HL : Hid (∀ o1 o2 o3 : Obj, Below w.heap.size w (((w.alloc o1).alloc o2).alloc o3)) := al
  show Calls Try.prog 38 #[.agg #[.int .i64 (a : Nat), .int .i64 (b : Nat)], .agg #[.int .i64 (c : Nat), .int .i64 (d : Nat)]] w _
  obtain ⟨r, hr⟩ : ∃ r, r = wyB (a, b) (c, d) := ⟨_, rfl⟩
  rw [← hr]
  have HR : Hid (r = if c < a ∨ (c = a ∧ d < b) then (c, d) else (a, b)) := hr
  clear hr al
  by_cases h1 : c < a
  · have h1i : (c : Int) < (a : Int) := by omega
    have HV : Hid (r = (c, d)) := by show r = _; rw [HR.out, if_pos (Or.inl h1)]
    clear HR
    go_enter Try.func38, Try.ntmps38
    go_wp2
    refine bodyPost_ret (v := .agg #[.int .i64 (c : Nat), .int .i64 (d : Nat)]) (by simp [results, Try.results38, go_sem]) rfl ?_
    exact ⟨by rw [HV.out]; rfl, HL.out _ _ _⟩
  · have h1i : ¬ (c : Int) < (a : Int) := by omega
    by_cases h2 : c = a
    · subst h2
      by_cases h3 : d < b
      · have h3i : (d : Int) < (b : Int) := by omega
        have HV : Hid (r = (c, d)) := by show r = _; rw [HR.out, if_pos (Or.inr ⟨rfl, h3⟩)]
        clear HR
        go_enter Try.func38, Try.ntmps38
        go_wp2
        refine bodyPost_ret (v := .agg #[.int .i64 (c : Nat), .int .i64 (d : Nat)]) (by simp [results, Try.results38, go_sem]) rfl ?_
        exact ⟨by rw [HV.out]; rfl, HL.out _ _ _⟩
      · have h3i : ¬ (d : Int) < (b : Int) := by omega
        have HV : Hid (r = (c, b)) := by show r = _; rw [HR.out, if_neg (by omega)]
        clear HR
        go_enter Try.func38, Try.ntmps38
        go_wp2
        refine bodyPost_ret (v := .agg #[.int .i64 (c : Nat), .int .i64 (b : Nat)]) (by simp [results, Try.results38, go_sem]) rfl ?_
        exact ⟨by rw [HV.out]; rfl, HL.out _ _ _⟩
    · have h2i : ((c : Int) == (a : Int)) = false := beq_eq_false_iff_ne.2 (by omega)
      have HV : Hid (r = (a, b)) := by show r = _; rw [HR.out, if_neg (by omega)]
      clear HR
      go_enter Try.func38, Try.ntmps38
      go_wp2
      refine bodyPost_ret (v := .agg #[.int .i64 (a : Nat), .int .i64 (b : Nat)]) (by simp [results, Try.results38, go_sem]) rfl ?_
      exact ⟨by rw [HV.out]; rfl, HL.out _ _ _⟩
/-- What a step makes of a way. -/
def wyS (z : Nat → Nat) (R : Nat) (y : Nat → Int) (n : Nat) (k x : Nat) (p : Nat × Nat) : Nat × Nat := (p.1 + trn z R y k x, if k < n then 2 * p.2 + x % 2 else p.2)
theorem wyS_over (z : Nat → Nat) (R : Nat) (y : Nat → Int) (n k x : Nat) (p q : Nat × Nat) : wyS z R y n k x (wyB p q) = wyB (wyS z R y n k x p) (wyS z R y n k x q) := by
  obtain ⟨a, b⟩ := p
  obtain ⟨c, d⟩ := q
  unfold wyB wyS
  by_cases h1 : c < a ∨ (c = a ∧ d < b)
  · rw [if_pos h1]
    by_cases hk : k < n
    · rw [if_pos hk, if_pos hk, if_pos (by show c + _ < a + _ ∨ (c + _ = a + _ ∧ 2 * d + _ < 2 * b + _); omega)]
    · rw [if_neg hk, if_neg hk, if_pos (by show c + _ < a + _ ∨ (c + _ = a + _ ∧ d < b); omega)]
  · rw [if_neg h1]
    have h1' : ¬ (c < a ∨ (c = a ∧ d < b)) := h1
    by_cases hk : k < n
    · rw [if_pos hk, if_pos hk, if_neg (by show ¬ (c + _ < a + _ ∨ (c + _ = a + _ ∧ 2 * d + _ < 2 * b + _)); omega)]
    · rw [if_neg hk, if_neg hk, if_neg (by show ¬ (c + _ < a + _ ∨ (c + _ = a + _ ∧ d < b)); omega)]
theorem W2.put0 {b : Nat} {p q : Int} {w : World} (h : W2 b p q w) (x : Int) : W2 b x q (w.setCell ⟨b, 0, none⟩ (.int .i64 x)) := by
  unfold W2 at h ⊢
  show (w.heap.modify b _)[b]? = _
  rw [Array.getElem?_modify, if_pos rfl, h]
  rfl
theorem W2.put1 {b : Nat} {p q : Int} {w : World} (h : W2 b p q w) (x : Int) : W2 b p x (w.setCell ⟨b, 1, none⟩ (.int .i64 x)) := by
  unfold W2 at h ⊢
  show (w.heap.modify b _)[b]? = _
  rw [Array.getElem?_modify, if_pos rfl, h]
  rfl
theorem W2.oth {b b' : Nat} {p q : Int} {w : World} (h : W2 b p q w) (hne : b ≠ b') (i : Nat) (v : Value) : W2 b p q (w.setCell ⟨b', i, none⟩ v) := (Below.heap_setCell _ _ _ _ hne).trans h
end Go.Proofs.Ytlljaliemldjkaa
