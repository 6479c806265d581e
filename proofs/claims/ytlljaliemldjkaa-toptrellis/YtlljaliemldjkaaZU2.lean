/- The program's polynomials: values, products. -/
import Derived.Test.YtlljaliemldjkaaZR5
namespace Go.Proofs.Ytlljaliemldjkaa
open Go.RowKit

/-- A row's first cells are the coefficients c. -/
def Row (g N : Nat) (c : Nat → Nat) (w : World) : Prop := ∃ cap f, RowF g cap 3 f w ∧ N ≤ cap ∧ ∀ k, k < N → f k = .int .i64 (c k : Nat)
theorem Row.cell {g N : Nat} {c : Nat → Nat} {w : World} (h : Row g N c w) (k : Nat) (hk : k < N) : w.cell? ⟨g, k, none⟩ = some (.int .i64 (c k : Nat)) := by
  obtain ⟨cap, f, hf, hN, he⟩ := h
  rw [hf.cell k (by omega), he k hk]
theorem Row.free {g N : Nat} {c : Nat → Nat} {w : World} (h : Row g N c w) (k : Nat) : w.frozen? ⟨g, k, none⟩ = false := by
  obtain ⟨cap, f, hf, hN, he⟩ := h
  exact hf.free k
theorem Row.lt {g N : Nat} {c : Nat → Nat} {w : World} (h : Row g N c w) : g < w.heap.size := by
  obtain ⟨cap, f, hf, hN, he⟩ := h
  exact hf.lt
theorem Row.drewN {g N : Nat} {c : Nat → Nat} {w : World} (h : Row g N c w) (k : Nat) : Row g N c (w.drewN k) := by
  obtain ⟨cap, f, hf, hN, he⟩ := h
  exact ⟨cap, f, hf.drewN k, hN, he⟩
theorem Row.store {g N : Nat} {c d : Nat → Nat} {w : World} (h : Row g N c w) (k v : Nat) (hd : ∀ j, j < N → d j = if j = k then v else c j) : Row g N d (w.setCell ⟨g, k, none⟩ (.int .i64 (v : Nat))) := by
  obtain ⟨cap, f, hf, hN, he⟩ := h
  refine ⟨cap, _, hf.store k _, hN, fun j hj => ?_⟩
  unfold upd
  rw [hd j hj]
  split
  · rfl
  · exact he j hj
theorem Row.congr {g N : Nat} {c d : Nat → Nat} {w : World} (h : Row g N c w) (e : ∀ k, k < N → c k = d k) : Row g N d w := by
  obtain ⟨cap, f, hf, hN, he⟩ := h
  exact ⟨cap, f, hf, hN, fun k hk => by rw [he k hk, e k hk]⟩
theorem Row.below {g N B : Nat} {c : Nat → Nat} {w w' : World} (h : Row g N c w) (hb : Below B w w') (hB : g < B) : Row g N c w' := by
  obtain ⟨cap, f, hf, hN, he⟩ := h
  exact ⟨cap, f, hf.below hb hB, hN, he⟩
theorem Row.other {g N : Nat} {c : Nat → Nat} {w w' : World} (h : Row g N c w) (e : w'.heap[g]? = w.heap[g]?) : Row g N c w' := by
  obtain ⟨cap, f, hf, hN, he⟩ := h
  exact ⟨cap, f, hf.other e, hN, he⟩
theorem Row.sl {g N : Nat} {c : Nat → Nat} {w : World} (h : Row g N c w) {n : Nat} (hn : n ≤ N) : Sl (some ⟨g, 0, none⟩) n c w := fun j hj => ⟨g, 0, rfl, by rw [Nat.zero_add]; exact h.cell j (by omega)⟩
/-- The slice v, made behind block number base, holds the n coefficients c. -/
def OwnP (base : Nat) (v : Value) (n : Nat) (c : Nat → Nat) (w : World) : Prop :=
  ∃ ao cap, v = .slice ao n cap ∧ n ≤ cap ∧ cap ≤ 9223372036854775807 ∧ GeB ao base ∧ LtB ao w.heap.size ∧ (ao = none → cap = 0) ∧ (0 < n → ∃ g, ao = some ⟨g, 0, none⟩ ∧ Row g n c w)
theorem OwnP.below {base B n : Nat} {v : Value} {c : Nat → Nat} {w w' : World} (h : OwnP base v n c w) (hb : Below B w w') (hB : w.heap.size ≤ B) : OwnP base v n c w' := by
  obtain ⟨ao, cap, hv, h1, h2, hg, hl, hz, hr⟩ := h
  refine ⟨ao, cap, hv, h1, h2, hg, hl.mono hb.size, hz, fun h0 => ?_⟩
  obtain ⟨g, e, hrow⟩ := hr h0
  exact ⟨g, e, hrow.below hb (Nat.lt_of_lt_of_le (hl _ e) hB)⟩
theorem OwnP.mono {base base' n : Nat} {v : Value} {c : Nat → Nat} {w : World} (h : OwnP base v n c w) (hb : base' ≤ base) : OwnP base' v n c w := by
  obtain ⟨ao, cap, hv, h1, h2, hg, hl, hz, hr⟩ := h
  exact ⟨ao, cap, hv, h1, h2, hg.mono hb, hl, hz, hr⟩
theorem OwnP.congr {base n : Nat} {v : Value} {c d : Nat → Nat} {w : World} (h : OwnP base v n c w) (e : ∀ k, k < n → c k = d k) : OwnP base v n d w := by
  obtain ⟨ao, cap, hv, h1, h2, hg, hl, hz, hr⟩ := h
  refine ⟨ao, cap, hv, h1, h2, hg, hl, hz, fun h0 => ?_⟩
  obtain ⟨g, e', hrow⟩ := hr h0
  exact ⟨g, e', hrow.congr e⟩
theorem OwnP.drewN {base n : Nat} {v : Value} {c : Nat → Nat} {w : World} (h : OwnP base v n c w) (k : Nat) : OwnP base v n c (w.drewN k) := by
  obtain ⟨ao, cap, hv, h1, h2, hg, hl, hz, hr⟩ := h
  refine ⟨ao, cap, hv, h1, h2, hg, hl, hz, fun h0 => ?_⟩
  obtain ⟨g, e', hrow⟩ := hr h0
  exact ⟨g, e', hrow.drewN k⟩
/-- Opened: where it lies. -/
theorem OwnP.open {base n : Nat} {v : Value} {c : Nat → Nat} {w : World} (h : OwnP base v n c w) : ∃ ao cap, v = .slice ao n cap ∧ n ≤ cap ∧ cap ≤ 9223372036854775807 ∧ GeB ao base ∧ LtB ao w.heap.size ∧ (ao = none → cap = 0) ∧ Sl ao n c w := by
  obtain ⟨ao, cap, hv, h1, h2, hg, hl, hz, hr⟩ := h
  refine ⟨ao, cap, hv, h1, h2, hg, hl, hz, fun j hj => ?_⟩
  obtain ⟨g, e, hrow⟩ := hr (by omega)
  exact ⟨g, 0, e, by rw [Nat.zero_add]; exact hrow.cell j hj⟩

end Go.Proofs.Ytlljaliemldjkaa
