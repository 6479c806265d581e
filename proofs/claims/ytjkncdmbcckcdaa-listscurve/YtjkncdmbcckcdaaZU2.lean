/- The program's polynomials: values, products. -/
import Derived.Test.YtjkncdmbcckcdaaZN2
namespace Go.Proofs.Ytjkncdmbcckcdaa
open Go.RowKit

/-- A row's first cells are the coefficients c. -/
def Row (g N : Nat) (c : Nat → Nat) (w : World) : Prop := ∃ cap f, RowF g cap 3 f w ∧ N ≤ cap ∧ ∀ k, k < N → f k = .int .i64 (c k : Nat)
theorem Row.cell {g N : Nat} {c : Nat → Nat} {w : World} (h : Row g N c w) (k : Nat) (hk : k < N) : w.cell? ⟨g, k, none⟩ = some (.int .i64 (c k : Nat)) := by
  obtain ⟨cap, f, hf, hN, he⟩ := h
  rw [hf.cell k (by omega), he k hk]
theorem Row.free {g N : Nat} {c : Nat → Nat} {w : World} (h : Row g N c w) (k : Nat) : w.frozen? ⟨g, k, none⟩ = false := by
  obtain ⟨cap, f, hf, hN, he⟩ := h
  exact hf.free k
theorem Row.lt {g N : Nat} {c : Nat → Nat} {w : World} (h : Row g N c w) : g < w.heap.size := by
  obtain ⟨cap, f, hf, hN, he⟩ := h
  exact hf.lt
theorem Row.drewN {g N : Nat} {c : Nat → Nat} {w : World} (h : Row g N c w) (k : Nat) : Row g N c (w.drewN k) := by
  obtain ⟨cap, f, hf, hN, he⟩ := h
  exact ⟨cap, f, hf.drewN k, hN, he⟩
theorem Row.store {g N : Nat} {c d : Nat → Nat} {w : World} (h : Row g N c w) (k v : Nat) (hd : ∀ j, j < N → d j = if j = k then v else c j) : Row g N d (w.setCell ⟨g, k, none⟩ (.int .i64 (v : Nat))) := by
  obtain ⟨cap, f, hf, hN, he⟩ := h
  refine ⟨cap, _, hf.store k _, hN, fun j hj => ?_⟩
  unfold upd
  rw [hd j hj]
  split
  · rfl
  · exact he j hj
theorem Row.congr {g N : Nat} {c d : Nat → Nat} {w : World} (h : Row g N c w) (e : ∀ k, k < N → c k = d k) : Row g N d w := by
  obtain ⟨cap, f, hf, hN, he⟩ := h
  exact ⟨cap, f, hf, hN, fun k hk => by rw [he k hk, e k hk]⟩
theorem Row.less {g N M : Nat} {c : Nat → Nat} {w : World} (h : Row g N c w) (hM : M ≤ N) : Row g M c w := by
  obtain ⟨cap, f, hf, hN, he⟩ := h
  exact ⟨cap, f, hf, by omega, fun k hk => he k (by omega)⟩
theorem Row.below {g N B : Nat} {c : Nat → Nat} {w w' : World} (h : Row g N c w) (hb : Below B w w') (hB : g < B) : Row g N c w' := by
  obtain ⟨cap, f, hf, hN, he⟩ := h
  exact ⟨cap, f, hf.below hb hB, hN, he⟩
theorem Row.other {g N : Nat} {c : Nat → Nat} {w w' : World} (h : Row g N c w) (e : w'.heap[g]? = w.heap[g]?) : Row g N c w' := by
  obtain ⟨cap, f, hf, hN, he⟩ := h
  exact ⟨cap, f, hf.other e, hN, he⟩
theorem Row.sl {g N : Nat} {c : Nat → Nat} {w : World} (h : Row g N c w) {n : Nat} (hn : n ≤ N) : Sl (some ⟨g, 0, none⟩) n c w := fun j hj => ⟨g, 0, rfl, by rw [Nat.zero_add]; exact h.cell j (by omega)⟩
theorem row_zeros {base n : Nat} {w : World} (h : OwnI base (.slice (some ⟨base, 0, none⟩) n n) (List.replicate n 0) w) : Row base n pnil w := by
  rcases h.2 with ⟨h1, _⟩ | ⟨g, cap, cur, hv, hg, hh, hle, hcm, hsz, htake⟩
  · cases h1
  · simp only [List.length_replicate, Value.slice.injEq, Option.some.injEq, Addr.mk.injEq, and_true, true_and] at hv
    obtain ⟨rfl, rfl⟩ := hv
    by_cases h0 : n = 0
    · exact ⟨n, fun _ => .int .i64 0, ⟨cur, hh, by omega, fun o ho => by omega⟩, Nat.le_refl _, fun k hk => by omega⟩
    · obtain ⟨gl, cl, fl, hvl, hgl, hgl', hll, hcl, hrl, hfl⟩ := h.row n (by simp) (by omega)
      simp only [Value.slice.injEq, Option.some.injEq, Addr.mk.injEq, and_true, true_and] at hvl
      obtain ⟨rfl, rfl⟩ := hvl
      exact ⟨n, fl, hrl, Nat.le_refl _, fun k hk => by rw [hfl k hk, list_getD_replicate]; rfl⟩

/-- The slice v, made behind block number base, holds the n coefficients c. -/
def OwnP (base : Nat) (v : Value) (n : Nat) (c : Nat → Nat) (w : World) : Prop :=
  ∃ ao cap, v = .slice ao n cap ∧ n ≤ cap ∧ cap ≤ 9223372036854775807 ∧ GeB ao base ∧ LtB ao w.heap.size ∧ (ao = none → cap = 0) ∧ (0 < n → ∃ g, ao = some ⟨g, 0, none⟩ ∧ Row g n c w)
theorem OwnP.of_row {base g n N cap : Nat} {c : Nat → Nat} {w : World} (h : Row g N c w) (hn : n ≤ N) (hN : n ≤ cap) (hcap : cap ≤ 9223372036854775807) (hb : base ≤ g) : OwnP base (.slice (some ⟨g, 0, none⟩) n cap) n c w :=
  ⟨_, cap, rfl, hN, hcap, fun x hx => by cases hx; exact hb, fun x hx => by cases hx; exact h.lt, fun e => (by cases e), fun _ => ⟨g, rfl, h.less hn⟩⟩
theorem OwnP.below {base B n : Nat} {v : Value} {c : Nat → Nat} {w w' : World} (h : OwnP base v n c w) (hb : Below B w w') (hB : w.heap.size ≤ B) : OwnP base v n c w' := by
  obtain ⟨ao, cap, hv, h1, h2, hg, hl, hz, hr⟩ := h
  refine ⟨ao, cap, hv, h1, h2, hg, hl.mono hb.size, hz, fun h0 => ?_⟩
  obtain ⟨g, e, hrow⟩ := hr h0
  exact ⟨g, e, hrow.below hb (Nat.lt_of_lt_of_le (hl _ e) hB)⟩
theorem OwnP.mono {base base' n : Nat} {v : Value} {c : Nat → Nat} {w : World} (h : OwnP base v n c w) (hb : base' ≤ base) : OwnP base' v n c w := by
  obtain ⟨ao, cap, hv, h1, h2, hg, hl, hz, hr⟩ := h
  exact ⟨ao, cap, hv, h1, h2, hg.mono hb, hl, hz, hr⟩
theorem OwnP.congr {base n : Nat} {v : Value} {c d : Nat → Nat} {w : World} (h : OwnP base v n c w) (e : ∀ k, k < n → c k = d k) : OwnP base v n d w := by
  obtain ⟨ao, cap, hv, h1, h2, hg, hl, hz, hr⟩ := h
  refine ⟨ao, cap, hv, h1, h2, hg, hl, hz, fun h0 => ?_⟩
  obtain ⟨g, e', hrow⟩ := hr h0
  exact ⟨g, e', hrow.congr e⟩
theorem OwnP.drewN {base n : Nat} {v : Value} {c : Nat → Nat} {w : World} (h : OwnP base v n c w) (k : Nat) : OwnP base v n c (w.drewN k) := by
  obtain ⟨ao, cap, hv, h1, h2, hg, hl, hz, hr⟩ := h
  refine ⟨ao, cap, hv, h1, h2, hg, hl, hz, fun h0 => ?_⟩
  obtain ⟨g, e', hrow⟩ := hr h0
  exact ⟨g, e', hrow.drewN k⟩
/-- Opened: where it lies. -/
theorem OwnP.open {base n : Nat} {v : Value} {c : Nat → Nat} {w : World} (h : OwnP base v n c w) : ∃ ao cap, v = .slice ao n cap ∧ n ≤ cap ∧ cap ≤ 9223372036854775807 ∧ GeB ao base ∧ LtB ao w.heap.size ∧ (ao = none → cap = 0) ∧ Sl ao n c w := by
  obtain ⟨ao, cap, hv, h1, h2, hg, hl, hz, hr⟩ := h
  refine ⟨ao, cap, hv, h1, h2, hg, hl, hz, fun j hj => ?_⟩
  obtain ⟨g, e, hrow⟩ := hr (by omega)
  exact ⟨g, 0, e, by rw [Nat.zero_add]; exact hrow.cell j hj⟩

/-- The product while it is made: r rows, and j places of the next one. -/
def pin (D : FD) (a b : Nat → Nat) (r j : Nat) : Nat → Nat := fun k => if r ≤ k ∧ k < r + j then pmul D (r + 1) a b k else pmul D r a b k
theorem pin_zero (D : FD) (a b : Nat → Nat) (r : Nat) : pin D a b r 0 = pmul D r a b := by funext k; unfold pin; rw [if_neg (by omega)]
theorem pin_all {D : FD} (F : Fld D) {a b : Nat → Nat} {m : Nat} (hb : Bd m b) (r : Nat) : pin D a b r m = pmul D (r + 1) a b := by
  funext k
  unfold pin
  by_cases h : r ≤ k ∧ k < r + m
  · rw [if_pos h]
  · rw [if_neg h]
    show _ = D.ad (pmul D r a b k) (psh r (pscale D (a r) b) k)
    unfold psh pscale
    by_cases h2 : r ≤ k
    · rw [if_pos h2, hb (k - r) (by omega), mul0 F, ad_zero F (el_mul F a b r k)]
    · rw [if_neg h2, ad_zero F (el_mul F a b r k)]
theorem pin_at (D : FD) (a b : Nat → Nat) (r j : Nat) : pin D a b r j (r + j) = pmul D r a b (r + j) := by unfold pin; rw [if_neg (by omega)]
theorem pin_new (D : FD) (a b : Nat → Nat) (r j : Nat) : D.ad (pmul D r a b (r + j)) (D.mul (a r) (b j)) = pmul D (r + 1) a b (r + j) := by
  show _ = D.ad (pmul D r a b (r + j)) (psh r (pscale D (a r) b) (r + j))
  unfold psh pscale
  rw [if_pos (by omega), Nat.add_sub_cancel_left]
theorem pin_step (D : FD) (a b : Nat → Nat) (r j k : Nat) : pin D a b r (j + 1) k = if k = r + j then pmul D (r + 1) a b (r + j) else pin D a b r j k := by
  unfold pin
  by_cases h : k = r + j
  · rw [if_pos h, if_pos (by omega), h]
  · rw [if_neg h]
    by_cases h2 : r ≤ k ∧ k < r + j
    · rw [if_pos h2, if_pos (by omega)]
    · rw [if_neg h2, if_neg (by omega)]

end Go.Proofs.Ytjkncdmbcckcdaa
