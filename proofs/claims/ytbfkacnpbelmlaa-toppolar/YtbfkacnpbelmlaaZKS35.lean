/- Polar: the mathematics of TopPolar: what is told of a message is so; what is told where more is lost is told where less is; the transform undoes itself; all chances together are half. -/
import Derived.Test.YtbfkacnpbelmlaaZKS25
namespace Go.Proofs.Ytbfkacnpbelmlaa
open Go.Sort

/-- Lost, or the same. -/
def Le1 (a b : Int) : Prop := a = -1 ∨ a = b
theorem Le1.refl (a : Int) : Le1 a a := Or.inr rfl
theorem Le1.trans {a b c : Int} (h : Le1 a b) (k : Le1 b c) : Le1 a c := by
  rcases h with h | h
  · exact Or.inl h
  · rw [h]; exact k
theorem psu_le {a b a' b' : Int} (h : Le1 a a') (k : Le1 b b') : Le1 (psu a b) (psu a' b') := by
  rcases h with h | h
  · exact Or.inl (if_pos (Or.inl h))
  · rcases k with k | k
    · exact Or.inl (if_pos (Or.inr k))
    · rw [h, k]; exact Le1.refl _
theorem mtf_le {x y x' y' : Nat → Int} {c : Int} {i : Nat} (hx : Le1 (x i) (x' i)) (hy : Le1 (y i) (y' i)) (kx : Le1 (x' i) c) (ky : Le1 (y' i) c) : Le1 (mtf x y i) (mtf x' y' i) := by
  unfold mtf Le1 at *
  by_cases h : x i = -1
  · rw [if_pos h]
    rcases hy with hy | hy
    · exact Or.inl hy
    · by_cases h' : x' i = -1
      · rw [if_pos h']; exact Or.inr hy
      · rw [if_neg h']
        rcases kx with kx | kx
        · exact absurd kx h'
        · rcases ky with ky | ky
          · exact Or.inl (hy.trans ky)
          · exact Or.inr (by rw [hy, ky, kx])
  · rw [if_neg h]
    rcases hx with hx | hx
    · exact absurd hx h
    · rw [if_neg (by rw [← hx]; exact h)]; exact Or.inr hx
theorem mtf_to {x y : Nat → Int} {c : Int} {i : Nat} (kx : Le1 (x i) c) (ky : Le1 (y i) c) : Le1 (mtf x y i) c := by
  unfold mtf
  split
  · exact ky
  · exact kx
theorem mtb_to {x y : Nat → Int} {c : Nat → Int} {n : Nat} (kx : ∀ i, i < n → Le1 (x i) (c i)) (ky : ∀ i, i < n → Le1 (y i) (c i)) : mtb x y n = true := by
  refine mtb_yes n (fun i hi => ?_)
  rcases kx i hi with h | h
  · exact Or.inl h
  · rcases ky i hi with k | k
    · exact Or.inr (Or.inl k)
    · exact Or.inr (Or.inr (k.trans h.symm))
theorem bt_sum {a b : Nat} (ha : a < 2) (hb : b < 2) : psu (((a + b) % 2 : Nat) : Int) ((b : Nat) : Int) = ((a : Nat) : Int) ∧ psu (((a + b) % 2 : Nat) : Int) ((a : Nat) : Int) = ((b : Nat) : Int) := by
  have h1 : a = 0 ∨ a = 1 := by omega
  have h2 : b = 0 ∨ b = 1 := by omega
  rcases h1 with rfl | rfl <;> rcases h2 with rfl | rfl <;> decide
theorem ptr_lo {h : Nat} {u : Nat → Nat} {i : Nat} (hi : i < 2 ^ h) : ptr (h + 1) u i = (ptr h u i + ptr h (fun j => u (j + 2 ^ h)) i) % 2 := if_pos hi
theorem ptr_hi {h : Nat} {u : Nat → Nat} (i : Nat) : ptr (h + 1) u (2 ^ h + i) = ptr h (fun j => u (j + 2 ^ h)) i := by
  show (if 2 ^ h + i < 2 ^ h then _ else ptr h (fun j => u (j + 2 ^ h)) (2 ^ h + i - 2 ^ h)) = _
  rw [if_neg (by omega), Nat.add_sub_cancel_left]

/-- Halves of what comes of a word. -/
theorem half_le {h : Nat} {u : Nat → Nat} {y : Nat → Int} (hu : ∀ j, j < 2 ^ (h + 1) → u j < 2) (hy : ∀ i, i < 2 ^ (h + 1) → Le1 (y i) ((ptr (h + 1) u i : Nat) : Int)) :
    (∀ i, i < 2 ^ h → Le1 (psu (y i) (y (2 ^ h + i))) ((ptr h u i : Nat) : Int)) ∧
    (∀ s : Nat → Int, (∀ i, i < 2 ^ h → s i = ((ptr h u i : Nat) : Int)) → ∀ i, i < 2 ^ h → Le1 (psu (y i) (s i)) ((ptr h (fun j => u (j + 2 ^ h)) i : Nat) : Int)) ∧
    ∀ i, i < 2 ^ h → Le1 (y (2 ^ h + i)) ((ptr h (fun j => u (j + 2 ^ h)) i : Nat) : Int) := by
  rw [Nat.pow_succ] at hu hy
  have b0 := ptr_lt h (w := u) (fun j hj => hu j (by omega))
  have b1 := ptr_lt h (w := fun j => u (j + 2 ^ h)) (fun j hj => hu _ (by omega))
  have h1 : ∀ i, i < 2 ^ h → Le1 (y i) (((ptr h u i + ptr h (fun j => u (j + 2 ^ h)) i) % 2 : Nat) : Int) := fun i hi => by
    have := hy i (by omega)
    rwa [ptr_lo hi] at this
  have h2 : ∀ i, i < 2 ^ h → Le1 (y (2 ^ h + i)) ((ptr h (fun j => u (j + 2 ^ h)) i : Nat) : Int) := fun i hi => by
    have := hy (2 ^ h + i) (by omega)
    rwa [ptr_hi] at this
  refine ⟨fun i hi => ?_, fun s hs i hi => ?_, h2⟩
  · have := psu_le (h1 i hi) (h2 i hi)
    rwa [(bt_sum (b0 i hi) (b1 i hi)).1] at this
  · rw [hs i hi]
    have := psu_le (h1 i hi) (Le1.refl ((ptr h u i : Nat) : Int))
    rwa [(bt_sum (b0 i hi) (b1 i hi)).2] at this

theorem rdp_right {fr : Nat → Bool} : ∀ (h : Nat) {q : Nat} {u : Nat → Nat} {y : Nat → Int} {r : (Nat → Int) × (Nat → Int)}, (∀ j, j < 2 ^ h → u j < 2) → (∀ j, j < 2 ^ h → fr (q + j) = false → u j = 0) → (∀ i, i < 2 ^ h → Le1 (y i) ((ptr h u i : Nat) : Int)) → rdp fr h q y = some r → ∀ i, i < 2 ^ h → r.1 i = ((u i : Nat) : Int) ∧ r.2 i = ((ptr h u i : Nat) : Int)
  | 0, q, u, y, r, hu, hf, hy, e, i, hi => by
    have hi0 : i = 0 := by omega
    subst hi0
    unfold rdp at e
    have h0 : Le1 (y 0) ((u 0 : Nat) : Int) := hy 0 hi
    by_cases c : fr q = true
    · rw [if_pos c] at e
      by_cases c2 : y 0 = -1
      · rw [if_pos c2] at e; cases e
      · rw [if_neg c2] at e; cases e
        have := h0.resolve_left c2
        exact ⟨this, this⟩
    · rw [if_neg c] at e
      have hz : u 0 = 0 := hf 0 hi (by rw [Bool.not_eq_true] at c; exact c)
      by_cases c2 : y 0 = 1
      · rw [if_pos c2] at e; cases e
      · rw [if_neg c2] at e; cases e
        refine ⟨?_, ?_⟩
        · show (0 : Int) = _; rw [hz]; rfl
        · show (0 : Int) = ((u 0 : Nat) : Int); rw [hz]; rfl
  | h + 1, q, u, y, r, hu, hf, hy, e, i, hi => by
    obtain ⟨p, t, e1, hm, e2, rfl⟩ := rdp_succ e
    obtain ⟨g1, g2, g3⟩ := half_le hu hy
    rw [Nat.pow_succ] at hu hf hi
    have r1 := rdp_right h (u := u) (fun j hj => hu j (by omega)) (fun j hj => hf j (by omega)) g1 e1
    have g2 := g2 p.2 (fun i hi => (r1 i hi).2)
    have r2 := rdp_right h (y := mtf (fun i => psu (y i) (p.2 i)) (fun i => y (2 ^ h + i))) (u := fun j => u (j + 2 ^ h)) (fun j hj => hu _ (by omega)) (fun j hj k => hf (j + 2 ^ h) (by omega) (by rw [show q + (j + 2 ^ h) = q + 2 ^ h + j by omega]; exact k)) (fun i hi => mtf_to (g2 i hi) (g3 i hi)) e2
    have b0 := ptr_lt h (w := u) (fun j hj => hu j (by omega))
    have b1 := ptr_lt h (w := fun j => u (j + 2 ^ h)) (fun j hj => hu _ (by omega))
    by_cases c : i < 2 ^ h
    · refine ⟨?_, ?_⟩
      · dsimp only; rw [jn_lo c]; exact (r1 i c).1
      · dsimp only; rw [jn_lo c, ptr_lo c, (r1 i c).2, (r2 i c).2, psu_bit (b0 i c) (b1 i c)]
    · obtain ⟨j, rfl⟩ : ∃ j, i = 2 ^ h + j := ⟨i - 2 ^ h, by omega⟩
      have hj : j < 2 ^ h := by omega
      refine ⟨?_, ?_⟩
      · dsimp only; rw [jn_hi, (r2 j hj).1, Nat.add_comm]
      · dsimp only; rw [jn_hi, ptr_hi, (r2 j hj).2]

theorem rdp_mono {fr : Nat → Bool} : ∀ (h : Nat) {q : Nat} {u : Nat → Nat} {x y : Nat → Int} {r : (Nat → Int) × (Nat → Int)}, (∀ j, j < 2 ^ h → u j < 2) → (∀ j, j < 2 ^ h → fr (q + j) = false → u j = 0) → (∀ i, i < 2 ^ h → Le1 (x i) (y i)) → (∀ i, i < 2 ^ h → Le1 (y i) ((ptr h u i : Nat) : Int)) → rdp fr h q x = some r → ∃ r', rdp fr h q y = some r'
  | 0, q, u, x, y, r, hu, hf, hxy, hy, e => by
    unfold rdp at e ⊢
    have h0 : Le1 (x 0) (y 0) := hxy 0 (by omega)
    have k0 : Le1 (y 0) ((u 0 : Nat) : Int) := hy 0 (by omega)
    by_cases c : fr q = true
    · rw [if_pos c] at e ⊢
      by_cases c2 : x 0 = -1
      · rw [if_pos c2] at e; cases e
      · rw [if_neg (by rw [← h0.resolve_left c2]; exact c2)]; exact ⟨_, rfl⟩
    · rw [if_neg c]
      have hz : u 0 = 0 := hf 0 (by omega) (by rw [Bool.not_eq_true] at c; exact c)
      rw [hz] at k0
      rw [if_neg (by rcases k0 with k0 | k0 <;> rw [k0] <;> decide)]
      exact ⟨_, rfl⟩
  | h + 1, q, u, x, y, r, hu, hf, hxy, hy, e => by
    obtain ⟨p, t, e1, hm, e2, rfl⟩ := rdp_succ e
    obtain ⟨g1, g2, g3⟩ := half_le hu hy
    have hx : ∀ i, i < 2 ^ (h + 1) → Le1 (x i) ((ptr (h + 1) u i : Nat) : Int) := fun i hi => (hxy i hi).trans (hy i hi)
    obtain ⟨k1, k2, k3⟩ := half_le hu hx
    rw [Nat.pow_succ] at hu hf hxy
    have f0 : ∀ j, j < 2 ^ h → fr (q + j) = false → u j = 0 := fun j hj => hf j (by omega)
    have f1 : ∀ j, j < 2 ^ h → fr (q + 2 ^ h + j) = false → u (j + 2 ^ h) = 0 := fun j hj k => hf (j + 2 ^ h) (by omega) (by rw [show q + (j + 2 ^ h) = q + 2 ^ h + j by omega]; exact k)
    have u0 : ∀ j, j < 2 ^ h → u j < 2 := fun j hj => hu j (by omega)
    have u1 : ∀ j, j < 2 ^ h → u (j + 2 ^ h) < 2 := fun j hj => hu _ (by omega)
    obtain ⟨p', e1'⟩ := rdp_mono h u0 f0 (fun i hi => psu_le (hxy i (by omega)) (hxy _ (by omega))) g1 e1
    have r1 := rdp_right h u0 f0 k1 e1
    have r1' := rdp_right h u0 f0 g1 e1'
    have g2 := g2 p'.2 (fun i hi => (r1' i hi).2)
    have k2 := k2 p.2 (fun i hi => (r1 i hi).2)
    have hmy := mtb_to (x := fun i => psu (y i) (p'.2 i)) (y := fun i => y (2 ^ h + i)) g2 g3
    obtain ⟨t', e2'⟩ := rdp_mono h (u := fun j => u (j + 2 ^ h)) u1 f1 (x := mtf (fun i => psu (x i) (p.2 i)) (fun i => x (2 ^ h + i))) (y := mtf (fun i => psu (y i) (p'.2 i)) (fun i => y (2 ^ h + i)))
      (fun i hi => mtf_le (c := ((ptr h (fun j => u (j + 2 ^ h)) i : Nat) : Int)) (by
        show Le1 (psu (x i) (p.2 i)) (psu (y i) (p'.2 i))
        rw [(r1 i hi).2, (r1' i hi).2]
        exact psu_le (hxy i (by omega)) (Le1.refl _)) (hxy _ (by omega)) (g2 i hi) (g3 i hi)) (fun i hi => mtf_to (g2 i hi) (g3 i hi)) e2
    exact ⟨_, rdp_some e1' hmy e2'⟩

theorem rdp_all {fr : Nat → Bool} : ∀ (h : Nat) {q : Nat} {u : Nat → Nat}, (∀ j, j < 2 ^ h → u j < 2) → (∀ j, j < 2 ^ h → fr (q + j) = false → u j = 0) → ∃ r, rdp fr h q (fun i => ((ptr h u i : Nat) : Int)) = some r
  | 0, q, u, hu, hf => by
    unfold rdp
    by_cases c : fr q = true
    · rw [if_pos c, if_neg (by show ¬ ((u 0 : Nat) : Int) = -1; omega)]; exact ⟨_, rfl⟩
    · rw [if_neg c, if_neg (by show ¬ ((u 0 : Nat) : Int) = 1; rw [hf 0 (by omega) (by rw [Bool.not_eq_true] at c; exact c)]; decide)]; exact ⟨_, rfl⟩
  | h + 1, q, u, hu, hf => by
    obtain ⟨g1, g2, g3⟩ := half_le hu (y := fun i => ((ptr (h + 1) u i : Nat) : Int)) (fun i _ => Le1.refl _)
    rw [Nat.pow_succ] at hu hf
    have f0 : ∀ j, j < 2 ^ h → fr (q + j) = false → u j = 0 := fun j hj => hf j (by omega)
    have f1 : ∀ j, j < 2 ^ h → fr (q + 2 ^ h + j) = false → u (j + 2 ^ h) = 0 := fun j hj k => hf (j + 2 ^ h) (by omega) (by rw [show q + (j + 2 ^ h) = q + 2 ^ h + j by omega]; exact k)
    have u0 : ∀ j, j < 2 ^ h → u j < 2 := fun j hj => hu j (by omega)
    have u1 : ∀ j, j < 2 ^ h → u (j + 2 ^ h) < 2 := fun j hj => hu _ (by omega)
    have b0 := ptr_lt h u0
    have b1 := ptr_lt h (w := fun j => u (j + 2 ^ h)) u1
    have v1 : ∀ i, i < 2 ^ h → psu ((ptr (h + 1) u i : Nat) : Int) ((ptr (h + 1) u (2 ^ h + i) : Nat) : Int) = ((ptr h u i : Nat) : Int) := fun i hi => by rw [ptr_lo hi, ptr_hi]; exact (bt_sum (b0 i hi) (b1 i hi)).1
    obtain ⟨r0, e0⟩ := rdp_all (fr := fr) h (q := q) u0 f0
    obtain ⟨p, e1⟩ := rdp_mono h u0 f0 (y := fun i => psu ((ptr (h + 1) u i : Nat) : Int) ((ptr (h + 1) u (2 ^ h + i) : Nat) : Int)) (fun i hi => by rw [v1 i hi]; exact Le1.refl _) (fun i hi => by rw [v1 i hi]; exact Le1.refl _) e0
    have r1 := rdp_right h u0 f0 (fun i hi => by rw [v1 i hi]; exact Le1.refl _) e1
    have v2 : ∀ i, i < 2 ^ h → psu ((ptr (h + 1) u i : Nat) : Int) (p.2 i) = ((ptr h (fun j => u (j + 2 ^ h)) i : Nat) : Int) := fun i hi => by rw [ptr_lo hi, (r1 i hi).2]; exact (bt_sum (b0 i hi) (b1 i hi)).2
    have g2 := g2 p.2 (fun i hi => (r1 i hi).2)
    obtain ⟨r9, e9⟩ := rdp_all (fr := fr) h (q := q + 2 ^ h) (u := fun j => u (j + 2 ^ h)) u1 f1
    obtain ⟨t, e2⟩ := rdp_mono h (u := fun j => u (j + 2 ^ h)) u1 f1 (y := mtf (fun i => psu ((ptr (h + 1) u i : Nat) : Int) (p.2 i)) (fun i => ((ptr (h + 1) u (2 ^ h + i) : Nat) : Int))) (fun i hi => by
      show Le1 _ (if psu ((ptr (h + 1) u i : Nat) : Int) (p.2 i) = -1 then ((ptr (h + 1) u (2 ^ h + i) : Nat) : Int) else psu ((ptr (h + 1) u i : Nat) : Int) (p.2 i))
      rw [v2 i hi, if_neg (by omega)]
      exact Le1.refl _) (fun i hi => mtf_to (g2 i hi) (g3 i hi)) e9
    exact ⟨_, rdp_some e1 (mtb_to (c := fun i => ((ptr h (fun j => u (j + 2 ^ h)) i : Nat) : Int)) g2 g3) e2⟩

theorem ptr_add : ∀ (h : Nat) (a b : Nat → Nat), ∀ i, i < 2 ^ h → (∀ j, j < 2 ^ h → a j < 2) → (∀ j, j < 2 ^ h → b j < 2) → ptr h (fun j => (a j + b j) % 2) i = (ptr h a i + ptr h b i) % 2
  | 0, a, b, i, hi, _, _ => rfl
  | h + 1, a, b, i, hi, ha, hb => by
    rw [Nat.pow_succ] at hi ha hb
    by_cases c : i < 2 ^ h
    · have e1 := ptr_add h a b i c (fun j hj => ha j (by omega)) (fun j hj => hb j (by omega))
      have e2 := ptr_add h (fun j => a (j + 2 ^ h)) (fun j => b (j + 2 ^ h)) i c (fun j hj => ha _ (by omega)) (fun j hj => hb _ (by omega))
      rw [ptr_lo c, ptr_lo c, ptr_lo c, e1, e2]
      omega
    · obtain ⟨j, rfl⟩ : ∃ j, i = 2 ^ h + j := ⟨i - 2 ^ h, by omega⟩
      rw [ptr_hi, ptr_hi, ptr_hi]
      exact ptr_add h (fun j => a (j + 2 ^ h)) (fun j => b (j + 2 ^ h)) j (by omega) (fun j hj => ha _ (by omega)) (fun j hj => hb _ (by omega))
/-- The transform undoes itself. -/
theorem ptr_ptr : ∀ (h : Nat) {u : Nat → Nat}, (∀ j, j < 2 ^ h → u j < 2) → ∀ i, i < 2 ^ h → ptr h (ptr h u) i = u i
  | 0, u, _, i, hi => rfl
  | h + 1, u, hu, i, hi => by
    rw [Nat.pow_succ] at hu hi
    have u0 : ∀ j, j < 2 ^ h → u j < 2 := fun j hj => hu j (by omega)
    have u1 : ∀ j, j < 2 ^ h → u (j + 2 ^ h) < 2 := fun j hj => hu _ (by omega)
    have b0 := ptr_lt h u0
    have b1 := ptr_lt h (w := fun j => u (j + 2 ^ h)) u1
    have e1 : ∀ i, i < 2 ^ h → ptr h (ptr (h + 1) u) i = (u i + u (i + 2 ^ h)) % 2 := fun i hi => by
      rw [ptr_congr h (w' := fun j => (ptr h u j + ptr h (fun j => u (j + 2 ^ h)) j) % 2) (fun j hj => ptr_lo hj) i hi, ptr_add h _ _ i hi b0 b1, ptr_ptr h u0 i hi, ptr_ptr h (u := fun j => u (j + 2 ^ h)) u1 i hi]
    have e2 : ∀ i, i < 2 ^ h → ptr h (fun j => ptr (h + 1) u (j + 2 ^ h)) i = u (i + 2 ^ h) := fun i hi => by
      rw [ptr_congr h (w' := ptr h (fun j => u (j + 2 ^ h))) (fun j _ => by rw [Nat.add_comm j]; exact ptr_hi j) i hi]
      exact ptr_ptr h (u := fun j => u (j + 2 ^ h)) u1 i hi
    by_cases c : i < 2 ^ h
    · rw [ptr_lo c, e1 i c, e2 i c]
      have := u0 i c
      have := u1 i c
      omega
    · obtain ⟨j, rfl⟩ : ∃ j, i = 2 ^ h + j := ⟨i - 2 ^ h, by omega⟩
      rw [ptr_hi, e2 j (by omega), Nat.add_comm]
end Go.Proofs.Ytbfkacnpbelmlaa
