/- Texts of ours, one behind the other: S36 KH9 S41 S42. -/
import Derived.Test.YthkjaiihlphgfabZS35
import Derived.Test.YthkjaiihlphgfabZKH8
import Derived.Test.YthkjaiihlphgfabZR5
import Derived.Test.YthkjaiihlphgfabZT5
import Derived.Test.YthkjaiihlphgfabZS32
/- Rings, edge by edge. No Go text here. -/
namespace Go.Proofs.Ythkjaiihlphgfab

end Go.Proofs.Ythkjaiihlphgfab

/- Rings: is the way around kept (the reference's goes)? -/
namespace Go.Proofs.Ythkjaiihlphgfab
open Go.RowKit Go.Sort

/-- The bits of a number, laid in a row of truths. -/
def RowB (g n m : Nat) (w : World) : Prop := RowF g n 4 (fun j => .bool (m.testBit j)) w
theorem RowB.on {g n m k : Nat} {w : World} (h : RowB g n m w) : RowB g n (m ||| 2 ^ k) (w.setCell ⟨g, k, none⟩ (.bool true)) :=
  (RowF.store h k (.bool true)).congr fun o _ => by
    show upd _ k (Value.bool true) o = Value.bool ((m ||| 2 ^ k).testBit o)
    unfold upd
    rw [Nat.testBit_or, Nat.testBit_two_pow]
    by_cases e : o = k
    · rw [if_pos e, decide_eq_true e.symm, Bool.or_true]
    · rw [if_neg e, decide_eq_false (fun h => e h.symm), Bool.or_false]
end Go.Proofs.Ythkjaiihlphgfab

/- Gray's lists: neighbours differ at one place, by one. No Go text here. -/
namespace Go.Proofs.Ythkjaiihlphgfab

/-- Two lists that differ at one place, by one. -/
def Ngh (c : Nat) (x y : Nat → Nat) : Prop := ∃ t, t < c ∧ (∀ j, j < c → j ≠ t → x j = y j) ∧ (y t = x t + 1 ∨ x t = y t + 1)
theorem Ngh.symm {c : Nat} {x y : Nat → Nat} (h : Ngh c x y) : Ngh c y x := by
  obtain ⟨t, h1, h2, h3⟩ := h
  exact ⟨t, h1, fun j hj hn => (h2 j hj hn).symm, h3.symm⟩
theorem Ngh.cons {c : Nat} {x y : Nat → Nat} (h0 : x 0 = y 0) (h : Ngh c (fun j => x (j + 1)) (fun j => y (j + 1))) : Ngh (c + 1) x y := by
  obtain ⟨t, h1, h2, h3⟩ := h
  refine ⟨t + 1, by omega, fun j hj hn => ?_, h3⟩
  cases j with
  | zero => exact h0
  | succ j => exact h2 j (by omega) (fun e => hn (by rw [e]))
theorem gry_next : ∀ (c : Nat) (b : Nat → Nat) (k : Nat), (∀ j, j < c → 1 ≤ b j) → k + 1 < prd c b → Ngh c (gry c b k) (gry c b (k + 1))
  | 0, _, k, _, hk => by
    have hk : k + 1 < 1 := hk
    omega
  | c + 1, b, k, hb, hk => by
    obtain ⟨P, hP⟩ : ∃ P, P = prd c (shf b) := ⟨_, rfl⟩
    have hPp : 0 < P := by rw [hP]; exact prd_pos c (shf b) fun j hj => hb (j + 1) (by omega)
    have h0 : ∀ k, gry (c + 1) b k 0 = k / P := fun k => by rw [hP]; rfl
    have h1 : ∀ k t, gry (c + 1) b k (t + 1) = gry c (shf b) (bhd (k / P) (k % P) P) t := fun k t => by rw [hP]; rfl
    have hrP : k % P < P := Nat.mod_lt _ hPp
    have hdm := Nat.div_add_mod k P
    by_cases hr : k % P + 1 < P
    · have e1 : (k + 1) / P = k / P := by
        have : k + 1 = P * (k / P) + (k % P + 1) := by omega
        rw [this, Nat.mul_add_div hPp, Nat.div_eq_of_lt hr, Nat.add_zero]
      have e2 : (k + 1) % P = k % P + 1 := by
        have : k + 1 = P * (k / P) + (k % P + 1) := by omega
        rw [this, Nat.mul_add_mod, Nat.mod_eq_of_lt hr]
      refine Ngh.cons (by rw [h0, h0, e1]) ?_
      have f1 : (fun j => gry (c + 1) b k (j + 1)) = gry c (shf b) (bhd (k / P) (k % P) P) := by funext j; exact h1 k j
      have f2 : (fun j => gry (c + 1) b (k + 1) (j + 1)) = gry c (shf b) (bhd (k / P) (k % P + 1) P) := by funext j; rw [h1, e1, e2]
      rw [f1, f2]
      by_cases hv : k / P % 2 = 0
      · have g1 : bhd (k / P) (k % P) P = k % P := by unfold bhd; rw [if_pos hv]
        have g2 : bhd (k / P) (k % P + 1) P = k % P + 1 := by unfold bhd; rw [if_pos hv]
        rw [g1, g2]
        exact gry_next c (shf b) (k % P) (fun j hj => hb (j + 1) (by omega)) (by rw [← hP]; exact hr)
      · obtain ⟨m, hm⟩ : ∃ m, m = P - 1 - (k % P + 1) := ⟨_, rfl⟩
        have g1 : bhd (k / P) (k % P) P = m + 1 := by unfold bhd; rw [if_neg hv]; omega
        have g2 : bhd (k / P) (k % P + 1) P = m := by unfold bhd; rw [if_neg hv, hm]
        rw [g1, g2]
        exact (gry_next c (shf b) m (fun j hj => hb (j + 1) (by omega)) (by rw [← hP]; omega)).symm
    · have hr1 : k % P + 1 = P := by omega
      have hk1 : k + 1 = P * (k / P + 1) := by rw [Nat.mul_succ]; omega
      have e1 : (k + 1) / P = k / P + 1 := by rw [hk1, Nat.mul_div_cancel_left _ hPp]
      have e2 : (k + 1) % P = 0 := by rw [hk1, Nat.mul_mod_right]
      refine ⟨0, by omega, fun j hj hn => ?_, Or.inl (by rw [h0, h0, e1])⟩
      cases j with
      | zero => exact absurd rfl hn
      | succ j =>
        rw [h1, h1, e1, e2]
        have : bhd (k / P) (k % P) P = bhd (k / P + 1) 0 P := by
          unfold bhd
          by_cases hv : k / P % 2 = 0
          · rw [if_pos hv, if_neg (by omega)]; omega
          · rw [if_neg hv, if_pos (by omega)]; omega
        rw [this]
/-- The sum of the squares of what they differ by. -/
def sqd (x y : Nat → Nat) : Nat → Int
  | 0 => 0
  | i + 1 => sqd x y i + ((x i : Int) - (y i : Int)) * ((x i : Int) - (y i : Int))
theorem sqd_same {x y : Nat → Nat} : ∀ i, (∀ j, j < i → x j = y j) → sqd x y i = 0
  | 0, _ => rfl
  | i + 1, h => by
    show sqd x y i + ((x i : Int) - (y i : Int)) * ((x i : Int) - (y i : Int)) = 0
    rw [sqd_same i fun j hj => h j (by omega), h i (by omega), Int.sub_self]; rfl
theorem sqd_one {x y : Nat → Nat} {t : Nat} (h3 : y t = x t + 1 ∨ x t = y t + 1) : ∀ i, t < i → (∀ j, j < i → j ≠ t → x j = y j) → sqd x y i = 1
  | 0, h, _ => absurd h (by omega)
  | i + 1, h, h2 => by
    show sqd x y i + ((x i : Int) - (y i : Int)) * ((x i : Int) - (y i : Int)) = 1
    by_cases e : i = t
    · subst e
      rw [sqd_same i fun j hj => h2 j (by omega) (by omega)]
      rcases h3 with h3 | h3
      · rw [show (x i : Int) - (y i : Int) = -1 by omega]; rfl
      · rw [show (x i : Int) - (y i : Int) = 1 by omega]; rfl
    · rw [sqd_one h3 i (by omega) fun j hj hn => h2 j (by omega) hn, h2 i (by omega) e, Int.sub_self]; rfl
theorem Ngh.sqd {c : Nat} {x y : Nat → Nat} (h : Ngh c x y) : sqd x y c = 1 := by
  obtain ⟨t, h1, h2, h3⟩ := h
  exact sqd_one h3 c h1 h2
end Go.Proofs.Ythkjaiihlphgfab

/- Rings: each word stands once, all around (the kernel's check). No Go text here. -/
namespace Go.Proofs.Ythkjaiihlphgfab

/-- The word of j values that stands at i, as a number. -/
def wrdv (q : Nat) (L : List Nat) (i : Nat) : Nat → Nat
  | 0 => 0
  | j + 1 => wrdv q L i j * q + L.getD ((i + j) % L.length) 0
/-- Is none of the next r words met twice, or too great? -/
def onc (q n : Nat) (L : List Nat) : Nat → Nat → Nat → Bool
  | 0, _, _ => true
  | r + 1, i, m => Nat.blt (wrdv q L i n) L.length && (!(m.testBit (wrdv q L i n)) && onc q n L r (i + 1) (m ||| 2 ^ wrdv q L i n))
set_option maxRecDepth 100000 in
theorem onc_all : ([(2, 1), (2, 2), (2, 3), (2, 4), (3, 1), (3, 2), (3, 3), (3, 4), (4, 1), (4, 2), (4, 3), (4, 4), (5, 1), (5, 2), (5, 3), (5, 4)].all fun p => onc p.1 p.2 (rgl p.1 p.2) (rgl p.1 p.2).length 0 0) = true := by decide +kernel
end Go.Proofs.Ythkjaiihlphgfab
