/- Texts of ours, one behind the other: V7 V8 N5 N6. -/
import Derived.Test.YtcgmllamiaflcaaZV6
import Derived.Test.YtcgmllamiaflcaaZN2
/- The reference's polynomials: with 1 at the end (Monic); common divisors (PGcd). -/
namespace Go.Proofs.Ytcgmllamiaflcaa
open Go.RowKit Go.Sort

end Go.Proofs.Ytcgmllamiaflcaa

/- The reference's polynomials: common divisors (PGcd). -/
namespace Go.Proofs.Ytcgmllamiaflcaa
open Go.RowKit Go.Sort

end Go.Proofs.Ytcgmllamiaflcaa

/- Plain mathematics of polynomials, gone on: through given places, step by step. No Go text here. -/
namespace Go.Proofs.Ytcgmllamiaflcaa

/-- The value of a polynomial of at most 1,000 coefficients. -/
def FD.vl (D : FD) (c : Nat → Nat) (x : Nat) : Nat := D.ev c x 1000
theorem vl_lt {D : FD} (F : Fld D) (c : Nat → Nat) (x : Nat) : D.vl c x < D.q := ev_lt F c x 1000
theorem vl_val {D : FD} (F : Fld D) {c : Nat → Nat} {n x : Nat} (hc : El D c) (hn : Bd n c) (hx : x < D.q) (h : n ≤ 1000) : D.val c n x n = D.vl c x := by
  rw [val_is F x n hc hx]; exact (ev_from F x hn h).symm
theorem vl_add {D : FD} (F : Fld D) {a b : Nat → Nat} (x : Nat) (ha : El D a) (hb : El D b) : D.vl (padd D a b) x = D.ad (D.vl a x) (D.vl b x) := ev_add F x ha hb 1000
theorem vl_scale {D : FD} (F : Fld D) (s x : Nat) (b : Nat → Nat) : D.vl (pscale D s b) x = D.mul s (D.vl b x) := ev_scale F s x b 1000
theorem vl_mul {D : FD} (F : Fld D) {a b : Nat → Nat} {n m : Nat} (x : Nat) (hn : Bd n a) (hm : Bd m b) (hb : El D b) (h : n + m ≤ 1000) : D.vl (pmul D n a b) x = D.mul (D.vl a x) (D.vl b x) := by
  unfold FD.vl
  rw [ev_mul F x hm hb n 1000 h, ev_from F x hn (by omega : n ≤ 1000), ev_from F x hm (by omega : m ≤ 1000)]
/-- x0 + x. -/
def lin (x0 : Nat) : Nat → Nat := fun k => if k = 0 then x0 else if k = 1 then 1 else 0
theorem lin_bd (x0 : Nat) : Bd 2 (lin x0) := fun k hk => by unfold lin; rw [if_neg (by omega), if_neg (by omega)]
theorem lin_el {D : FD} (F : Fld D) {x0 : Nat} (h : x0 < D.q) : El D (lin x0) := fun k => by
  unfold lin
  split
  · exact h
  · split
    · exact one_lt' F
    · exact zero_lt' F
theorem vl_lin {D : FD} (F : Fld D) {x0 y : Nat} (h : x0 < D.q) (hy : y < D.q) : D.vl (lin x0) y = D.ad x0 y := by
  unfold FD.vl
  rw [ev_from F y (lin_bd x0) (by omega : 2 ≤ 1000)]
  show D.ad (D.ad 0 (D.mul x0 1)) (D.mul 1 (D.mul 1 y)) = _
  rw [mul1 F h, zero_ad F h, omul F hy, omul F hy]
theorem vl_one {D : FD} (F : Fld D) (y : Nat) : D.vl pone y = 1 := by
  unfold FD.vl
  rw [ev_from F y (show Bd 1 pone from fun k hk => by unfold pone; rw [if_neg (by omega)]) (by omega : 1 ≤ 1000)]
  show D.ad 0 (D.mul 1 1) = 1
  rw [mul1 F (one_lt' F), zero_ad F (one_lt' F)]

/-- After i places: co has the values so far; cz is 0 just there. -/
structure Thr (D : FD) (xs ys : Nat → Nat) (i lo : Nat) (co cz : Nat → Nat) : Prop where
  elo : El D co
  elz : El D cz
  tro : Trd lo co
  le : lo ≤ i
  trz : Trd (i + 1) cz
  at' : ∀ j, j < i → D.vl co (xs j) = ys j
  zero : ∀ j, j < i → D.vl cz (xs j) = 0
  none : ∀ y, y < D.q → (∀ j, j < i → y ≠ xs j) → D.vl cz y ≠ 0

theorem thr_zero {D : FD} (F : Fld D) (xs ys : Nat → Nat) : Thr D xs ys 0 0 pnil pone :=
  ⟨el_nil F, el_one F, ⟨fun _ _ => rfl, fun h => absurd rfl h⟩, Nat.le_refl _, ⟨fun k hk => by unfold pone; rw [if_neg (by omega)], fun _ => by unfold pone; simp⟩, fun j hj => by omega, fun j hj => by omega, fun y _ _ => by rw [vl_one F]; omega⟩

theorem mul_ne {D : FD} (hD : D ∈ fieldsL) {a b : Nat} (_ha : a < D.q) (hb : b < D.q) (h1 : a ≠ 0) (h2 : b ≠ 0) : D.mul a b ≠ 0 := by
  have F := fld hD
  intro e
  rw [← mul0 F a] at e
  exact h2 (mul_cancel F h1 hb (zero_lt' F) e)

theorem thr_step {D : FD} (hD : D ∈ fieldsL) {xs ys : Nat → Nat} {i lo N : Nat} {co cz : Nat → Nat} (h : Thr D xs ys i lo co cz) (hx : xs i < D.q) (hy : ys i < D.q) (hne : ∀ j, j < i → xs i ≠ xs j) (hxs : ∀ j, j < i → xs j < D.q) (hi : i + 3 ≤ 1000)
    {s : Nat} (hs : s = D.mul (D.sb (ys i) (D.vl co (xs i))) (D.iv (D.vl cz (xs i)))) (hN : lo ≤ N) (hN2 : dgn (pscale D s cz) (i + 1 + 1) ≤ N) (hN3 : N ≤ i + 1) :
    Thr D xs ys (i + 1) (dgn (padd D co (pscale D s cz)) N) (padd D co (pscale D s cz)) (pmul D (i + 1) cz (lin (D.ng (xs i)))) := by
  have F := fld hD
  have hz : D.vl cz (xs i) ≠ 0 := h.none _ hx hne
  have hzl := vl_lt F cz (xs i)
  have hol := vl_lt F co (xs i)
  have hng := ng_lt F hx
  have e1 : El D (pscale D s cz) := el_scale F s cz
  have bd1 : Bd (i + 1) (pscale D s cz) := fun k hk => by unfold pscale; rw [h.trz.1 k hk]; exact mul0 F s
  have bdN : Bd N (padd D co (pscale D s cz)) := fun k hk => by
    unfold padd
    rw [h.tro.1 k (by omega), dgn_bd (bd1.mono (show i + 1 ≤ i + 1 + 1 by omega)) k (by omega)]
    exact ad_zero F (zero_lt' F)
  refine ⟨el_add F h.elo e1, el_mul F _ _ _, trd_dgn bdN, Nat.le_trans (dgn_le _ _) hN3, ⟨?_, fun _ => ?_⟩, fun j hj => ?_, fun j hj => ?_, fun y hyq hyn => ?_⟩
  · have := pmul_bd F (a := cz) (lin_bd (D.ng (xs i))) (i + 1)
    exact this
  · show pmul D (i + 1) cz (lin (D.ng (xs i))) (i + 1 + 1 - 1) ≠ 0
    rw [show i + 1 + 1 - 1 = i + 1 from by omega, pmul_top F (a := cz) (n := i) (m := 1) (lin_bd _)]
    show D.mul (cz i) 1 ≠ 0
    rw [mul1 F (h.elz i)]
    exact h.trz.2 (by omega)
  · rw [vl_add F _ h.elo e1, vl_scale F]
    by_cases e : j = i
    · subst e
      have h1 : D.mul s (D.vl cz (xs j)) = D.sb (ys j) (D.vl co (xs j)) := by
        rw [hs, F.mul_assoc, F.mul_comm (D.iv _), iv_is hD hzl hz, mul1 F (sb_lt F hy hol)]
      rw [h1]
      exact ad_sb F hy hol
    · rw [h.at' j (by omega), h.zero j (by omega), mul0 F]
      exact ad_zero F (by rw [← h.at' j (by omega)]; exact vl_lt F _ _)
  · rw [vl_mul F _ h.trz.1 (lin_bd _) (lin_el F hng) (by omega)]
    by_cases e : j = i
    · subst e
      rw [vl_lin F hng hx, ad_comm F, ad_ng F hx, mul0 F]
    · rw [h.zero j (by omega), zmul F]
  · rw [vl_mul F _ h.trz.1 (lin_bd _) (lin_el F hng) (by omega), vl_lin F hng hyq]
    refine mul_ne hD (vl_lt F _ _) (ad_lt F hng hyq) (h.none y hyq (fun j hj => hyn j (by omega))) (fun e => ?_)
    rw [ad_comm F] at e
    exact hyn i (by omega) (sb_eq_zero F hyq hx e)
end Go.Proofs.Ytcgmllamiaflcaa

/- Plain mathematics of polynomials, gone on: those that end with 1, in order; the least one that divides; parting by it, again and again. No Go text here. -/
namespace Go.Proofs.Ytcgmllamiaflcaa

end Go.Proofs.Ytcgmllamiaflcaa
