/- Texts of ours, one behind the other: S27 S28. -/
import Derived.Test.YtcgmllamiaflcaaZQ5
/- Plain mathematics of words that are mended: one near message; what meets the equations; the error locator. No Go text here. -/
namespace Go.Proofs.Ytcgmllamiaflcaa
open Go.RowKit Go.Sort

theorem ct_or (p q : Nat → Bool) : ∀ n, ct (fun i => p i || q i) n ≤ ct p n + ct q n
  | 0 => Nat.le_refl _
  | n + 1 => by
    have := ct_or p q n
    show ct (fun i => p i || q i) n + (if (p n || q n) = true then 1 else 0) ≤ ct p n + (if p n = true then 1 else 0) + (ct q n + if q n = true then 1 else 0)
    cases p n <;> cases q n <;> simp <;> omega
/-- At how many places a message's word differs. -/
def ofs (D : FD) (k n : Nat) (xs y a : Nat → Nat) : Nat := ct (fun i => !decide (D.ev a (xs i) k = y i)) n
/-- Two near messages are one. -/
theorem near_one {D : FD} (F : Fld D) {xs y a b : Nat → Nat} {n k : Nat} (hk : k ≤ n) (hx : ∀ i, i < n → xs i < D.q) (hne : ∀ i j, i < n → j < n → i ≠ j → xs i ≠ xs j) (ha : El D a) (hb : El D b) (hba : Bd k a) (hbb : Bd k b) (h1 : 2 * ofs D k n xs y a ≤ n - k) (h2 : 2 * ofs D k n xs y b ≤ n - k) : a = b := by
  refine Classical.byContradiction fun h => ?_
  have h3 := far_apart F hx hne ha hb hba hbb h
  have h4 : ct (fun i => !decide (D.ev a (xs i) k = D.ev b (xs i) k)) n ≤ ct (fun i => !decide (D.ev a (xs i) k = y i) || !decide (D.ev b (xs i) k = y i)) n := ct_mono n fun i _ he => by
    by_cases e1 : D.ev a (xs i) k = y i
    · by_cases e2 : D.ev b (xs i) k = y i
      · rw [e1, e2] at he
        simp at he
      · simp [e2]
    · simp [e1]
  have h5 := ct_or (fun i => !decide (D.ev a (xs i) k = y i)) (fun i => !decide (D.ev b (xs i) k = y i)) n
  unfold ofs at h1 h2
  omega
/-- Whatever meets the equations is the message times its second part. -/
theorem key_eq {D : FD} (F : Fld D) {xs y a N E : Nat → Nat} {n k wr M : Nat} (hM1 : k + wr ≤ M) (hM2 : M + wr ≤ n) (hx : ∀ i, i < n → xs i < D.q) (hne : ∀ i j, i < n → j < n → i ≠ j → xs i ≠ xs j) (hN : El D N) (hbN : Bd M N) (hE : El D E) (hbE : Bd (wr + 1) E) (ho : ofs D k n xs y a ≤ wr) (he : ∀ i, i < n → D.ev N (xs i) M = D.mul (y i) (D.ev E (xs i) (wr + 1))) : N = pmul D k a E := by
  have hd : El D (psub D N (pmul D k a E)) := el_sub F hN (el_mul F _ _ _)
  have hpb : Bd (k + wr) (pmul D k a E) := by
    have := pmul_bd F (a := a) hbE k
    rw [show k + (wr + 1) - 1 = k + wr by omega] at this
    exact this
  have hbd : Bd M (psub D N (pmul D k a E)) := fun j hj => by
    show D.sb (N j) (pmul D k a E j) = 0
    rw [hbN j hj, hpb j (by omega), sb_self F (zero_lt' F)]
  refine psub_eq_nil F hN (el_mul F _ _ _) (Classical.byContradiction fun h0 => ?_)
  have h1 := few_roots F hx hne M hd hbd h0
  have h2 : ct (fun i => decide (D.ev a (xs i) k = y i)) n ≤ ct (fun i => decide (D.ev (psub D N (pmul D k a E)) (xs i) M = 0)) n := ct_mono n fun i hi hc => by
    have hc : D.ev a (xs i) k = y i := of_decide_eq_true hc
    refine decide_eq_true ?_
    have e1 : D.ev (pmul D k a E) (xs i) M = D.mul (y i) (D.ev E (xs i) (wr + 1)) := by
      rw [ev_from F (xs i) hpb hM1, ← ev_from F (xs i) hpb (show k + wr ≤ k + (wr + 1) by omega), ev_mul F (xs i) hbE hE k (k + (wr + 1)) (Nat.le_refl _), hc]
    rw [ev_sub F (xs i) hN (el_mul F _ _ _), he i hi, e1, sb_self F (F.mul_lt _ _)]
  have h3 := ct_not (fun i => decide (D.ev a (xs i) k = y i)) n
  unfold ofs at ho
  omega

/-- The product of x less each place where something is wrong. -/
def elc (D : FD) (err : Nat → Bool) (xs : Nat → Nat) : Nat → Nat → Nat
  | 0 => pone
  | i + 1 => if err i = true then pmul D 2 (xmr D (xs i)) (elc D err xs i) else elc D err xs i
theorem elc_ok {D : FD} (F : Fld D) {err : Nat → Bool} {xs : Nat → Nat} {n : Nat} (hx : ∀ i, i < n → xs i < D.q) : ∀ i, i ≤ n → El D (elc D err xs i) ∧ Bd (ct err i + 1) (elc D err xs i) ∧ elc D err xs i (ct err i) = 1 ∧ ∀ j, j < i → err j = true → D.ev (elc D err xs i) (xs j) (ct err i + 1) = 0
  | 0, _ => ⟨el_one F, fun j hj => if_neg (by omega), rfl, fun j hj => absurd hj (by omega)⟩
  | i + 1, h => by
    obtain ⟨h1, h2, h3, h4⟩ := elc_ok F (err := err) hx i (by omega)
    have hxi := hx i (by omega)
    by_cases e : err i = true
    · have ec : ct err (i + 1) = ct err i + 1 := by
        show ct err i + (if err i = true then 1 else 0) = _
        rw [if_pos e]
      have ee : elc D err xs (i + 1) = pmul D 2 (xmr D (xs i)) (elc D err xs i) := by
        show (if err i = true then _ else _) = _
        rw [if_pos e]
      rw [ec, ee]
      refine ⟨el_mul F _ _ _, ?_, ?_, fun j hj hjj => ?_⟩
      · have := pmul_bd F (a := xmr D (xs i)) h2 2
        rw [show 2 + (ct err i + 1) - 1 = ct err i + 1 + 1 by omega] at this
        exact this
      · have := pmul_top F (a := xmr D (xs i)) (n := 1) h2
        rw [show 1 + ct err i = ct err i + 1 by omega, h3] at this
        rw [this]
        show D.mul (if 1 = 0 then _ else if 1 = 1 then 1 else 0) 1 = 1
        rw [if_neg (by omega), if_pos rfl, mul1 F (one_lt' F)]
      · rw [← ev_from F (xs j) (n := ct err i + 1 + 1) (N := 2 + (ct err i + 1)) (by
          have := pmul_bd F (a := xmr D (xs i)) h2 2
          rw [show 2 + (ct err i + 1) - 1 = ct err i + 1 + 1 by omega] at this
          exact this) (by omega), ev_mul F (xs j) h2 h1 2 _ (Nat.le_refl _)]
        by_cases ej : j = i
        · rw [ej, xmr_ev F hxi hxi, sb_self F hxi, zmul F]
        · rw [h4 j (by omega) hjj, mul0 F]
    · have ec : ct err (i + 1) = ct err i := by
        show ct err i + (if err i = true then 1 else 0) = _
        rw [if_neg e]; rfl
      have ee : elc D err xs (i + 1) = elc D err xs i := by
        show (if err i = true then _ else _) = _
        rw [if_neg e]
      rw [ec, ee]
      refine ⟨h1, h2, h3, fun j hj hjj => ?_⟩
      by_cases ej : j = i
      · rw [ej] at hjj; exact absurd hjj e
      · exact h4 j (by omega) hjj
/-- A polynomial of degree wr that is 0 where something is wrong. -/
theorem loc_ex {D : FD} (F : Fld D) {err : Nat → Bool} {xs : Nat → Nat} {n wr : Nat} (hx : ∀ i, i < n → xs i < D.q) (hw : ct err n ≤ wr) : ∃ E, El D E ∧ Bd (wr + 1) E ∧ E wr = 1 ∧ ∀ i, i < n → err i = true → D.ev E (xs i) (wr + 1) = 0 := by
  obtain ⟨h1, h2, h3, h4⟩ := elc_ok F (err := err) hx n (Nat.le_refl _)
  refine ⟨psh (wr - ct err n) (elc D err xs n), el_sh F _ h1, fun j hj => ?_, ?_, fun i hi he => ?_⟩
  · unfold psh
    rw [if_pos (by omega)]
    exact h2 _ (by omega)
  · unfold psh
    rw [if_pos (by omega), show wr - (wr - ct err n) = ct err n by omega]
    exact h3
  · have := ev_sh F (b := elc D err xs n) (xs i) (wr - ct err n) (ct err n + 1)
    rw [show wr - ct err n + (ct err n + 1) = wr + 1 by omega] at this
    rw [this, h4 i hi he, mul0 F]

/-- The row of one place. -/
def rwq (D : FD) (x y long wr : Nat) : Nat → Nat := fun c => if c < long then D.xp x c else if c < long + wr then D.ng (D.mul y (D.xp x (c - long))) else 0
theorem dot_first {D : FD} (F : Fld D) (x : Nat) {u v : Nat → Nat} : ∀ m, (∀ c, c < m → v c = D.xp x c) → dot D v u m = D.ev u x m
  | 0, _ => rfl
  | m + 1, h => by
    show D.ad (dot D v u m) (D.mul (v m) (u m)) = D.ad (D.ev u x m) (D.mul (u m) (D.xp x m))
    rw [dot_first F x m (fun c hc => h c (by omega)), h m (by omega), F.mul_comm]
theorem rwq_dot {D : FD} (F : Fld D) (x y long : Nat) {u : Nat → Nat} (hu : El D u) : ∀ wr, dot D (rwq D x y long wr) u (long + wr) = D.sb (D.ev u x long) (D.mul y (D.ev (fun c => u (long + c)) x wr))
  | 0 => by
    rw [Nat.add_zero, dot_first F x (v := rwq D x y long 0) long (fun c hc => if_pos hc)]
    show _ = D.sb (D.ev u x long) (D.mul y 0)
    rw [mul0 F, sb_zero F (ev_lt F _ _ _)]
  | wr + 1 => by
    have ih := rwq_dot F x y long hu wr
    show D.ad (dot D (rwq D x y long (wr + 1)) u (long + wr)) (D.mul (rwq D x y long (wr + 1) (long + wr)) (u (long + wr))) = _
    have e1 : dot D (rwq D x y long (wr + 1)) u (long + wr) = dot D (rwq D x y long wr) u (long + wr) := dot_congr _ fun j hj => ⟨by
      unfold rwq
      by_cases h : j < long
      · rw [if_pos h, if_pos h]
      · rw [if_neg h, if_neg h, if_pos (by omega), if_pos (by omega)], rfl⟩
    have e2 : rwq D x y long (wr + 1) (long + wr) = D.ng (D.mul y (D.xp x wr)) := by
      unfold rwq
      rw [if_neg (by omega), if_pos (by omega), Nat.add_sub_cancel_left]
    rw [e1, e2, ih]
    show _ = D.sb (D.ev u x long) (D.mul y (D.ad (D.ev (fun c => u (long + c)) x wr) (D.mul (u (long + wr)) (D.xp x wr))))
    have hA := ev_lt F u x long
    have hB := ev_lt F (fun c => u (long + c)) x wr
    have hC := F.mul_lt (u (long + wr)) (D.xp x wr)
    rw [mul_ad F hB hC]
    have e3 : D.mul (D.ng (D.mul y (D.xp x wr))) (u (long + wr)) = D.ng (D.mul y (D.mul (u (long + wr)) (D.xp x wr))) := by
      rw [F.mul_comm (D.ng _), mul_ng F (F.mul_lt _ _), F.mul_comm (u (long + wr)), F.mul_assoc, F.mul_comm (D.xp x wr)]
    rw [e3]
    have hP := F.mul_lt y (D.ev (fun c => u (long + c)) x wr)
    have hR := F.mul_lt y (D.mul (u (long + wr)) (D.xp x wr))
    show D.ad (D.ad (D.ev u x long) (D.ng (D.mul y (D.ev (fun c => u (long + c)) x wr)))) (D.ng (D.mul y (D.mul (u (long + wr)) (D.xp x wr)))) = D.ad (D.ev u x long) (D.ng (D.ad (D.mul y (D.ev (fun c => u (long + c)) x wr)) (D.mul y (D.mul (u (long + wr)) (D.xp x wr)))))
    rw [ad_assoc F hA (ng_lt F hP) (ng_lt F hR)]
    congr 1
    refine ad_cancel F (a := D.ad (D.mul y (D.ev (fun c => u (long + c)) x wr)) (D.mul y (D.mul (u (long + wr)) (D.xp x wr)))) (ad_lt F hP hR) (ad_lt F (ng_lt F hP) (ng_lt F hR)) (ng_lt F (ad_lt F hP hR)) ?_
    rw [ad_ng F (ad_lt F hP hR), ad4 F hP hR (ng_lt F hP) (ng_lt F hR), ad_ng F hP, ad_ng F hR, ad_zero F (zero_lt' F)]
end Go.Proofs.Ytcgmllamiaflcaa

/- Plain mathematics of Euclid's way to mend a word: what stays as it goes on; what stands at its end. No Go text here. -/
namespace Go.Proofs.Ytcgmllamiaflcaa
open Go.RowKit Go.Sort

/-- What stays: A, B the last two remainders; S, T what the second polynomial is multiplied by. -/
structure Euc (D : FD) (n : Nat) (xs y : Nat → Nat) (A B S T : Nat → Nat) (lA lB lS lT : Nat) : Prop where
  eA : El D A
  eB : El D B
  eS : El D S
  eT : El D T
  tA : Trd lA A
  tB : Trd lB B
  bS : Bd lS S
  tT : Trd lT T
  lt : lB < lA
  ls : lS < lT
  sum : lT + lA = n + 2
  atA : ∀ i, i < n → ∀ N, lA ≤ N → ∀ M, lS ≤ M → D.ev A (xs i) N = D.mul (y i) (D.ev S (xs i) M)
  atB : ∀ i, i < n → ∀ N, lB ≤ N → ∀ M, lT ≤ M → D.ev B (xs i) N = D.mul (y i) (D.ev T (xs i) M)
/-- One step further: A = Q B + C. -/
theorem Euc.step {D : FD} (F : Fld D) {n : Nat} {xs y A B S T Q C : Nat → Nat} {lA lB lS lT lQ lC : Nat} (h : Euc D n xs y A B S T lA lB lS lT) (tQ : Trd lQ Q) (eC : El D C) (tC : Trd lC C) (hC : lC < lB) (hA : A = padd D (pmul D lQ Q B) C) (hl : lQ + lB = lA + 1) :
    Euc D n xs y B C T (psub D S (pmul D lQ Q T)) lB lC lT (lQ + lT - 1) := by
  have hq2 : 2 ≤ lQ := by have := h.lt; omega
  have hT1 : 1 ≤ lT := by have := h.ls; omega
  have hbQT : Bd (lQ + lT - 1) (pmul D lQ Q T) := pmul_bd F h.tT.1 lQ
  have htop : pmul D lQ Q T (lQ + lT - 2) ≠ 0 := by
    obtain ⟨q1, rfl⟩ : ∃ q1, lQ = q1 + 1 := ⟨lQ - 1, by omega⟩
    obtain ⟨t1, rfl⟩ : ∃ t1, lT = t1 + 1 := ⟨lT - 1, by omega⟩
    have e := pmul_top F (a := Q) (n := q1) h.tT.1
    rw [show q1 + 1 + (t1 + 1) - 2 = q1 + t1 by omega, e]
    intro hz
    have hQ1 : Q q1 ≠ 0 := by have := tQ.2 (by omega); rwa [Nat.add_sub_cancel] at this
    have hT2 : T t1 ≠ 0 := by have := h.tT.2 (by omega); rwa [Nat.add_sub_cancel] at this
    exact hT2 (mul_cancel F hQ1 (h.eT _) (zero_lt' F) (by rw [hz, mul0 F]))
  have hS0 : ∀ j, lT ≤ j → S j = 0 := fun j hj => h.bS j (by have := h.ls; omega)
  refine ⟨h.eB, eC, h.eT, el_sub F h.eS (el_mul F _ _ _), h.tB, tC, h.tT.1, ⟨fun j hj => ?_, fun _ => ?_⟩, hC, by omega, by have := h.sum; omega, h.atB, fun i hi N hN M hM => ?_⟩
  · show D.sb (S j) (pmul D lQ Q T j) = 0
    rw [hS0 j (by omega), hbQT j hj, sb_self F (zero_lt' F)]
  · show D.sb (S (lQ + lT - 1 - 1)) (pmul D lQ Q T (lQ + lT - 1 - 1)) ≠ 0
    rw [hS0 _ (by omega), show lQ + lT - 1 - 1 = lQ + lT - 2 by omega]
    intro hz
    exact htop (sb_eq_zero F (zero_lt' F) (el_mul F _ _ _ _) hz).symm
  · -- at a place
    have hbB : Bd (lQ + lB - 1) (pmul D lQ Q B) := pmul_bd F h.tB.1 lQ
    have e1 : D.ev A (xs i) (lQ + lB) = D.ad (D.mul (D.ev Q (xs i) lQ) (D.ev B (xs i) lB)) (D.ev C (xs i) (lQ + lB)) := by
      rw [hA, ev_add F (xs i) (el_mul F _ _ _) eC, ev_mul F (xs i) h.tB.1 h.eB lQ (lQ + lB) (Nat.le_refl _)]
    have e2 := h.atA i hi (lQ + lB) (by omega) lT (by have := h.ls; omega)
    have e3 := h.atB i hi lB (Nat.le_refl _) lT (Nat.le_refl _)
    have e4 : D.ev C (xs i) N = D.ev C (xs i) (lQ + lB) := by
      rw [ev_from F (xs i) tC.1 hN, ev_from F (xs i) tC.1 (show lC ≤ lQ + lB by omega)]
    have hbT' : Bd (lQ + lT - 1) (psub D S (pmul D lQ Q T)) := fun j hj => by
      show D.sb (S j) (pmul D lQ Q T j) = 0
      rw [hS0 j (by omega), hbQT j hj, sb_self F (zero_lt' F)]
    have e5 : D.ev (psub D S (pmul D lQ Q T)) (xs i) M = D.sb (D.ev S (xs i) lT) (D.mul (D.ev Q (xs i) lQ) (D.ev T (xs i) lT)) := by
      rw [ev_from F (xs i) hbT' hM, ← ev_from F (xs i) hbT' (show lQ + lT - 1 ≤ lQ + lT by omega), ev_sub F (xs i) h.eS (el_mul F _ _ _), ev_mul F (xs i) h.tT.1 h.eT lQ (lQ + lT) (Nat.le_refl _), ev_from F (xs i) h.bS (show lS ≤ lQ + lT by have := h.ls; omega), ev_from F (xs i) h.bS (show lS ≤ lT by have := h.ls; omega)]
    have hS := ev_lt F S (xs i) lT
    have hQT := F.mul_lt (D.ev Q (xs i) lQ) (D.ev T (xs i) lT)
    have hCv := ev_lt F C (xs i) (lQ + lB)
    rw [e4, e5, mul_sb F hS hQT]
    -- C = A - Q B
    have e6 : D.ad (D.mul (D.ev Q (xs i) lQ) (D.mul (y i) (D.ev T (xs i) lT))) (D.ev C (xs i) (lQ + lB)) = D.mul (y i) (D.ev S (xs i) lT) := by
      rw [← e3, ← e1, e2]
    have e7 : D.mul (y i) (D.mul (D.ev Q (xs i) lQ) (D.ev T (xs i) lT)) = D.mul (D.ev Q (xs i) lQ) (D.mul (y i) (D.ev T (xs i) lT)) := by
      rw [← F.mul_assoc, F.mul_comm (y i), F.mul_assoc]
    rw [e7, ← e6, ad_comm F, sb_ad F hCv (F.mul_lt _ _)]
/-- Where it ends, the last remainder is the message times what stands beside it. -/
theorem Euc.last {D : FD} (F : Fld D) {n k : Nat} {xs y A B S T a : Nat → Nat} {lA lB lS lT : Nat} (h : Euc D n xs y A B S T lA lB lS lT) (hk : k ≤ n) (hA : n + k + 2 ≤ 2 * lA) (hB : 2 * lB < n + k + 2) (hx : ∀ i, i < n → xs i < D.q) (hne : ∀ i j, i < n → j < n → i ≠ j → xs i ≠ xs j) (ho : 2 * ofs D k n xs y a ≤ n - k) : B = pmul D k a T := by
  obtain ⟨wr, hwr⟩ : ∃ wr, wr = (n - k) / 2 := ⟨_, rfl⟩
  have h1 : lT ≤ wr + 1 := by have := h.sum; omega
  refine key_eq F (a := a) (y := y) (M := n - wr) (wr := wr) (by omega) (by omega) hx hne h.eB (fun j hj => h.tB.1 j (by omega)) h.eT (fun j hj => h.tT.1 j (by omega)) (by omega) (fun i hi => ?_)
  exact h.atB i hi (n - wr) (by omega) (wr + 1) h1
end Go.Proofs.Ytcgmllamiaflcaa
