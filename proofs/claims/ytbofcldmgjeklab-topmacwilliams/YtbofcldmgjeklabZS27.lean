/- Texts of ours, one behind the other: S27 S28 KD1 W13 KD2 KD3 KD4 KD5 KD6 KD7 KD8 KD9 S29 KD10 W14. -/
import Derived.Test.YtbofcldmgjeklabZS12
import Derived.Test.YtbofcldmgjeklabZKB5
import Derived.Test.YtbofcldmgjeklabZU7
import Derived.Test.YtbofcldmgjeklabZH2
import Derived.Test.YtbofcldmgjeklabZZ5
import Derived.Test.YtbofcldmgjeklabZV7
import Derived.Test.YtbofcldmgjeklabZX18
import Derived.Test.YtbofcldmgjeklabZKA4
import Derived.Test.YtbofcldmgjeklabZU1
import Derived.Deep.OwnRows
import Derived.RangeFuncNested
import Derived.RangeFuncBound
import Derived.RangeFuncCalls
import Derived.RangeFuncLeaves
import Derived.WalkKit
/- Plain mathematics of words that are mended: one near message; what meets the equations; the error locator. No Go text here. -/
namespace Go.Proofs.Ytbofcldmgjeklab
open Go.RowKit Go.Sort

theorem ct_or (p q : Nat → Bool) : ∀ n, ct (fun i => p i || q i) n ≤ ct p n + ct q n
  | 0 => Nat.le_refl _
  | n + 1 => by
    have := ct_or p q n
    show ct (fun i => p i || q i) n + (if (p n || q n) = true then 1 else 0) ≤ ct p n + (if p n = true then 1 else 0) + (ct q n + if q n = true then 1 else 0)
    cases p n <;> cases q n <;> simp <;> omega
/-- At how many places a message's word differs. -/
def ofs (D : FD) (k n : Nat) (xs y a : Nat → Nat) : Nat := ct (fun i => !decide (D.ev a (xs i) k = y i)) n
/-- Two near messages are one. -/
theorem near_one {D : FD} (F : Fld D) {xs y a b : Nat → Nat} {n k : Nat} (hk : k ≤ n) (hx : ∀ i, i < n → xs i < D.q) (hne : ∀ i j, i < n → j < n → i ≠ j → xs i ≠ xs j) (ha : El D a) (hb : El D b) (hba : Bd k a) (hbb : Bd k b) (h1 : 2 * ofs D k n xs y a ≤ n - k) (h2 : 2 * ofs D k n xs y b ≤ n - k) : a = b := by
  refine Classical.byContradiction fun h => ?_
  have h3 := far_apart F hx hne ha hb hba hbb h
  have h4 : ct (fun i => !decide (D.ev a (xs i) k = D.ev b (xs i) k)) n ≤ ct (fun i => !decide (D.ev a (xs i) k = y i) || !decide (D.ev b (xs i) k = y i)) n := ct_mono n fun i _ he => by
    by_cases e1 : D.ev a (xs i) k = y i
    · by_cases e2 : D.ev b (xs i) k = y i
      · rw [e1, e2] at he
        simp at he
      · simp [e2]
    · simp [e1]
  have h5 := ct_or (fun i => !decide (D.ev a (xs i) k = y i)) (fun i => !decide (D.ev b (xs i) k = y i)) n
  unfold ofs at h1 h2
  omega
/-- Whatever meets the equations is the message times its second part. -/
theorem key_eq {D : FD} (F : Fld D) {xs y a N E : Nat → Nat} {n k wr M : Nat} (hM1 : k + wr ≤ M) (hM2 : M + wr ≤ n) (hx : ∀ i, i < n → xs i < D.q) (hne : ∀ i j, i < n → j < n → i ≠ j → xs i ≠ xs j) (hN : El D N) (hbN : Bd M N) (hE : El D E) (hbE : Bd (wr + 1) E) (ho : ofs D k n xs y a ≤ wr) (he : ∀ i, i < n → D.ev N (xs i) M = D.mul (y i) (D.ev E (xs i) (wr + 1))) : N = pmul D k a E := by
  have hd : El D (psub D N (pmul D k a E)) := el_sub F hN (el_mul F _ _ _)
  have hpb : Bd (k + wr) (pmul D k a E) := by
    have := pmul_bd F (a := a) hbE k
    rw [show k + (wr + 1) - 1 = k + wr by omega] at this
    exact this
  have hbd : Bd M (psub D N (pmul D k a E)) := fun j hj => by
    show D.sb (N j) (pmul D k a E j) = 0
    rw [hbN j hj, hpb j (by omega), sb_self F (zero_lt' F)]
  refine psub_eq_nil F hN (el_mul F _ _ _) (Classical.byContradiction fun h0 => ?_)
  have h1 := few_roots F hx hne M hd hbd h0
  have h2 : ct (fun i => decide (D.ev a (xs i) k = y i)) n ≤ ct (fun i => decide (D.ev (psub D N (pmul D k a E)) (xs i) M = 0)) n := ct_mono n fun i hi hc => by
    have hc : D.ev a (xs i) k = y i := of_decide_eq_true hc
    refine decide_eq_true ?_
    have e1 : D.ev (pmul D k a E) (xs i) M = D.mul (y i) (D.ev E (xs i) (wr + 1)) := by
      rw [ev_from F (xs i) hpb hM1, ← ev_from F (xs i) hpb (show k + wr ≤ k + (wr + 1) by omega), ev_mul F (xs i) hbE hE k (k + (wr + 1)) (Nat.le_refl _), hc]
    rw [ev_sub F (xs i) hN (el_mul F _ _ _), he i hi, e1, sb_self F (F.mul_lt _ _)]
  have h3 := ct_not (fun i => decide (D.ev a (xs i) k = y i)) n
  unfold ofs at ho
  omega

end Go.Proofs.Ytbofcldmgjeklab

/- Plain mathematics of Euclid's way to mend a word: what stays as it goes on; what stands at its end. No Go text here. -/
namespace Go.Proofs.Ytbofcldmgjeklab
open Go.RowKit Go.Sort

/-- What stays: A, B the last two remainders; S, T what the second polynomial is multiplied by. -/
structure Euc (D : FD) (n : Nat) (xs y : Nat → Nat) (A B S T : Nat → Nat) (lA lB lS lT : Nat) : Prop where
  eA : El D A
  eB : El D B
  eS : El D S
  eT : El D T
  tA : Trd lA A
  tB : Trd lB B
  bS : Bd lS S
  tT : Trd lT T
  lt : lB < lA
  ls : lS < lT
  sum : lT + lA = n + 2
  atA : ∀ i, i < n → ∀ N, lA ≤ N → ∀ M, lS ≤ M → D.ev A (xs i) N = D.mul (y i) (D.ev S (xs i) M)
  atB : ∀ i, i < n → ∀ N, lB ≤ N → ∀ M, lT ≤ M → D.ev B (xs i) N = D.mul (y i) (D.ev T (xs i) M)
/-- One step further: A = Q B + C. -/
theorem Euc.step {D : FD} (F : Fld D) {n : Nat} {xs y A B S T Q C : Nat → Nat} {lA lB lS lT lQ lC : Nat} (h : Euc D n xs y A B S T lA lB lS lT) (tQ : Trd lQ Q) (eC : El D C) (tC : Trd lC C) (hC : lC < lB) (hA : A = padd D (pmul D lQ Q B) C) (hl : lQ + lB = lA + 1) :
    Euc D n xs y B C T (psub D S (pmul D lQ Q T)) lB lC lT (lQ + lT - 1) := by
  have hq2 : 2 ≤ lQ := by have := h.lt; omega
  have hT1 : 1 ≤ lT := by have := h.ls; omega
  have hbQT : Bd (lQ + lT - 1) (pmul D lQ Q T) := pmul_bd F h.tT.1 lQ
  have htop : pmul D lQ Q T (lQ + lT - 2) ≠ 0 := by
    obtain ⟨q1, rfl⟩ : ∃ q1, lQ = q1 + 1 := ⟨lQ - 1, by omega⟩
    obtain ⟨t1, rfl⟩ : ∃ t1, lT = t1 + 1 := ⟨lT - 1, by omega⟩
    have e := pmul_top F (a := Q) (n := q1) h.tT.1
    rw [show q1 + 1 + (t1 + 1) - 2 = q1 + t1 by omega, e]
    intro hz
    have hQ1 : Q q1 ≠ 0 := by have := tQ.2 (by omega); rwa [Nat.add_sub_cancel] at this
    have hT2 : T t1 ≠ 0 := by have := h.tT.2 (by omega); rwa [Nat.add_sub_cancel] at this
    exact hT2 (mul_cancel F hQ1 (h.eT _) (zero_lt' F) (by rw [hz, mul0 F]))
  have hS0 : ∀ j, lT ≤ j → S j = 0 := fun j hj => h.bS j (by have := h.ls; omega)
  refine ⟨h.eB, eC, h.eT, el_sub F h.eS (el_mul F _ _ _), h.tB, tC, h.tT.1, ⟨fun j hj => ?_, fun _ => ?_⟩, hC, by omega, by have := h.sum; omega, h.atB, fun i hi N hN M hM => ?_⟩
  · show D.sb (S j) (pmul D lQ Q T j) = 0
    rw [hS0 j (by omega), hbQT j hj, sb_self F (zero_lt' F)]
  · show D.sb (S (lQ + lT - 1 - 1)) (pmul D lQ Q T (lQ + lT - 1 - 1)) ≠ 0
    rw [hS0 _ (by omega), show lQ + lT - 1 - 1 = lQ + lT - 2 by omega]
    intro hz
    exact htop (sb_eq_zero F (zero_lt' F) (el_mul F _ _ _ _) hz).symm
  · -- at a place
    have hbB : Bd (lQ + lB - 1) (pmul D lQ Q B) := pmul_bd F h.tB.1 lQ
    have e1 : D.ev A (xs i) (lQ + lB) = D.ad (D.mul (D.ev Q (xs i) lQ) (D.ev B (xs i) lB)) (D.ev C (xs i) (lQ + lB)) := by
      rw [hA, ev_add F (xs i) (el_mul F _ _ _) eC, ev_mul F (xs i) h.tB.1 h.eB lQ (lQ + lB) (Nat.le_refl _)]
    have e2 := h.atA i hi (lQ + lB) (by omega) lT (by have := h.ls; omega)
    have e3 := h.atB i hi lB (Nat.le_refl _) lT (Nat.le_refl _)
    have e4 : D.ev C (xs i) N = D.ev C (xs i) (lQ + lB) := by
      rw [ev_from F (xs i) tC.1 hN, ev_from F (xs i) tC.1 (show lC ≤ lQ + lB by omega)]
    have hbT' : Bd (lQ + lT - 1) (psub D S (pmul D lQ Q T)) := fun j hj => by
      show D.sb (S j) (pmul D lQ Q T j) = 0
      rw [hS0 j (by omega), hbQT j hj, sb_self F (zero_lt' F)]
    have e5 : D.ev (psub D S (pmul D lQ Q T)) (xs i) M = D.sb (D.ev S (xs i) lT) (D.mul (D.ev Q (xs i) lQ) (D.ev T (xs i) lT)) := by
      rw [ev_from F (xs i) hbT' hM, ← ev_from F (xs i) hbT' (show lQ + lT - 1 ≤ lQ + lT by omega), ev_sub F (xs i) h.eS (el_mul F _ _ _), ev_mul F (xs i) h.tT.1 h.eT lQ (lQ + lT) (Nat.le_refl _), ev_from F (xs i) h.bS (show lS ≤ lQ + lT by have := h.ls; omega), ev_from F (xs i) h.bS (show lS ≤ lT by have := h.ls; omega)]
    have hS := ev_lt F S (xs i) lT
    have hQT := F.mul_lt (D.ev Q (xs i) lQ) (D.ev T (xs i) lT)
    have hCv := ev_lt F C (xs i) (lQ + lB)
    rw [e4, e5, mul_sb F hS hQT]
    -- C = A - Q B
    have e6 : D.ad (D.mul (D.ev Q (xs i) lQ) (D.mul (y i) (D.ev T (xs i) lT))) (D.ev C (xs i) (lQ + lB)) = D.mul (y i) (D.ev S (xs i) lT) := by
      rw [← e3, ← e1, e2]
    have e7 : D.mul (y i) (D.mul (D.ev Q (xs i) lQ) (D.ev T (xs i) lT)) = D.mul (D.ev Q (xs i) lQ) (D.mul (y i) (D.ev T (xs i) lT)) := by
      rw [← F.mul_assoc, F.mul_comm (y i), F.mul_assoc]
    rw [e7, ← e6, ad_comm F, sb_ad F hCv (F.mul_lt _ _)]
/-- Where it ends, the last remainder is the message times what stands beside it. -/
theorem Euc.last {D : FD} (F : Fld D) {n k : Nat} {xs y A B S T a : Nat → Nat} {lA lB lS lT : Nat} (h : Euc D n xs y A B S T lA lB lS lT) (hk : k ≤ n) (hA : n + k + 2 ≤ 2 * lA) (hB : 2 * lB < n + k + 2) (hx : ∀ i, i < n → xs i < D.q) (hne : ∀ i j, i < n → j < n → i ≠ j → xs i ≠ xs j) (ho : 2 * ofs D k n xs y a ≤ n - k) : B = pmul D k a T := by
  obtain ⟨wr, hwr⟩ : ∃ wr, wr = (n - k) / 2 := ⟨_, rfl⟩
  have h1 : lT ≤ wr + 1 := by have := h.sum; omega
  refine key_eq F (a := a) (y := y) (M := n - wr) (wr := wr) (by omega) (by omega) hx hne h.eB (fun j hj => h.tB.1 j (by omega)) h.eT (fun j hj => h.tT.1 j (by omega)) (by omega) (fun i hi => ?_)
  exact h.atB i hi (n - wr) (by omega) (wr + 1) h1
end Go.Proofs.Ytbofcldmgjeklab

/- The program's reed: quotient, spare. -/
namespace Go.Proofs.Ytbofcldmgjeklab
open Go.RowKit Go.Sort

end Go.Proofs.Ytbofcldmgjeklab

/- A region that draws its order and whose late operations, which wait for all that read, write what others read. No Go text here. -/
namespace Go.Proofs.Ytbofcldmgjeklab
open Go

end Go.Proofs.Ytbofcldmgjeklab

/- The program's reed: hear (printed by make/kd2.py). -/
namespace Go.Proofs.Ytbofcldmgjeklab
open Go.RowKit Go.Sort

/-- What a step of hear reads. -/
def hrR (B bx ox i : Nat) (vx vy : Value) (x : Int) (w : World) : Prop := w.cell? ⟨B, 2, none⟩ = some vx ∧ w.cell? ⟨B, 3, none⟩ = some vy ∧ w.cell? ⟨bx, ox + i, none⟩ = some (.int .i64 x)
/-- The numbers of a list at places where nothing is lost. -/
def hrL (z y : Nat → Int) : Nat → List Int
  | 0 => []
  | r + 1 => if y r = -1 then hrL z y r else hrL z y r ++ [z r]
end Go.Proofs.Ytbofcldmgjeklab

/- The program's reed: noughtAt. -/
namespace Go.Proofs.Ytbofcldmgjeklab
open Go.RowKit Go.Sort

end Go.Proofs.Ytbofcldmgjeklab

/- The program's reed: byDivisors. -/
namespace Go.Proofs.Ytbofcldmgjeklab
open Go.RowKit Go.Sort

end Go.Proofs.Ytbofcldmgjeklab

/- The program's reed: the walk of byDivisors. -/
namespace Go.Proofs.Ytbofcldmgjeklab
open Go.RowKit Go.Sort

end Go.Proofs.Ytbofcldmgjeklab

/- The program's reed: equation (the row of one place). -/
namespace Go.Proofs.Ytbofcldmgjeklab
open Go.RowKit Go.Sort

end Go.Proofs.Ytbofcldmgjeklab

/- What was heard of a word: numbers and places, as functions. -/
namespace Go.Proofs.Ytbofcldmgjeklab
open Go.RowKit Go.Sort

/-- What hear tells, as functions. -/
structure Heard (D : FD) (n : Nat) (c : Nat → Nat) (y : Nat → Int) (m : Nat) (c' y' : Nat → Nat) : Prop where
  lx : hrL (fun i => ((c i : Nat) : Int)) y n = zl m fun j => ((c' j : Nat) : Int)
  ly : hrL y y n = zl m fun j => ((y' j : Nat) : Int)
  le : m ≤ n
  cq : ∀ j, j < m → c' j < D.q
  ne : ∀ i j, i < m → j < m → i ≠ j → c' i ≠ c' j
  yq : ∀ j, j < m → y' j < D.q
  many : m = ct (fun i => !decide (y i = -1)) n
  ofs : ∀ k a, ofs D k m c' y' a = ct (fun i => !decide (y i = -1) && !decide (((D.ev a (c i) k : Nat) : Int) = y i)) n
end Go.Proofs.Ytbofcldmgjeklab

/- The program's reed: mend (printed by make/kd8.py). -/
namespace Go.Proofs.Ytbofcldmgjeklab
open Go.RowKit Go.Sort

/-- A message is near what was heard. -/
def NearH (D : FD) (m k : Nat) (c y a : Nat → Nat) : Prop := El D a ∧ Bd k a ∧ k ≤ m ∧ 2 * ofs D k m c y a ≤ m - k
end Go.Proofs.Ytbofcldmgjeklab

/- The program's reed: Euclid. -/
namespace Go.Proofs.Ytbofcldmgjeklab
open Go.RowKit Go.Sort

/-- Two near messages are one. -/
theorem NearH.one {D : FD} (hD : D ∈ fieldsL) {n m k : Nat} {c c' y' a b : Nat → Nat} {y : Nat → Int} (hH : Heard D n c y m c' y') (ha : NearH D m k c' y' a) (hb : NearH D m k c' y' b) : a = b :=
  Go.Proofs.Ytbofcldmgjeklab.near_one (fld hD) ha.2.2.1 hH.cq hH.ne ha.1 hb.1 ha.2.1 hb.2.1 ha.2.2.2 hb.2.2.2
end Go.Proofs.Ytbofcldmgjeklab

/- Plain mathematics of words that are mended by equations: there is a solution where a near message is, and each solution tells it. No Go text here. -/
namespace Go.Proofs.Ytbofcldmgjeklab
open Go.RowKit Go.Sort

end Go.Proofs.Ytbofcldmgjeklab

/- Steps of a region that draws its order: rows that are made; an append that makes a new block, since none of the old one is left. -/
namespace Go.Proofs.Ytbofcldmgjeklab
open Go.RowKit Go.Sort

end Go.Proofs.Ytbofcldmgjeklab

/- A range over a function whose rounds are handed memory: a law of our own over the library's steps. No Go text here. -/
namespace Go.Proofs.Ytbofcldmgjeklab
open Go.RowKit

/-- What is not one's own lies as it lay. -/
structure KpO (own : Nat → Prop) (X Y : World) : Prop where
  os : Y.os = X.os
  tape : Y.tape = X.tape
  output : Y.output = X.output
  size : X.heap.size ≤ Y.heap.size
  same : ∀ k, k < X.heap.size → ¬ own k → Y.heap[k]? = X.heap[k]?
/-- Cells, and whatever lies below B, lie as they lay. -/
structure GrC (B : Nat) (X Y : World) : Prop where
  os : Y.os = X.os
  tape : Y.tape = X.tape
  output : Y.output = X.output
  size : X.heap.size ≤ Y.heap.size
  same : ∀ k, k < X.heap.size → (k < B ∨ ∀ o, X.heap[k]? = some o → o.isCells = true) → Y.heap[k]? = X.heap[k]?
theorem GrC.of_below {B : Nat} {X Y : World} (h : Below X.heap.size X Y) : GrC B X Y := ⟨h.os, h.tape, h.output, h.size, fun k hk _ => h.block k hk⟩
theorem GrC.put {B l : Nat} {X : World} {o : Obj} (o' : Obj) (hl : B ≤ l) (h : X.heap[l]? = some o) (hc : o.isCells = false) : GrC B X (X.putObj l o') :=
  ⟨rfl, rfl, rfl, by simp, fun k hk hx => World.putObj_heap_other (fun e => by
    subst e
    rcases hx with hx | hx
    · omega
    · rw [hx o h] at hc; cases hc)⟩
theorem KpO.refl (own : Nat → Prop) (X : World) : KpO own X X := ⟨rfl, rfl, rfl, Nat.le_refl _, fun _ _ _ => rfl⟩
theorem KpO.trans {own : Nat → Prop} {X Y Z : World} (h : KpO own X Y) (k : KpO own Y Z) : KpO own X Z :=
  ⟨k.os.trans h.os, k.tape.trans h.tape, k.output.trans h.output, Nat.le_trans h.size k.size, fun i hi hn => (k.same i (Nat.lt_of_lt_of_le hi h.size) hn).trans (h.same i hi hn)⟩
theorem KpO.mono {own own' : Nat → Prop} {X Y : World} (h : KpO own X Y) (hm : ∀ k, own k → own' k) : KpO own' X Y := ⟨h.os, h.tape, h.output, h.size, fun k hk hn => h.same k hk (fun e => hn (hm k e))⟩
theorem KpO.of_below {own : Nat → Prop} {X Y : World} (h : Below X.heap.size X Y) : KpO own X Y := ⟨h.os, h.tape, h.output, h.size, fun k hk _ => h.block k hk⟩
theorem KpO.put {own : Nat → Prop} (X : World) (l : Nat) (o : Obj) (hl : own l) : KpO own X (X.putObj l o) :=
  ⟨rfl, rfl, rfl, by simp, fun _ _ hn => World.putObj_heap_other (fun e => hn (by rw [e]; exact hl))⟩
theorem KpO.setCell {own : Nat → Prop} (X : World) (a : Addr) (v : Value) (hl : own a.block) : KpO own X (X.setCell a v) :=
  ⟨rfl, rfl, rfl, by simp [World.setCell], fun k _ hn => Below.heap_setCell X a v k (fun e => hn (by rw [e]; exact hl))⟩

/-- An iterator that hands on N things: the r-th one is told by E, in the world in which it is handed on. A round may change what is the loop's own. -/
def SeqI (P : Program) (gf : Nat) (lb : Array Value) (N : Nat) (E : Nat → Array Value → World → Prop) (own : Nat → Prop) (w0 : World) : Prop :=
  ∀ (l : Nat) (J : Nat → World → Prop) (W : World), Below w0.heap.size w0 W → w0.heap.size ≤ l → l < W.heap.size →
    (∀ r X Y, J r X → Below X.heap.size X Y → J r Y) →
    (∀ r args X, r < N → J r X → E r args X → YieldAt Fence.wide 0 P l args X fun e Y => e = .returned (.bool true) ∧ J (r + 1) Y ∧ KpO (fun k => own k ∨ k = l) X Y) →
    J 0 W → CallsIn Fence.wide 0 P gf (#[.func (.yield l) #[] #[]] ++ lb) W fun e W' => (∃ v, e = .returned v) ∧ J N W'

/-- The law: a loop whose body never leaves it. -/
theorem range_law {P : Program} {g : Operand} {ps : Array Tmp} {assign body : Code} {Q : Exit → Act → World → Prop} {a : Act} {w : World} {gf : Nat} {lb : Array Value}
    (hg : a.eval g = .func (.func gf) #[] lb) (eg : ∀ args w, (callFunc gf args).run P w = .ok (.enter gf args) w)
    {N : Nat} {E : Nat → Array Value → World → Prop} {own : Nat → Prop} (hseq : SeqI P gf lb N E own w) (hown : ∀ k, own k → k < w.heap.size)
    (hps : ∀ r args X, E r args X → args.size = ps.size)
    (I : Nat → World → Prop) (hI : ∀ r X Y, I r X → GrC w.heap.size X Y → I r Y) (hE : ∀ r args X Y, E r args X → GrC w.heap.size X Y → E r args Y) (h0 : I 0 w) (a₁ : Array Value → Act)
    (hassign : ∀ (l r : Nat) (args : Array Value) (X : World) (K : Act → World → Prop), E r args X → K (a₁ args) X →
      assign.wpIn (Fence.wide.inRound l) 0 P (Exit.then K (fun _ _ _ => False)) { tmps := (ps.zip args).foldl (fun t (p, v) => t.setIfInBounds p v) a.tmps, defers := [] } X)
    (hbody : ∀ (l r : Nat) (args : Array Value) (X : World), r < N → I r X → E r args X → body.wpIn (Fence.wide.inRound l) 0 P (fun e _ Y => e = .normal ∧ KpO own X Y ∧ I (r + 1) Y) (a₁ args) X)
    (hdone : ∀ (D : Nat) (W : World), w.heap.size ≤ D → I N W → W.heap[D]? = some (.deferred (some [])) → Q .normal { a with defers := { target := .collected D, args := #[] } :: a.defers } W) :
    (Code.rangeFunc g ps assign body).wp P Q a w := by
  refine (wpIn_wide (n := 0)).1 (wpIn_rangeFunc ?_)
  intro fn hfn
  obtain ⟨B, hB⟩ : ∃ B, B = w.heap.size := ⟨_, rfl⟩
  obtain ⟨rc, hrc⟩ : ∃ rc : LoopState → Option Code → Loop, rc = fun st pe => { state := st, pending := pe, fn, tmps := a.tmps, params := ps, assign, body, defers := w.heap.size } := ⟨_, rfl⟩
  obtain ⟨W, hW⟩ : ∃ W, W = (w.alloc (.deferred (some []))).alloc (.loop (rc .ready none)) := ⟨_, rfl⟩
  have hs1 : (w.alloc (.deferred (some []))).heap.size = B + 1 := by rw [World.size_alloc, hB]
  have hsW : W.heap.size = B + 2 := by rw [hW, World.size_alloc, hs1]
  have hlW : W.heap[B + 1]? = some (.loop (rc .ready none)) := by rw [hW, ← hs1]; exact World.alloc_heap_new _ _
  have hdW : W.heap[B]? = some (.deferred (some [])) := by rw [hW, Below.heap_alloc _ _ _ (by rw [hs1]; omega), hB]; exact World.alloc_heap_new w _
  have hbW : Below w.heap.size w W := by rw [hW]; exact ((Below.refl _ w).alloc (Nat.le_refl _) _).alloc (by simp) _
  have hIW : I 0 W := hI 0 w W h0 (.of_below hbW)
  refine ⟨B + 1, [{ target := .collected w.heap.size, args := #[] }], W, { target := .fn (.func gf) lb, args := #[.func (.yield (B + 1)) #[] #[]] }, W, gf, #[.func (.yield (B + 1)) #[] #[]] ++ lb, W, ?_, ?_, fun _ _ => trivial, ?_, fun h => (by cases h), ?_⟩
  · rw [hW, hrc, hB]; exact run_enterLoop_outer _ _ _ _ _
  · simp only [resolve, hg]
    simp [go_sem]
  · simp [invoke, go_sem, eg]
  refine (hseq (B + 1) (fun r X => I r X ∧ X.heap[B + 1]? = some (.loop (rc .ready none)) ∧ X.heap[B]? = some (.deferred (some []))) W hbW (by omega) (by omega) ?_ ?_ ⟨hIW, hlW, hdW⟩).mono ?_
  · rintro r X Y ⟨h1, h2, h3⟩ hb
    exact ⟨hI r X Y h1 (.of_below hb), (hb.block _ (Array.getElem?_eq_some_iff.1 h2).1).trans h2, (hb.block _ (Array.getElem?_eq_some_iff.1 h3).1).trans h3⟩
  · rintro r args X hr ⟨hi, hl, hd⟩ he
    have hy := run_yield (P := P) (args := args) hl (by rw [hrc]; exact hps r args X he)
    rw [hrc] at hy
    refine ⟨fn, _, assign, body, hy, roundIn_of_wpIn hfn (hassign _ r args X _ he ⟨_, run_beginRound hl (by rw [hrc]), ?_⟩)⟩
    obtain ⟨X2, hX2⟩ : ∃ X2, X2 = X.putObj (B + 1) (.loop { rc .ready none with state := .busy }) := ⟨_, rfl⟩
    have hg2 : GrC w.heap.size X X2 := by rw [hX2]; exact .put _ (by omega) hl rfl
    have hl2 : X2.heap[B + 1]? = some (.loop { rc .ready none with state := .busy }) := by rw [hX2]; exact World.putObj_heap_same (Array.getElem?_eq_some_iff.1 hl).1
    have hd2 : X2.heap[B]? = some (.deferred (some [])) := by rw [hX2]; exact (World.putObj_heap_other (by omega)).trans hd
    have hk2 : KpO (fun k => own k ∨ k = B + 1) X X2 := by rw [hX2]; exact .put _ _ _ (Or.inr rfl)
    rw [← hX2]
    refine wpIn_mono (hbody (B + 1) r args X2 hr (hI r X X2 hi hg2) (hE r args X X2 he hg2)) ?_
    rintro e a3 Y ⟨rfl, hk, hi3⟩
    have hl3 : Y.heap[B + 1]? = some (.loop { rc .ready none with state := .busy }) := (hk.same _ (Array.getElem?_eq_some_iff.1 hl2).1 (fun h => by have := hown _ h; omega)).trans hl2
    have hd3 : Y.heap[B]? = some (.deferred (some [])) := (hk.same _ (Array.getElem?_eq_some_iff.1 hd2).1 (fun h => by have := hown _ h; omega)).trans hd2
    have he3 := run_endRound (P := P) none hl3
    refine ⟨_, _, he3, rfl, ⟨hI _ Y _ hi3 (.put _ (by omega) hl3 rfl), ?_, (World.putObj_heap_other (by omega)).trans hd3⟩, (hk2.trans (hk.mono fun k h => Or.inl h)).trans (.put _ _ _ (Or.inr rfl))⟩
    rw [World.putObj_heap_same (Array.getElem?_eq_some_iff.1 hl3).1, hrc]
    rfl
  · rintro e Y ⟨⟨v, rfl⟩, hi, hl, hd⟩
    have he := run_endLoop (P := P) hl (by rw [hrc]; simp)
    refine ⟨none, _, by rw [he, hrc], ?_⟩
    have := hdone B (Y.putObj (B + 1) (.loop { rc .ready none with state := .exhausted })) (by omega) (hI _ Y _ hi (.put _ (by omega) hl rfl)) ((World.putObj_heap_other (by omega)).trans hd)
    rw [hB] at this ⊢
    simpa [hrc] using this
end Go.Proofs.Ytbofcldmgjeklab
