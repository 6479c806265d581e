/- Texts of ours, one behind the other: S27 S28 KD1 W13 KD2 KD3 KD4 KD5 S29 KF1 KF2 W14. -/
import Derived.Test.YtbofcldmgjeklabZI12
import Derived.Test.YtbofcldmgjeklabZU9
import Derived.Test.YtbofcldmgjeklabZK4
import Derived.Test.YtbofcldmgjeklabZQ2
import Derived.Test.YtbofcldmgjeklabZV7
import Derived.Test.YtbofcldmgjeklabZX18
import Derived.Test.YtbofcldmgjeklabZW6
import Derived.Test.YtbofcldmgjeklabZL10
import Derived.RangeFuncNested
import Derived.RangeFuncBound
import Derived.RangeFuncCalls
import Derived.RangeFuncLeaves
import Derived.WalkKit
/- Plain mathematics of words that are mended: one near message; what meets the equations; the error locator. No Go text here. -/
namespace Go.Proofs.Ytbofcldmgjeklab
open Go.RowKit Go.Sort

/-- At how many places a message's word differs. -/
def ofs (D : FD) (k n : Nat) (xs y a : Nat → Nat) : Nat := ct (fun i => !decide (D.ev a (xs i) k = y i)) n
/-- Whatever meets the equations is the message times its second part. -/
theorem key_eq {D : FD} (F : Fld D) {xs y a N E : Nat → Nat} {n k wr M : Nat} (hM1 : k + wr ≤ M) (hM2 : M + wr ≤ n) (hx : ∀ i, i < n → xs i < D.q) (hne : ∀ i j, i < n → j < n → i ≠ j → xs i ≠ xs j) (hN : El D N) (hbN : Bd M N) (hE : El D E) (hbE : Bd (wr + 1) E) (ho : ofs D k n xs y a ≤ wr) (he : ∀ i, i < n → D.ev N (xs i) M = D.mul (y i) (D.ev E (xs i) (wr + 1))) : N = pmul D k a E := by
  have hd : El D (psub D N (pmul D k a E)) := el_sub F hN (el_mul F _ _ _)
  have hpb : Bd (k + wr) (pmul D k a E) := by
    have := pmul_bd F (a := a) hbE k
    rw [show k + (wr + 1) - 1 = k + wr by omega] at this
    exact this
  have hbd : Bd M (psub D N (pmul D k a E)) := fun j hj => by
    show D.sb (N j) (pmul D k a E j) = 0
    rw [hbN j hj, hpb j (by omega), sb_self F (zero_lt' F)]
  refine psub_eq_nil F hN (el_mul F _ _ _) (Classical.byContradiction fun h0 => ?_)
  have h1 := few_roots F hx hne M hd hbd h0
  have h2 : ct (fun i => decide (D.ev a (xs i) k = y i)) n ≤ ct (fun i => decide (D.ev (psub D N (pmul D k a E)) (xs i) M = 0)) n := ct_mono n fun i hi hc => by
    have hc : D.ev a (xs i) k = y i := of_decide_eq_true hc
    refine decide_eq_true ?_
    have e1 : D.ev (pmul D k a E) (xs i) M = D.mul (y i) (D.ev E (xs i) (wr + 1)) := by
      rw [ev_from F (xs i) hpb hM1, ← ev_from F (xs i) hpb (show k + wr ≤ k + (wr + 1) by omega), ev_mul F (xs i) hbE hE k (k + (wr + 1)) (Nat.le_refl _), hc]
    rw [ev_sub F (xs i) hN (el_mul F _ _ _), he i hi, e1, sb_self F (F.mul_lt _ _)]
  have h3 := ct_not (fun i => decide (D.ev a (xs i) k = y i)) n
  unfold ofs at ho
  omega

end Go.Proofs.Ytbofcldmgjeklab

/- Plain mathematics of Euclid's way to mend a word: what stays as it goes on; what stands at its end. No Go text here. -/
namespace Go.Proofs.Ytbofcldmgjeklab
open Go.RowKit Go.Sort

/-- What stays: A, B the last two remainders; S, T what the second polynomial is multiplied by. -/
structure Euc (D : FD) (n : Nat) (xs y : Nat → Nat) (A B S T : Nat → Nat) (lA lB lS lT : Nat) : Prop where
  eA : El D A
  eB : El D B
  eS : El D S
  eT : El D T
  tA : Trd lA A
  tB : Trd lB B
  bS : Bd lS S
  tT : Trd lT T
  lt : lB < lA
  ls : lS < lT
  sum : lT + lA = n + 2
  atA : ∀ i, i < n → ∀ N, lA ≤ N → ∀ M, lS ≤ M → D.ev A (xs i) N = D.mul (y i) (D.ev S (xs i) M)
  atB : ∀ i, i < n → ∀ N, lB ≤ N → ∀ M, lT ≤ M → D.ev B (xs i) N = D.mul (y i) (D.ev T (xs i) M)
/-- One step further: A = Q B + C. -/
theorem Euc.step {D : FD} (F : Fld D) {n : Nat} {xs y A B S T Q C : Nat → Nat} {lA lB lS lT lQ lC : Nat} (h : Euc D n xs y A B S T lA lB lS lT) (tQ : Trd lQ Q) (eC : El D C) (tC : Trd lC C) (hC : lC < lB) (hA : A = padd D (pmul D lQ Q B) C) (hl : lQ + lB = lA + 1) :
    Euc D n xs y B C T (psub D S (pmul D lQ Q T)) lB lC lT (lQ + lT - 1) := by
  have hq2 : 2 ≤ lQ := by have := h.lt; omega
  have hT1 : 1 ≤ lT := by have := h.ls; omega
  have hbQT : Bd (lQ + lT - 1) (pmul D lQ Q T) := pmul_bd F h.tT.1 lQ
  have htop : pmul D lQ Q T (lQ + lT - 2) ≠ 0 := by
    obtain ⟨q1, rfl⟩ : ∃ q1, lQ = q1 + 1 := ⟨lQ - 1, by omega⟩
    obtain ⟨t1, rfl⟩ : ∃ t1, lT = t1 + 1 := ⟨lT - 1, by omega⟩
    have e := pmul_top F (a := Q) (n := q1) h.tT.1
    rw [show q1 + 1 + (t1 + 1) - 2 = q1 + t1 by omega, e]
    intro hz
    have hQ1 : Q q1 ≠ 0 := by have := tQ.2 (by omega); rwa [Nat.add_sub_cancel] at this
    have hT2 : T t1 ≠ 0 := by have := h.tT.2 (by omega); rwa [Nat.add_sub_cancel] at this
    exact hT2 (mul_cancel F hQ1 (h.eT _) (zero_lt' F) (by rw [hz, mul0 F]))
  have hS0 : ∀ j, lT ≤ j → S j = 0 := fun j hj => h.bS j (by have := h.ls; omega)
  refine ⟨h.eB, eC, h.eT, el_sub F h.eS (el_mul F _ _ _), h.tB, tC, h.tT.1, ⟨fun j hj => ?_, fun _ => ?_⟩, hC, by omega, by have := h.sum; omega, h.atB, fun i hi N hN M hM => ?_⟩
  · show D.sb (S j) (pmul D lQ Q T j) = 0
    rw [hS0 j (by omega), hbQT j hj, sb_self F (zero_lt' F)]
  · show D.sb (S (lQ + lT - 1 - 1)) (pmul D lQ Q T (lQ + lT - 1 - 1)) ≠ 0
    rw [hS0 _ (by omega), show lQ + lT - 1 - 1 = lQ + lT - 2 by omega]
    intro hz
    exact htop (sb_eq_zero F (zero_lt' F) (el_mul F _ _ _ _) hz).symm
  · -- at a place
    have hbB : Bd (lQ + lB - 1) (pmul D lQ Q B) := pmul_bd F h.tB.1 lQ
    have e1 : D.ev A (xs i) (lQ + lB) = D.ad (D.mul (D.ev Q (xs i) lQ) (D.ev B (xs i) lB)) (D.ev C (xs i) (lQ + lB)) := by
      rw [hA, ev_add F (xs i) (el_mul F _ _ _) eC, ev_mul F (xs i) h.tB.1 h.eB lQ (lQ + lB) (Nat.le_refl _)]
    have e2 := h.atA i hi (lQ + lB) (by omega) lT (by have := h.ls; omega)
    have e3 := h.atB i hi lB (Nat.le_refl _) lT (Nat.le_refl _)
    have e4 : D.ev C (xs i) N = D.ev C (xs i) (lQ + lB) := by
      rw [ev_from F (xs i) tC.1 hN, ev_from F (xs i) tC.1 (show lC ≤ lQ + lB by omega)]
    have hbT' : Bd (lQ + lT - 1) (psub D S (pmul D lQ Q T)) := fun j hj => by
      show D.sb (S j) (pmul D lQ Q T j) = 0
      rw [hS0 j (by omega), hbQT j hj, sb_self F (zero_lt' F)]
    have e5 : D.ev (psub D S (pmul D lQ Q T)) (xs i) M = D.sb (D.ev S (xs i) lT) (D.mul (D.ev Q (xs i) lQ) (D.ev T (xs i) lT)) := by
      rw [ev_from F (xs i) hbT' hM, ← ev_from F (xs i) hbT' (show lQ + lT - 1 ≤ lQ + lT by omega), ev_sub F (xs i) h.eS (el_mul F _ _ _), ev_mul F (xs i) h.tT.1 h.eT lQ (lQ + lT) (Nat.le_refl _), ev_from F (xs i) h.bS (show lS ≤ lQ + lT by have := h.ls; omega), ev_from F (xs i) h.bS (show lS ≤ lT by have := h.ls; omega)]
    have hS := ev_lt F S (xs i) lT
    have hQT := F.mul_lt (D.ev Q (xs i) lQ) (D.ev T (xs i) lT)
    have hCv := ev_lt F C (xs i) (lQ + lB)
    rw [e4, e5, mul_sb F hS hQT]
    -- C = A - Q B
    have e6 : D.ad (D.mul (D.ev Q (xs i) lQ) (D.mul (y i) (D.ev T (xs i) lT))) (D.ev C (xs i) (lQ + lB)) = D.mul (y i) (D.ev S (xs i) lT) := by
      rw [← e3, ← e1, e2]
    have e7 : D.mul (y i) (D.mul (D.ev Q (xs i) lQ) (D.ev T (xs i) lT)) = D.mul (D.ev Q (xs i) lQ) (D.mul (y i) (D.ev T (xs i) lT)) := by
      rw [← F.mul_assoc, F.mul_comm (y i), F.mul_assoc]
    rw [e7, ← e6, ad_comm F, sb_ad F hCv (F.mul_lt _ _)]
/-- Where it ends, the last remainder is the message times what stands beside it. -/
theorem Euc.last {D : FD} (F : Fld D) {n k : Nat} {xs y A B S T a : Nat → Nat} {lA lB lS lT : Nat} (h : Euc D n xs y A B S T lA lB lS lT) (hk : k ≤ n) (hA : n + k + 2 ≤ 2 * lA) (hB : 2 * lB < n + k + 2) (hx : ∀ i, i < n → xs i < D.q) (hne : ∀ i j, i < n → j < n → i ≠ j → xs i ≠ xs j) (ho : 2 * ofs D k n xs y a ≤ n - k) : B = pmul D k a T := by
  obtain ⟨wr, hwr⟩ : ∃ wr, wr = (n - k) / 2 := ⟨_, rfl⟩
  have h1 : lT ≤ wr + 1 := by have := h.sum; omega
  refine key_eq F (a := a) (y := y) (M := n - wr) (wr := wr) (by omega) (by omega) hx hne h.eB (fun j hj => h.tB.1 j (by omega)) h.eT (fun j hj => h.tT.1 j (by omega)) (by omega) (fun i hi => ?_)
  exact h.atB i hi (n - wr) (by omega) (wr + 1) h1
end Go.Proofs.Ytbofcldmgjeklab

/- The program's reed: quotient, spare. -/
namespace Go.Proofs.Ytbofcldmgjeklab
open Go.RowKit Go.Sort

end Go.Proofs.Ytbofcldmgjeklab

/- A region that draws its order and whose late operations, which wait for all that read, write what others read. No Go text here. -/
namespace Go.Proofs.Ytbofcldmgjeklab
open Go

/-- Whatever order is picked from here on; S holds behind every operation but the late ones. -/
def wpAnyL (P : Program) (ops : Array Oper) (Q : Exit → Act → World → Prop) (S : World → Prop) (L : List Nat) : Nat → Array Bool → Act → World → Prop
  | 0, s, a, w => Region.ready .any ops s = [] ∧ Q .normal a w
  | f + 1, s, a, w => (Region.ready .any ops s = [] → Q .normal a w) ∧ ∀ i ∈ Region.ready .any ops s, wpOp P ops Q i (fun a' w' => (i ∉ L → S w') ∧ wpAnyL P ops Q S L f (s.setIfInBounds i true) a' w') a w
theorem wpAny_of_L {P : Program} {ops : Array Oper} {Q : Exit → Act → World → Prop} {S : World → Prop} {L : List Nat} : ∀ (f : Nat) (s : Array Bool) (a : Act) (w : World), wpAnyL P ops Q S L f s a w → wpAny P .any ops Q f s a w
  | 0, _, _, _, h => h
  | f + 1, _, _, _, h => ⟨h.1, fun i hi => wpOp_mono (fun a' w' h' => wpAny_of_L f _ a' w' h'.2) (h.2 i hi)⟩
theorem done_at {s : Array Bool} {k : Nat} (h : s.getD k false = true) : s[k]? = some true := by
  rcases Nat.lt_or_ge k s.size with h1 | h1
  · rw [Array.getElem?_eq_getElem h1]
    simp [h1] at h
    rw [h]
  · simp [Array.getElem?_eq_none h1] at h
/-- Is all done that what is done has waited for? -/
def Closed (ops : Array Oper) (s : Array Bool) : Prop := ∀ m o, ops[m]? = some o → s.getD m true = true → ∀ e ∈ o.after, Region.binds .any e = true → s[e.on]? = some true
def closedB (ops : Array Oper) (s : Array Bool) : Bool := (List.range ops.size).all fun m => !(s.getD m true) || ((ops[m]?).map fun o => o.after.all fun e => !(Region.binds .any e) || (s[e.on]? == some true)).getD true
theorem closed_of {ops : Array Oper} {s : Array Bool} (h : closedB ops s = true) : Closed ops s := by
  intro m o ho hm e he hb
  have hlt : m < ops.size := by
    rcases Nat.lt_or_ge m ops.size with h1 | h1
    · exact h1
    · rw [Array.getElem?_eq_none h1] at ho; cases ho
  have h1 := List.all_eq_true.1 h m (List.mem_range.2 hlt)
  rw [hm, ho] at h1
  have h2 : (o.after.all fun e => !(Region.binds .any e) || (s[e.on]? == some true)) = true := by simpa using h1
  have h3 := Array.all_eq_true'.1 h2 e he
  rw [hb] at h3
  simpa using h3
theorem closed_step {ops : Array Oper} {s : Array Bool} (h : Closed ops s) {j : Nat} (hj : j ∈ Region.ready .any ops s) : Closed ops (s.setIfInBounds j true) := by
  intro m o ho hm e he hb
  obtain ⟨hjun, oj, hoj, hall⟩ := mem_ready.1 hj
  have key : s[e.on]? = some true := by
    by_cases e1 : j = m
    · subst e1
      rw [ho] at hoj
      cases hoj
      exact done_at (hall e he hb)
    · rw [getD_set_ne true e1] at hm
      exact h m o ho hm e he hb
  rw [Array.getElem?_setIfInBounds]
  split
  · rename_i e2
    split
    · rfl
    · rename_i h2
      rw [← e2] at key
      rw [Array.getElem?_eq_none (by omega)] at key; cases key
  · exact key
/-- Does number j wait for number i, or for one that does? -/
def waitsT (ops : Array Oper) : Nat → Nat → Nat → Bool
  | 0, j, i => waitsB ops j i
  | n + 1, j, i => waitsB ops j i || (List.range ops.size).any fun m => waitsB ops j m && waitsT ops n m i
theorem waits_done {ops : Array Oper} {s : Array Bool} {j i : Nat} {o : Oper} (ho : ops[j]? = some o) (hall : ∀ e ∈ o.after, Region.binds .any e = true → s[e.on]? = some true) (h : waitsB ops j i = true) : s[i]? = some true := by
  unfold waitsB at h
  rw [ho] at h
  obtain ⟨e, he, hb⟩ := Array.any_eq_true'.1 (show (o.after.any fun e => Region.binds .any e && e.on == i) = true from h)
  rw [Bool.and_eq_true, beq_iff_eq] at hb
  rw [← hb.2]
  exact hall e he hb.1
theorem waitsT_done {ops : Array Oper} {s : Array Bool} (hc : Closed ops s) {i : Nat} : ∀ (n j : Nat) (o : Oper), ops[j]? = some o → (∀ e ∈ o.after, Region.binds .any e = true → s[e.on]? = some true) → waitsT ops n j i = true → s[i]? = some true
  | 0, j, o, ho, hall, h => waits_done ho hall h
  | n + 1, j, o, ho, hall, h => by
    have h : (waitsB ops j i || (List.range ops.size).any fun m => waitsB ops j m && waitsT ops n m i) = true := h
    rw [Bool.or_eq_true] at h
    rcases h with h | h
    · exact waits_done ho hall h
    · obtain ⟨m, hm, hw⟩ := List.any_eq_true.1 h
      rw [Bool.and_eq_true] at hw
      have hd := waits_done ho hall hw.1
      have hlt := List.mem_range.1 hm
      obtain ⟨om, hom⟩ : ∃ om, ops[m]? = some om := ⟨ops[m], Array.getElem?_eq_getElem hlt⟩
      refine waitsT_done hc n m om hom (hc m om hom ?_) hw.2
      simp [Array.getD_eq_getD_getElem?, hd]
/-- Do all late ones wait for number i? -/
def lateB (ops : Array Oper) (L : List Nat) (i : Nat) : Bool := L.all fun j => waitsT ops 3 j i
theorem late_not {ops : Array Oper} {L : List Nat} {i j : Nat} {s : Array Bool} (hc : Closed ops s) (h : lateB ops L i = true) (hi : s.getD i true = false) (hj : j ∈ Region.ready .any ops s) : j ∉ L := by
  intro hL
  obtain ⟨_, o, ho, hall⟩ := mem_ready.1 hj
  have h1 := waitsT_done hc 3 j o ho (fun e he hb => done_at (hall e he hb)) (List.all_eq_true.1 h j hL)
  simp [Array.getD_eq_getD_getElem?, h1] at hi
theorem wpAnyL_first {P : Program} {ops : Array Oper} {Q : Exit → Act → World → Prop} {S : World → Prop} {L : List Nat} {i : Nat} {oi : Oper} {v : Value} (hi : ops[i]? = some oi) (hsel : ∀ (j : Nat) (o : Oper) cs b, ops[j]? = some o → o.op ≠ .select cs b)
    (hQ : ∀ c a w, Q (.panic c) (a.put oi.dst v) w → Q (.panic c) a w) (hL : lateB ops L i = true) :
    ∀ (f : Nat) (s : Array Bool) (a : Act) (w : World),
      (∀ j oj, ops[j]? = some oj → j ≠ i → s.getD j true = false → (∀ e ∈ oj.after, Region.binds .any e = true → e.on ≠ i) → oi.apart ops oj = true) →
      i ∈ Region.ready .any ops s → Closed ops s → YieldsIf P ops S oi v a → S w →
      wpAnyL P ops Q S L f (s.setIfInBounds i true) (a.put oi.dst v) w → wpAnyL P ops Q S L (f + 1) s a w := by
  intro f
  induction f with
  | zero =>
    intro s a w _ hr _ hy hS H
    refine ⟨fun h => (by rw [h] at hr; cases hr), fun j hj => ?_⟩
    by_cases hji : j = i
    · subst hji; exact hy.wpOp hi hS ⟨fun _ => hS, H⟩
    · have := ready_mono hj hji
      rw [H.1] at this
      cases this
  | succ f ih =>
    intro s a w hfree hr hcl hy hS H
    refine ⟨fun h => (by rw [h] at hr; cases hr), fun j hj => ?_⟩
    by_cases hji : j = i
    · subst hji; exact hy.wpOp hi hS ⟨fun _ => hS, H⟩
    · have h1 := H.2 j (ready_mono hj hji)
      have hjL : j ∉ L := late_not hcl hL (mem_ready.1 hr).1 hj
      obtain ⟨hjun, oj, hoj, hall⟩ := mem_ready.1 hj
      have hnot : ∀ e ∈ oj.after, Region.binds .any e = true → e.on ≠ i := fun e he hb heq => by
        have h1 := hall e he hb
        have h0 := (mem_ready.1 hr).1
        rw [heq] at h1
        rcases Nat.lt_or_ge i s.size with h' | h'
        · simp [h'] at h0 h1; rw [h0] at h1; cases h1
        · simp [Array.getElem?_eq_none h'] at h1
      have h2 := wpOp_putIf hoj (hfree j oj hoj hji hjun hnot) (fun cs b => hsel i oi cs b hi) (fun cs b => hsel j oj cs b hoj) hQ hy h1
      have hfree' : ∀ k ok, ops[k]? = some ok → k ≠ i → (s.setIfInBounds j true).getD k true = false →
          (∀ e ∈ ok.after, Region.binds .any e = true → e.on ≠ i) → oi.apart ops ok = true := fun k ok hk hki hun hno => by
        refine hfree k ok hk hki ?_ hno
        by_cases hjk : j = k
        · subst hjk; exact hjun
        · rw [getD_set_ne true hjk] at hun; exact hun
      refine wpOp_mono (fun a' w' h3 => ⟨fun _ => h3.2.1 hjL, ih (s.setIfInBounds j true) a' w' hfree' (ready_mono hr (Ne.symm hji)) (closed_step hcl hj) h3.1 (h3.2.1 hjL) ?_⟩) h2
      rw [Array.setIfInBounds_comm _ _ hji]
      exact h3.2.2
/-- Take number i first. -/
theorem wpAnyL_take {P : Program} {ops : Array Oper} {Q : Exit → Act → World → Prop} {S : World → Prop} {L : List Nat} {i : Nat} {oi : Oper} {v : Value} {f : Nat} {s : Array Bool} {a : Act} {w : World} (hi : ops[i]? = some oi)
    (hs : Region.noSelect ops = true) (hf : Region.free .any ops s i = true) (hr : (Region.ready .any ops s).contains i = true) (hcl : closedB ops s = true) (hL : lateB ops L i = true)
    (hQ : ∀ c a w, Q (.panic c) (a.put oi.dst v) w → Q (.panic c) a w) (hS : S w) (hy : YieldsIf P ops S oi v a)
    (h : wpAnyL P ops Q S L f (s.setIfInBounds i true) (a.put oi.dst v) w) : wpAnyL P ops Q S L (f + 1) s a w :=
  wpAnyL_first hi (Region.noSelect_spec hs) hQ hL f s a w (Region.free_spec hi hf) (by simpa using hr) (closed_of hcl) hy hS h
/-- Number i is the only one that may come now. -/
theorem wpAnyL_one {P : Program} {ops : Array Oper} {Q : Exit → Act → World → Prop} {S : World → Prop} {L : List Nat} {i : Nat} {o : Oper} {f : Nat} {s : Array Bool} {a : Act} {w : World} (hr : Region.ready .any ops s = [i]) (ho : ops[i]? = some o)
    (h : ∀ K : Act → World → Prop, (∀ a' w', (i ∉ L → S w') → wpAnyL P ops Q S L f (s.setIfInBounds i true) a' w' → K a' w') → if Region.wanted o (yielded ops a.tmps) = true then Oper.wp P o a w K Q else K (a.put o.dst undef) w) : wpAnyL P ops Q S L (f + 1) s a w := by
  refine ⟨fun e => (by rw [hr] at e; cases e), fun j hj => ?_⟩
  rw [hr, List.mem_singleton] at hj
  subst hj
  have h1 := h (fun a' w' => (j ∉ L → S w') ∧ wpAnyL P ops Q S L f (s.setIfInBounds j true) a' w') (fun a' w' h1 h2 => ⟨h1, h2⟩)
  unfold wpOp
  simp only [ho]
  split
  · rename_i hw
    rw [if_pos hw] at h1
    exact Or.inl h1
  · rename_i hw
    rw [if_neg hw] at h1
    exact h1
theorem wpAnyL_done {P : Program} {ops : Array Oper} {Q : Exit → Act → World → Prop} {S : World → Prop} {L : List Nat} {s : Array Bool} {a : Act} {w : World} (hr : Region.ready .any ops s = []) (h : Q .normal a w) : wpAnyL P ops Q S L 0 s a w := ⟨hr, h⟩
end Go.Proofs.Ytbofcldmgjeklab

/- The program's reed: hear (printed by make/kd2.py). -/
namespace Go.Proofs.Ytbofcldmgjeklab
open Go.RowKit Go.Sort

theorem two_cell (w : World) (v : Value) : (w.alloc (.cells #[v] 3)).cell? ⟨w.heap.size, 0, none⟩ = some v := by simp
end Go.Proofs.Ytbofcldmgjeklab

/- The program's reed: noughtAt. -/
namespace Go.Proofs.Ytbofcldmgjeklab
open Go.RowKit Go.Sort

end Go.Proofs.Ytbofcldmgjeklab

/- The program's reed: byDivisors. -/
namespace Go.Proofs.Ytbofcldmgjeklab
open Go.RowKit Go.Sort

end Go.Proofs.Ytbofcldmgjeklab

/- The program's reed: the walk of byDivisors. -/
namespace Go.Proofs.Ytbofcldmgjeklab
open Go.RowKit Go.Sort

end Go.Proofs.Ytbofcldmgjeklab

/- Plain mathematics of words that are mended by equations: there is a solution where a near message is, and each solution tells it. No Go text here. -/
namespace Go.Proofs.Ytbofcldmgjeklab
open Go.RowKit Go.Sort

end Go.Proofs.Ytbofcldmgjeklab

/- Nets: which may be (net.Check, checkTo; the reference's NetMay, SinkMay). -/
namespace Go.Proofs.Ytbofcldmgjeklab
open Go.RowKit Go.Sort

/-- Edges that are handed in. -/
def EdZ (eo : Option Addr) (m : Nat) (F T : Nat → Int) (w : World) : Prop := ∀ j, j < m → ∃ b off, eo = some ⟨b, off, none⟩ ∧ w.cell? ⟨b, off + j * 2, none⟩ = some (.int .i64 (F j)) ∧ w.cell? ⟨b, off + j * 2 + 1, none⟩ = some (.int .i64 (T j))
theorem EdZ.below {eo : Option Addr} {m : Nat} {F T : Nat → Int} {w w' : World} (h : EdZ eo m F T w) (hb : Below w.heap.size w w') : EdZ eo m F T w' := fun j hj => by
  obtain ⟨b, off, e, h0, h1⟩ := h j hj
  exact ⟨b, off, e, ((bcell hb).1 b _ (cell_lt h0)).trans h0, ((bcell hb).1 b _ (cell_lt h0)).trans h1⟩
/-- A net's cells, in block b. -/
structure NB (b : Nat) (n : Int) (v : Value) (w : World) : Prop where
  c0 : w.cell? ⟨b, 0, none⟩ = some (.int .i64 n)
  c1 : w.cell? ⟨b, 1, none⟩ = some v
theorem NB.keep {b : Nat} {n : Int} {v : Value} {w w' : World} (h : NB b n v w) (hb : Below w.heap.size w w') : NB b n v w' :=
  ⟨((bcell hb).1 b 0 (cell_lt h.c0)).trans h.c0, ((bcell hb).1 b 1 (cell_lt h.c0)).trans h.c1⟩

end Go.Proofs.Ytbofcldmgjeklab

/- Nets: all elements (allOf), products (product), what is sent (Send). -/
namespace Go.Proofs.Ytbofcldmgjeklab
open Go.RowKit Go.Sort

end Go.Proofs.Ytbofcldmgjeklab

/- A range over a function whose rounds are handed memory: a law of our own over the library's steps. No Go text here. -/
namespace Go.Proofs.Ytbofcldmgjeklab
open Go.RowKit

/-- What is not one's own lies as it lay. -/
structure KpO (own : Nat → Prop) (X Y : World) : Prop where
  os : Y.os = X.os
  tape : Y.tape = X.tape
  output : Y.output = X.output
  size : X.heap.size ≤ Y.heap.size
  same : ∀ k, k < X.heap.size → ¬ own k → Y.heap[k]? = X.heap[k]?
/-- Cells, and whatever lies below B, lie as they lay. -/
structure GrC (B : Nat) (X Y : World) : Prop where
  os : Y.os = X.os
  tape : Y.tape = X.tape
  output : Y.output = X.output
  size : X.heap.size ≤ Y.heap.size
  same : ∀ k, k < X.heap.size → (k < B ∨ ∀ o, X.heap[k]? = some o → o.isCells = true) → Y.heap[k]? = X.heap[k]?
theorem GrC.of_below {B : Nat} {X Y : World} (h : Below X.heap.size X Y) : GrC B X Y := ⟨h.os, h.tape, h.output, h.size, fun k hk _ => h.block k hk⟩
theorem GrC.put {B l : Nat} {X : World} {o : Obj} (o' : Obj) (hl : B ≤ l) (h : X.heap[l]? = some o) (hc : o.isCells = false) : GrC B X (X.putObj l o') :=
  ⟨rfl, rfl, rfl, by simp, fun k hk hx => World.putObj_heap_other (fun e => by
    subst e
    rcases hx with hx | hx
    · omega
    · rw [hx o h] at hc; cases hc)⟩
theorem KpO.refl (own : Nat → Prop) (X : World) : KpO own X X := ⟨rfl, rfl, rfl, Nat.le_refl _, fun _ _ _ => rfl⟩
theorem KpO.trans {own : Nat → Prop} {X Y Z : World} (h : KpO own X Y) (k : KpO own Y Z) : KpO own X Z :=
  ⟨k.os.trans h.os, k.tape.trans h.tape, k.output.trans h.output, Nat.le_trans h.size k.size, fun i hi hn => (k.same i (Nat.lt_of_lt_of_le hi h.size) hn).trans (h.same i hi hn)⟩
theorem KpO.mono {own own' : Nat → Prop} {X Y : World} (h : KpO own X Y) (hm : ∀ k, own k → own' k) : KpO own' X Y := ⟨h.os, h.tape, h.output, h.size, fun k hk hn => h.same k hk (fun e => hn (hm k e))⟩
theorem KpO.of_below {own : Nat → Prop} {X Y : World} (h : Below X.heap.size X Y) : KpO own X Y := ⟨h.os, h.tape, h.output, h.size, fun k hk _ => h.block k hk⟩
theorem KpO.put {own : Nat → Prop} (X : World) (l : Nat) (o : Obj) (hl : own l) : KpO own X (X.putObj l o) :=
  ⟨rfl, rfl, rfl, by simp, fun _ _ hn => World.putObj_heap_other (fun e => hn (by rw [e]; exact hl))⟩
theorem KpO.setCell {own : Nat → Prop} (X : World) (a : Addr) (v : Value) (hl : own a.block) : KpO own X (X.setCell a v) :=
  ⟨rfl, rfl, rfl, by simp [World.setCell], fun k _ hn => Below.heap_setCell X a v k (fun e => hn (by rw [e]; exact hl))⟩

/-- An iterator that hands on N things: the r-th one is told by E, in the world in which it is handed on. A round may change what is the loop's own. -/
def SeqI (P : Program) (gf : Nat) (lb : Array Value) (N : Nat) (E : Nat → Array Value → World → Prop) (own : Nat → Prop) (w0 : World) : Prop :=
  ∀ (l : Nat) (J : Nat → World → Prop) (W : World), Below w0.heap.size w0 W → w0.heap.size ≤ l → l < W.heap.size →
    (∀ r X Y, J r X → Below X.heap.size X Y → J r Y) →
    (∀ r args X, r < N → J r X → E r args X → YieldAt Fence.wide 0 P l args X fun e Y => e = .returned (.bool true) ∧ J (r + 1) Y ∧ KpO (fun k => own k ∨ k = l) X Y) →
    J 0 W → CallsIn Fence.wide 0 P gf (#[.func (.yield l) #[] #[]] ++ lb) W fun e W' => (∃ v, e = .returned v) ∧ J N W'

end Go.Proofs.Ytbofcldmgjeklab
