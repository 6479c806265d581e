/- Texts of ours, one behind the other: S28 KD1 W13 KD2 KD3 KD4 KD5 KD6 KD7 KD8 KD9 S29 KD10 S31 S32 S33 KE1 KE2. -/
import Derived.Test.YtmklnjkallhphaaZK7
import Derived.Test.YtmklnjkallhphaaZU5
import Derived.Test.YtmklnjkallhphaaZT10
import Derived.Test.YtmklnjkallhphaaZZ10
import Derived.Test.YtmklnjkallhphaaZV7
import Derived.Test.YtmklnjkallhphaaZN2
import Derived.Deep.OwnRows
import Derived.Test.YtmklnjkallhphaaZW9
import Derived.Shelf.Abstract
import Derived.Test.YtmklnjkallhphaaZL1
/- Plain mathematics of Euclid's way to mend a word: what stays as it goes on; what stands at its end. No Go text here. -/
namespace Go.Proofs.Ytmklnjkallhphaa
open Go.RowKit Go.Sort

/-- What stays: A, B the last two remainders; S, T what the second polynomial is multiplied by. -/
structure Euc (D : FD) (n : Nat) (xs y : Nat → Nat) (A B S T : Nat → Nat) (lA lB lS lT : Nat) : Prop where
  eA : El D A
  eB : El D B
  eS : El D S
  eT : El D T
  tA : Trd lA A
  tB : Trd lB B
  bS : Bd lS S
  tT : Trd lT T
  lt : lB < lA
  ls : lS < lT
  sum : lT + lA = n + 2
  atA : ∀ i, i < n → ∀ N, lA ≤ N → ∀ M, lS ≤ M → D.ev A (xs i) N = D.mul (y i) (D.ev S (xs i) M)
  atB : ∀ i, i < n → ∀ N, lB ≤ N → ∀ M, lT ≤ M → D.ev B (xs i) N = D.mul (y i) (D.ev T (xs i) M)
/-- One step further: A = Q B + C. -/
theorem Euc.step {D : FD} (F : Fld D) {n : Nat} {xs y A B S T Q C : Nat → Nat} {lA lB lS lT lQ lC : Nat} (h : Euc D n xs y A B S T lA lB lS lT) (tQ : Trd lQ Q) (eC : El D C) (tC : Trd lC C) (hC : lC < lB) (hA : A = padd D (pmul D lQ Q B) C) (hl : lQ + lB = lA + 1) :
    Euc D n xs y B C T (psub D S (pmul D lQ Q T)) lB lC lT (lQ + lT - 1) := by
  have hq2 : 2 ≤ lQ := by have := h.lt; omega
  have hT1 : 1 ≤ lT := by have := h.ls; omega
  have hbQT : Bd (lQ + lT - 1) (pmul D lQ Q T) := pmul_bd F h.tT.1 lQ
  have htop : pmul D lQ Q T (lQ + lT - 2) ≠ 0 := by
    obtain ⟨q1, rfl⟩ : ∃ q1, lQ = q1 + 1 := ⟨lQ - 1, by omega⟩
    obtain ⟨t1, rfl⟩ : ∃ t1, lT = t1 + 1 := ⟨lT - 1, by omega⟩
    have e := pmul_top F (a := Q) (n := q1) h.tT.1
    rw [show q1 + 1 + (t1 + 1) - 2 = q1 + t1 by omega, e]
    intro hz
    have hQ1 : Q q1 ≠ 0 := by have := tQ.2 (by omega); rwa [Nat.add_sub_cancel] at this
    have hT2 : T t1 ≠ 0 := by have := h.tT.2 (by omega); rwa [Nat.add_sub_cancel] at this
    exact hT2 (mul_cancel F hQ1 (h.eT _) (zero_lt' F) (by rw [hz, mul0 F]))
  have hS0 : ∀ j, lT ≤ j → S j = 0 := fun j hj => h.bS j (by have := h.ls; omega)
  refine ⟨h.eB, eC, h.eT, el_sub F h.eS (el_mul F _ _ _), h.tB, tC, h.tT.1, ⟨fun j hj => ?_, fun _ => ?_⟩, hC, by omega, by have := h.sum; omega, h.atB, fun i hi N hN M hM => ?_⟩
  · show D.sb (S j) (pmul D lQ Q T j) = 0
    rw [hS0 j (by omega), hbQT j hj, sb_self F (zero_lt' F)]
  · show D.sb (S (lQ + lT - 1 - 1)) (pmul D lQ Q T (lQ + lT - 1 - 1)) ≠ 0
    rw [hS0 _ (by omega), show lQ + lT - 1 - 1 = lQ + lT - 2 by omega]
    intro hz
    exact htop (sb_eq_zero F (zero_lt' F) (el_mul F _ _ _ _) hz).symm
  · -- at a place
    have hbB : Bd (lQ + lB - 1) (pmul D lQ Q B) := pmul_bd F h.tB.1 lQ
    have e1 : D.ev A (xs i) (lQ + lB) = D.ad (D.mul (D.ev Q (xs i) lQ) (D.ev B (xs i) lB)) (D.ev C (xs i) (lQ + lB)) := by
      rw [hA, ev_add F (xs i) (el_mul F _ _ _) eC, ev_mul F (xs i) h.tB.1 h.eB lQ (lQ + lB) (Nat.le_refl _)]
    have e2 := h.atA i hi (lQ + lB) (by omega) lT (by have := h.ls; omega)
    have e3 := h.atB i hi lB (Nat.le_refl _) lT (Nat.le_refl _)
    have e4 : D.ev C (xs i) N = D.ev C (xs i) (lQ + lB) := by
      rw [ev_from F (xs i) tC.1 hN, ev_from F (xs i) tC.1 (show lC ≤ lQ + lB by omega)]
    have hbT' : Bd (lQ + lT - 1) (psub D S (pmul D lQ Q T)) := fun j hj => by
      show D.sb (S j) (pmul D lQ Q T j) = 0
      rw [hS0 j (by omega), hbQT j hj, sb_self F (zero_lt' F)]
    have e5 : D.ev (psub D S (pmul D lQ Q T)) (xs i) M = D.sb (D.ev S (xs i) lT) (D.mul (D.ev Q (xs i) lQ) (D.ev T (xs i) lT)) := by
      rw [ev_from F (xs i) hbT' hM, ← ev_from F (xs i) hbT' (show lQ + lT - 1 ≤ lQ + lT by omega), ev_sub F (xs i) h.eS (el_mul F _ _ _), ev_mul F (xs i) h.tT.1 h.eT lQ (lQ + lT) (Nat.le_refl _), ev_from F (xs i) h.bS (show lS ≤ lQ + lT by have := h.ls; omega), ev_from F (xs i) h.bS (show lS ≤ lT by have := h.ls; omega)]
    have hS := ev_lt F S (xs i) lT
    have hQT := F.mul_lt (D.ev Q (xs i) lQ) (D.ev T (xs i) lT)
    have hCv := ev_lt F C (xs i) (lQ + lB)
    rw [e4, e5, mul_sb F hS hQT]
    -- C = A - Q B
    have e6 : D.ad (D.mul (D.ev Q (xs i) lQ) (D.mul (y i) (D.ev T (xs i) lT))) (D.ev C (xs i) (lQ + lB)) = D.mul (y i) (D.ev S (xs i) lT) := by
      rw [← e3, ← e1, e2]
    have e7 : D.mul (y i) (D.mul (D.ev Q (xs i) lQ) (D.ev T (xs i) lT)) = D.mul (D.ev Q (xs i) lQ) (D.mul (y i) (D.ev T (xs i) lT)) := by
      rw [← F.mul_assoc, F.mul_comm (y i), F.mul_assoc]
    rw [e7, ← e6, ad_comm F, sb_ad F hCv (F.mul_lt _ _)]
/-- Where it ends, the last remainder is the message times what stands beside it. -/
theorem Euc.last {D : FD} (F : Fld D) {n k : Nat} {xs y A B S T a : Nat → Nat} {lA lB lS lT : Nat} (h : Euc D n xs y A B S T lA lB lS lT) (hk : k ≤ n) (hA : n + k + 2 ≤ 2 * lA) (hB : 2 * lB < n + k + 2) (hx : ∀ i, i < n → xs i < D.q) (hne : ∀ i j, i < n → j < n → i ≠ j → xs i ≠ xs j) (ho : 2 * ofs D k n xs y a ≤ n - k) : B = pmul D k a T := by
  obtain ⟨wr, hwr⟩ : ∃ wr, wr = (n - k) / 2 := ⟨_, rfl⟩
  have h1 : lT ≤ wr + 1 := by have := h.sum; omega
  refine key_eq F (a := a) (y := y) (M := n - wr) (wr := wr) (by omega) (by omega) hx hne h.eB (fun j hj => h.tB.1 j (by omega)) h.eT (fun j hj => h.tT.1 j (by omega)) (by omega) (fun i hi => ?_)
  exact h.atB i hi (n - wr) (by omega) (wr + 1) h1
end Go.Proofs.Ytmklnjkallhphaa

/- The program's reed: quotient, spare. -/
namespace Go.Proofs.Ytmklnjkallhphaa
open Go.RowKit Go.Sort

end Go.Proofs.Ytmklnjkallhphaa

/- A region that draws its order and whose late operations, which wait for all that read, write what others read. No Go text here. -/
namespace Go.Proofs.Ytmklnjkallhphaa
open Go

/-- Whatever order is picked from here on; S holds behind every operation but the late ones. -/
def wpAnyL (P : Program) (ops : Array Oper) (Q : Exit → Act → World → Prop) (S : World → Prop) (L : List Nat) : Nat → Array Bool → Act → World → Prop
  | 0, s, a, w => Region.ready .any ops s = [] ∧ Q .normal a w
  | f + 1, s, a, w => (Region.ready .any ops s = [] → Q .normal a w) ∧ ∀ i ∈ Region.ready .any ops s, wpOp P ops Q i (fun a' w' => (i ∉ L → S w') ∧ wpAnyL P ops Q S L f (s.setIfInBounds i true) a' w') a w
theorem wpAny_of_L {P : Program} {ops : Array Oper} {Q : Exit → Act → World → Prop} {S : World → Prop} {L : List Nat} : ∀ (f : Nat) (s : Array Bool) (a : Act) (w : World), wpAnyL P ops Q S L f s a w → wpAny P .any ops Q f s a w
  | 0, _, _, _, h => h
  | f + 1, _, _, _, h => ⟨h.1, fun i hi => wpOp_mono (fun a' w' h' => wpAny_of_L f _ a' w' h'.2) (h.2 i hi)⟩
theorem done_at {s : Array Bool} {k : Nat} (h : s.getD k false = true) : s[k]? = some true := by
  rcases Nat.lt_or_ge k s.size with h1 | h1
  · rw [Array.getElem?_eq_getElem h1]
    simp [h1] at h
    rw [h]
  · simp [Array.getElem?_eq_none h1] at h
/-- Is all done that what is done has waited for? -/
def Closed (ops : Array Oper) (s : Array Bool) : Prop := ∀ m o, ops[m]? = some o → s.getD m true = true → ∀ e ∈ o.after, Region.binds .any e = true → s[e.on]? = some true
def closedB (ops : Array Oper) (s : Array Bool) : Bool := (List.range ops.size).all fun m => !(s.getD m true) || ((ops[m]?).map fun o => o.after.all fun e => !(Region.binds .any e) || (s[e.on]? == some true)).getD true
theorem closed_of {ops : Array Oper} {s : Array Bool} (h : closedB ops s = true) : Closed ops s := by
  intro m o ho hm e he hb
  have hlt : m < ops.size := by
    rcases Nat.lt_or_ge m ops.size with h1 | h1
    · exact h1
    · rw [Array.getElem?_eq_none h1] at ho; cases ho
  have h1 := List.all_eq_true.1 h m (List.mem_range.2 hlt)
  rw [hm, ho] at h1
  have h2 : (o.after.all fun e => !(Region.binds .any e) || (s[e.on]? == some true)) = true := by simpa using h1
  have h3 := Array.all_eq_true'.1 h2 e he
  rw [hb] at h3
  simpa using h3
theorem closed_step {ops : Array Oper} {s : Array Bool} (h : Closed ops s) {j : Nat} (hj : j ∈ Region.ready .any ops s) : Closed ops (s.setIfInBounds j true) := by
  intro m o ho hm e he hb
  obtain ⟨hjun, oj, hoj, hall⟩ := mem_ready.1 hj
  have key : s[e.on]? = some true := by
    by_cases e1 : j = m
    · subst e1
      rw [ho] at hoj
      cases hoj
      exact done_at (hall e he hb)
    · rw [getD_set_ne true e1] at hm
      exact h m o ho hm e he hb
  rw [Array.getElem?_setIfInBounds]
  split
  · rename_i e2
    split
    · rfl
    · rename_i h2
      rw [← e2] at key
      rw [Array.getElem?_eq_none (by omega)] at key; cases key
  · exact key
/-- Does number j wait for number i, or for one that does? -/
def waitsT (ops : Array Oper) : Nat → Nat → Nat → Bool
  | 0, j, i => waitsB ops j i
  | n + 1, j, i => waitsB ops j i || (List.range ops.size).any fun m => waitsB ops j m && waitsT ops n m i
theorem waits_done {ops : Array Oper} {s : Array Bool} {j i : Nat} {o : Oper} (ho : ops[j]? = some o) (hall : ∀ e ∈ o.after, Region.binds .any e = true → s[e.on]? = some true) (h : waitsB ops j i = true) : s[i]? = some true := by
  unfold waitsB at h
  rw [ho] at h
  obtain ⟨e, he, hb⟩ := Array.any_eq_true'.1 (show (o.after.any fun e => Region.binds .any e && e.on == i) = true from h)
  rw [Bool.and_eq_true, beq_iff_eq] at hb
  rw [← hb.2]
  exact hall e he hb.1
theorem waitsT_done {ops : Array Oper} {s : Array Bool} (hc : Closed ops s) {i : Nat} : ∀ (n j : Nat) (o : Oper), ops[j]? = some o → (∀ e ∈ o.after, Region.binds .any e = true → s[e.on]? = some true) → waitsT ops n j i = true → s[i]? = some true
  | 0, j, o, ho, hall, h => waits_done ho hall h
  | n + 1, j, o, ho, hall, h => by
    have h : (waitsB ops j i || (List.range ops.size).any fun m => waitsB ops j m && waitsT ops n m i) = true := h
    rw [Bool.or_eq_true] at h
    rcases h with h | h
    · exact waits_done ho hall h
    · obtain ⟨m, hm, hw⟩ := List.any_eq_true.1 h
      rw [Bool.and_eq_true] at hw
      have hd := waits_done ho hall hw.1
      have hlt := List.mem_range.1 hm
      obtain ⟨om, hom⟩ : ∃ om, ops[m]? = some om := ⟨ops[m], Array.getElem?_eq_getElem hlt⟩
      refine waitsT_done hc n m om hom (hc m om hom ?_) hw.2
      simp [Array.getD_eq_getD_getElem?, hd]
/-- Do all late ones wait for number i? -/
def lateB (ops : Array Oper) (L : List Nat) (i : Nat) : Bool := L.all fun j => waitsT ops 3 j i
theorem late_not {ops : Array Oper} {L : List Nat} {i j : Nat} {s : Array Bool} (hc : Closed ops s) (h : lateB ops L i = true) (hi : s.getD i true = false) (hj : j ∈ Region.ready .any ops s) : j ∉ L := by
  intro hL
  obtain ⟨_, o, ho, hall⟩ := mem_ready.1 hj
  have h1 := waitsT_done hc 3 j o ho (fun e he hb => done_at (hall e he hb)) (List.all_eq_true.1 h j hL)
  simp [Array.getD_eq_getD_getElem?, h1] at hi
theorem wpAnyL_first {P : Program} {ops : Array Oper} {Q : Exit → Act → World → Prop} {S : World → Prop} {L : List Nat} {i : Nat} {oi : Oper} {v : Value} (hi : ops[i]? = some oi) (hsel : ∀ (j : Nat) (o : Oper) cs b, ops[j]? = some o → o.op ≠ .select cs b)
    (hQ : ∀ c a w, Q (.panic c) (a.put oi.dst v) w → Q (.panic c) a w) (hL : lateB ops L i = true) :
    ∀ (f : Nat) (s : Array Bool) (a : Act) (w : World),
      (∀ j oj, ops[j]? = some oj → j ≠ i → s.getD j true = false → (∀ e ∈ oj.after, Region.binds .any e = true → e.on ≠ i) → oi.apart ops oj = true) →
      i ∈ Region.ready .any ops s → Closed ops s → YieldsIf P ops S oi v a → S w →
      wpAnyL P ops Q S L f (s.setIfInBounds i true) (a.put oi.dst v) w → wpAnyL P ops Q S L (f + 1) s a w := by
  intro f
  induction f with
  | zero =>
    intro s a w _ hr _ hy hS H
    refine ⟨fun h => (by rw [h] at hr; cases hr), fun j hj => ?_⟩
    by_cases hji : j = i
    · subst hji; exact hy.wpOp hi hS ⟨fun _ => hS, H⟩
    · have := ready_mono hj hji
      rw [H.1] at this
      cases this
  | succ f ih =>
    intro s a w hfree hr hcl hy hS H
    refine ⟨fun h => (by rw [h] at hr; cases hr), fun j hj => ?_⟩
    by_cases hji : j = i
    · subst hji; exact hy.wpOp hi hS ⟨fun _ => hS, H⟩
    · have h1 := H.2 j (ready_mono hj hji)
      have hjL : j ∉ L := late_not hcl hL (mem_ready.1 hr).1 hj
      obtain ⟨hjun, oj, hoj, hall⟩ := mem_ready.1 hj
      have hnot : ∀ e ∈ oj.after, Region.binds .any e = true → e.on ≠ i := fun e he hb heq => by
        have h1 := hall e he hb
        have h0 := (mem_ready.1 hr).1
        rw [heq] at h1
        rcases Nat.lt_or_ge i s.size with h' | h'
        · simp [h'] at h0 h1; rw [h0] at h1; cases h1
        · simp [Array.getElem?_eq_none h'] at h1
      have h2 := wpOp_putIf hoj (hfree j oj hoj hji hjun hnot) (fun cs b => hsel i oi cs b hi) (fun cs b => hsel j oj cs b hoj) hQ hy h1
      have hfree' : ∀ k ok, ops[k]? = some ok → k ≠ i → (s.setIfInBounds j true).getD k true = false →
          (∀ e ∈ ok.after, Region.binds .any e = true → e.on ≠ i) → oi.apart ops ok = true := fun k ok hk hki hun hno => by
        refine hfree k ok hk hki ?_ hno
        by_cases hjk : j = k
        · subst hjk; exact hjun
        · rw [getD_set_ne true hjk] at hun; exact hun
      refine wpOp_mono (fun a' w' h3 => ⟨fun _ => h3.2.1 hjL, ih (s.setIfInBounds j true) a' w' hfree' (ready_mono hr (Ne.symm hji)) (closed_step hcl hj) h3.1 (h3.2.1 hjL) ?_⟩) h2
      rw [Array.setIfInBounds_comm _ _ hji]
      exact h3.2.2
/-- Take number i first. -/
theorem wpAnyL_take {P : Program} {ops : Array Oper} {Q : Exit → Act → World → Prop} {S : World → Prop} {L : List Nat} {i : Nat} {oi : Oper} {v : Value} {f : Nat} {s : Array Bool} {a : Act} {w : World} (hi : ops[i]? = some oi)
    (hs : Region.noSelect ops = true) (hf : Region.free .any ops s i = true) (hr : (Region.ready .any ops s).contains i = true) (hcl : closedB ops s = true) (hL : lateB ops L i = true)
    (hQ : ∀ c a w, Q (.panic c) (a.put oi.dst v) w → Q (.panic c) a w) (hS : S w) (hy : YieldsIf P ops S oi v a)
    (h : wpAnyL P ops Q S L f (s.setIfInBounds i true) (a.put oi.dst v) w) : wpAnyL P ops Q S L (f + 1) s a w :=
  wpAnyL_first hi (Region.noSelect_spec hs) hQ hL f s a w (Region.free_spec hi hf) (by simpa using hr) (closed_of hcl) hy hS h
/-- Number i is the only one that may come now. -/
theorem wpAnyL_one {P : Program} {ops : Array Oper} {Q : Exit → Act → World → Prop} {S : World → Prop} {L : List Nat} {i : Nat} {o : Oper} {f : Nat} {s : Array Bool} {a : Act} {w : World} (hr : Region.ready .any ops s = [i]) (ho : ops[i]? = some o)
    (h : ∀ K : Act → World → Prop, (∀ a' w', (i ∉ L → S w') → wpAnyL P ops Q S L f (s.setIfInBounds i true) a' w' → K a' w') → if Region.wanted o (yielded ops a.tmps) = true then Oper.wp P o a w K Q else K (a.put o.dst undef) w) : wpAnyL P ops Q S L (f + 1) s a w := by
  refine ⟨fun e => (by rw [hr] at e; cases e), fun j hj => ?_⟩
  rw [hr, List.mem_singleton] at hj
  subst hj
  have h1 := h (fun a' w' => (j ∉ L → S w') ∧ wpAnyL P ops Q S L f (s.setIfInBounds j true) a' w') (fun a' w' h1 h2 => ⟨h1, h2⟩)
  unfold wpOp
  simp only [ho]
  split
  · rename_i hw
    rw [if_pos hw] at h1
    exact Or.inl h1
  · rename_i hw
    rw [if_neg hw] at h1
    exact h1
theorem wpAnyL_done {P : Program} {ops : Array Oper} {Q : Exit → Act → World → Prop} {S : World → Prop} {L : List Nat} {s : Array Bool} {a : Act} {w : World} (hr : Region.ready .any ops s = []) (h : Q .normal a w) : wpAnyL P ops Q S L 0 s a w := ⟨hr, h⟩
theorem wp_region_L {P : Program} {ops : Array Oper} {Q : Exit → Act → World → Prop} {S : World → Prop} (L : List Nat) {id : Nat} {a : Act} {w : World} (hm : P.follows .mixedOrders = true)
    (h : wpAnyL P ops Q S L ops.size (Array.replicate ops.size false) a w.drew) : (Code.region id ops true).wp P Q a w :=
  wp_region_any hm (wpAny_of_L _ _ _ _ h)
/-- One of two may come now. -/
theorem wpAnyL_two {P : Program} {ops : Array Oper} {Q : Exit → Act → World → Prop} {S : World → Prop} {L : List Nat} {i k : Nat} {o o' : Oper} {f : Nat} {s : Array Bool} {a : Act} {w : World} (hr : Region.ready .any ops s = [i, k]) (ho : ops[i]? = some o) (ho' : ops[k]? = some o')
    (h : ∀ K : Act → World → Prop, (∀ a' w', (i ∉ L → S w') → wpAnyL P ops Q S L f (s.setIfInBounds i true) a' w' → K a' w') → if Region.wanted o (yielded ops a.tmps) = true then Oper.wp P o a w K Q else K (a.put o.dst undef) w)
    (h' : ∀ K : Act → World → Prop, (∀ a' w', (k ∉ L → S w') → wpAnyL P ops Q S L f (s.setIfInBounds k true) a' w' → K a' w') → if Region.wanted o' (yielded ops a.tmps) = true then Oper.wp P o' a w K Q else K (a.put o'.dst undef) w) : wpAnyL P ops Q S L (f + 1) s a w := by
  refine ⟨fun e => (by rw [hr] at e; cases e), fun j hj => ?_⟩
  rw [hr, List.mem_cons, List.mem_singleton] at hj
  rcases hj with hj | hj
  · subst hj
    have h1 := h (fun a' w' => (j ∉ L → S w') ∧ wpAnyL P ops Q S L f (s.setIfInBounds j true) a' w') (fun a' w' h1 h2 => ⟨h1, h2⟩)
    unfold wpOp
    simp only [ho]
    split
    · rename_i hw
      rw [if_pos hw] at h1
      exact Or.inl h1
    · rename_i hw
      rw [if_neg hw] at h1
      exact h1
  · subst hj
    have h1 := h' (fun a' w' => (j ∉ L → S w') ∧ wpAnyL P ops Q S L f (s.setIfInBounds j true) a' w') (fun a' w' h1 h2 => ⟨h1, h2⟩)
    unfold wpOp
    simp only [ho']
    split
    · rename_i hw
      rw [if_pos hw] at h1
      exact Or.inl h1
    · rename_i hw
      rw [if_neg hw] at h1
      exact h1
end Go.Proofs.Ytmklnjkallhphaa

/- The program's reed: hear (printed by make/kd2.py). -/
namespace Go.Proofs.Ytmklnjkallhphaa
open Go.RowKit Go.Sort

/-- What a step of hear reads. -/
def hrR (B bx ox i : Nat) (vx vy : Value) (x : Int) (w : World) : Prop := w.cell? ⟨B, 2, none⟩ = some vx ∧ w.cell? ⟨B, 3, none⟩ = some vy ∧ w.cell? ⟨bx, ox + i, none⟩ = some (.int .i64 x)
/-- The numbers of a list at places where nothing is lost. -/
def hrL (z y : Nat → Int) : Nat → List Int
  | 0 => []
  | r + 1 => if y r = -1 then hrL z y r else hrL z y r ++ [z r]
/-- The cells of what was heard. -/
def hbx (F : Nat) (k : Int) (vx vy : Value) : Nat → Value := fun j => if j = 0 then .pointer (some ⟨F, 0, none⟩) else if j = 1 then .int .i64 k else if j = 2 then vx else vy
end Go.Proofs.Ytmklnjkallhphaa

/- The program's reed: noughtAt. -/
namespace Go.Proofs.Ytmklnjkallhphaa
open Go.RowKit Go.Sort

end Go.Proofs.Ytmklnjkallhphaa

/- The program's reed: byDivisors. -/
namespace Go.Proofs.Ytmklnjkallhphaa
open Go.RowKit Go.Sort

end Go.Proofs.Ytmklnjkallhphaa

/- The program's reed: the walk of byDivisors. -/
namespace Go.Proofs.Ytmklnjkallhphaa
open Go.RowKit Go.Sort

end Go.Proofs.Ytmklnjkallhphaa

/- The program's reed: equation (the row of one place). -/
namespace Go.Proofs.Ytmklnjkallhphaa
open Go.RowKit Go.Sort

end Go.Proofs.Ytmklnjkallhphaa

/- What was heard of a word: numbers and places, as functions. -/
namespace Go.Proofs.Ytmklnjkallhphaa
open Go.RowKit Go.Sort

/-- What hear tells, as functions. -/
structure Heard (D : FD) (n : Nat) (c : Nat → Nat) (y : Nat → Int) (m : Nat) (c' y' : Nat → Nat) : Prop where
  lx : hrL (fun i => ((c i : Nat) : Int)) y n = zl m fun j => ((c' j : Nat) : Int)
  ly : hrL y y n = zl m fun j => ((y' j : Nat) : Int)
  le : m ≤ n
  cq : ∀ j, j < m → c' j < D.q
  ne : ∀ i j, i < m → j < m → i ≠ j → c' i ≠ c' j
  yq : ∀ j, j < m → y' j < D.q
  many : m = ct (fun i => !decide (y i = -1)) n
  ofs : ∀ k a, ofs D k m c' y' a = ct (fun i => !decide (y i = -1) && !decide (((D.ev a (c i) k : Nat) : Int) = y i)) n
end Go.Proofs.Ytmklnjkallhphaa

/- The program's reed: mend (printed by make/kd8.py). -/
namespace Go.Proofs.Ytmklnjkallhphaa
open Go.RowKit Go.Sort

/-- A message is near what was heard. -/
def NearH (D : FD) (m k : Nat) (c y a : Nat → Nat) : Prop := El D a ∧ Bd k a ∧ k ≤ m ∧ 2 * ofs D k m c y a ≤ m - k
end Go.Proofs.Ytmklnjkallhphaa

/- The program's reed: Euclid. -/
namespace Go.Proofs.Ytmklnjkallhphaa
open Go.RowKit Go.Sort

/-- Two near messages are one. -/
theorem NearH.one {D : FD} (hD : D ∈ fieldsL) {n m k : Nat} {c c' y' a b : Nat → Nat} {y : Nat → Int} (hH : Heard D n c y m c' y') (ha : NearH D m k c' y' a) (hb : NearH D m k c' y' b) : a = b :=
  Go.Proofs.Ytmklnjkallhphaa.near_one (fld hD) ha.2.2.1 hH.cq hH.ne ha.1 hb.1 ha.2.1 hb.2.1 ha.2.2.2 hb.2.2.2
end Go.Proofs.Ytmklnjkallhphaa

/- Plain mathematics of words that are mended by equations: there is a solution where a near message is, and each solution tells it. No Go text here. -/
namespace Go.Proofs.Ytmklnjkallhphaa
open Go.RowKit Go.Sort

end Go.Proofs.Ytmklnjkallhphaa

/- Steps of a region that draws its order: rows that are made; an append that makes a new block, since none of the old one is left. -/
namespace Go.Proofs.Ytmklnjkallhphaa
open Go.RowKit Go.Sort

theorem step_make_int {ops : Array Oper} {o : Oper} {a : Act} {w : World} {K : Act → World → Prop} {Q : Exit → Act → World → Prop} {E : Prop} (hgd : o.guard = none) (l c : Operand) (hop : o.op = Op.makeSlice 22 l c) (n : Nat) (hl : a.eval l = .int .i64 (n : Int)) (hc : a.eval c = .int .i64 (n : Int)) (hn : n ≤ 1000000)
    (h : ∀ w', Row w.heap.size n pnil w' → Below w.heap.size w w' → w'.heap.size = w.heap.size + 1 → K (a.put o.dst (.slice (some ⟨w.heap.size, 0, none⟩) n n)) w') : if Region.wanted o (yielded ops a.tmps) = true then Oper.wp Try.prog o a w K Q else E := by
  have hw : Region.wanted o (yielded ops a.tmps) = true := by simp [Region.wanted, hgd]
  rw [if_pos hw]
  obtain ⟨i0, hi, hz0, hz1, hz2⟩ := info_parts Try.infoInt
  have hrun := run_make_row (P := Try.prog) 22 3 i0 (.int .i64 0) Try.underlying22 hi hz0 hz1 rfl .i64 .i64 n (by rw [hz2]; omega) (by omega) w
  unfold Oper.wp
  simp [execOp, hop, hl, hc, hrun, Result.andThen]
  refine h _ ⟨n, fun _ => .int .i64 0, ⟨_, two_new _, ?_, fun o ho => ?_⟩, Nat.le_refl _, fun _ _ => rfl⟩ ((Below.refl _ _).alloc (Nat.le_refl _) _) (by simp)
  · simp [madeCells]
  · simp [madeCells, ho, Nat.mod_one]
end Go.Proofs.Ytmklnjkallhphaa

/- Plain mathematics of codes of few checks: what a round of peeling fills in, check by check from the first on or from the last on; rounds come to an end. No Go text here. -/
namespace Go.Proofs.Ytmklnjkallhphaa
open Go.RowKit Go.Sort

/-- What one check fills in: a place and its bit, or nothing. -/
abbrev Fil := Nat → Option (Nat × Int)
/-- From the first check on: a place that is lost still is filled in. -/
def flP (pr : Fil) (y : Nat → Int) : Nat → Nat → Int
  | 0 => y
  | i + 1 => match pr i with
    | some x => if flP pr y i x.1 = -1 then fun p => if p = x.1 then x.2 else flP pr y i p else flP pr y i
    | none => flP pr y i
end Go.Proofs.Ytmklnjkallhphaa

/- Plain mathematics of codes of few checks: which checks may be; which places of a check are lost; sums modulo 2; which bits stand in the most odd checks. No Go text here. -/
namespace Go.Proofs.Ytmklnjkallhphaa
open Go.RowKit Go.Sort

/-- Those of the first numbers for which something holds. -/
def selZ (p : Int → Bool) (z : Nat → Int) : Nat → List Int
  | 0 => []
  | m + 1 => if p (z m) = true then selZ p z m ++ [z m] else selZ p z m
/-- What is said of the first places of one check. -/
def crow (n : Int) (z : Nat → Int) : Nat → Int
  | 0 => 0
  | m + 1 => if crow n z m ≠ 0 then crow n z m else if z m < 0 ∨ n ≤ z m then 10 else if 0 < m ∧ z m ≤ z (m - 1) then 3 else 0
/-- Which places of a check are lost. -/
def losts (y z : Nat → Int) (m : Nat) : List Int := selZ (fun x => decide (y x.toNat = -1)) z m
/-- The sum of a check's bits, modulo 2. -/
def par (y z : Nat → Int) (m : Nat) : Nat := (selZ (fun x => decide (y x.toNat = 1)) z m).length % 2
/-- What a check fills in. -/
def pfil (N : Nat → Nat) (Z : Nat → Nat → Int) (y : Nat → Int) : Fil := fun i => match losts y (Z i) (N i) with
  | [x] => some (x.toNat, ((par y (Z i) (N i) : Nat) : Int))
  | _ => none
/-- A round of peeling. -/
def pround (m : Nat) (N : Nat → Nat) (Z : Nat → Nat → Int) (y : Nat → Int) : Nat → Int := flP (pfil N Z y) y m
def prounds (m : Nat) (N : Nat → Nat) (Z : Nat → Nat → Int) (y : Nat → Int) : Nat → Nat → Int
  | 0 => y
  | k + 1 => pround m N Z (prounds m N Z y k)
end Go.Proofs.Ytmklnjkallhphaa

/- Plain mathematics of codes of few checks: which bits stand in the most odd checks; rounds of turning. No Go text here. -/
namespace Go.Proofs.Ytmklnjkallhphaa
open Go.RowKit Go.Sort

/-- The greatest of the first numbers. -/
def mxv (f : Nat → Nat) : Nat → Nat
  | 0 => 0
  | n + 1 => max (mxv f n) (f n)
/-- How often a place stands among the first numbers of a check. -/
def ofc (z : Nat → Int) (m p : Nat) : Nat := ct (fun j => decide ((z j).toNat = p)) m
/-- .. of the first checks that are odd. -/
def oft (N : Nat → Nat) (Z : Nat → Nat → Int) (y : Nat → Int) (p : Nat) : Nat → Nat
  | 0 => 0
  | i + 1 => oft N Z y p i + if par y (Z i) (N i) = 1 then ofc (Z i) (N i) p else 0
/-- Which checks are odd. -/
def odds (N : Nat → Nat) (Z : Nat → Nat → Int) (y : Nat → Int) : Nat → List Nat
  | 0 => []
  | i + 1 => if par y (Z i) (N i) = 1 then odds N Z y i ++ [i] else odds N Z y i
/-- A round of turning. -/
def tround (n m : Nat) (N : Nat → Nat) (Z : Nat → Nat → Int) (y : Nat → Int) : Nat → Int := fun p => if p < n ∧ oft N Z y p m = mxv (fun p => oft N Z y p m) n then 1 - y p else y p
def trounds (n m : Nat) (N : Nat → Nat) (Z : Nat → Nat → Int) (y : Nat → Int) : Nat → Nat → Int
  | 0 => y
  | r + 1 => tround n m N Z (trounds n m N Z y r)
/-- Where it ends: after r rounds. -/
def Tend (n m : Nat) (N : Nat → Nat) (Z : Nat → Nat → Int) (y : Nat → Int) (most r : Nat) : Prop := r ≤ most ∧ (∀ j, j < r → odds N Z (trounds n m N Z y j) m ≠ []) ∧ (odds N Z (trounds n m N Z y r) m = [] ∨ r = most)
end Go.Proofs.Ytmklnjkallhphaa

/- Codes of few checks: which checks may be (the program's Check, the reference's ChecksMay). -/
namespace Go.Proofs.Ytmklnjkallhphaa
open Go.RowKit Go.Sort

end Go.Proofs.Ytmklnjkallhphaa

/- Codes of few checks: those places of a check for which something holds (those); the sum of its bits (sum). -/
namespace Go.Proofs.Ytmklnjkallhphaa
open Go.RowKit Go.Sort

end Go.Proofs.Ytmklnjkallhphaa
