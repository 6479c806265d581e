/- Texts of ours, one behind the other: S24 S25 S27 S28 KD1 W13 KD2 KD3 KD4 KD5 KD6 KD7 KD8 KD9 S29 KD10 S31 S32 S33 KE1 KE2 KE3 KE4 KE5 S34 KH1 KH2 KI1 KI2 KI3 KI4 W14. -/
import Derived.Test.YtppggchhkckobaaGreatZS11
import Derived.Test.YtppggchhkckobaaGreatZI25
import Derived.Test.YtppggchhkckobaaGreatZX18
import Derived.Test.YtppggchhkckobaaGreatZG2
import Derived.Test.YtppggchhkckobaaGreatZI18
import Derived.Test.YtppggchhkckobaaGreatZU10
import Derived.Test.YtppggchhkckobaaGreatZV7
import Derived.Test.YtppggchhkckobaaGreatZU4
import Derived.Deep.OwnRows
import Derived.Test.YtppggchhkckobaaGreatZS2
import Derived.Shelf.Abstract
import Derived.Test.YtppggchhkckobaaGreatZL1
import Derived.Test.YtppggchhkckobaaGreatZA1
import Derived.Test.YtppggchhkckobaaGreatZL10
import Derived.Test.YtppggchhkckobaaGreatZR5
import Derived.RangeFuncNested
import Derived.RangeFuncBound
import Derived.RangeFuncCalls
import Derived.RangeFuncLeaves
import Derived.WalkKit
/- Plain mathematics of Sudan's sum: a message that agrees at many places makes it nought. No Go text here. -/
namespace Go.Proofs.YtppggchhkckobaaGreat
open Go.RowKit Go.Sort

theorem pw_xp {D : FD} (hD : D ∈ fieldsL) {a : Nat} (h0 : a ≠ 0) : ∀ k, D.pw a k = D.xp a k
  | 0 => pw_zero hD a
  | k + 1 => by
    show _ = D.mul (D.xp a k) a
    rw [← pw_xp hD h0 k, pw_succ hD a k h0]
theorem pn_xp {D : FD} (hD : D ∈ fieldsL) {a : Nat} (ha : a < D.q) (k : Nat) : D.pn a k = D.xp a k := by
  have hh : D.has (a : Nat) = true := decide_eq_true ⟨by omega, by omega⟩
  unfold FD.pn FD.powZ
  rw [if_neg (by rw [hh]; decide)]
  cases k with
  | zero => rfl
  | succ k =>
    rw [if_neg (by omega)]
    by_cases h0 : a = 0
    · subst h0
      rw [if_pos (by rfl), if_neg (by omega)]
      show 0 = D.mul (D.xp 0 k) 0
      rw [mul0 (fld hD)]
    · rw [if_neg (by omega), ← pw_xp hD h0]
      rw [Int.toNat_natCast]
      have e : (((k + 1 : Nat) : Int) % ((D.q - 1 : Nat) : Int)).toNat = (k + 1) % (D.q - 1) := by
        have e0 : ((k + 1 : Nat) : Int) % ((D.q - 1 : Nat) : Int) = (((k + 1) % (D.q - 1) : Nat) : Int) := rfl
        rw [e0, Int.toNat_natCast]
      rw [e, Int.toNat_natCast]
      unfold FD.pw
      rw [Nat.mul_mod_mod]

/-- Horner's way. -/
def hrn (D : FD) (A : Nat → Nat) (y m : Nat) : Nat → Nat
  | 0 => 0
  | r + 1 => D.ad (D.mul (hrn D A y m r) y) (A (m - 1 - r))
end Go.Proofs.YtppggchhkckobaaGreat

/- Plain mathematics of Sudan's sum, second part: the curve of a message that agrees at t places is nought. No Go text here. -/
namespace Go.Proofs.YtppggchhkckobaaGreat
open Go.RowKit Go.Sort

theorem ct_same {p p' : Nat → Bool} : ∀ n, (∀ i, i < n → p i = p' i) → ct p n = ct p' n
  | 0, _ => rfl
  | n + 1, h => by
    show ct p n + (if p n = true then 1 else 0) = ct p' n + if p' n = true then 1 else 0
    rw [ct_same n (fun i hi => h i (by omega)), h n (by omega)]
end Go.Proofs.YtppggchhkckobaaGreat

/- Plain mathematics of words that are mended: one near message; what meets the equations; the error locator. No Go text here. -/
namespace Go.Proofs.YtppggchhkckobaaGreat
open Go.RowKit Go.Sort

/-- The product of x less each place where something is wrong. -/
def elc (D : FD) (err : Nat → Bool) (xs : Nat → Nat) : Nat → Nat → Nat
  | 0 => pone
  | i + 1 => if err i = true then pmul D 2 (xmr D (xs i)) (elc D err xs i) else elc D err xs i
theorem elc_ok {D : FD} (F : Fld D) {err : Nat → Bool} {xs : Nat → Nat} {n : Nat} (hx : ∀ i, i < n → xs i < D.q) : ∀ i, i ≤ n → El D (elc D err xs i) ∧ Bd (ct err i + 1) (elc D err xs i) ∧ elc D err xs i (ct err i) = 1 ∧ ∀ j, j < i → err j = true → D.ev (elc D err xs i) (xs j) (ct err i + 1) = 0
  | 0, _ => ⟨el_one F, fun j hj => if_neg (by omega), rfl, fun j hj => absurd hj (by omega)⟩
  | i + 1, h => by
    obtain ⟨h1, h2, h3, h4⟩ := elc_ok F (err := err) hx i (by omega)
    have hxi := hx i (by omega)
    by_cases e : err i = true
    · have ec : ct err (i + 1) = ct err i + 1 := by
        show ct err i + (if err i = true then 1 else 0) = _
        rw [if_pos e]
      have ee : elc D err xs (i + 1) = pmul D 2 (xmr D (xs i)) (elc D err xs i) := by
        show (if err i = true then _ else _) = _
        rw [if_pos e]
      rw [ec, ee]
      refine ⟨el_mul F _ _ _, ?_, ?_, fun j hj hjj => ?_⟩
      · have := pmul_bd F (a := xmr D (xs i)) h2 2
        rw [show 2 + (ct err i + 1) - 1 = ct err i + 1 + 1 by omega] at this
        exact this
      · have := pmul_top F (a := xmr D (xs i)) (n := 1) h2
        rw [show 1 + ct err i = ct err i + 1 by omega, h3] at this
        rw [this]
        show D.mul (if 1 = 0 then _ else if 1 = 1 then 1 else 0) 1 = 1
        rw [if_neg (by omega), if_pos rfl, mul1 F (one_lt' F)]
      · rw [← ev_from F (xs j) (n := ct err i + 1 + 1) (N := 2 + (ct err i + 1)) (by
          have := pmul_bd F (a := xmr D (xs i)) h2 2
          rw [show 2 + (ct err i + 1) - 1 = ct err i + 1 + 1 by omega] at this
          exact this) (by omega), ev_mul F (xs j) h2 h1 2 _ (Nat.le_refl _)]
        by_cases ej : j = i
        · rw [ej, xmr_ev F hxi hxi, sb_self F hxi, zmul F]
        · rw [h4 j (by omega) hjj, mul0 F]
    · have ec : ct err (i + 1) = ct err i := by
        show ct err i + (if err i = true then 1 else 0) = _
        rw [if_neg e]; rfl
      have ee : elc D err xs (i + 1) = elc D err xs i := by
        show (if err i = true then _ else _) = _
        rw [if_neg e]
      rw [ec, ee]
      refine ⟨h1, h2, h3, fun j hj hjj => ?_⟩
      by_cases ej : j = i
      · rw [ej] at hjj; exact absurd hjj e
      · exact h4 j (by omega) hjj
end Go.Proofs.YtppggchhkckobaaGreat

/- Plain mathematics of Euclid's way to mend a word: what stays as it goes on; what stands at its end. No Go text here. -/
namespace Go.Proofs.YtppggchhkckobaaGreat
open Go.RowKit Go.Sort

end Go.Proofs.YtppggchhkckobaaGreat

/- The program's reed: quotient, spare. -/
namespace Go.Proofs.YtppggchhkckobaaGreat
open Go.RowKit Go.Sort

end Go.Proofs.YtppggchhkckobaaGreat

/- A region that draws its order and whose late operations, which wait for all that read, write what others read. No Go text here. -/
namespace Go.Proofs.YtppggchhkckobaaGreat
open Go

end Go.Proofs.YtppggchhkckobaaGreat

/- The program's reed: hear (printed by make/kd2.py). -/
namespace Go.Proofs.YtppggchhkckobaaGreat
open Go.RowKit Go.Sort

theorem two_cell (w : World) (v : Value) : (w.alloc (.cells #[v] 3)).cell? ⟨w.heap.size, 0, none⟩ = some v := by simp
end Go.Proofs.YtppggchhkckobaaGreat

/- The program's reed: noughtAt. -/
namespace Go.Proofs.YtppggchhkckobaaGreat
open Go.RowKit Go.Sort

/-- The polynomial that is 0 at the first i places. -/
def nal (D : FD) (c : Nat → Nat) (i : Nat) : Nat → Nat := elc D (fun _ => true) c i
theorem ct_true : ∀ i, ct (fun _ => true) i = i
  | 0 => rfl
  | i + 1 => by show ct (fun _ => true) i + 1 = _; rw [ct_true i]
theorem nal_ok {D : FD} (F : Fld D) {c : Nat → Nat} {n : Nat} (hc : ∀ i, i < n → c i < D.q) (i : Nat) (hi : i ≤ n) : El D (nal D c i) ∧ Bd (i + 1) (nal D c i) ∧ nal D c i i = 1 ∧ ∀ j, j < i → D.ev (nal D c i) (c j) (i + 1) = 0 := by
  have h := elc_ok F (err := fun _ => true) hc i hi
  rw [ct_true] at h
  exact ⟨h.1, h.2.1, h.2.2.1, fun j hj => h.2.2.2 j hj rfl⟩
theorem nal_succ {D : FD} (F : Fld D) {c : Nat → Nat} {n : Nat} (hc : ∀ i, i < n → c i < D.q) {i : Nat} (hi : i < n) : pmul D (i + 1) (nal D c i) (xmr D (c i)) = nal D c (i + 1) := by
  obtain ⟨h1, h2, _, _⟩ := nal_ok F hc i (by omega)
  rw [pmul_comm F h1 (xmr_el F (hc i hi)) h2 (xmr_bd _)]
  show pmul D 2 (xmr D (c i)) (elc D (fun _ => true) c i) = if true = true then pmul D 2 (xmr D (c i)) (elc D (fun _ => true) c i) else elc D (fun _ => true) c i
  rw [if_pos rfl]
theorem duo_cell (w : World) (v u : Value) : (w.alloc (.cells #[v, u] 3)).cell? ⟨w.heap.size, 0, none⟩ = some v ∧ (w.alloc (.cells #[v, u] 3)).cell? ⟨w.heap.size, 1, none⟩ = some u := ⟨by simp, by simp⟩
end Go.Proofs.YtppggchhkckobaaGreat

/- The program's reed: byDivisors. -/
namespace Go.Proofs.YtppggchhkckobaaGreat
open Go.RowKit Go.Sort

end Go.Proofs.YtppggchhkckobaaGreat

/- The program's reed: the walk of byDivisors. -/
namespace Go.Proofs.YtppggchhkckobaaGreat
open Go.RowKit Go.Sort

end Go.Proofs.YtppggchhkckobaaGreat

/- The program's reed: equation (the row of one place). -/
namespace Go.Proofs.YtppggchhkckobaaGreat
open Go.RowKit Go.Sort

theorem pow_nat {F T : Nat} {D : FD} (hD : D ∈ fieldsL) {g : Nat → Value} {w : World} (h : FAt F T D g w) {a : Nat} (ha : a < D.q) (k : Nat) (hk : k ≤ 1000) :
    Calls Tryz.prog 37 #[.pointer (some ⟨F, 0, none⟩), .int .i64 (a : Nat), .int .i64 (k : Nat)] w fun e w' => e = .returned (.int .i64 (D.xp a k : Nat)) ∧ ∃ n, w' = w.drewN n := by
  have h1 := pow_any hD h (a : Nat) (k : Nat) (by omega) (by omega)
  rw [pn_eq ha, pn_xp hD ha] at h1
  exact h1
end Go.Proofs.YtppggchhkckobaaGreat

/- What was heard of a word: numbers and places, as functions. -/
namespace Go.Proofs.YtppggchhkckobaaGreat
open Go.RowKit Go.Sort

end Go.Proofs.YtppggchhkckobaaGreat

/- The program's reed: mend (printed by make/kd8.py). -/
namespace Go.Proofs.YtppggchhkckobaaGreat
open Go.RowKit Go.Sort

end Go.Proofs.YtppggchhkckobaaGreat

/- The program's reed: Euclid. -/
namespace Go.Proofs.YtppggchhkckobaaGreat
open Go.RowKit Go.Sort

end Go.Proofs.YtppggchhkckobaaGreat

/- Plain mathematics of words that are mended by equations: there is a solution where a near message is, and each solution tells it. No Go text here. -/
namespace Go.Proofs.YtppggchhkckobaaGreat
open Go.RowKit Go.Sort

end Go.Proofs.YtppggchhkckobaaGreat

/- Steps of a region that draws its order: rows that are made; an append that makes a new block, since none of the old one is left. -/
namespace Go.Proofs.YtppggchhkckobaaGreat
open Go.RowKit Go.Sort

end Go.Proofs.YtppggchhkckobaaGreat

/- Plain mathematics of codes of few checks: what a round of peeling fills in, check by check from the first on or from the last on; rounds come to an end. No Go text here. -/
namespace Go.Proofs.YtppggchhkckobaaGreat
open Go.RowKit Go.Sort

end Go.Proofs.YtppggchhkckobaaGreat

/- Plain mathematics of codes of few checks: which checks may be; which places of a check are lost; sums modulo 2; which bits stand in the most odd checks. No Go text here. -/
namespace Go.Proofs.YtppggchhkckobaaGreat
open Go.RowKit Go.Sort

end Go.Proofs.YtppggchhkckobaaGreat

/- Plain mathematics of codes of few checks: which bits stand in the most odd checks; rounds of turning. No Go text here. -/
namespace Go.Proofs.YtppggchhkckobaaGreat
open Go.RowKit Go.Sort

end Go.Proofs.YtppggchhkckobaaGreat

/- Codes of few checks: which checks may be (the program's Check, the reference's ChecksMay). -/
namespace Go.Proofs.YtppggchhkckobaaGreat
open Go.RowKit Go.Sort

end Go.Proofs.YtppggchhkckobaaGreat

/- Codes of few checks: those places of a check for which something holds (those); the sum of its bits (sum). -/
namespace Go.Proofs.YtppggchhkckobaaGreat
open Go.RowKit Go.Sort

end Go.Proofs.YtppggchhkckobaaGreat

/- Words of bits (package bit); slices.Equal; slices.Max. -/
namespace Go.Proofs.YtppggchhkckobaaGreat
open Go.RowKit Go.Sort

end Go.Proofs.YtppggchhkckobaaGreat

/- Codes of few checks: the reference's ChecksMay and Bits. -/
namespace Go.Proofs.YtppggchhkckobaaGreat
open Go.RowKit Go.Sort

end Go.Proofs.YtppggchhkckobaaGreat

/- Codes of few checks: a round of peeling (the program's fill; printed by make/ke5.py). -/
namespace Go.Proofs.YtppggchhkckobaaGreat
open Go.RowKit Go.Sort

end Go.Proofs.YtppggchhkckobaaGreat

/- Gray's lists. No Go text here. -/
namespace Go.Proofs.YtppggchhkckobaaGreat

end Go.Proofs.YtppggchhkckobaaGreat

/- Gray's lists: which sizes may be (digits.Check, product, behind; the reference's SizesMay). -/
namespace Go.Proofs.YtppggchhkckobaaGreat
open Go.RowKit Go.Sort

end Go.Proofs.YtppggchhkckobaaGreat

/- Gray's lists: the reference's SizesMay, the program's Gray. -/
namespace Go.Proofs.YtppggchhkckobaaGreat
open Go.RowKit Go.Sort

end Go.Proofs.YtppggchhkckobaaGreat

/- Words that may lose a bit: which numbers may be (gap.checkSum; the reference's GapArgs). -/
namespace Go.Proofs.YtppggchhkckobaaGreat
open Go.RowKit Go.Sort

end Go.Proofs.YtppggchhkckobaaGreat

/- Words that may lose a bit: the sum of the places of ones (gap.comesTo; the reference's Places). -/
namespace Go.Proofs.YtppggchhkckobaaGreat
open Go.RowKit Go.Sort

end Go.Proofs.YtppggchhkckobaaGreat

/- Words that may lose a bit: the reference's Places. -/
namespace Go.Proofs.YtppggchhkckobaaGreat
open Go.RowKit Go.Sort

end Go.Proofs.YtppggchhkckobaaGreat

/- Words that may lose a bit: the bits of a number (gap.bits). -/
namespace Go.Proofs.YtppggchhkckobaaGreat
open Go.RowKit Go.Sort

/-- A row of just n numbers. -/
def RowE (g n : Nat) (z : Nat → Int) (w : World) : Prop := RowF g n 3 (fun j => .int .i64 (z j)) w
theorem rowE_zeros {base n : Nat} {w : World} (h : OwnI base (.slice (some ⟨base, 0, none⟩) n n) (List.replicate n 0) w) : RowE base n (fun _ => 0) w := by
  rcases h.2 with ⟨h1, _⟩ | ⟨g, cap, cur, hv, hg, hh, hle, hcm, hsz, htake⟩
  · cases h1
  · simp only [List.length_replicate, Value.slice.injEq, Option.some.injEq, Addr.mk.injEq, and_true, true_and] at hv
    obtain ⟨rfl, rfl⟩ := hv
    by_cases h0 : n = 0
    · exact ⟨cur, hh, by omega, fun o ho => by omega⟩
    · obtain ⟨gl, cl, fl, hvl, hgl, hgl', hll, hcl, hrl, hfl⟩ := h.row n (by simp) (by omega)
      simp only [Value.slice.injEq, Option.some.injEq, Addr.mk.injEq, and_true, true_and] at hvl
      obtain ⟨rfl, rfl⟩ := hvl
      exact RowF.congr hrl fun k hk => by rw [hfl k hk, list_getD_replicate]
theorem RowE.store {g n : Nat} {z : Nat → Int} {w : World} (h : RowE g n z w) (k : Nat) (v : Int) : RowE g n (fun j => if j = k then v else z j) (w.setCell ⟨g, k, none⟩ (.int .i64 v)) := by
  refine (RowF.store h k (.int .i64 v)).congr (fun o _ => ?_)
  show (if o = k then Value.int .i64 v else Value.int .i64 (z o)) = Value.int .i64 (if o = k then v else z o)
  by_cases e : o = k
  · rw [if_pos e, if_pos e]
  · rw [if_neg e, if_neg e]
theorem RowE.own {g n base : Nat} {z : Nat → Int} {w : World} (h : RowE g n z w) (hb : base ≤ g) (hn : n ≤ 1000000) : OwnI base (.slice (some ⟨g, 0, none⟩) n n) (zl n z) w := RowF.own h (zl_len n z) (fun j hj => by rw [zl_getD n z j hj]) hb hn

end Go.Proofs.YtppggchhkckobaaGreat

/- A range over a function whose rounds are handed memory: a law of our own over the library's steps. No Go text here. -/
namespace Go.Proofs.YtppggchhkckobaaGreat
open Go.RowKit

/-- What is not one's own lies as it lay. -/
structure KpO (own : Nat → Prop) (X Y : World) : Prop where
  os : Y.os = X.os
  tape : Y.tape = X.tape
  output : Y.output = X.output
  size : X.heap.size ≤ Y.heap.size
  same : ∀ k, k < X.heap.size → ¬ own k → Y.heap[k]? = X.heap[k]?
/-- Cells, and whatever lies below B, lie as they lay. -/
structure GrC (B : Nat) (X Y : World) : Prop where
  os : Y.os = X.os
  tape : Y.tape = X.tape
  output : Y.output = X.output
  size : X.heap.size ≤ Y.heap.size
  same : ∀ k, k < X.heap.size → (k < B ∨ ∀ o, X.heap[k]? = some o → o.isCells = true) → Y.heap[k]? = X.heap[k]?
theorem GrC.of_below {B : Nat} {X Y : World} (h : Below X.heap.size X Y) : GrC B X Y := ⟨h.os, h.tape, h.output, h.size, fun k hk _ => h.block k hk⟩
theorem GrC.put {B l : Nat} {X : World} {o : Obj} (o' : Obj) (hl : B ≤ l) (h : X.heap[l]? = some o) (hc : o.isCells = false) : GrC B X (X.putObj l o') :=
  ⟨rfl, rfl, rfl, by simp, fun k hk hx => World.putObj_heap_other (fun e => by
    subst e
    rcases hx with hx | hx
    · omega
    · rw [hx o h] at hc; cases hc)⟩
theorem KpO.refl (own : Nat → Prop) (X : World) : KpO own X X := ⟨rfl, rfl, rfl, Nat.le_refl _, fun _ _ _ => rfl⟩
theorem KpO.trans {own : Nat → Prop} {X Y Z : World} (h : KpO own X Y) (k : KpO own Y Z) : KpO own X Z :=
  ⟨k.os.trans h.os, k.tape.trans h.tape, k.output.trans h.output, Nat.le_trans h.size k.size, fun i hi hn => (k.same i (Nat.lt_of_lt_of_le hi h.size) hn).trans (h.same i hi hn)⟩
theorem KpO.mono {own own' : Nat → Prop} {X Y : World} (h : KpO own X Y) (hm : ∀ k, own k → own' k) : KpO own' X Y := ⟨h.os, h.tape, h.output, h.size, fun k hk hn => h.same k hk (fun e => hn (hm k e))⟩
theorem KpO.of_below {own : Nat → Prop} {X Y : World} (h : Below X.heap.size X Y) : KpO own X Y := ⟨h.os, h.tape, h.output, h.size, fun k hk _ => h.block k hk⟩
theorem KpO.put {own : Nat → Prop} (X : World) (l : Nat) (o : Obj) (hl : own l) : KpO own X (X.putObj l o) :=
  ⟨rfl, rfl, rfl, by simp, fun _ _ hn => World.putObj_heap_other (fun e => hn (by rw [e]; exact hl))⟩
theorem KpO.setCell {own : Nat → Prop} (X : World) (a : Addr) (v : Value) (hl : own a.block) : KpO own X (X.setCell a v) :=
  ⟨rfl, rfl, rfl, by simp [World.setCell], fun k _ hn => Below.heap_setCell X a v k (fun e => hn (by rw [e]; exact hl))⟩

/-- An iterator that hands on N things: the r-th one is told by E, in the world in which it is handed on. A round may change what is the loop's own. -/
def SeqI (P : Program) (gf : Nat) (lb : Array Value) (N : Nat) (E : Nat → Array Value → World → Prop) (own : Nat → Prop) (w0 : World) : Prop :=
  ∀ (l : Nat) (J : Nat → World → Prop) (W : World), Below w0.heap.size w0 W → w0.heap.size ≤ l → l < W.heap.size →
    (∀ r X Y, J r X → Below X.heap.size X Y → J r Y) →
    (∀ r args X, r < N → J r X → E r args X → YieldAt Fence.wide 0 P l args X fun e Y => e = .returned (.bool true) ∧ J (r + 1) Y ∧ KpO (fun k => own k ∨ k = l) X Y) →
    J 0 W → CallsIn Fence.wide 0 P gf (#[.func (.yield l) #[] #[]] ++ lb) W fun e W' => (∃ v, e = .returned v) ∧ J N W'

/-- The law: a loop whose body never leaves it. -/
theorem range_law {P : Program} {g : Operand} {ps : Array Tmp} {assign body : Code} {Q : Exit → Act → World → Prop} {a : Act} {w : World} {gf : Nat} {lb : Array Value}
    (hg : a.eval g = .func (.func gf) #[] lb) (eg : ∀ args w, (callFunc gf args).run P w = .ok (.enter gf args) w)
    {N : Nat} {E : Nat → Array Value → World → Prop} {own : Nat → Prop} (hseq : SeqI P gf lb N E own w) (hown : ∀ k, own k → k < w.heap.size)
    (hps : ∀ r args X, E r args X → args.size = ps.size)
    (I : Nat → World → Prop) (hI : ∀ r X Y, I r X → GrC w.heap.size X Y → I r Y) (hE : ∀ r args X Y, E r args X → GrC w.heap.size X Y → E r args Y) (h0 : I 0 w) (a₁ : Array Value → Act)
    (hassign : ∀ (l r : Nat) (args : Array Value) (X : World) (K : Act → World → Prop), E r args X → K (a₁ args) X →
      assign.wpIn (Fence.wide.inRound l) 0 P (Exit.then K (fun _ _ _ => False)) { tmps := (ps.zip args).foldl (fun t (p, v) => t.setIfInBounds p v) a.tmps, defers := [] } X)
    (hbody : ∀ (l r : Nat) (args : Array Value) (X : World), r < N → I r X → E r args X → body.wpIn (Fence.wide.inRound l) 0 P (fun e _ Y => e = .normal ∧ KpO own X Y ∧ I (r + 1) Y) (a₁ args) X)
    (hdone : ∀ (D : Nat) (W : World), w.heap.size ≤ D → I N W → W.heap[D]? = some (.deferred (some [])) → Q .normal { a with defers := { target := .collected D, args := #[] } :: a.defers } W) :
    (Code.rangeFunc g ps assign body).wp P Q a w := by
  refine (wpIn_wide (n := 0)).1 (wpIn_rangeFunc ?_)
  intro fn hfn
  obtain ⟨B, hB⟩ : ∃ B, B = w.heap.size := ⟨_, rfl⟩
  obtain ⟨rc, hrc⟩ : ∃ rc : LoopState → Option Code → Loop, rc = fun st pe => { state := st, pending := pe, fn, tmps := a.tmps, params := ps, assign, body, defers := w.heap.size } := ⟨_, rfl⟩
  obtain ⟨W, hW⟩ : ∃ W, W = (w.alloc (.deferred (some []))).alloc (.loop (rc .ready none)) := ⟨_, rfl⟩
  have hs1 : (w.alloc (.deferred (some []))).heap.size = B + 1 := by rw [World.size_alloc, hB]
  have hsW : W.heap.size = B + 2 := by rw [hW, World.size_alloc, hs1]
  have hlW : W.heap[B + 1]? = some (.loop (rc .ready none)) := by rw [hW, ← hs1]; exact World.alloc_heap_new _ _
  have hdW : W.heap[B]? = some (.deferred (some [])) := by rw [hW, Below.heap_alloc _ _ _ (by rw [hs1]; omega), hB]; exact World.alloc_heap_new w _
  have hbW : Below w.heap.size w W := by rw [hW]; exact ((Below.refl _ w).alloc (Nat.le_refl _) _).alloc (by simp) _
  have hIW : I 0 W := hI 0 w W h0 (.of_below hbW)
  refine ⟨B + 1, [{ target := .collected w.heap.size, args := #[] }], W, { target := .fn (.func gf) lb, args := #[.func (.yield (B + 1)) #[] #[]] }, W, gf, #[.func (.yield (B + 1)) #[] #[]] ++ lb, W, ?_, ?_, fun _ _ => trivial, ?_, fun h => (by cases h), ?_⟩
  · rw [hW, hrc, hB]; exact run_enterLoop_outer _ _ _ _ _
  · simp only [resolve, hg]
    simp [go_sem]
  · simp [invoke, go_sem, eg]
  refine (hseq (B + 1) (fun r X => I r X ∧ X.heap[B + 1]? = some (.loop (rc .ready none)) ∧ X.heap[B]? = some (.deferred (some []))) W hbW (by omega) (by omega) ?_ ?_ ⟨hIW, hlW, hdW⟩).mono ?_
  · rintro r X Y ⟨h1, h2, h3⟩ hb
    exact ⟨hI r X Y h1 (.of_below hb), (hb.block _ (Array.getElem?_eq_some_iff.1 h2).1).trans h2, (hb.block _ (Array.getElem?_eq_some_iff.1 h3).1).trans h3⟩
  · rintro r args X hr ⟨hi, hl, hd⟩ he
    have hy := run_yield (P := P) (args := args) hl (by rw [hrc]; exact hps r args X he)
    rw [hrc] at hy
    refine ⟨fn, _, assign, body, hy, roundIn_of_wpIn hfn (hassign _ r args X _ he ⟨_, run_beginRound hl (by rw [hrc]), ?_⟩)⟩
    obtain ⟨X2, hX2⟩ : ∃ X2, X2 = X.putObj (B + 1) (.loop { rc .ready none with state := .busy }) := ⟨_, rfl⟩
    have hg2 : GrC w.heap.size X X2 := by rw [hX2]; exact .put _ (by omega) hl rfl
    have hl2 : X2.heap[B + 1]? = some (.loop { rc .ready none with state := .busy }) := by rw [hX2]; exact World.putObj_heap_same (Array.getElem?_eq_some_iff.1 hl).1
    have hd2 : X2.heap[B]? = some (.deferred (some [])) := by rw [hX2]; exact (World.putObj_heap_other (by omega)).trans hd
    have hk2 : KpO (fun k => own k ∨ k = B + 1) X X2 := by rw [hX2]; exact .put _ _ _ (Or.inr rfl)
    rw [← hX2]
    refine wpIn_mono (hbody (B + 1) r args X2 hr (hI r X X2 hi hg2) (hE r args X X2 he hg2)) ?_
    rintro e a3 Y ⟨rfl, hk, hi3⟩
    have hl3 : Y.heap[B + 1]? = some (.loop { rc .ready none with state := .busy }) := (hk.same _ (Array.getElem?_eq_some_iff.1 hl2).1 (fun h => by have := hown _ h; omega)).trans hl2
    have hd3 : Y.heap[B]? = some (.deferred (some [])) := (hk.same _ (Array.getElem?_eq_some_iff.1 hd2).1 (fun h => by have := hown _ h; omega)).trans hd2
    have he3 := run_endRound (P := P) none hl3
    refine ⟨_, _, he3, rfl, ⟨hI _ Y _ hi3 (.put _ (by omega) hl3 rfl), ?_, (World.putObj_heap_other (by omega)).trans hd3⟩, (hk2.trans (hk.mono fun k h => Or.inl h)).trans (.put _ _ _ (Or.inr rfl))⟩
    rw [World.putObj_heap_same (Array.getElem?_eq_some_iff.1 hl3).1, hrc]
    rfl
  · rintro e Y ⟨⟨v, rfl⟩, hi, hl, hd⟩
    have he := run_endLoop (P := P) hl (by rw [hrc]; simp)
    refine ⟨none, _, by rw [he, hrc], ?_⟩
    have := hdone B (Y.putObj (B + 1) (.loop { rc .ready none with state := .exhausted })) (by omega) (hI _ Y _ hi (.put _ (by omega) hl rfl)) ((World.putObj_heap_other (by omega)).trans hd)
    rw [hB] at this ⊢
    simpa [hrc] using this
end Go.Proofs.YtppggchhkckobaaGreat
