/- Texts of ours, one behind the other: S27 S28 KD1 W13 KD2 KD3 KD4 KD5 KD6 S31 S32 S33 KE1 KE2 KE3 KE4 KE5 S34 KH1 KH2 KI1 KI2 KI3 KI4 KR1 S63 KS1 KS3 KS4 S65. -/
import Derived.Test.YtppggchhkckobaaGreatZS12
import Derived.Test.YtppggchhkckobaaGreatZG2
import Derived.Test.YtppggchhkckobaaGreatZU10
import Derived.Test.YtppggchhkckobaaGreatZX18
import Derived.Test.YtppggchhkckobaaGreatZS11
import Derived.Test.YtppggchhkckobaaGreatZV7
import Derived.Test.YtppggchhkckobaaGreatZS2
import Derived.Shelf.Abstract
import Derived.Test.YtppggchhkckobaaGreatZL1
import Derived.Test.YtppggchhkckobaaGreatZA1
import Derived.Test.YtppggchhkckobaaGreatZL10
import Derived.Test.YtppggchhkckobaaGreatZR5
import Derived.Test.YtppggchhkckobaaGreatZU8
/- Plain mathematics of words that are mended: one near message; what meets the equations; the error locator. No Go text here. -/
namespace Go.Proofs.YtppggchhkckobaaGreat
open Go.RowKit Go.Sort

/-- The product of x less each place where something is wrong. -/
def elc (D : FD) (err : Nat → Bool) (xs : Nat → Nat) : Nat → Nat → Nat
  | 0 => pone
  | i + 1 => if err i = true then pmul D 2 (xmr D (xs i)) (elc D err xs i) else elc D err xs i
theorem elc_ok {D : FD} (F : Fld D) {err : Nat → Bool} {xs : Nat → Nat} {n : Nat} (hx : ∀ i, i < n → xs i < D.q) : ∀ i, i ≤ n → El D (elc D err xs i) ∧ Bd (ct err i + 1) (elc D err xs i) ∧ elc D err xs i (ct err i) = 1 ∧ ∀ j, j < i → err j = true → D.ev (elc D err xs i) (xs j) (ct err i + 1) = 0
  | 0, _ => ⟨el_one F, fun j hj => if_neg (by omega), rfl, fun j hj => absurd hj (by omega)⟩
  | i + 1, h => by
    obtain ⟨h1, h2, h3, h4⟩ := elc_ok F (err := err) hx i (by omega)
    have hxi := hx i (by omega)
    by_cases e : err i = true
    · have ec : ct err (i + 1) = ct err i + 1 := by
        show ct err i + (if err i = true then 1 else 0) = _
        rw [if_pos e]
      have ee : elc D err xs (i + 1) = pmul D 2 (xmr D (xs i)) (elc D err xs i) := by
        show (if err i = true then _ else _) = _
        rw [if_pos e]
      rw [ec, ee]
      refine ⟨el_mul F _ _ _, ?_, ?_, fun j hj hjj => ?_⟩
      · have := pmul_bd F (a := xmr D (xs i)) h2 2
        rw [show 2 + (ct err i + 1) - 1 = ct err i + 1 + 1 by omega] at this
        exact this
      · have := pmul_top F (a := xmr D (xs i)) (n := 1) h2
        rw [show 1 + ct err i = ct err i + 1 by omega, h3] at this
        rw [this]
        show D.mul (if 1 = 0 then _ else if 1 = 1 then 1 else 0) 1 = 1
        rw [if_neg (by omega), if_pos rfl, mul1 F (one_lt' F)]
      · rw [← ev_from F (xs j) (n := ct err i + 1 + 1) (N := 2 + (ct err i + 1)) (by
          have := pmul_bd F (a := xmr D (xs i)) h2 2
          rw [show 2 + (ct err i + 1) - 1 = ct err i + 1 + 1 by omega] at this
          exact this) (by omega), ev_mul F (xs j) h2 h1 2 _ (Nat.le_refl _)]
        by_cases ej : j = i
        · rw [ej, xmr_ev F hxi hxi, sb_self F hxi, zmul F]
        · rw [h4 j (by omega) hjj, mul0 F]
    · have ec : ct err (i + 1) = ct err i := by
        show ct err i + (if err i = true then 1 else 0) = _
        rw [if_neg e]; rfl
      have ee : elc D err xs (i + 1) = elc D err xs i := by
        show (if err i = true then _ else _) = _
        rw [if_neg e]
      rw [ec, ee]
      refine ⟨h1, h2, h3, fun j hj hjj => ?_⟩
      by_cases ej : j = i
      · rw [ej] at hjj; exact absurd hjj e
      · exact h4 j (by omega) hjj
end Go.Proofs.YtppggchhkckobaaGreat

/- Plain mathematics of Euclid's way to mend a word: what stays as it goes on; what stands at its end. No Go text here. -/
namespace Go.Proofs.YtppggchhkckobaaGreat
open Go.RowKit Go.Sort

end Go.Proofs.YtppggchhkckobaaGreat

/- The program's reed: quotient, spare. -/
namespace Go.Proofs.YtppggchhkckobaaGreat
open Go.RowKit Go.Sort

end Go.Proofs.YtppggchhkckobaaGreat

/- A region that draws its order and whose late operations, which wait for all that read, write what others read. No Go text here. -/
namespace Go.Proofs.YtppggchhkckobaaGreat
open Go

end Go.Proofs.YtppggchhkckobaaGreat

/- The program's reed: hear (printed by make/kd2.py). -/
namespace Go.Proofs.YtppggchhkckobaaGreat
open Go.RowKit Go.Sort

theorem two_cell (w : World) (v : Value) : (w.alloc (.cells #[v] 3)).cell? ⟨w.heap.size, 0, none⟩ = some v := by simp
end Go.Proofs.YtppggchhkckobaaGreat

/- The program's reed: noughtAt. -/
namespace Go.Proofs.YtppggchhkckobaaGreat
open Go.RowKit Go.Sort

/-- The polynomial that is 0 at the first i places. -/
def nal (D : FD) (c : Nat → Nat) (i : Nat) : Nat → Nat := elc D (fun _ => true) c i
theorem ct_true : ∀ i, ct (fun _ => true) i = i
  | 0 => rfl
  | i + 1 => by show ct (fun _ => true) i + 1 = _; rw [ct_true i]
theorem nal_ok {D : FD} (F : Fld D) {c : Nat → Nat} {n : Nat} (hc : ∀ i, i < n → c i < D.q) (i : Nat) (hi : i ≤ n) : El D (nal D c i) ∧ Bd (i + 1) (nal D c i) ∧ nal D c i i = 1 ∧ ∀ j, j < i → D.ev (nal D c i) (c j) (i + 1) = 0 := by
  have h := elc_ok F (err := fun _ => true) hc i hi
  rw [ct_true] at h
  exact ⟨h.1, h.2.1, h.2.2.1, fun j hj => h.2.2.2 j hj rfl⟩
theorem nal_succ {D : FD} (F : Fld D) {c : Nat → Nat} {n : Nat} (hc : ∀ i, i < n → c i < D.q) {i : Nat} (hi : i < n) : pmul D (i + 1) (nal D c i) (xmr D (c i)) = nal D c (i + 1) := by
  obtain ⟨h1, h2, _, _⟩ := nal_ok F hc i (by omega)
  rw [pmul_comm F h1 (xmr_el F (hc i hi)) h2 (xmr_bd _)]
  show pmul D 2 (xmr D (c i)) (elc D (fun _ => true) c i) = if true = true then pmul D 2 (xmr D (c i)) (elc D (fun _ => true) c i) else elc D (fun _ => true) c i
  rw [if_pos rfl]
theorem duo_cell (w : World) (v u : Value) : (w.alloc (.cells #[v, u] 3)).cell? ⟨w.heap.size, 0, none⟩ = some v ∧ (w.alloc (.cells #[v, u] 3)).cell? ⟨w.heap.size, 1, none⟩ = some u := ⟨by simp, by simp⟩
end Go.Proofs.YtppggchhkckobaaGreat

/- The program's reed: byDivisors. -/
namespace Go.Proofs.YtppggchhkckobaaGreat
open Go.RowKit Go.Sort

end Go.Proofs.YtppggchhkckobaaGreat

/- The program's reed: the walk of byDivisors. -/
namespace Go.Proofs.YtppggchhkckobaaGreat
open Go.RowKit Go.Sort

end Go.Proofs.YtppggchhkckobaaGreat

/- The program's reed: equation (the row of one place). -/
namespace Go.Proofs.YtppggchhkckobaaGreat
open Go.RowKit Go.Sort

theorem pow_nat {F T : Nat} {D : FD} (hD : D ∈ fieldsL) {g : Nat → Value} {w : World} (h : FAt F T D g w) {a : Nat} (ha : a < D.q) (k : Nat) (hk : k ≤ 1000) :
    Calls Tryz.prog 37 #[.pointer (some ⟨F, 0, none⟩), .int .i64 (a : Nat), .int .i64 (k : Nat)] w fun e w' => e = .returned (.int .i64 (D.xp a k : Nat)) ∧ ∃ n, w' = w.drewN n := by
  have h1 := pow_any hD h (a : Nat) (k : Nat) (by omega) (by omega)
  rw [pn_eq ha, pn_xp hD ha] at h1
  exact h1
end Go.Proofs.YtppggchhkckobaaGreat

/- Plain mathematics of codes of few checks: what a round of peeling fills in, check by check from the first on or from the last on; rounds come to an end. No Go text here. -/
namespace Go.Proofs.YtppggchhkckobaaGreat
open Go.RowKit Go.Sort

end Go.Proofs.YtppggchhkckobaaGreat

/- Plain mathematics of codes of few checks: which checks may be; which places of a check are lost; sums modulo 2; which bits stand in the most odd checks. No Go text here. -/
namespace Go.Proofs.YtppggchhkckobaaGreat
open Go.RowKit Go.Sort

end Go.Proofs.YtppggchhkckobaaGreat

/- Plain mathematics of codes of few checks: which bits stand in the most odd checks; rounds of turning. No Go text here. -/
namespace Go.Proofs.YtppggchhkckobaaGreat
open Go.RowKit Go.Sort

end Go.Proofs.YtppggchhkckobaaGreat

/- Codes of few checks: which checks may be (the program's Check, the reference's ChecksMay). -/
namespace Go.Proofs.YtppggchhkckobaaGreat
open Go.RowKit Go.Sort

end Go.Proofs.YtppggchhkckobaaGreat

/- Codes of few checks: those places of a check for which something holds (those); the sum of its bits (sum). -/
namespace Go.Proofs.YtppggchhkckobaaGreat
open Go.RowKit Go.Sort

end Go.Proofs.YtppggchhkckobaaGreat

/- Words of bits (package bit); slices.Equal; slices.Max. -/
namespace Go.Proofs.YtppggchhkckobaaGreat
open Go.RowKit Go.Sort

end Go.Proofs.YtppggchhkckobaaGreat

/- Codes of few checks: the reference's ChecksMay and Bits. -/
namespace Go.Proofs.YtppggchhkckobaaGreat
open Go.RowKit Go.Sort

end Go.Proofs.YtppggchhkckobaaGreat

/- Codes of few checks: a round of peeling (the program's fill; printed by make/ke5.py). -/
namespace Go.Proofs.YtppggchhkckobaaGreat
open Go.RowKit Go.Sort

end Go.Proofs.YtppggchhkckobaaGreat

/- Gray's lists. No Go text here. -/
namespace Go.Proofs.YtppggchhkckobaaGreat

end Go.Proofs.YtppggchhkckobaaGreat

/- Gray's lists: which sizes may be (digits.Check, product, behind; the reference's SizesMay). -/
namespace Go.Proofs.YtppggchhkckobaaGreat
open Go.RowKit Go.Sort

end Go.Proofs.YtppggchhkckobaaGreat

/- Gray's lists: the reference's SizesMay, the program's Gray. -/
namespace Go.Proofs.YtppggchhkckobaaGreat
open Go.RowKit Go.Sort

end Go.Proofs.YtppggchhkckobaaGreat

/- Words that may lose a bit: which numbers may be (gap.checkSum; the reference's GapArgs). -/
namespace Go.Proofs.YtppggchhkckobaaGreat
open Go.RowKit Go.Sort

end Go.Proofs.YtppggchhkckobaaGreat

/- Words that may lose a bit: the sum of the places of ones (gap.comesTo; the reference's Places). -/
namespace Go.Proofs.YtppggchhkckobaaGreat
open Go.RowKit Go.Sort

end Go.Proofs.YtppggchhkckobaaGreat

/- Words that may lose a bit: the reference's Places. -/
namespace Go.Proofs.YtppggchhkckobaaGreat
open Go.RowKit Go.Sort

end Go.Proofs.YtppggchhkckobaaGreat

/- Words that may lose a bit: the bits of a number (gap.bits). -/
namespace Go.Proofs.YtppggchhkckobaaGreat
open Go.RowKit Go.Sort

/-- A row of just n numbers. -/
def RowE (g n : Nat) (z : Nat → Int) (w : World) : Prop := RowF g n 3 (fun j => .int .i64 (z j)) w
theorem rowE_zeros {base n : Nat} {w : World} (h : OwnI base (.slice (some ⟨base, 0, none⟩) n n) (List.replicate n 0) w) : RowE base n (fun _ => 0) w := by
  rcases h.2 with ⟨h1, _⟩ | ⟨g, cap, cur, hv, hg, hh, hle, hcm, hsz, htake⟩
  · cases h1
  · simp only [List.length_replicate, Value.slice.injEq, Option.some.injEq, Addr.mk.injEq, and_true, true_and] at hv
    obtain ⟨rfl, rfl⟩ := hv
    by_cases h0 : n = 0
    · exact ⟨cur, hh, by omega, fun o ho => by omega⟩
    · obtain ⟨gl, cl, fl, hvl, hgl, hgl', hll, hcl, hrl, hfl⟩ := h.row n (by simp) (by omega)
      simp only [Value.slice.injEq, Option.some.injEq, Addr.mk.injEq, and_true, true_and] at hvl
      obtain ⟨rfl, rfl⟩ := hvl
      exact RowF.congr hrl fun k hk => by rw [hfl k hk, list_getD_replicate]
theorem RowE.store {g n : Nat} {z : Nat → Int} {w : World} (h : RowE g n z w) (k : Nat) (v : Int) : RowE g n (fun j => if j = k then v else z j) (w.setCell ⟨g, k, none⟩ (.int .i64 v)) := by
  refine (RowF.store h k (.int .i64 v)).congr (fun o _ => ?_)
  show (if o = k then Value.int .i64 v else Value.int .i64 (z o)) = Value.int .i64 (if o = k then v else z o)
  by_cases e : o = k
  · rw [if_pos e, if_pos e]
  · rw [if_neg e, if_neg e]
theorem RowE.own {g n base : Nat} {z : Nat → Int} {w : World} (h : RowE g n z w) (hb : base ≤ g) (hn : n ≤ 1000000) : OwnI base (.slice (some ⟨g, 0, none⟩) n n) (zl n z) w := RowF.own h (zl_len n z) (fun j hj => by rw [zl_getD n z j hj]) hb hn

end Go.Proofs.YtppggchhkckobaaGreat

/- Golay: places as the bits of a number, of both sides. -/
namespace Go.Proofs.YtppggchhkckobaaGreat
open Go.RowKit

end Go.Proofs.YtppggchhkckobaaGreat

/- Polar: what its functions come to: the transform (half by half, and bit by bit), the chances, the best places. -/
namespace Go.Proofs.YtppggchhkckobaaGreat

/-- Half by half. -/
def ptr : Nat → (Nat → Nat) → Nat → Nat
  | 0, w => w
  | m + 1, w => fun i => if i < 2 ^ m then (ptr m w i + ptr m (fun j => w (j + 2 ^ m)) i) % 2 else ptr m (fun j => w (j + 2 ^ m)) (i - 2 ^ m)
end Go.Proofs.YtppggchhkckobaaGreat

/- Polar: sums of parts, what is sent of two halves. -/
namespace Go.Proofs.YtppggchhkckobaaGreat
open Go.RowKit Go.Sort

end Go.Proofs.YtppggchhkckobaaGreat

/- Polar: the chances: halved, checkLevels, Chances. -/
namespace Go.Proofs.YtppggchhkckobaaGreat
open Go.RowKit Go.Sort

theorem list_zl : ∀ l : List Int, l = zl l.length (fun i => l.getD i 0) := fun l => by
  apply List.ext_getElem?
  intro i
  by_cases h : i < l.length
  · rw [zl_get _ _ i h, List.getElem?_eq_getElem h, List.getD_eq_getElem?_getD, List.getElem?_eq_getElem h]; rfl
  · rw [List.getElem?_eq_none (by omega), List.getElem?_eq_none (by rw [zl_len]; omega)]

end Go.Proofs.YtppggchhkckobaaGreat

/- Polar: Chances. -/
namespace Go.Proofs.YtppggchhkckobaaGreat
open Go.RowKit Go.Sort

theorem OwnI.argOf {base n : Nat} {v : Value} {l : List Int} {w : World} (h : OwnI base v l w) (hl : l.length = n) : ∃ ao ca, v = .slice ao n ca ∧ ArgL ao n ca (fun i => l.getD i 0) w := by
  subst hl
  have h2 : OwnI base v (zl l.length fun i => l.getD i 0) w := by rw [← list_zl l]; exact h
  exact h2.argL
end Go.Proofs.YtppggchhkckobaaGreat

/- Numbers below n that come of each other times q: the lists of them (plain mathematics). -/
namespace Go.Proofs.YtppggchhkckobaaGreat

/-- What comes of z, times q so often. -/
def orb (q n z j : Nat) : Nat := z * q ^ j % n
theorem orb_zero {q n z : Nat} (hz : z < n) : orb q n z 0 = z := by
  unfold orb
  rw [Nat.pow_zero, Nat.mul_one, Nat.mod_eq_of_lt hz]
theorem orb_succ (q n z j : Nat) : orb q n z (j + 1) = orb q n z j * q % n := by
  unfold orb
  rw [Nat.pow_succ, ← Nat.mul_assoc, Nat.mod_mul_mod]
theorem orb_lt {q n z j : Nat} (hn : 0 < n) : orb q n z j < n := Nat.mod_lt _ hn
theorem orb_orb (q n z i j : Nat) : orb q n (orb q n z i) j = orb q n z (i + j) := by
  unfold orb
  rw [Nat.mod_mul_mod, Nat.mul_assoc, Nat.pow_add]
/-- A list that has what comes of each of its numbers, times q. -/
def Clq (q n : Nat) (L : List Nat) : Prop := ∀ k ∈ L, k * q % n ∈ L
theorem Clq.orb {q n : Nat} {L : List Nat} (h : Clq q n L) {k : Nat} (hk : k ∈ L) (hl : k < n) : ∀ j, orb q n k j ∈ L
  | 0 => by rw [orb_zero hl]; exact hk
  | j + 1 => by rw [orb_succ]; exact h _ (Clq.orb h hk hl j)
/-- The walk from z ends where it comes to a number that was seen: then all that comes of z was seen. -/
theorem walk_end {q n z s : Nat} {L L' : List Nat} (hn : 0 < n) (hL : Clq q n L) (hm : ∀ k, k ∈ L' ↔ k ∈ L ∨ ∃ j, j < s ∧ orb q n z j = k) (he : orb q n z s ∈ L') :
    Clq q n L' ∧ ∀ j, orb q n z j ∈ L' := by
  have hall : ∀ j, orb q n z j ∈ L' := by
    rcases (hm _).1 he with h | ⟨s', hs', h⟩
    · intro j
      by_cases c : j < s
      · exact (hm _).2 (Or.inr ⟨j, c, rfl⟩)
      · obtain ⟨d, rfl⟩ : ∃ d, j = s + d := ⟨j - s, by omega⟩
        rw [← orb_orb]
        exact (hm _).2 (Or.inl (hL.orb h (orb_lt hn) d))
    · intro j
      induction j with
      | zero =>
        by_cases c : 0 < s
        · exact (hm _).2 (Or.inr ⟨0, c, rfl⟩)
        · omega
      | succ j ih =>
        rcases (hm _).1 ih with k | ⟨i, hi, k⟩
        · have := hL _ k
          rw [orb_succ]
          exact (hm _).2 (Or.inl this)
        · rw [orb_succ, ← k, ← orb_succ]
          by_cases c : i + 1 < s
          · exact (hm _).2 (Or.inr ⟨i + 1, c, rfl⟩)
          · have : i + 1 = s := by omega
            rw [this]
            exact he
  refine ⟨fun k hk => ?_, hall⟩
  rcases (hm k).1 hk with h | ⟨j, _, rfl⟩
  · exact (hm _).2 (Or.inl (hL k h))
  · rw [← orb_succ]; exact hall (j + 1)
/-- What comes of one of some numbers. -/
def Clo (q n : Nat) (z : Nat → Nat) (m : Nat) (k : Nat) : Prop := ∃ i, i < m ∧ ∃ j, orb q n (z i) j = k
/-- Some power of q is 1, modulo n. -/
def Ord (q n : Nat) : Prop := ∃ t, 0 < t ∧ q ^ t % n = 1 % n
theorem Ord.back {q n x j : Nat} (h : Ord q n) (hx : x < n) : ∃ i, orb q n (orb q n x j) i = x := by
  obtain ⟨t, ht, e⟩ := h
  have hp : ∀ d, (q ^ t) ^ d % n = 1 % n := fun d => by
    induction d with
    | zero => rw [Nat.pow_zero]
    | succ d ih => rw [Nat.pow_succ, Nat.mul_mod, ih, e, ← Nat.mul_mod, Nat.mul_one]
  refine ⟨t * j - j, ?_⟩
  have hle : j ≤ t * j := Nat.le_mul_of_pos_left j ht
  rw [orb_orb, Nat.add_sub_cancel' hle]
  unfold orb
  rw [Nat.pow_mul, Nat.mul_mod, hp j, ← Nat.mul_mod, Nat.mul_one, Nat.mod_eq_of_lt hx]
/-- A list of numbers below n, each once, sorted: those of 0, 1, .. that are in it. -/
theorem sort_range {n : Nat} {L : List Nat} (hd : L.Nodup) (hl : ∀ k ∈ L, k < n) : ((L.map fun j => ((j : Nat) : Int)).mergeSort fun x y => decide (x ≤ y)) = ((List.range n).filter fun j => L.contains j).map fun j => ((j : Nat) : Int) := by
  have hp : ((List.range n).filter fun j => L.contains j).Perm L := by
    refine (List.perm_ext_iff_of_nodup (List.nodup_range.filter _) hd).2 (fun a => ?_)
    rw [List.mem_filter, List.contains_iff_mem]
    exact ⟨fun h => h.2, fun h => ⟨List.mem_range.2 (hl a h), h⟩⟩
  refine List.Perm.eq_of_pairwise (le := fun a b : Int => a ≤ b) (fun a b _ _ x y => Int.le_antisymm x y) ?_ ?_ ?_
  · exact (List.pairwise_mergeSort (le := fun x y : Int => decide (x ≤ y)) (fun a b c h1 h2 => by simp only [decide_eq_true_eq] at *; omega) (fun a b => by simp only [Bool.or_eq_true, decide_eq_true_eq]; omega) _).imp (fun h => by simpa using h)
  · rw [List.pairwise_map]
    exact (List.Pairwise.filter _ List.pairwise_lt_range).imp (fun {a b} h => by omega)
  · exact (List.mergeSort_perm _ _).trans (hp.map _).symm
end Go.Proofs.YtppggchhkckobaaGreat
