/- Texts of ours, one behind the other: S11 Z1 Z2 Z3 Z4 Z5 Z6 Z7 Z8 Z9 Z10 Z11 Z12 Q1 Q2 W11 Q3 Q4 Q5 Q6 I1 I2. -/
import Derived.Test.YtppggchhkckobaaGreatZX18
import Derived.Test.YtppggchhkckobaaGreatZN2
import Derived.Test.YtppggchhkckobaaGreatZT9
import Derived.Test.YtppggchhkckobaaGreatZR5
import Derived.Test.YtppggchhkckobaaGreatZL1
import Derived.Test.YtppggchhkckobaaGreatZX2
import Derived.Test.YtppggchhkckobaaGreatZU10
import Derived.Test.YtppggchhkckobaaGreatZV7
import Derived.Test.YtppggchhkckobaaGreatZS2
import Derived.Deep.RegionHeld3
import Derived.WalkKit
import Derived.Test.YtppggchhkckobaaGreatZL10
/- A polynomial that is not nought has fewer roots than coefficients; words of few coefficients are far apart. -/
namespace Go.Proofs.YtppggchhkckobaaGreat
open Go.RowKit Go.Sort

/-- How many of the first n. -/
def ct (p : Nat → Bool) : Nat → Nat
  | 0 => 0
  | n + 1 => ct p n + if p n = true then 1 else 0
theorem ct_none {p : Nat → Bool} : ∀ n, (∀ i, i < n → p i = false) → ct p n = 0
  | 0, _ => rfl
  | n + 1, h => by
    show ct p n + (if p n = true then 1 else 0) = 0
    rw [ct_none n (fun i hi => h i (by omega)), h n (by omega)]; rfl
theorem ct_one1 {p p' : Nat → Bool} (i0 : Nat) : ∀ n, (∀ i, i < n → i ≠ i0 → p i = true → p' i = true) → ct p n ≤ ct p' n + if i0 < n then 1 else 0
  | 0, _ => by simp [ct]
  | n + 1, h => by
    show ct p n + (if p n = true then 1 else 0) ≤ ct p' n + (if p' n = true then 1 else 0) + if i0 < n + 1 then 1 else 0
    have ih := ct_one1 i0 n (fun i hi => h i (by omega))
    by_cases e : i0 = n
    · rw [if_neg (by omega)] at ih
      rw [if_pos (show i0 < n + 1 by omega)]
      split <;> split <;> omega
    · have h1 := h n (by omega) (fun x => e x.symm)
      by_cases hp : p n = true
      · rw [if_pos hp, if_pos (h1 hp)]
        by_cases hi : i0 < n
        · rw [if_pos hi] at ih; rw [if_pos (show i0 < n + 1 by omega)]; omega
        · rw [if_neg hi] at ih; split <;> omega
      · rw [if_neg hp]
        by_cases hi : i0 < n
        · rw [if_pos hi] at ih; rw [if_pos (show i0 < n + 1 by omega)]; omega
        · rw [if_neg hi] at ih; omega
theorem ct_not (p : Nat → Bool) : ∀ n, ct p n + ct (fun i => !p i) n = n
  | 0 => rfl
  | n + 1 => by
    show ct p n + (if p n = true then 1 else 0) + (ct (fun i => !p i) n + if (!p n) = true then 1 else 0) = n + 1
    have := ct_not p n
    cases p n <;> simp <;> omega
/-- X - r. -/
def xmr (D : FD) (r : Nat) : Nat → Nat := fun j => if j = 0 then D.ng r else if j = 1 then 1 else 0
theorem xmr_el {D : FD} (F : Fld D) {r : Nat} (hr : r < D.q) : El D (xmr D r) := fun j => by
  unfold xmr
  split
  · exact ng_lt F hr
  · split
    · exact one_lt' F
    · exact zero_lt' F
theorem xmr_bd {D : FD} (r : Nat) : Bd 2 (xmr D r) := fun j hj => by
  unfold xmr
  rw [if_neg (by omega), if_neg (by omega)]
theorem xmr_ev {D : FD} (F : Fld D) {r x : Nat} (hr : r < D.q) (hx : x < D.q) : D.ev (xmr D r) x 2 = D.sb x r := by
  show D.ad (D.ad 0 (D.mul (D.ng r) 1)) (D.mul 1 (D.mul 1 x)) = D.ad x (D.ng r)
  rw [mul1 F (ng_lt F hr), omul F (F.mul_lt _ _), omul F hx, zero_ad F (ng_lt F hr), ad_comm F]
/-- A root goes out as a factor. -/
theorem root_out {D : FD} (F : Fld D) {d : Nat → Nat} {k r : Nat} (hd : El D d) (hb : Bd (k + 1) d) (hr : r < D.q) (h0 : D.ev d r (k + 1) = 0) : ∃ Q, El D Q ∧ Bd k Q ∧ d = pmul D k Q (xmr D r) := by
  have hi : D.mul (xmr D r 1) 1 = 1 := mul1 F (one_lt' F)
  have h1 := div_is F (b := xmr D r) (l := 1) (inv := 1) k hd
  have hR := divR_bd F (xmr_el F hr) (xmr_bd r) hi k hd hb
  obtain ⟨Q, hQ⟩ : ∃ Q, Q = divQ D (xmr D r) 1 1 k d := ⟨_, rfl⟩
  obtain ⟨R, hRe⟩ : ∃ R, R = divR D (xmr D r) 1 1 k d := ⟨_, rfl⟩
  rw [← hQ, ← hRe] at h1
  rw [← hRe] at hR
  have eQ : El D Q := by rw [hQ]; exact el_divQ F k d
  have bQ : Bd k Q := by rw [hQ]; exact divQ_bd k d
  have eR : El D R := by rw [hRe]; exact el_divR F k hd
  have h2 : D.ev d r (k + 2) = 0 := by rw [ev_from F r hb (by omega)]; exact h0
  rw [← h1, ev_add F r (el_mul F _ _ _) eR, ev_mul F r (xmr_bd r) (xmr_el F hr) k (k + 2) (Nat.le_refl _), xmr_ev F hr hr, sb_self F hr, mul0 F, zero_ad F (ev_lt F _ _ _), ev_from F r hR (by omega)] at h2
  have h3 : R 0 = 0 := by
    have h2 : D.ad 0 (D.mul (R 0) 1) = 0 := h2
    rw [zero_ad F (F.mul_lt _ _), mul1 F (eR 0)] at h2; exact h2
  have h4 : R = pnil := by
    funext j
    cases j with
    | zero => exact h3
    | succ j => exact hR _ (by omega)
  refine ⟨Q, eQ, bQ, ?_⟩
  rw [h4] at h1
  rw [← h1]
  funext j
  exact ad_zero F (el_mul F _ _ _ _)
theorem few_roots {D : FD} (F : Fld D) {xs : Nat → Nat} {n : Nat} (hx : ∀ i, i < n → xs i < D.q) (hne : ∀ i j, i < n → j < n → i ≠ j → xs i ≠ xs j) : ∀ k {d : Nat → Nat}, El D d → Bd k d → d ≠ pnil → ct (fun i => decide (D.ev d (xs i) k = 0)) n < k
  | 0, d, _, hb, h0 => absurd (bd_nil_of hb) h0
  | k + 1, d, hd, hb, h0 => by
    by_cases h : ∃ i, i < n ∧ D.ev d (xs i) (k + 1) = 0
    · obtain ⟨i0, hi0, hr⟩ := h
      obtain ⟨Q, eQ, bQ, hQ⟩ := root_out F hd hb (hx i0 hi0) hr
      have hQ0 : Q ≠ pnil := fun e => h0 (by
        rw [hQ, e]
        funext j
        have : ∀ m, pmul D m pnil (xmr D (xs i0)) j = 0 := fun m => by
          induction m with
          | zero => rfl
          | succ m ih =>
            show D.ad (pmul D m pnil (xmr D (xs i0)) j) (psh m (pscale D 0 (xmr D (xs i0))) j) = 0
            rw [ih]
            unfold psh pscale
            split
            · rw [zmul F, ad_zero F (zero_lt' F)]
            · rw [ad_zero F (zero_lt' F)]
        exact this k)
      have ih := few_roots F hx hne k eQ bQ hQ0
      have h1 := ct_one1 (p := fun i => decide (D.ev d (xs i) (k + 1) = 0)) (p' := fun i => decide (D.ev Q (xs i) k = 0)) i0 n (fun i hi hne' hp => by
        have hp : D.ev d (xs i) (k + 1) = 0 := of_decide_eq_true hp
        refine decide_eq_true ?_
        have h2 : D.ev d (xs i) (k + 2) = 0 := by rw [ev_from F _ hb (by omega)]; exact hp
        rw [hQ, ev_mul F _ (xmr_bd _) (xmr_el F (hx i0 hi0)) k (k + 2) (Nat.le_refl _), xmr_ev F (hx i0 hi0) (hx i hi)] at h2
        by_cases e : D.ev Q (xs i) k = 0
        · exact e
        · exfalso
          have h3 : D.sb (xs i) (xs i0) = 0 := mul_cancel F e (sb_lt F (hx i hi) (hx i0 hi0)) (zero_lt' F) (h2.trans (mul0 F _).symm)
          exact hne i i0 hi hi0 hne' (sb_eq_zero F (hx i hi) (hx i0 hi0) h3))
      rw [if_pos hi0] at h1
      omega
    · rw [ct_none n (fun i hi => decide_eq_false (fun e => h ⟨i, hi, e⟩))]
      omega
end Go.Proofs.YtppggchhkckobaaGreat

/- The program's words (reed): values, Check and Encode where all may be. -/
namespace Go.Proofs.YtppggchhkckobaaGreat
open Go.RowKit Go.Sort

end Go.Proofs.YtppggchhkckobaaGreat

/- Places and a dimension: may they be? The program's Check, the reference's ReedMay, whatever they are given. -/
namespace Go.Proofs.YtppggchhkckobaaGreat
open Go.RowKit Go.Sort

end Go.Proofs.YtppggchhkckobaaGreat

/- The reference's ReedMay, whatever it is given. -/
namespace Go.Proofs.YtppggchhkckobaaGreat
open Go.RowKit Go.Sort

end Go.Proofs.YtppggchhkckobaaGreat

/- A word that came: may it be? The program's Word. -/
namespace Go.Proofs.YtppggchhkckobaaGreat
open Go.RowKit Go.Sort

def anyB (p : Nat → Bool) : Nat → Bool
  | 0 => false
  | n + 1 => anyB p n || p n
theorem anyB_no {p : Nat → Bool} : ∀ n, (∀ j, j < n → p j = false) → anyB p n = false
  | 0, _ => rfl
  | n + 1, h => by
    show (anyB p n || p n) = false
    rw [anyB_no n (fun j hj => h j (by omega)), h n (by omega)]; rfl
theorem anyB_yes {p : Nat → Bool} {i : Nat} (h : p i = true) : ∀ n, i < n → anyB p n = true
  | 0, hi => absurd hi (by omega)
  | n + 1, hi => by
    show (anyB p n || p n) = true
    by_cases e : i = n
    · rw [← e, h, Bool.or_true]
    · rw [anyB_yes h n (by omega), Bool.true_or]

set_option maxHeartbeats 2000000 in
set_option maxRecDepth 100000 in
theorem containsFn_any {gf : Nat} {lb : Array Value} (eg : ∀ args w, (callFunc gf args).run Tryz.prog w = .ok (.enter gf args) w) {ao : Option Addr} {n cap : Nat} {z : Nat → Int} {p : Nat → Bool} {w : World}
    (hs : SlZ ao n z w) (hn : n ≤ 1000000) (hp : ∀ j, j < n → Calls Tryz.prog gf (#[.int .i64 (z j)] ++ lb) w fun e w' => e = .returned (.bool (p j)) ∧ w' = w) :
    Calls Tryz.prog 78 #[.slice ao n cap, .func (.func gf) #[] lb] w fun e w' => e = .returned (.bool (anyB p n)) ∧ w' = w := by
  have HS : Hid (∀ cap, Calls Tryz.prog 112 #[.slice ao n cap, .func (.func gf) #[] lb] w fun e w' => w' = w ∧ ∃ i : Int, e = .returned (.int .i64 i) ∧ decide (0 ≤ i) = anyB p n) := fun cap => by
    refine (indexInts_any (cap := cap) (p := p) eg hs hn hp).mono ?_
    rintro e w' ⟨rfl, ⟨i, hi, hpi, _, rfl⟩ | ⟨ha, rfl⟩⟩
    · refine ⟨rfl, _, rfl, ?_⟩
      rw [anyB_yes hpi n hi]; simp
    · refine ⟨rfl, _, rfl, ?_⟩
      rw [anyB_no n ha]; rfl
  clear hs hp eg
  obtain ⟨y, hy⟩ : ∃ y, y = anyB p n := ⟨_, rfl⟩
  rw [← hy]
  have HY : Hid (y = anyB p n) := hy
  clear hy
  go_enter Tryz.func78, Tryz.ntmps78
  go_wp2_with (go_at_call 112; refine (HS.out _).mono ?_; rintro e w' ⟨hw, i, rfl, hi⟩; rw [← HY.out] at hi; have hw := hw.symm; subst hw)
  go_ret
  exact ⟨by first | rfl | simp_all, rfl⟩

end Go.Proofs.YtppggchhkckobaaGreat

/- A word that came: the reference's ReedWord. -/
namespace Go.Proofs.YtppggchhkckobaaGreat
open Go.RowKit Go.Sort

end Go.Proofs.YtppggchhkckobaaGreat

/- Whole words, and how many messages there are: the program's checkWhole, messages, digits; the law's wholeWord; the reference's Few. -/
namespace Go.Proofs.YtppggchhkckobaaGreat
open Go.RowKit Go.Sort

end Go.Proofs.YtppggchhkckobaaGreat

/- How many messages there are, and each by its number: the reference's Few, the program's messages, digits. -/
namespace Go.Proofs.YtppggchhkckobaaGreat
open Go.RowKit Go.Sort

/-- The digits of a number, the greatest first. -/
def dgs (q k a : Nat) : Nat → Nat := fun j => if j < k then a / q ^ (k - 1 - j) % q else 0
end Go.Proofs.YtppggchhkckobaaGreat

/- At how many places a message's word differs: the reference's Off, of whole words. -/
namespace Go.Proofs.YtppggchhkckobaaGreat
open Go.RowKit Go.Sort

end Go.Proofs.YtppggchhkckobaaGreat

/- All near messages: the program's Within. -/
namespace Go.Proofs.YtppggchhkckobaaGreat
open Go.RowKit Go.Sort

end Go.Proofs.YtppggchhkckobaaGreat

/- All near messages: the reference's Near. -/
namespace Go.Proofs.YtppggchhkckobaaGreat
open Go.RowKit Go.Sort

end Go.Proofs.YtppggchhkckobaaGreat

/- All near messages: the walk of the reference's Near. -/
namespace Go.Proofs.YtppggchhkckobaaGreat
open Go.RowKit Go.Sort

end Go.Proofs.YtppggchhkckobaaGreat

/- What it says that places, a dimension and a whole word may be; the calls that say no. -/
namespace Go.Proofs.YtppggchhkckobaaGreat
open Go.RowKit Go.Sort

theorem has_sl {D : FD} {ao : Option Addr} {n : Nat} {z : Nat → Int} {w : World} (h : ∀ j, j < n → D.has (z j) = true) (hs : SlZ ao n z w) : Sl ao n (zc n z) w := fun j hj => by
  obtain ⟨b, off, e, hc⟩ := hs j hj
  obtain ⟨t, e2, _⟩ := has_nat (h j hj)
  refine ⟨b, off, e, ?_⟩
  rw [hc]
  unfold zc
  rw [if_pos hj, e2, Int.toNat_natCast]
end Go.Proofs.YtppggchhkckobaaGreat

/- Sudan's products in their order, and how a list of numbers is parted by them: plain mathematics. -/
namespace Go.Proofs.YtppggchhkckobaaGreat
open Go.RowKit

/-- How many lists there are when a numbers have been laid by their powers. -/
def gn (p : Nat → Nat) : Nat → Nat
  | 0 => 0
  | a + 1 => if p a = gn p a then gn p a + 1 else gn p a
end Go.Proofs.YtppggchhkckobaaGreat

/- Lists of lists of the call's own that grow at any of their lists. -/
namespace Go.Proofs.YtppggchhkckobaaGreat
open Go.RowKit Go.Sort

/-- Cell j of a list of lists of the call's own is another one now. -/
theorem OwnV.set {base n rc g : Nat} {ro : Option Addr} {vs : Nat → Value} {w1 : World} (hown : OwnV base (.slice ro n rc) (vl n vs) w1) (hg : ro = some ⟨g, 0, none⟩) (j : Nat) (u : Value) : OwnV base (.slice ro n rc) (vl n fun i => if i = j then u else vs i) (w1.setCell ⟨g, j, none⟩ u) := by
  rcases hown.2 with ⟨h1, _⟩ | ⟨g', cap, cur, hv, hb, hh, hle, hcm, hsz, htake⟩
  · rw [hg] at h1; cases h1
  · rw [hg, vl_len] at hv
    cases hv
    have hlt := lt_of_block hh
    have h' : w1.heap[g] = .cells cur 22 (0, 0) := by simpa [Array.getElem?_eq_getElem hlt] using hh
    refine ⟨by rw [vl_len]; omega, Or.inr ⟨g, rc, cur.setIfInBounds j u, by rw [hg, vl_len], hb, ?_, by rw [vl_len]; rw [vl_len] at hle; exact hle, hcm, by rw [Array.size_setIfInBounds]; exact hsz, ?_⟩⟩
    · show (w1.heap.modify g _)[g]? = _
      rw [Array.getElem?_eq_getElem (by simpa using hlt), Array.getElem_modify_self, h']
      rfl
    · rw [vl_len] at htake ⊢
      apply List.ext_getElem?
      intro i
      have h3 : (cur.toList.take (n * 1))[i]? = (vl n vs)[i]? := by rw [htake]
      rw [List.getElem?_take] at h3 ⊢
      by_cases hi : i < n * 1
      · rw [if_pos hi] at h3 ⊢
        have hik : i < n := by omega
        rw [vl_get n vs i hik] at h3
        rw [vl_get n _ i hik, Array.getElem?_toList, Array.getElem?_setIfInBounds]
        rw [Array.getElem?_toList] at h3
        by_cases e : j = i
        · rw [if_pos e, if_pos (by have := (Array.getElem?_eq_some_iff.1 h3).1; omega), if_pos e.symm]
        · rw [if_neg e, if_neg (fun x => e x.symm)]; exact h3
      · rw [if_neg hi, List.getElem?_eq_none (by rw [vl_len]; omega)]
end Go.Proofs.YtppggchhkckobaaGreat

/- A region that draws its order and whose last operation, which waits for all others, writes what another one reads. No Go text here. -/
namespace Go.Proofs.YtppggchhkckobaaGreat
open Go

end Go.Proofs.YtppggchhkckobaaGreat

/- The program's products: pairs of powers, two cells each. -/
namespace Go.Proofs.YtppggchhkckobaaGreat
open Go.RowKit Go.Sort

end Go.Proofs.YtppggchhkckobaaGreat

/- The program's valuesAt: all products at an x and a y. -/
namespace Go.Proofs.YtppggchhkckobaaGreat
open Go.RowKit Go.Sort

/-- A power, as an element. -/
def FD.pn (D : FD) (a k : Nat) : Nat := (D.powZ a k).toNat
theorem pn_eq {D : FD} {a : Nat} (ha : a < D.q) (k : Nat) : D.powZ a k = (D.pn a k : Nat) := by
  have hh : D.has (a : Nat) = true := decide_eq_true ⟨by omega, by omega⟩
  have : (0 : Int) ≤ D.powZ a k := by
    unfold FD.powZ
    rw [hh, if_neg (by decide)]
    split
    · omega
    · split
      · rw [if_neg (by omega)]; omega
      · omega
  unfold FD.pn
  omega
end Go.Proofs.YtppggchhkckobaaGreat

/- The program's byPowers: numbers laid by their powers of y. -/
namespace Go.Proofs.YtppggchhkckobaaGreat
open Go.RowKit Go.Sort

theorem OwnI.form {base : Nat} {v : Value} {l : List Int} {w : World} (h : OwnI base v l w) : ∃ ao cap, v = .slice ao l.length cap := by
  rcases h.2 with ⟨h1, h2⟩ | ⟨g, cap, cur, hv, _⟩
  · exact ⟨none, 0, by rw [h1, h2]⟩
  · exact ⟨_, cap, hv⟩
end Go.Proofs.YtppggchhkckobaaGreat

/- The program's Sudan. -/
namespace Go.Proofs.YtppggchhkckobaaGreat
open Go.RowKit Go.Sort

end Go.Proofs.YtppggchhkckobaaGreat

/- Codes: what is said of one (the program's code.Check, the reference's CodeMay). -/
namespace Go.Proofs.YtppggchhkckobaaGreat
open Go.RowKit Go.Sort

/-- A code's cells, in block b. -/
structure CB (b : Nat) (q n : Int) (v : Value) (w : World) : Prop where
  c0 : w.cell? ⟨b, 0, none⟩ = some (.int .i64 q)
  c1 : w.cell? ⟨b, 1, none⟩ = some (.int .i64 n)
  c2 : w.cell? ⟨b, 2, none⟩ = some v
theorem CB.new (q n : Int) (v : Value) (w : World) : CB w.heap.size q n v (w.alloc (.cells #[.int .i64 q, .int .i64 n, v] 35)) :=
  ⟨by rw [cell_of_row _ _ _ _ _ (0, 0) (two_new _)]; rfl, by rw [cell_of_row _ _ _ _ _ (0, 0) (two_new _)]; rfl, by rw [cell_of_row _ _ _ _ _ (0, 0) (two_new _)]; rfl⟩
theorem CB.below {b B : Nat} {q n : Int} {v : Value} {w w' : World} (h : CB b q n v w) (hb : Below B w w') (hB : b < B) : CB b q n v w' := by
  have e : ∀ o, w'.cell? ⟨b, o, none⟩ = w.cell? ⟨b, o, none⟩ := fun o => by simp [World.cell?, hb.block b hB]
  exact ⟨(e 0).trans h.c0, (e 1).trans h.c1, (e 2).trans h.c2⟩
theorem CB.keep {b : Nat} {q n : Int} {v : Value} {w w' : World} (h : CB b q n v w) (hb : Below w.heap.size w w') : CB b q n v w' := h.below hb (cell_lt h.c0)
/-- What is said of a code. -/
def FD.cchk (D : FD) (n : Int) (m : Nat) (N : Nat → Nat) (Z : Nat → Nat → Int) : Int := if n < 1 ∨ 64 < n then 4 else if D.mchk m N Z ≠ 0 then D.mchk m N Z else if 0 < m ∧ ((N 0 : Nat) : Int) ≠ n then 3 else 0

set_option maxHeartbeats 4000000 in
set_option maxRecDepth 100000 in
theorem ccheck_any {D : FD} (hD : D ∈ fieldsL) {ao : Option Addr} {m ca : Nat} {A : Nat → Option Addr} {N C : Nat → Nat} {Z : Nat → Nat → Int} (n : Int) {w : World} (hA : MatZ ao m A N C Z w) (hm : m ≤ 1000000) :
    Calls Tryz.prog 96 #[.agg #[.int .i64 D.q, .int .i64 n, .slice ao m ca]] w fun e w' => e = .returned (.int .i64 (D.cchk n m N Z)) ∧ Below w.heap.size w w' := by
  obtain ⟨wa, hwa⟩ : ∃ wa, wa = w.alloc (.cells #[.int .i64 D.q, .int .i64 n, .slice ao m ca] 35) := ⟨_, rfl⟩
  have hba : Below w.heap.size w wa := by rw [hwa]; exact (Below.refl _ _).alloc (Nat.le_refl _) _
  have HA : Hid (D ∈ fieldsL ∧ MatZ ao m A N C Z w ∧ Below w.heap.size w wa ∧ CB w.heap.size D.q n (.slice ao m ca) wa ∧ wa.heap.size = w.heap.size + 1) := ⟨hD, hA, hba, by rw [hwa]; exact CB.new _ _ _ _, by rw [hwa]; simp⟩
  obtain ⟨e0, he0⟩ : ∃ e0, e0 = D.mchk m N Z := ⟨_, rfl⟩
  obtain ⟨E, hE⟩ : ∃ E, E = D.cchk n m N Z := ⟨_, rfl⟩
  rw [← hE]
  have HE : Hid (E = D.cchk n m N Z ∧ e0 = D.mchk m N Z) := ⟨hE, he0⟩
  clear hD hA hba he0 hE
  go_enter Tryz.func96, Tryz.ntmps96
  go_wp2_with fail
  rw [← hwa]
  clear hwa
  refine (new_any HA.out.1 wa).mono ?_
  rintro e w1 ⟨F, T, g, rfl, _, _, _, hb1⟩
  have H1 : Hid (Below w.heap.size w w1 ∧ CB w.heap.size D.q n (.slice ao m ca) w1 ∧ w.heap.size < w1.heap.size) := by
    have := hb1.size
    have := HA.out.2.2.2.2
    exact ⟨bel_up' HA.out.2.2.1 hb1, HA.out.2.2.2.1.keep hb1, by omega⟩
  clear hb1
  have hcb := H1.out.2.1
  obtain ⟨c0, c1, c2⟩ := hcb
  by_cases h1 : n < 1
  · have HF : Hid (E = 4) := by show E = 4; rw [HE.out.1]; unfold FD.cchk; rw [if_pos (Or.inl h1)]
    go_wp2
    go_ret
    exact ⟨by rw [HF.out]; rfl, H1.out.1⟩
  · by_cases h2 : 64 < n
    · have HF : Hid (E = 4) := by show E = 4; rw [HE.out.1]; unfold FD.cchk; rw [if_pos (Or.inr h2)]
      go_wp2
      go_ret
      exact ⟨by rw [HF.out]; rfl, H1.out.1⟩
    · have HF : Hid (E = if e0 ≠ 0 then e0 else if 0 < m ∧ ((N 0 : Nat) : Int) ≠ n then 3 else 0) := by show E = _; rw [HE.out.1, HE.out.2]; unfold FD.cchk; rw [if_neg (by omega)]
      go_wp2_with fail
      refine (mcheck_any HA.out.1 (HA.out.2.1.below H1.out.1) hm).mono ?_
      rintro e w2 ⟨rfl, hb2⟩
      rw [← HE.out.2]
      have H2 : Hid (Below w.heap.size w w2 ∧ CB w.heap.size D.q n (.slice ao m ca) w2) := ⟨bel_up' H1.out.1 hb2, H1.out.2.1.keep hb2⟩
      clear hb2 c0 c1 c2
      have hcb := H2.out.2
      obtain ⟨c0, c1, c2⟩ := hcb
      by_cases hz : e0 = 0
      · have hz1 : (e0 != 0) = false := by rw [hz]; rfl
        by_cases hm0 : 0 < m
        · obtain ⟨b, off, hao, hc⟩ := (HA.out.2.1.below H2.out.1).cell 0 hm0
          subst hao
          have hmb : (0 : Int) < (m : Int) := by omega
          have hc : w2.cell? ⟨b, off, none⟩ = some (.slice (A 0) (N 0) (C 0)) := hc
          obtain ⟨N0, hN0⟩ : ∃ N0, N0 = N 0 := ⟨_, rfl⟩
          rw [← hN0] at hc
          have HG : Hid (E = if ((N0 : Nat) : Int) ≠ n then 3 else 0) := by
            show E = _
            rw [HF.out, if_neg (fun h => h hz), hN0]
            by_cases h : ((N 0 : Nat) : Int) ≠ n
            · rw [if_pos h, if_pos ⟨hm0, h⟩]
            · rw [if_neg h, if_neg (fun x => h x.2)]
          clear hN0
          have hd : decide ((0 : Int) < (m : Int)) = true := decide_eq_true hmb
          by_cases hn : ((N0 : Nat) : Int) = n
          · have HG2 : Hid (E = 0) := by show E = 0; rw [HG.out, if_neg (fun h => h hn)]
            have hnb : (((N0 : Nat) : Int) != n) = false := by rw [bne_eq_false_iff_eq]; exact hn
            clear hn
            go_wp2
            go_quiet (fail)
            go_wp2
            go_ret
            exact ⟨by rw [HG2.out]; rfl, below_drewN2 H2.out.1 _⟩
          · have HG2 : Hid (E = 3) := by show E = 3; rw [HG.out, if_pos hn]
            have hnb : (((N0 : Nat) : Int) != n) = true := by rw [bne_iff_ne]; exact hn
            clear hn
            go_wp2
            go_quiet (fail)
            go_wp2
            go_ret
            exact ⟨by rw [HG2.out]; rfl, below_drewN2 H2.out.1 _⟩
        · have HG : Hid (E = 0) := by show E = 0; rw [HF.out, if_neg (fun h => h hz), if_neg (fun h => hm0 h.1)]
          have hd : decide ((0 : Int) < (m : Int)) = false := decide_eq_false (by omega)
          go_wp2
          go_quiet (fail)
          go_wp2
          go_ret
          exact ⟨by rw [HG.out]; rfl, below_drewN2 H2.out.1 _⟩
      · have hz1 : (e0 != 0) = true := by rw [bne_iff_ne]; exact hz
        have HG : Hid (E = e0) := by show E = e0; rw [HF.out, if_pos hz]
        go_wp2
        go_ret
        exact ⟨by rw [HG.out]; rfl, H2.out.1⟩
end Go.Proofs.YtppggchhkckobaaGreat

/- Codes: the reference's CodeMay. -/
namespace Go.Proofs.YtppggchhkckobaaGreat
open Go.RowKit Go.Sort

end Go.Proofs.YtppggchhkckobaaGreat
