/- Texts of ours, one behind the other: U10 U11 U12 U13 U14 U15 U16 U17 V1 V2 V3 W5 V4 V5. -/
import Derived.Test.YtmbglikcanchbadZU8
import Derived.Test.YtmbglikcanchbadZR15
import Derived.Test.YtmbglikcanchbadZW4
import Derived.Lib.QuietBelow
/- The program's polynomials: the calls that are listed: Add. -/
namespace Go.Proofs.Ytmbglikcanchbad
open Go.RowKit

/-- A list that is handed in: where it lies, how long it is, its numbers. -/
structure Arg (ao : Option Addr) (n cap : Nat) (z : Nat → Int) (w : World) : Prop where
  sl : SlZ ao n z w
  lt : LtB ao w.heap.size
  few : n ≤ 1000000
  nil : ao = none → cap = 0
  le : n ≤ cap
  cap : cap ≤ 9223372036854775807
theorem Arg.below {ao : Option Addr} {n cap : Nat} {z : Nat → Int} {w w' : World} (h : Arg ao n cap z w) (hb : Below w.heap.size w w') : Arg ao n cap z w' :=
  ⟨h.sl.below hb h.lt, h.lt.mono hb.size, h.few, h.nil, h.le, h.cap⟩

def two {α : Type} (x y : α) : Nat → α := fun j => if j = 0 then x else y
theorem many_two {ao bo : Option Addr} {n m ca cb : Nat} {z y : Nat → Int} {w : World} (ha : Arg ao n ca z w) (hb : Arg bo m cb y w) :
    Many w.heap.size 2 (two ao bo) (two n m) (two ca cb) (two z y) (w.alloc (.cells #[.slice ao n ca, .slice bo m cb] 22)) := by
  have hbl : Below w.heap.size w (w.alloc (.cells #[.slice ao n ca, .slice bo m cb] 22)) := (Below.refl _ _).alloc (Nat.le_refl _) _
  have a1 := ha.below hbl
  have b1 := hb.below hbl
  refine ⟨fun j hj => ?_, fun j hj => ?_, fun j hj => ?_, fun j hj => ?_, by simp⟩
  · rw [cell_of_row _ _ _ _ _ (0, 0) (two_new _)]
    rcases j with _ | _ | j
    · rfl
    · rfl
    · omega
  · rcases j with _ | _ | j
    · exact a1.sl
    · exact b1.sl
    · omega
  · rcases j with _ | _ | j
    · exact a1.lt
    · exact b1.lt
    · omega
  · rcases j with _ | _ | j
    · exact a1.few
    · exact b1.few
    · omega
/-- What is said of two lists. -/
def FD.chk2 (D : FD) (n : Nat) (z : Nat → Int) (m : Nat) (y : Nat → Int) : Int := if D.chk n z = 0 then D.chk m y else D.chk n z
theorem chks_two (D : FD) (n m : Nat) (z y : Nat → Int) : D.chks (two n m) (two z y) 2 = D.chk2 n z m y := by
  show (if (if (0 : Int) = 0 then D.chk n z else 0) = 0 then D.chk m y else (if (0 : Int) = 0 then D.chk n z else 0)) = _
  rw [if_pos rfl]; rfl
theorem over2_any {D : FD} (hD : D ∈ fieldsL) {ao bo : Option Addr} {n m ca cb : Nat} {z y : Nat → Int} {w : World} (ha : Arg ao n ca z w) (hb : Arg bo m cb y w) :
    Calls Try.prog 94 #[.int .i64 D.q, .slice (some ⟨w.heap.size, 0, none⟩) 2 2] (w.alloc (.cells #[.slice ao n ca, .slice bo m cb] 22)) fun e w' => Below w.heap.size w w' ∧
      ((D.chk2 n z m y = 0 ∧ ∃ F T f, e = .returned (.tuple #[.pointer (some ⟨F, 0, none⟩), .int .i64 0]) ∧ FAt F T D f w' ∧ w.heap.size ≤ F ∧ w.heap.size ≤ T) ∨ (D.chk2 n z m y ≠ 0 ∧ e = .returned (.tuple #[.pointer none, .int .i64 (D.chk2 n z m y)]))) := by
  have h := over_any hD (cap := 2) (many_two ha hb) (by omega)
  rw [chks_two] at h
  refine h.mono ?_
  rintro e w' ⟨hb', hr⟩
  have hbl : Below w.heap.size w (w.alloc (.cells #[.slice ao n ca, .slice bo m cb] 22)) := (Below.refl _ _).alloc (Nat.le_refl _) _
  refine ⟨bel_up hbl hb', ?_⟩
  rcases hr with ⟨h0, F, T, f, rfl, hat, h1, h2⟩ | h
  · simp at h1 h2
    exact Or.inl ⟨h0, F, T, f, rfl, hat, by omega, by omega⟩
  · exact Or.inr h

/-- The coefficients of n numbers that are elements. -/
def zc (n : Nat) (z : Nat → Int) : Nat → Nat := fun j => if j < n then (z j).toNat else 0
theorem zc_bd (n : Nat) (z : Nat → Int) : Bd n (zc n z) := fun k hk => by unfold zc; rw [if_neg (by omega)]
theorem chk_zero {D : FD} {n : Nat} {z : Nat → Int} (h : D.chk n z = 0) : n ≤ 128 ∧ ∀ j, j < n → D.has (z j) = true := by
  unfold FD.chk at h
  by_cases h1 : 128 < n
  · rw [if_pos h1] at h; cases h
  · rw [if_neg h1] at h
    by_cases h2 : D.allHas z n = true
    · exact ⟨by omega, allHas_iff.1 h2⟩
    · rw [if_neg h2] at h; cases h
theorem zc_el {D : FD} (F : Fld D) {n : Nat} {z : Nat → Int} (h : D.chk n z = 0) : El D (zc n z) := fun j => by
  unfold zc
  by_cases e : j < n
  · obtain ⟨x, hx, hxq⟩ := has_nat ((chk_zero h).2 j e)
    rw [if_pos e, hx, Int.toNat_natCast]; exact hxq
  · rw [if_neg e]; exact zero_lt' F
theorem zc_sl {D : FD} {ao : Option Addr} {n : Nat} {z : Nat → Int} {w : World} (h : D.chk n z = 0) (hS : SlZ ao n z w) : Sl ao n (zc n z) w := fun j hj => by
  obtain ⟨b, off, e, hc⟩ := hS j hj
  obtain ⟨x, hx, hxq⟩ := has_nat ((chk_zero h).2 j hj)
  refine ⟨b, off, e, ?_⟩
  rw [hc]
  unfold zc
  rw [if_pos hj, hx, Int.toNat_natCast]
theorem chk2_zero {D : FD} {n m : Nat} {z y : Nat → Int} (h : D.chk2 n z m y = 0) : D.chk n z = 0 ∧ D.chk m y = 0 := by
  unfold FD.chk2 at h
  by_cases e : D.chk n z = 0
  · rw [if_pos e] at h; exact ⟨e, h⟩
  · rw [if_neg e] at h; exact absurd h e

end Go.Proofs.Ytmbglikcanchbad

/- The program's polynomials: the calls that are listed: Mul, Div, At. -/
namespace Go.Proofs.Ytmbglikcanchbad
open Go.RowKit

/-- Both lists, once they may be: over the field D, without noughts at the end. -/
theorem trims_ok {D : FD} {ao : Option Addr} {n cap : Nat} {z : Nat → Int} {w : World} (h : D.chk n z = 0) (ha : Arg ao n cap z w) :
    Calls Try.prog 95 #[.slice ao n cap] w fun e w' => e = .returned (.slice ao (dgn (zc n z) n) cap) ∧ ∃ k, w' = w.drewN k :=
  trim_any (zc_sl h ha.sl) ha.le ha.cap

end Go.Proofs.Ytmbglikcanchbad

/- The program's polynomials: the calls that are listed: Div, At. -/
namespace Go.Proofs.Ytmbglikcanchbad
open Go.RowKit

/-- The quotient and the rest of two polynomials of n and m coefficients. -/
def FD.quo (D : FD) (a : Nat → Nat) (n : Nat) (b : Nat → Nat) (m : Nat) : Nat → Nat := divQ D b (dgn b m - 1) (D.iv (b (dgn b m - 1))) (n - (dgn b m - 1)) a
def FD.rst (D : FD) (a : Nat → Nat) (n : Nat) (b : Nat → Nat) (m : Nat) : Nat → Nat := divR D b (dgn b m - 1) (D.iv (b (dgn b m - 1))) (n - (dgn b m - 1)) a

set_option maxHeartbeats 4000000 in
set_option maxRecDepth 100000 in
theorem pdiv_any {D : FD} (hD : D ∈ fieldsL) {ao bo : Option Addr} {n m ca cb : Nat} {z y : Nat → Int} {w : World} (ha : Arg ao n ca z w) (hb : Arg bo m cb y w) :
    Calls Try.prog 120 #[.int .i64 D.q, .slice ao n ca, .slice bo m cb] w fun e w' => Below w.heap.size w w' ∧
      ((D.chk2 n z m y = 0 ∧ dgn (zc m y) m ≠ 0 ∧ ∃ v u, e = .returned (.tuple #[v, u, .int .i64 0]) ∧ OwnP w.heap.size v (dgn (D.quo (zc n z) n (zc m y) m) (n - (dgn (zc m y) m - 1))) (D.quo (zc n z) n (zc m y) m) w' ∧ OwnP w.heap.size u (dgn (D.rst (zc n z) n (zc m y) m) n) (D.rst (zc n z) n (zc m y) m) w') ∨
       (D.chk2 n z m y = 0 ∧ dgn (zc m y) m = 0 ∧ e = .returned (.tuple #[.slice none 0 0, .slice none 0 0, .int .i64 5])) ∨ (D.chk2 n z m y ≠ 0 ∧ e = .returned (.tuple #[.slice none 0 0, .slice none 0 0, .int .i64 (D.chk2 n z m y)]))) := by
  have HA : Hid (Arg ao n ca z w ∧ Arg bo m cb y w ∧ D ∈ fieldsL) := ⟨ha, hb, hD⟩
  clear ha hb hD
  unfold FD.quo FD.rst
  obtain ⟨m', hm'⟩ : ∃ m', m' = dgn (zc m y) m := ⟨_, rfl⟩
  have hm1 : m' ≤ m := by rw [hm']; exact dgn_le _ _
  rw [← hm']
  have HN0 : Hid (m' = dgn (zc m y) m) := hm'
  clear hm'
  go_enter Try.func120, Try.ntmps120
  go_wp2_with fail
  refine (over2_any HA.out.2.2 HA.out.1 HA.out.2.1).mono ?_
  rintro e w1 ⟨hb1, hr⟩
  rcases hr with ⟨h0, F, T, f, rfl, hat, hF, hT⟩ | ⟨h0, rfl⟩
  · have HW : Hid (D.chk2 n z m y = 0 ∧ FAt F T D f w1 ∧ Below w.heap.size w w1 ∧ Arg ao n ca z w1 ∧ Arg bo m cb y w1) := ⟨h0, hat, hb1, HA.out.1.below hb1, HA.out.2.1.below hb1⟩
    clear h0 hat hF hT hb1
    have c0 := chk2_zero HW.out.1
    have hn128 := (chk_zero c0.1).1
    have hm128 := (chk_zero c0.2).1
    have HN : Hid (m' = dgn (zc m y) m ∧ D.chk n z = 0 ∧ D.chk m y = 0) := ⟨HN0.out, c0⟩
    clear c0
    go_wp2_with fail
    refine (trims_ok HN.out.2.2 HW.out.2.2.2.2).mono ?_
    rintro e w' ⟨rfl, k1, rfl⟩
    rw [← HN.out.1]
    by_cases hm0 : m' = 0
    · have hz : ((m' : Int) == 0) = true := by rw [hm0]; rfl
      have HZ : Hid (m' = 0) := hm0
      clear hm0
      go_wp2
      go_ret3
      exact ⟨below_drewN2 HW.out.2.2.1 _, Or.inr (Or.inl ⟨HW.out.1, HZ.out, rfl⟩)⟩
    · obtain ⟨l, rfl⟩ : ∃ l, m' = l + 1 := ⟨m' - 1, by omega⟩
      have hF := fld HA.out.2.2
      have HP := fun d => divide_any HA.out.2.2 (HW.out.2.1.drewN d) (ca := ca) (cb := cb) (show n ≤ 1000 by omega) (show l < 1000 by omega) (zc_el hF HN.out.2.1) (zc_el hF HN.out.2.2) (zc_bd _ _) (by rw [HN.out.1]; exact dgn_bd (zc_bd _ _)) (by
        have h := dgn_top (zc m y) m (by rw [← HN.out.1]; omega)
        rw [← HN.out.1] at h; exact h) (zc_sl HN.out.2.1 HW.out.2.2.2.1.sl) ((zc_sl HN.out.2.2 HW.out.2.2.2.2.sl).less hm1) HW.out.2.2.2.1.lt HW.out.2.2.2.2.lt HW.out.2.2.2.1.nil
      clear hF
      go_wp2_with fail
      refine (HP _).mono ?_
      rintro e w2 ⟨vq, vr, rfl, hq, hr, hb2⟩
      have hs := HW.out.2.2.1.size
      have HR : Hid (OwnP w.heap.size vq (dgn (divQ D (zc m y) l (D.iv (zc m y l)) (n - l) (zc n z)) (n - l)) (divQ D (zc m y) l (D.iv (zc m y l)) (n - l) (zc n z)) w2 ∧ OwnP w.heap.size vr (dgn (divR D (zc m y) l (D.iv (zc m y l)) (n - l) (zc n z)) n) (divR D (zc m y) l (D.iv (zc m y l)) (n - l) (zc n z)) w2 ∧ Below w.heap.size w w2) := ⟨hq.mono hs, hr.mono hs, bel_up (below_drewN2 HW.out.2.2.1 _) hb2⟩
      clear hq hr hb2 HP
      go_wp2
      go_ret3
      exact ⟨HR.out.2.2, Or.inl ⟨HW.out.1, by omega, vq, vr, rfl, HR.out.1, HR.out.2.1⟩⟩
  · have HW : Hid (D.chk2 n z m y ≠ 0 ∧ Below w.heap.size w w1) := ⟨h0, hb1⟩
    obtain ⟨e, he⟩ : ∃ e, e = D.chk2 n z m y := ⟨_, rfl⟩
    rw [← he] at h0 ⊢
    have hz : (e != 0) = true := by rw [bne_iff_ne]; exact h0
    have HE : Hid (e = D.chk2 n z m y) := he
    clear h0 hb1 he
    go_wp2
    go_ret3
    exact ⟨HW.out.2, Or.inr (Or.inr ⟨HW.out.1, by rw [← HE.out]; rfl⟩)⟩
end Go.Proofs.Ytmbglikcanchbad

/- The program's polynomials: the calls that are listed: At, Roots. -/
namespace Go.Proofs.Ytmbglikcanchbad
open Go.RowKit

end Go.Proofs.Ytmbglikcanchbad

/- The program's polynomials: the calls that are listed: Roots. -/
namespace Go.Proofs.Ytmbglikcanchbad
open Go.RowKit

end Go.Proofs.Ytmbglikcanchbad

/- The program's polynomials: with 1 at the end (monic); the calls that are listed: Gcd. -/
namespace Go.Proofs.Ytmbglikcanchbad
open Go.RowKit

/-- A polynomial's slice without noughts at the end: where it lies, its coefficients. -/
structure PA (D : FD) (ao : Option Addr) (n cap : Nat) (c : Nat → Nat) (w : World) : Prop where
  sl : Sl ao n c w
  lt : LtB ao w.heap.size
  nil : ao = none → cap = 0
  el : El D c
  trd : Trd n c
theorem PA.below {D : FD} {ao : Option Addr} {n cap : Nat} {c : Nat → Nat} {w w' : World} (h : PA D ao n cap c w) (hb : Below w.heap.size w w') : PA D ao n cap c w' :=
  ⟨h.sl.below hb h.lt, h.lt.mono hb.size, h.nil, h.el, h.trd⟩
theorem PA.drewN {D : FD} {ao : Option Addr} {n cap : Nat} {c : Nat → Nat} {w : World} (h : PA D ao n cap c w) (k : Nat) : PA D ao n cap c (w.drewN k) := ⟨h.sl, h.lt, h.nil, h.el, h.trd⟩
theorem OwnP.pa {D : FD} {base n : Nat} {v : Value} {c : Nat → Nat} {w : World} (h : OwnP base v n c w) (he : El D c) (ht : Trd n c) : ∃ ao cap, v = .slice ao n cap ∧ PA D ao n cap c w := by
  obtain ⟨ao, cap, hv, _, _, _, hl, hz, hs⟩ := h.open
  exact ⟨ao, cap, hv, hs, hl, hz, he, ht⟩

end Go.Proofs.Ytmbglikcanchbad

/- How many there are to try (tooMany, Tries). -/
namespace Go.Proofs.Ytmbglikcanchbad
open Go.RowKit

end Go.Proofs.Ytmbglikcanchbad

/- Does an element stand twice in a list (hasTwice)? -/
namespace Go.Proofs.Ytmbglikcanchbad
open Go.RowKit

end Go.Proofs.Ytmbglikcanchbad

/- The reference's polynomials: without noughts at the end (Trim); which may be (PolyMay). -/
namespace Go.Proofs.Ytmbglikcanchbad
open Go.RowKit

end Go.Proofs.Ytmbglikcanchbad

/- The reference's polynomials: which may be (PolyMay). -/
namespace Go.Proofs.Ytmbglikcanchbad
open Go.RowKit

end Go.Proofs.Ytmbglikcanchbad

/- The reference's polynomials: sums (PAdd). -/
namespace Go.Proofs.Ytmbglikcanchbad
open Go.RowKit

end Go.Proofs.Ytmbglikcanchbad

/- The same where the calls lay blocks: the worlds in which nothing that was there has turned. No Go text here. -/
namespace Go.Proofs.Ytmbglikcanchbad
open Go Go.Sort Go.RowKit

theorem quiet_tail_of {P : Program} {C : World → Prop} {id : Nat} {Q : Exit → Act → World → Prop} {a : Act} {w : World} {l : List Oper} (n : Nat) (hm : P.follows .mixedOrders = true) (hB : Region.lexTailB .any l.toArray n = true) (hC : C { w with drawn := w.drawn + 1 })
    (h : wpQuiet P l.toArray C (fun a' => ∀ w', C w' → wpList P l.toArray Q (l.drop n) a' w') (l.take n) a) : (Code.region id l.toArray true).wp P Q a w := by
  simp only [Region.lexTailB, Bool.and_eq_true, decide_eq_true_eq] at hB
  obtain ⟨⟨⟨⟨hsel, hn⟩, hs⟩, hc⟩, hlex⟩ := hB
  have hn' : n < l.length := by simpa using hn
  have htl : (l.take n).length = n := by simp; omega
  have hdl : (l.drop n).length = l.toArray.size - n := by simp
  have inv0 : HeadInv .any l.toArray n (Array.replicate l.toArray.size false) :=
    ⟨by simp, fun j oj _ hl => (by rw [getD_replicate_false] at hl; cases hl), fun t _ ht => getD_in (by simpa using ht) (getD_replicate_false _ _)⟩
  have H := head_lex (g := l.toArray.size - n) hsel hs hc hn (l.take n) 0 _ a (fun j hj => by
    have hj' : j < n := by rw [htl] at hj; exact hj
    simp [hj']) (by simpa using htl) inv0 (by rw [htl]; exact hlex) h
  refine wp_region_any hm ?_
  have R := head_any (Q := Q) (g := l.toArray.size - n) (fun s a' w' hw' hL => by
    have := wpAny_of_seq (md := .any) (Q' := Q) (l.drop n) n s a' w' (fun j => by simp [List.getElem?_drop]) (by rw [hdl]; exact hL.1) (hL.2 w' hw')
    rwa [hdl] at this) _ _ _ _ hC H
  rw [htl, show n + (l.toArray.size - n) = l.toArray.size by omega] at R
  exact R
theorem below_tail {P : Program} {id : Nat} {Q : Exit → Act → World → Prop} {a : Act} {w : World} {l : List Oper} (n : Nat) (hm : P.follows .mixedOrders = true) (hB : Region.lexTailB .any l.toArray n = true)
    (h : wpQuiet P l.toArray (fun w' => ∃ p : Regrown, w' = grow (redrawn w p.d) p.os) (fun a' => ∀ w', (∃ p : Regrown, w' = grow (redrawn w p.d) p.os) → wpList P l.toArray Q (l.drop n) a' w') (l.take n) a) : (Code.region id l.toArray true).wp P Q a w :=
  quiet_tail_of (C := fun w' => ∃ p : Regrown, w' = grow (redrawn w p.d) p.os) n hm hB ⟨⟨w.drawn + 1, #[]⟩, by rw [grow_empty]; rfl⟩ h
theorem free_regrown {w : World} {a : Addr} (ha : a.block < w.heap.size) (h : w.frozen? a = false) (d : Nat) (os : Array Obj) : (grow (redrawn w d) os).frozen? a = false := by
  rw [World.frozen?_of_block (w := w) ((below_regrown w d os).block _ ha)]; exact h
end Go.Proofs.Ytmbglikcanchbad

/- The reference's polynomials: products (PMul). -/
namespace Go.Proofs.Ytmbglikcanchbad
open Go.RowKit Go.Sort

end Go.Proofs.Ytmbglikcanchbad

/- The reference's polynomials: values of a polynomial that came in (value, PAt). -/
namespace Go.Proofs.Ytmbglikcanchbad
open Go.RowKit

end Go.Proofs.Ytmbglikcanchbad
