/- Texts of ours, one behind the other: U12 U13 U14 U15 U16 U17 V1 V2 V3 W5 V4 V5. -/
import Derived.Test.YtcgmllamiaflcaaZU9
import Derived.Test.YtcgmllamiaflcaaZR5
import Derived.Test.YtcgmllamiaflcaaZW4
import Derived.Lib.QuietBelow
/- The program's polynomials: the calls that are listed: Div, At. -/
namespace Go.Proofs.Ytcgmllamiaflcaa
open Go.RowKit

/-- The quotient and the rest of two polynomials of n and m coefficients. -/
def FD.quo (D : FD) (a : Nat → Nat) (n : Nat) (b : Nat → Nat) (m : Nat) : Nat → Nat := divQ D b (dgn b m - 1) (D.iv (b (dgn b m - 1))) (n - (dgn b m - 1)) a
def FD.rst (D : FD) (a : Nat → Nat) (n : Nat) (b : Nat → Nat) (m : Nat) : Nat → Nat := divR D b (dgn b m - 1) (D.iv (b (dgn b m - 1))) (n - (dgn b m - 1)) a

set_option maxHeartbeats 4000000 in
set_option maxRecDepth 100000 in
theorem pdiv_any {D : FD} (hD : D ∈ fieldsL) {ao bo : Option Addr} {n m ca cb : Nat} {z y : Nat → Int} {w : World} (ha : Arg ao n ca z w) (hb : Arg bo m cb y w) :
    Calls Try.prog 62 #[.int .i64 D.q, .slice ao n ca, .slice bo m cb] w fun e w' => Below w.heap.size w w' ∧
      ((D.chk2 n z m y = 0 ∧ dgn (zc m y) m ≠ 0 ∧ ∃ v u, e = .returned (.tuple #[v, u, .int .i64 0]) ∧ OwnP w.heap.size v (dgn (D.quo (zc n z) n (zc m y) m) (n - (dgn (zc m y) m - 1))) (D.quo (zc n z) n (zc m y) m) w' ∧ OwnP w.heap.size u (dgn (D.rst (zc n z) n (zc m y) m) n) (D.rst (zc n z) n (zc m y) m) w') ∨
       (D.chk2 n z m y = 0 ∧ dgn (zc m y) m = 0 ∧ e = .returned (.tuple #[.slice none 0 0, .slice none 0 0, .int .i64 5])) ∨ (D.chk2 n z m y ≠ 0 ∧ e = .returned (.tuple #[.slice none 0 0, .slice none 0 0, .int .i64 (D.chk2 n z m y)]))) := by
  have HA : Hid (Arg ao n ca z w ∧ Arg bo m cb y w ∧ D ∈ fieldsL) := ⟨ha, hb, hD⟩
  clear ha hb hD
  unfold FD.quo FD.rst
  obtain ⟨m', hm'⟩ : ∃ m', m' = dgn (zc m y) m := ⟨_, rfl⟩
  have hm1 : m' ≤ m := by rw [hm']; exact dgn_le _ _
  rw [← hm']
  have HN0 : Hid (m' = dgn (zc m y) m) := hm'
  clear hm'
  go_enter Try.func62, Try.ntmps62
  go_wp2_with fail
  refine (over2_any HA.out.2.2 HA.out.1 HA.out.2.1).mono ?_
  rintro e w1 ⟨hb1, hr⟩
  rcases hr with ⟨h0, F, T, f, rfl, hat, hF, hT⟩ | ⟨h0, rfl⟩
  · have HW : Hid (D.chk2 n z m y = 0 ∧ FAt F T D f w1 ∧ Below w.heap.size w w1 ∧ Arg ao n ca z w1 ∧ Arg bo m cb y w1) := ⟨h0, hat, hb1, HA.out.1.below hb1, HA.out.2.1.below hb1⟩
    clear h0 hat hF hT hb1
    have c0 := chk2_zero HW.out.1
    have hn128 := (chk_zero c0.1).1
    have hm128 := (chk_zero c0.2).1
    have HN : Hid (m' = dgn (zc m y) m ∧ D.chk n z = 0 ∧ D.chk m y = 0) := ⟨HN0.out, c0⟩
    clear c0
    go_wp2_with fail
    refine (trims_ok HN.out.2.2 HW.out.2.2.2.2).mono ?_
    rintro e w' ⟨rfl, k1, rfl⟩
    rw [← HN.out.1]
    by_cases hm0 : m' = 0
    · have hz : ((m' : Int) == 0) = true := by rw [hm0]; rfl
      have HZ : Hid (m' = 0) := hm0
      clear hm0
      go_wp2
      go_ret3
      exact ⟨below_drewN2 HW.out.2.2.1 _, Or.inr (Or.inl ⟨HW.out.1, HZ.out, rfl⟩)⟩
    · obtain ⟨l, rfl⟩ : ∃ l, m' = l + 1 := ⟨m' - 1, by omega⟩
      have hF := fld HA.out.2.2
      have HP := fun d => divide_any HA.out.2.2 (HW.out.2.1.drewN d) (ca := ca) (cb := cb) (show n ≤ 1000 by omega) (show l < 1000 by omega) (zc_el hF HN.out.2.1) (zc_el hF HN.out.2.2) (zc_bd _ _) (by rw [HN.out.1]; exact dgn_bd (zc_bd _ _)) (by
        have h := dgn_top (zc m y) m (by rw [← HN.out.1]; omega)
        rw [← HN.out.1] at h; exact h) (zc_sl HN.out.2.1 HW.out.2.2.2.1.sl) ((zc_sl HN.out.2.2 HW.out.2.2.2.2.sl).less hm1) HW.out.2.2.2.1.lt HW.out.2.2.2.2.lt HW.out.2.2.2.1.nil
      clear hF
      go_wp2_with fail
      refine (HP _).mono ?_
      rintro e w2 ⟨vq, vr, rfl, hq, hr, hb2⟩
      have hs := HW.out.2.2.1.size
      have HR : Hid (OwnP w.heap.size vq (dgn (divQ D (zc m y) l (D.iv (zc m y l)) (n - l) (zc n z)) (n - l)) (divQ D (zc m y) l (D.iv (zc m y l)) (n - l) (zc n z)) w2 ∧ OwnP w.heap.size vr (dgn (divR D (zc m y) l (D.iv (zc m y l)) (n - l) (zc n z)) n) (divR D (zc m y) l (D.iv (zc m y l)) (n - l) (zc n z)) w2 ∧ Below w.heap.size w w2) := ⟨hq.mono hs, hr.mono hs, bel_up (below_drewN2 HW.out.2.2.1 _) hb2⟩
      clear hq hr hb2 HP
      go_wp2
      go_ret3
      exact ⟨HR.out.2.2, Or.inl ⟨HW.out.1, by omega, vq, vr, rfl, HR.out.1, HR.out.2.1⟩⟩
  · have HW : Hid (D.chk2 n z m y ≠ 0 ∧ Below w.heap.size w w1) := ⟨h0, hb1⟩
    obtain ⟨e, he⟩ : ∃ e, e = D.chk2 n z m y := ⟨_, rfl⟩
    rw [← he] at h0 ⊢
    have hz : (e != 0) = true := by rw [bne_iff_ne]; exact h0
    have HE : Hid (e = D.chk2 n z m y) := he
    clear h0 hb1 he
    go_wp2
    go_ret3
    exact ⟨HW.out.2, Or.inr (Or.inr ⟨HW.out.1, by rw [← HE.out]; rfl⟩)⟩
end Go.Proofs.Ytcgmllamiaflcaa

/- The program's polynomials: the calls that are listed: At, Roots. -/
namespace Go.Proofs.Ytcgmllamiaflcaa
open Go.RowKit

end Go.Proofs.Ytcgmllamiaflcaa

/- The program's polynomials: the calls that are listed: Roots. -/
namespace Go.Proofs.Ytcgmllamiaflcaa
open Go.RowKit

end Go.Proofs.Ytcgmllamiaflcaa

/- The program's polynomials: with 1 at the end (monic); the calls that are listed: Gcd. -/
namespace Go.Proofs.Ytcgmllamiaflcaa
open Go.RowKit

/-- A polynomial's slice without noughts at the end: where it lies, its coefficients. -/
structure PA (D : FD) (ao : Option Addr) (n cap : Nat) (c : Nat → Nat) (w : World) : Prop where
  sl : Sl ao n c w
  lt : LtB ao w.heap.size
  nil : ao = none → cap = 0
  el : El D c
  trd : Trd n c
theorem PA.below {D : FD} {ao : Option Addr} {n cap : Nat} {c : Nat → Nat} {w w' : World} (h : PA D ao n cap c w) (hb : Below w.heap.size w w') : PA D ao n cap c w' :=
  ⟨h.sl.below hb h.lt, h.lt.mono hb.size, h.nil, h.el, h.trd⟩
theorem PA.drewN {D : FD} {ao : Option Addr} {n cap : Nat} {c : Nat → Nat} {w : World} (h : PA D ao n cap c w) (k : Nat) : PA D ao n cap c (w.drewN k) := ⟨h.sl, h.lt, h.nil, h.el, h.trd⟩
theorem OwnP.pa {D : FD} {base n : Nat} {v : Value} {c : Nat → Nat} {w : World} (h : OwnP base v n c w) (he : El D c) (ht : Trd n c) : ∃ ao cap, v = .slice ao n cap ∧ PA D ao n cap c w := by
  obtain ⟨ao, cap, hv, _, _, _, hl, hz, hs⟩ := h.open
  exact ⟨ao, cap, hv, hs, hl, hz, he, ht⟩

end Go.Proofs.Ytcgmllamiaflcaa

/- How many there are to try (tooMany, Tries). -/
namespace Go.Proofs.Ytcgmllamiaflcaa
open Go.RowKit

end Go.Proofs.Ytcgmllamiaflcaa

/- Does an element stand twice in a list (hasTwice)? -/
namespace Go.Proofs.Ytcgmllamiaflcaa
open Go.RowKit

/-- Some number stands twice among the first n. -/
def Twice (c : Nat → Nat) (n : Nat) : Prop := ∃ i j, i < j ∧ j < n ∧ c i = c j

set_option maxHeartbeats 2000000 in
set_option maxRecDepth 100000 in
theorem hasTwice_any {ao : Option Addr} {n cap : Nat} {c : Nat → Nat} {w : World} (h : Sl ao n c w) (hn : n ≤ 1000) (hl : LtB ao w.heap.size) (hc : ∀ j, c j < 64) :
    Calls Try.prog 86 #[.slice ao n cap] w fun e w' => (∃ b, e = .returned (.bool b) ∧ (b = true ↔ Twice c n)) ∧ Below w.heap.size w w' := by
  have HS : Hid (Sl ao n c w ∧ LtB ao w.heap.size ∧ ∀ j, c j < 64) := ⟨h, hl, hc⟩
  clear h hl hc
  go_enter Try.func86, Try.ntmps86
  go_wp2
  change Code.wp _ _ _ _ (w.alloc (.cells (Array.replicate 64 (.bool false)) 110))
  obtain ⟨w1, hw1⟩ : ∃ w1 : World, w1 = w.alloc (.cells (Array.replicate 64 (.bool false)) 110) := ⟨_, rfl⟩
  have HR1 : Hid (RowF w.heap.size 64 110 (fun _ => .bool false) w1 ∧ Below w.heap.size w w1) := by
    rw [hw1]
    refine ⟨⟨_, two_new _, by simp, fun o ho => by simp [ho]⟩, (Below.refl _ _).alloc (Nat.le_refl _) _⟩
  rw [← hw1]
  clear hw1
  go_loopw [8] (fun i wr => ∃ (r : Nat) (f : Nat → Value), r ≤ n ∧ i = .int .i64 r ∧ RowF w.heap.size 64 110 f wr ∧ (∀ x, x < 64 → f x = .bool (decide (∃ i, i < r ∧ c i = x))) ∧ ¬ Twice c r ∧ Below w.heap.size w wr) (fun i _ => n - (intOf i).toNat)
  case atStart => exact ⟨0, _, by omega, rfl, HR1.out.1, fun x _ => by rw [decide_eq_false (by rintro ⟨i, hi, _⟩; omega)], by rintro ⟨i, j, h1, h2, _⟩; omega, HR1.out.2⟩
  case round =>
    obtain ⟨r, f, hr, rfl, hrow, hf, hnt, hbel⟩ := hrel
    have HG : Hid (RowF w.heap.size 64 110 f wr ∧ (∀ x, x < 64 → f x = .bool (decide (∃ i, i < r ∧ c i = x))) ∧ ¬ Twice c r ∧ Below w.heap.size w wr) := ⟨hrow, hf, hnt, hbel⟩
    clear hrow hf hnt hbel
    by_cases hlt : r < n
    · obtain ⟨b, off, rfl, hcx⟩ := (HS.out.1.below HG.out.2.2.2 HS.out.2.1) r hlt
      obtain ⟨x, hx⟩ : ∃ x, x = c r := ⟨_, rfl⟩
      have hx64 : x < 64 := by rw [hx]; exact HS.out.2.2 r
      rw [← hx] at hcx
      have hfr := HG.out.1.free x
      by_cases hseen : ∃ i, i < r ∧ c i = x
      · have hcs : wr.cell? ⟨w.heap.size, x, none⟩ = some (.bool true) := by rw [HG.out.1.cell x (by omega), HG.out.2.1 x hx64, decide_eq_true hseen]
        have HT : Hid (Twice c n) := by
          obtain ⟨i, hi, e⟩ := hseen
          exact ⟨i, r, hi, hlt, by rw [e, hx]⟩
        clear hseen hx
        go_wp2
        go_ret
        exact ⟨⟨true, rfl, fun _ => HT.out, fun _ => rfl⟩, HG.out.2.2.2⟩
      · have hcs : wr.cell? ⟨w.heap.size, x, none⟩ = some (.bool false) := by rw [HG.out.1.cell x (by omega), HG.out.2.1 x hx64, decide_eq_false hseen]
        have HN : Hid (¬ Twice c (r + 1) ∧ ∀ y, y < 64 → upd f x (.bool true) y = .bool (decide (∃ i, i < r + 1 ∧ c i = y))) := by
          refine ⟨?_, fun y hy => ?_⟩
          · rintro ⟨i, j, h1, h2, e⟩
            by_cases ej : j = r
            · exact hseen ⟨i, by omega, by rw [e, ej, hx]⟩
            · exact HG.out.2.2.1 ⟨i, j, h1, by omega, e⟩
          · by_cases ey : y = x
            · rw [ey, upd_at, decide_eq_true ⟨r, by omega, hx.symm⟩]
            · rw [upd_ne _ _ _ ey, HG.out.2.1 y hy]
              congr 1
              rw [decide_eq_decide]
              constructor
              · rintro ⟨i, hi, e⟩; exact ⟨i, by omega, e⟩
              · rintro ⟨i, hi, e⟩
                by_cases ei : i = r
                · exact absurd (by rw [← e, ei, hx]) ey
                · exact ⟨i, by omega, e⟩
        clear hseen hx
        go_wp2
        go_roundw
        case rel => exact ⟨r + 1, _, by omega, by go_num, HG.out.1.store x _, HN.out.2, HN.out.1, HG.out.2.2.2.setCell (by simp) _⟩
        case measure => simp [intOf]; omega
    · have HT : Hid (¬ Twice c n) := by have h := HG.out.2.2.1; rw [show r = n from by omega] at h; exact h
      go_wp2
      go_ret
      exact ⟨⟨false, rfl, fun e => (by cases e), fun e => absurd e HT.out⟩, HG.out.2.2.2⟩
end Go.Proofs.Ytcgmllamiaflcaa

/- The reference's polynomials: without noughts at the end (Trim); which may be (PolyMay). -/
namespace Go.Proofs.Ytcgmllamiaflcaa
open Go.RowKit

end Go.Proofs.Ytcgmllamiaflcaa

/- The reference's polynomials: which may be (PolyMay). -/
namespace Go.Proofs.Ytcgmllamiaflcaa
open Go.RowKit

end Go.Proofs.Ytcgmllamiaflcaa

/- The reference's polynomials: sums (PAdd). -/
namespace Go.Proofs.Ytcgmllamiaflcaa
open Go.RowKit

end Go.Proofs.Ytcgmllamiaflcaa

/- The same where the calls lay blocks: the worlds in which nothing that was there has turned. No Go text here. -/
namespace Go.Proofs.Ytcgmllamiaflcaa
open Go Go.Sort Go.RowKit

end Go.Proofs.Ytcgmllamiaflcaa

/- The reference's polynomials: products (PMul). -/
namespace Go.Proofs.Ytcgmllamiaflcaa
open Go.RowKit Go.Sort

end Go.Proofs.Ytcgmllamiaflcaa

/- The reference's polynomials: values of a polynomial that came in (value, PAt). -/
namespace Go.Proofs.Ytcgmllamiaflcaa
open Go.RowKit

end Go.Proofs.Ytcgmllamiaflcaa
