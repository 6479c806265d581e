/- Texts of ours, one behind the other: U10 U11 U12 U13 U14 U15 U16. -/
import Derived.Test.YthmjdcajaoilgakZU8
/- The program's polynomials: the calls that are listed: Add. -/
namespace Go.Proofs.Ythmjdcajaoilgak
open Go.RowKit

/-- A list that is handed in: where it lies, how long it is, its numbers. -/
structure Arg (ao : Option Addr) (n cap : Nat) (z : Nat → Int) (w : World) : Prop where
  sl : SlZ ao n z w
  lt : LtB ao w.heap.size
  few : n ≤ 1000000
  nil : ao = none → cap = 0
  le : n ≤ cap
  cap : cap ≤ 9223372036854775807
theorem Arg.below {ao : Option Addr} {n cap : Nat} {z : Nat → Int} {w w' : World} (h : Arg ao n cap z w) (hb : Below w.heap.size w w') : Arg ao n cap z w' :=
  ⟨h.sl.below hb h.lt, h.lt.mono hb.size, h.few, h.nil, h.le, h.cap⟩

def two {α : Type} (x y : α) : Nat → α := fun j => if j = 0 then x else y
theorem many_two {ao bo : Option Addr} {n m ca cb : Nat} {z y : Nat → Int} {w : World} (ha : Arg ao n ca z w) (hb : Arg bo m cb y w) :
    Many w.heap.size 2 (two ao bo) (two n m) (two ca cb) (two z y) (w.alloc (.cells #[.slice ao n ca, .slice bo m cb] 22)) := by
  have hbl : Below w.heap.size w (w.alloc (.cells #[.slice ao n ca, .slice bo m cb] 22)) := (Below.refl _ _).alloc (Nat.le_refl _) _
  have a1 := ha.below hbl
  have b1 := hb.below hbl
  refine ⟨fun j hj => ?_, fun j hj => ?_, fun j hj => ?_, fun j hj => ?_, by simp⟩
  · rw [cell_of_row _ _ _ _ _ (0, 0) (two_new _)]
    rcases j with _ | _ | j
    · rfl
    · rfl
    · omega
  · rcases j with _ | _ | j
    · exact a1.sl
    · exact b1.sl
    · omega
  · rcases j with _ | _ | j
    · exact a1.lt
    · exact b1.lt
    · omega
  · rcases j with _ | _ | j
    · exact a1.few
    · exact b1.few
    · omega
/-- What is said of two lists. -/
def FD.chk2 (D : FD) (n : Nat) (z : Nat → Int) (m : Nat) (y : Nat → Int) : Int := if D.chk n z = 0 then D.chk m y else D.chk n z
theorem chks_two (D : FD) (n m : Nat) (z y : Nat → Int) : D.chks (two n m) (two z y) 2 = D.chk2 n z m y := by
  show (if (if (0 : Int) = 0 then D.chk n z else 0) = 0 then D.chk m y else (if (0 : Int) = 0 then D.chk n z else 0)) = _
  rw [if_pos rfl]; rfl
theorem over2_any {D : FD} (hD : D ∈ fieldsL) {ao bo : Option Addr} {n m ca cb : Nat} {z y : Nat → Int} {w : World} (ha : Arg ao n ca z w) (hb : Arg bo m cb y w) :
    Calls Try.prog 77 #[.int .i64 D.q, .slice (some ⟨w.heap.size, 0, none⟩) 2 2] (w.alloc (.cells #[.slice ao n ca, .slice bo m cb] 22)) fun e w' => Below w.heap.size w w' ∧
      ((D.chk2 n z m y = 0 ∧ ∃ F T f, e = .returned (.tuple #[.pointer (some ⟨F, 0, none⟩), .int .i64 0]) ∧ FAt F T D f w' ∧ w.heap.size ≤ F ∧ w.heap.size ≤ T) ∨ (D.chk2 n z m y ≠ 0 ∧ e = .returned (.tuple #[.pointer none, .int .i64 (D.chk2 n z m y)]))) := by
  have h := over_any hD (cap := 2) (many_two ha hb) (by omega)
  rw [chks_two] at h
  refine h.mono ?_
  rintro e w' ⟨hb', hr⟩
  have hbl : Below w.heap.size w (w.alloc (.cells #[.slice ao n ca, .slice bo m cb] 22)) := (Below.refl _ _).alloc (Nat.le_refl _) _
  refine ⟨bel_up hbl hb', ?_⟩
  rcases hr with ⟨h0, F, T, f, rfl, hat, h1, h2⟩ | h
  · simp at h1 h2
    exact Or.inl ⟨h0, F, T, f, rfl, hat, by omega, by omega⟩
  · exact Or.inr h

set_option maxHeartbeats 1000000 in
set_option maxRecDepth 100000 in
theorem over_none (q : Int) (h : ∀ D ∈ fieldsL, (D.q : Int) ≠ q) (g k cap : Nat) (v : Value) (w : World) (hk : 0 < k) (hc : w.cell? ⟨g, 0, none⟩ = some v) :
    Calls Try.prog 77 #[.int .i64 q, .slice (some ⟨g, 0, none⟩) k cap] w fun e w' => e = .returned (.tuple #[.pointer none, .int .i64 1]) ∧ w' = w := by
  have HB : Hid (∀ D ∈ fieldsL, (D.q : Int) ≠ q) := h
  clear h
  go_enter Try.func77, Try.ntmps77
  go_wp2
  refine wp_loop_rounds 1 ?_
  rw [rounds_succ]
  go_wp2_with (go_at_call 30; refine (check_none q HB.out _ _).mono ?_; rintro e w' ⟨rfl, hw⟩; have hw := hw.symm; subst hw)
  go_ret2
  exact ⟨rfl, rfl⟩

/-- The coefficients of n numbers that are elements. -/
def zc (n : Nat) (z : Nat → Int) : Nat → Nat := fun j => if j < n then (z j).toNat else 0
theorem zc_bd (n : Nat) (z : Nat → Int) : Bd n (zc n z) := fun k hk => by unfold zc; rw [if_neg (by omega)]
theorem chk_zero {D : FD} {n : Nat} {z : Nat → Int} (h : D.chk n z = 0) : n ≤ 128 ∧ ∀ j, j < n → D.has (z j) = true := by
  unfold FD.chk at h
  by_cases h1 : 128 < n
  · rw [if_pos h1] at h; cases h
  · rw [if_neg h1] at h
    by_cases h2 : D.allHas z n = true
    · exact ⟨by omega, allHas_iff.1 h2⟩
    · rw [if_neg h2] at h; cases h
theorem zc_el {D : FD} (F : Fld D) {n : Nat} {z : Nat → Int} (h : D.chk n z = 0) : El D (zc n z) := fun j => by
  unfold zc
  by_cases e : j < n
  · obtain ⟨x, hx, hxq⟩ := has_nat ((chk_zero h).2 j e)
    rw [if_pos e, hx, Int.toNat_natCast]; exact hxq
  · rw [if_neg e]; exact zero_lt' F
theorem zc_sl {D : FD} {ao : Option Addr} {n : Nat} {z : Nat → Int} {w : World} (h : D.chk n z = 0) (hS : SlZ ao n z w) : Sl ao n (zc n z) w := fun j hj => by
  obtain ⟨b, off, e, hc⟩ := hS j hj
  obtain ⟨x, hx, hxq⟩ := has_nat ((chk_zero h).2 j hj)
  refine ⟨b, off, e, ?_⟩
  rw [hc]
  unfold zc
  rw [if_pos hj, hx, Int.toNat_natCast]
theorem chk2_zero {D : FD} {n m : Nat} {z y : Nat → Int} (h : D.chk2 n z m y = 0) : D.chk n z = 0 ∧ D.chk m y = 0 := by
  unfold FD.chk2 at h
  by_cases e : D.chk n z = 0
  · rw [if_pos e] at h; exact ⟨e, h⟩
  · rw [if_neg e] at h; exact absurd h e

set_option maxHeartbeats 2000000 in
set_option maxRecDepth 100000 in
theorem padd_none (q : Int) (h : ∀ D ∈ fieldsL, (D.q : Int) ≠ q) (ao bo : Option Addr) (n m ca cb : Nat) (w : World) :
    Calls Try.prog 50 #[.int .i64 q, .slice ao n ca, .slice bo m cb] w fun e w' => e = .returned (.tuple #[.slice none 0 0, .int .i64 1]) ∧ Below w.heap.size w w' := by
  have HB : Hid (∀ D ∈ fieldsL, (D.q : Int) ≠ q) := h
  clear h
  go_enter Try.func50, Try.ntmps50
  go_wp2_with fail
  refine (over_none q HB.out _ 2 2 _ _ (by omega) (cell_of_row _ _ _ _ _ (0, 0) (two_new _))).mono ?_
  rintro e w' ⟨rfl, rfl⟩
  go_wp2
  go_ret2
  exact ⟨rfl, (Below.refl _ _).alloc (Nat.le_refl _) _⟩
set_option maxHeartbeats 2000000 in
set_option maxRecDepth 100000 in
theorem padd_any {D : FD} (hD : D ∈ fieldsL) {ao bo : Option Addr} {n m ca cb : Nat} {z y : Nat → Int} {w : World} (ha : Arg ao n ca z w) (hb : Arg bo m cb y w) :
    Calls Try.prog 50 #[.int .i64 D.q, .slice ao n ca, .slice bo m cb] w fun e w' => Below w.heap.size w w' ∧
      ((D.chk2 n z m y = 0 ∧ ∃ v, e = .returned (.tuple #[v, .int .i64 0]) ∧ OwnP w.heap.size v (dgn (padd D (zc n z) (zc m y)) (max n m)) (padd D (zc n z) (zc m y)) w') ∨ (D.chk2 n z m y ≠ 0 ∧ e = .returned (.tuple #[.slice none 0 0, .int .i64 (D.chk2 n z m y)]))) := by
  have HA : Hid (Arg ao n ca z w ∧ Arg bo m cb y w ∧ D ∈ fieldsL) := ⟨ha, hb, hD⟩
  clear ha hb hD
  go_enter Try.func50, Try.ntmps50
  go_wp2_with fail
  refine (over2_any HA.out.2.2 HA.out.1 HA.out.2.1).mono ?_
  rintro e w1 ⟨hb1, hr⟩
  rcases hr with ⟨h0, F, T, f, rfl, hat, hF, hT⟩ | ⟨h0, rfl⟩
  · have HW : Hid (D.chk2 n z m y = 0 ∧ FAt F T D f w1 ∧ Below w.heap.size w w1) := ⟨h0, hat, hb1⟩
    clear h0 hat hF hT hb1
    go_wp2_with fail
    have c0 := chk2_zero HW.out.1
    have a1 := HA.out.1.below HW.out.2.2
    have b1 := HA.out.2.1.below HW.out.2.2
    have hF := fld HA.out.2.2
    refine (psum_any HA.out.2.2 HW.out.2.1 (by have := (chk_zero c0.1).1; omega) (by have := (chk_zero c0.2).1; omega) (zc_el hF c0.1) (zc_el hF c0.2) (zc_bd _ _) (zc_bd _ _) (zc_sl c0.1 a1.sl) (zc_sl c0.2 b1.sl) a1.lt b1.lt).mono ?_
    rintro e w2 ⟨v, rfl, hown, hb2⟩
    have hs := HW.out.2.2.size
    have HR : Hid (OwnP w.heap.size v (dgn (padd D (zc n z) (zc m y)) (max n m)) (padd D (zc n z) (zc m y)) w2 ∧ Below w.heap.size w w2) := ⟨hown.mono hs, bel_up HW.out.2.2 hb2⟩
    clear hown hb2 a1 b1 hF c0
    go_wp2
    go_ret2
    exact ⟨HR.out.2, Or.inl ⟨HW.out.1, v, rfl, HR.out.1⟩⟩
  · have HW : Hid (D.chk2 n z m y ≠ 0 ∧ Below w.heap.size w w1) := ⟨h0, hb1⟩
    obtain ⟨e, he⟩ : ∃ e, e = D.chk2 n z m y := ⟨_, rfl⟩
    rw [← he] at h0 ⊢
    have hz : (e != 0) = true := by rw [bne_iff_ne]; exact h0
    have HE : Hid (e = D.chk2 n z m y) := he
    clear h0 hb1 he
    go_wp2
    go_ret2
    exact ⟨HW.out.2, Or.inr ⟨HW.out.1, by rw [← HE.out]; rfl⟩⟩
end Go.Proofs.Ythmjdcajaoilgak

/- The program's polynomials: the calls that are listed: Mul, Div, At. -/
namespace Go.Proofs.Ythmjdcajaoilgak
open Go.RowKit

set_option maxHeartbeats 2000000 in
set_option maxRecDepth 100000 in
theorem pmul_none (q : Int) (h : ∀ D ∈ fieldsL, (D.q : Int) ≠ q) (ao bo : Option Addr) (n m ca cb : Nat) (w : World) :
    Calls Try.prog 49 #[.int .i64 q, .slice ao n ca, .slice bo m cb] w fun e w' => e = .returned (.tuple #[.slice none 0 0, .int .i64 1]) ∧ Below w.heap.size w w' := by
  have HB : Hid (∀ D ∈ fieldsL, (D.q : Int) ≠ q) := h
  clear h
  go_enter Try.func49, Try.ntmps49
  go_wp2_with fail
  refine (over_none q HB.out _ 2 2 _ _ (by omega) (cell_of_row _ _ _ _ _ (0, 0) (two_new _))).mono ?_
  rintro e w' ⟨rfl, rfl⟩
  go_wp2
  go_ret2
  exact ⟨rfl, (Below.refl _ _).alloc (Nat.le_refl _) _⟩

/-- Both lists, once they may be: over the field D, without noughts at the end. -/
theorem trims_ok {D : FD} {ao : Option Addr} {n cap : Nat} {z : Nat → Int} {w : World} (h : D.chk n z = 0) (ha : Arg ao n cap z w) :
    Calls Try.prog 78 #[.slice ao n cap] w fun e w' => e = .returned (.slice ao (dgn (zc n z) n) cap) ∧ ∃ k, w' = w.drewN k :=
  trim_any (zc_sl h ha.sl) ha.le ha.cap

set_option maxHeartbeats 4000000 in
set_option maxRecDepth 100000 in
theorem pmul_any {D : FD} (hD : D ∈ fieldsL) {ao bo : Option Addr} {n m ca cb : Nat} {z y : Nat → Int} {w : World} (ha : Arg ao n ca z w) (hb : Arg bo m cb y w) :
    Calls Try.prog 49 #[.int .i64 D.q, .slice ao n ca, .slice bo m cb] w fun e w' => Below w.heap.size w w' ∧
      ((D.chk2 n z m y = 0 ∧ dgn (zc n z) n + dgn (zc m y) m ≤ 129 ∧ ∃ v, e = .returned (.tuple #[v, .int .i64 0]) ∧ OwnP w.heap.size v (dgn (pmul D n (zc n z) (zc m y)) (dgn (zc n z) n + dgn (zc m y) m)) (pmul D n (zc n z) (zc m y)) w') ∨
       (D.chk2 n z m y = 0 ∧ 129 < dgn (zc n z) n + dgn (zc m y) m ∧ e = .returned (.tuple #[.slice none 0 0, .int .i64 4])) ∨ (D.chk2 n z m y ≠ 0 ∧ e = .returned (.tuple #[.slice none 0 0, .int .i64 (D.chk2 n z m y)]))) := by
  have HA : Hid (Arg ao n ca z w ∧ Arg bo m cb y w ∧ D ∈ fieldsL) := ⟨ha, hb, hD⟩
  clear ha hb hD
  obtain ⟨n', hn'⟩ : ∃ n', n' = dgn (zc n z) n := ⟨_, rfl⟩
  obtain ⟨m', hm'⟩ : ∃ m', m' = dgn (zc m y) m := ⟨_, rfl⟩
  have hn1 : n' ≤ n := by rw [hn']; exact dgn_le _ _
  have hm1 : m' ≤ m := by rw [hm']; exact dgn_le _ _
  rw [← hn', ← hm']
  have HN0 : Hid (n' = dgn (zc n z) n ∧ m' = dgn (zc m y) m) := ⟨hn', hm'⟩
  clear hn' hm'
  go_enter Try.func49, Try.ntmps49
  go_wp2_with fail
  refine (over2_any HA.out.2.2 HA.out.1 HA.out.2.1).mono ?_
  rintro e w1 ⟨hb1, hr⟩
  rcases hr with ⟨h0, F, T, f, rfl, hat, hF, hT⟩ | ⟨h0, rfl⟩
  · have HW : Hid (D.chk2 n z m y = 0 ∧ FAt F T D f w1 ∧ Below w.heap.size w w1 ∧ Arg ao n ca z w1 ∧ Arg bo m cb y w1) := ⟨h0, hat, hb1, HA.out.1.below hb1, HA.out.2.1.below hb1⟩
    clear h0 hat hF hT hb1
    have c0 := chk2_zero HW.out.1
    have hn128 := (chk_zero c0.1).1
    have hm128 := (chk_zero c0.2).1
    have HN : Hid (n' = dgn (zc n z) n ∧ m' = dgn (zc m y) m ∧ D.chk n z = 0 ∧ D.chk m y = 0) := ⟨HN0.out.1, HN0.out.2, c0⟩
    clear c0
    go_wp2_with fail
    refine (trims_ok HN.out.2.2.1 HW.out.2.2.2.1).mono ?_
    rintro e w' ⟨rfl, k1, rfl⟩
    rw [← HN.out.1]
    go_wp2_with fail
    refine (trims_ok HN.out.2.2.2 (w := w1.drewN k1) ⟨HW.out.2.2.2.2.sl, HW.out.2.2.2.2.lt, HW.out.2.2.2.2.few, HW.out.2.2.2.2.nil, HW.out.2.2.2.2.le, HW.out.2.2.2.2.cap⟩).mono ?_
    rintro e w' ⟨rfl, k2, rfl⟩
    rw [← HN.out.2.1]
    by_cases hbig : 129 < n' + m'
    · go_wp2
      go_ret2
      exact ⟨below_drewN2 HW.out.2.2.1 _, Or.inr (Or.inl ⟨HW.out.1, hbig, rfl⟩)⟩
    · have hF := fld HA.out.2.2
      have HP : Hid (∀ d, Calls Try.prog 79 #[.pointer (some ⟨F, 0, none⟩), .slice ao n' ca, .slice bo m' cb] (w1.drewN d) fun e w' =>
          e = .returned (.slice (some ⟨w1.heap.size, 0, none⟩) (dgn (pmul D n (zc n z) (zc m y)) (n' + m')) (n' + m')) ∧ Row w1.heap.size (n' + m') (pmul D n (zc n z) (zc m y)) w' ∧ Below w1.heap.size (w1.drewN d) w') := by
        intro d
        have b1 : Bd n' (zc n z) := by rw [HN.out.1]; exact dgn_bd (zc_bd _ _)
        have b2 : Bd m' (zc m y) := by rw [HN.out.2.1]; exact dgn_bd (zc_bd _ _)
        have h := product_any HA.out.2.2 (HW.out.2.1.drewN d) (ca := ca) (cb := cb) (show n' ≤ 1000 by omega) (show m' ≤ 1000 by omega) (zc_el hF HN.out.2.2.1) (zc_el hF HN.out.2.2.2) b2 ((zc_sl HN.out.2.2.1 HW.out.2.2.2.1.sl).less hn1) ((zc_sl HN.out.2.2.2 HW.out.2.2.2.2.sl).less hm1) HW.out.2.2.2.1.lt HW.out.2.2.2.2.lt
        rw [← pmul_to hF (zc m y) b1 hn1] at h
        exact h
      clear hF
      go_wp2_with fail
      refine (HP.out _).mono ?_
      rintro e w2 ⟨rfl, hrow, hb2⟩
      have hs := HW.out.2.2.1.size
      have HR : Hid (Row w1.heap.size (n' + m') (pmul D n (zc n z) (zc m y)) w2 ∧ Below w.heap.size w w2) := ⟨hrow, bel_up (below_drewN2 HW.out.2.2.1 _) hb2⟩
      clear hrow hb2
      go_wp2
      go_ret2
      exact ⟨HR.out.2, Or.inl ⟨HW.out.1, by omega, _, rfl, OwnP.of_row HR.out.1 (dgn_le _ _) (dgn_le _ _) (by omega) hs⟩⟩
  · have HW : Hid (D.chk2 n z m y ≠ 0 ∧ Below w.heap.size w w1) := ⟨h0, hb1⟩
    obtain ⟨e, he⟩ : ∃ e, e = D.chk2 n z m y := ⟨_, rfl⟩
    rw [← he] at h0 ⊢
    have hz : (e != 0) = true := by rw [bne_iff_ne]; exact h0
    have HE : Hid (e = D.chk2 n z m y) := he
    clear h0 hb1 he
    go_wp2
    go_ret2
    exact ⟨HW.out.2, Or.inr (Or.inr ⟨HW.out.1, by rw [← HE.out]; rfl⟩)⟩
end Go.Proofs.Ythmjdcajaoilgak

/- The program's polynomials: the calls that are listed: Div, At. -/
namespace Go.Proofs.Ythmjdcajaoilgak
open Go.RowKit

set_option maxHeartbeats 2000000 in
set_option maxRecDepth 100000 in
theorem pdiv_none (q : Int) (h : ∀ D ∈ fieldsL, (D.q : Int) ≠ q) (ao bo : Option Addr) (n m ca cb : Nat) (w : World) :
    Calls Try.prog 62 #[.int .i64 q, .slice ao n ca, .slice bo m cb] w fun e w' => e = .returned (.tuple #[.slice none 0 0, .slice none 0 0, .int .i64 1]) ∧ Below w.heap.size w w' := by
  have HB : Hid (∀ D ∈ fieldsL, (D.q : Int) ≠ q) := h
  clear h
  go_enter Try.func62, Try.ntmps62
  go_wp2_with fail
  refine (over_none q HB.out _ 2 2 _ _ (by omega) (cell_of_row _ _ _ _ _ (0, 0) (two_new _))).mono ?_
  rintro e w' ⟨rfl, rfl⟩
  go_wp2
  go_ret3
  exact ⟨rfl, (Below.refl _ _).alloc (Nat.le_refl _) _⟩

/-- The quotient and the rest of two polynomials of n and m coefficients. -/
def FD.quo (D : FD) (a : Nat → Nat) (n : Nat) (b : Nat → Nat) (m : Nat) : Nat → Nat := divQ D b (dgn b m - 1) (D.iv (b (dgn b m - 1))) (n - (dgn b m - 1)) a
def FD.rst (D : FD) (a : Nat → Nat) (n : Nat) (b : Nat → Nat) (m : Nat) : Nat → Nat := divR D b (dgn b m - 1) (D.iv (b (dgn b m - 1))) (n - (dgn b m - 1)) a

set_option maxHeartbeats 4000000 in
set_option maxRecDepth 100000 in
theorem pdiv_any {D : FD} (hD : D ∈ fieldsL) {ao bo : Option Addr} {n m ca cb : Nat} {z y : Nat → Int} {w : World} (ha : Arg ao n ca z w) (hb : Arg bo m cb y w) :
    Calls Try.prog 62 #[.int .i64 D.q, .slice ao n ca, .slice bo m cb] w fun e w' => Below w.heap.size w w' ∧
      ((D.chk2 n z m y = 0 ∧ dgn (zc m y) m ≠ 0 ∧ ∃ v u, e = .returned (.tuple #[v, u, .int .i64 0]) ∧ OwnP w.heap.size v (dgn (D.quo (zc n z) n (zc m y) m) (n - (dgn (zc m y) m - 1))) (D.quo (zc n z) n (zc m y) m) w' ∧ OwnP w.heap.size u (dgn (D.rst (zc n z) n (zc m y) m) n) (D.rst (zc n z) n (zc m y) m) w') ∨
       (D.chk2 n z m y = 0 ∧ dgn (zc m y) m = 0 ∧ e = .returned (.tuple #[.slice none 0 0, .slice none 0 0, .int .i64 5])) ∨ (D.chk2 n z m y ≠ 0 ∧ e = .returned (.tuple #[.slice none 0 0, .slice none 0 0, .int .i64 (D.chk2 n z m y)]))) := by
  have HA : Hid (Arg ao n ca z w ∧ Arg bo m cb y w ∧ D ∈ fieldsL) := ⟨ha, hb, hD⟩
  clear ha hb hD
  unfold FD.quo FD.rst
  obtain ⟨m', hm'⟩ : ∃ m', m' = dgn (zc m y) m := ⟨_, rfl⟩
  have hm1 : m' ≤ m := by rw [hm']; exact dgn_le _ _
  rw [← hm']
  have HN0 : Hid (m' = dgn (zc m y) m) := hm'
  clear hm'
  go_enter Try.func62, Try.ntmps62
  go_wp2_with fail
  refine (over2_any HA.out.2.2 HA.out.1 HA.out.2.1).mono ?_
  rintro e w1 ⟨hb1, hr⟩
  rcases hr with ⟨h0, F, T, f, rfl, hat, hF, hT⟩ | ⟨h0, rfl⟩
  · have HW : Hid (D.chk2 n z m y = 0 ∧ FAt F T D f w1 ∧ Below w.heap.size w w1 ∧ Arg ao n ca z w1 ∧ Arg bo m cb y w1) := ⟨h0, hat, hb1, HA.out.1.below hb1, HA.out.2.1.below hb1⟩
    clear h0 hat hF hT hb1
    have c0 := chk2_zero HW.out.1
    have hn128 := (chk_zero c0.1).1
    have hm128 := (chk_zero c0.2).1
    have HN : Hid (m' = dgn (zc m y) m ∧ D.chk n z = 0 ∧ D.chk m y = 0) := ⟨HN0.out, c0⟩
    clear c0
    go_wp2_with fail
    refine (trims_ok HN.out.2.2 HW.out.2.2.2.2).mono ?_
    rintro e w' ⟨rfl, k1, rfl⟩
    rw [← HN.out.1]
    by_cases hm0 : m' = 0
    · have hz : ((m' : Int) == 0) = true := by rw [hm0]; rfl
      have HZ : Hid (m' = 0) := hm0
      clear hm0
      go_wp2
      go_ret3
      exact ⟨below_drewN2 HW.out.2.2.1 _, Or.inr (Or.inl ⟨HW.out.1, HZ.out, rfl⟩)⟩
    · obtain ⟨l, rfl⟩ : ∃ l, m' = l + 1 := ⟨m' - 1, by omega⟩
      have hF := fld HA.out.2.2
      have HP := fun d => divide_any HA.out.2.2 (HW.out.2.1.drewN d) (ca := ca) (cb := cb) (show n ≤ 1000 by omega) (show l < 1000 by omega) (zc_el hF HN.out.2.1) (zc_el hF HN.out.2.2) (zc_bd _ _) (by rw [HN.out.1]; exact dgn_bd (zc_bd _ _)) (by
        have h := dgn_top (zc m y) m (by rw [← HN.out.1]; omega)
        rw [← HN.out.1] at h; exact h) (zc_sl HN.out.2.1 HW.out.2.2.2.1.sl) ((zc_sl HN.out.2.2 HW.out.2.2.2.2.sl).less hm1) HW.out.2.2.2.1.lt HW.out.2.2.2.2.lt HW.out.2.2.2.1.nil
      clear hF
      go_wp2_with fail
      refine (HP _).mono ?_
      rintro e w2 ⟨vq, vr, rfl, hq, hr, hb2⟩
      have hs := HW.out.2.2.1.size
      have HR : Hid (OwnP w.heap.size vq (dgn (divQ D (zc m y) l (D.iv (zc m y l)) (n - l) (zc n z)) (n - l)) (divQ D (zc m y) l (D.iv (zc m y l)) (n - l) (zc n z)) w2 ∧ OwnP w.heap.size vr (dgn (divR D (zc m y) l (D.iv (zc m y l)) (n - l) (zc n z)) n) (divR D (zc m y) l (D.iv (zc m y l)) (n - l) (zc n z)) w2 ∧ Below w.heap.size w w2) := ⟨hq.mono hs, hr.mono hs, bel_up (below_drewN2 HW.out.2.2.1 _) hb2⟩
      clear hq hr hb2 HP
      go_wp2
      go_ret3
      exact ⟨HR.out.2.2, Or.inl ⟨HW.out.1, by omega, vq, vr, rfl, HR.out.1, HR.out.2.1⟩⟩
  · have HW : Hid (D.chk2 n z m y ≠ 0 ∧ Below w.heap.size w w1) := ⟨h0, hb1⟩
    obtain ⟨e, he⟩ : ∃ e, e = D.chk2 n z m y := ⟨_, rfl⟩
    rw [← he] at h0 ⊢
    have hz : (e != 0) = true := by rw [bne_iff_ne]; exact h0
    have HE : Hid (e = D.chk2 n z m y) := he
    clear h0 hb1 he
    go_wp2
    go_ret3
    exact ⟨HW.out.2, Or.inr (Or.inr ⟨HW.out.1, by rw [← HE.out]; rfl⟩)⟩
end Go.Proofs.Ythmjdcajaoilgak

/- The program's polynomials: the calls that are listed: At, Roots. -/
namespace Go.Proofs.Ythmjdcajaoilgak
open Go.RowKit

theorem arg_one (x : Int) (w : World) : Arg (some ⟨w.heap.size, 0, none⟩) 1 1 (fun _ => x) (w.alloc (.cells #[.int .i64 x] 3)) := by
  refine ⟨fun j hj => ⟨w.heap.size, 0, rfl, ?_⟩, fun a ha => by cases ha; simp, by omega, fun e => (by cases e), Nat.le_refl _, by omega⟩
  rw [cell_of_row _ _ _ _ _ (0, 0) (two_new _), show j = 0 from by omega]; rfl

theorem over_at {D : FD} (hD : D ∈ fieldsL) {ao : Option Addr} {n ca : Nat} {z : Nat → Int} (x : Int) {w : World} (ha : Arg ao n ca z w) :
    Calls Try.prog 77 #[.int .i64 D.q, .slice (some ⟨w.heap.size + 1, 0, none⟩) 2 2] ((w.alloc (.cells #[.int .i64 x] 3)).alloc (.cells #[.slice ao n ca, .slice (some ⟨w.heap.size, 0, none⟩) 1 1] 22)) fun e w' => Below w.heap.size w w' ∧
      ((D.chk2 n z 1 (fun _ => x) = 0 ∧ ∃ F T f, e = .returned (.tuple #[.pointer (some ⟨F, 0, none⟩), .int .i64 0]) ∧ FAt F T D f w') ∨ (D.chk2 n z 1 (fun _ => x) ≠ 0 ∧ e = .returned (.tuple #[.pointer none, .int .i64 (D.chk2 n z 1 (fun _ => x))]))) := by
  have hbl : Below w.heap.size w (w.alloc (.cells #[.int .i64 x] 3)) := (Below.refl _ _).alloc (Nat.le_refl _) _
  have HO := over2_any hD (ha.below hbl) (arg_one x w)
  have hsz : (w.alloc (.cells #[.int .i64 x] 3)).heap.size = w.heap.size + 1 := by simp
  rw [hsz] at HO
  refine HO.mono ?_
  rintro e w1 ⟨hb1, hr⟩
  rw [← hsz] at hb1
  refine ⟨bel_up hbl hb1, ?_⟩
  rcases hr with ⟨h0, F, T, f, rfl, hat, _, _⟩ | h
  · exact Or.inl ⟨h0, F, T, f, rfl, hat⟩
  · exact Or.inr h

end Go.Proofs.Ythmjdcajaoilgak

/- The program's polynomials: the calls that are listed: Roots. -/
namespace Go.Proofs.Ythmjdcajaoilgak
open Go.RowKit

theorem many_one {ao : Option Addr} {n ca : Nat} {z : Nat → Int} {w : World} (ha : Arg ao n ca z w) :
    Many w.heap.size 1 (fun _ => ao) (fun _ => n) (fun _ => ca) (fun _ => z) (w.alloc (.cells #[.slice ao n ca] 22)) := by
  have hbl : Below w.heap.size w (w.alloc (.cells #[.slice ao n ca] 22)) := (Below.refl _ _).alloc (Nat.le_refl _) _
  have a1 := ha.below hbl
  refine ⟨fun j hj => ?_, fun j hj => a1.sl, fun j hj => a1.lt, fun j hj => a1.few, by simp⟩
  rw [cell_of_row _ _ _ _ _ (0, 0) (two_new _), show j = 0 from by omega]; rfl
theorem over1_any {D : FD} (hD : D ∈ fieldsL) {ao : Option Addr} {n ca : Nat} {z : Nat → Int} {w : World} (ha : Arg ao n ca z w) :
    Calls Try.prog 77 #[.int .i64 D.q, .slice (some ⟨w.heap.size, 0, none⟩) 1 1] (w.alloc (.cells #[.slice ao n ca] 22)) fun e w' => Below w.heap.size w w' ∧
      ((D.chk n z = 0 ∧ ∃ F T f, e = .returned (.tuple #[.pointer (some ⟨F, 0, none⟩), .int .i64 0]) ∧ FAt F T D f w') ∨ (D.chk n z ≠ 0 ∧ e = .returned (.tuple #[.pointer none, .int .i64 (D.chk n z)]))) := by
  have h := over_any hD (cap := 1) (many_one ha) (by omega)
  rw [show D.chks (fun _ => n) (fun _ => z) 1 = D.chk n z from by show (if (0 : Int) = 0 then D.chk n z else 0) = _; rw [if_pos rfl]] at h
  refine h.mono ?_
  rintro e w' ⟨hb', hr⟩
  have hbl : Below w.heap.size w (w.alloc (.cells #[.slice ao n ca] 22)) := (Below.refl _ _).alloc (Nat.le_refl _) _
  refine ⟨bel_up hbl hb', ?_⟩
  rcases hr with ⟨h0, F, T, f, rfl, hat, _, _⟩ | h
  · exact Or.inl ⟨h0, F, T, f, rfl, hat⟩
  · exact Or.inr h

/-- The elements below k at which a polynomial is 0, rising. -/
def FD.rootsL (D : FD) (c : Nat → Nat) (n k : Nat) : List Int := ((List.range k).filter fun x => D.val c n x n == 0).map Int.ofNat
theorem rootsL_yes {D : FD} {c : Nat → Nat} {n k : Nat} (h : D.val c n k n = 0) : D.rootsL c n (k + 1) = D.rootsL c n k ++ [(k : Int)] := by
  unfold FD.rootsL; rw [List.range_succ, List.filter_append, List.map_append]; simp [h]
theorem rootsL_no {D : FD} {c : Nat → Nat} {n k : Nat} (h : ¬ D.val c n k n = 0) : D.rootsL c n (k + 1) = D.rootsL c n k := by
  unfold FD.rootsL; rw [List.range_succ, List.filter_append, List.map_append]; simp [h]
theorem rootsL_len (D : FD) (c : Nat → Nat) (n k : Nat) : (D.rootsL c n k).length ≤ k := by
  unfold FD.rootsL
  rw [List.length_map]
  exact Nat.le_trans (List.length_filter_le _ _) (by simp)

end Go.Proofs.Ythmjdcajaoilgak

/- The program's polynomials: with 1 at the end (monic); the calls that are listed: Gcd. -/
namespace Go.Proofs.Ythmjdcajaoilgak
open Go.RowKit

/-- A polynomial's slice without noughts at the end: where it lies, its coefficients. -/
structure PA (D : FD) (ao : Option Addr) (n cap : Nat) (c : Nat → Nat) (w : World) : Prop where
  sl : Sl ao n c w
  lt : LtB ao w.heap.size
  nil : ao = none → cap = 0
  el : El D c
  trd : Trd n c
theorem PA.below {D : FD} {ao : Option Addr} {n cap : Nat} {c : Nat → Nat} {w w' : World} (h : PA D ao n cap c w) (hb : Below w.heap.size w w') : PA D ao n cap c w' :=
  ⟨h.sl.below hb h.lt, h.lt.mono hb.size, h.nil, h.el, h.trd⟩
theorem PA.drewN {D : FD} {ao : Option Addr} {n cap : Nat} {c : Nat → Nat} {w : World} (h : PA D ao n cap c w) (k : Nat) : PA D ao n cap c (w.drewN k) := ⟨h.sl, h.lt, h.nil, h.el, h.trd⟩
theorem OwnP.pa {D : FD} {base n : Nat} {v : Value} {c : Nat → Nat} {w : World} (h : OwnP base v n c w) (he : El D c) (ht : Trd n c) : ∃ ao cap, v = .slice ao n cap ∧ PA D ao n cap c w := by
  obtain ⟨ao, cap, hv, _, _, _, hl, hz, hs⟩ := h.open
  exact ⟨ao, cap, hv, hs, hl, hz, he, ht⟩

/-- A slice's length. -/
def slLen : Value → Nat
  | .slice _ n _ => n
  | _ => 0

/-- The common divisor of two lists that may be. -/
def FD.gcdL (D : FD) (n : Nat) (z : Nat → Int) (m : Nat) (y : Nat → Int) : (Nat → Nat) × Nat := D.gcd m (zc n z) (dgn (zc n z) n) (zc m y) (dgn (zc m y) m)

end Go.Proofs.Ythmjdcajaoilgak

/- How many there are to try (tooMany, Tries). -/
namespace Go.Proofs.Ythmjdcajaoilgak
open Go.RowKit

theorem pow_big {q i p : Nat} (hq : 1 ≤ q) (h : 4096 < q ^ i) (hp : i ≤ p) : 4096 < q ^ p := Nat.lt_of_lt_of_le h (Nat.pow_le_pow_right hq hp)

end Go.Proofs.Ythmjdcajaoilgak
