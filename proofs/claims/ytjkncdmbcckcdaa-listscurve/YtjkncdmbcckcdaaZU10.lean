/- The program's polynomials: the calls that are listed: Add. -/
import Derived.Test.YtjkncdmbcckcdaaZU9
namespace Go.Proofs.Ytjkncdmbcckcdaa
open Go.RowKit

/-- A list that is handed in: where it lies, how long it is, its numbers. -/
structure Arg (ao : Option Addr) (n cap : Nat) (z : Nat → Int) (w : World) : Prop where
  sl : SlZ ao n z w
  lt : LtB ao w.heap.size
  few : n ≤ 1000000
  nil : ao = none → cap = 0
  le : n ≤ cap
  cap : cap ≤ 9223372036854775807
theorem Arg.below {ao : Option Addr} {n cap : Nat} {z : Nat → Int} {w w' : World} (h : Arg ao n cap z w) (hb : Below w.heap.size w w') : Arg ao n cap z w' :=
  ⟨h.sl.below hb h.lt, h.lt.mono hb.size, h.few, h.nil, h.le, h.cap⟩

def two {α : Type} (x y : α) : Nat → α := fun j => if j = 0 then x else y
theorem many_two {ao bo : Option Addr} {n m ca cb : Nat} {z y : Nat → Int} {w : World} (ha : Arg ao n ca z w) (hb : Arg bo m cb y w) :
    Many w.heap.size 2 (two ao bo) (two n m) (two ca cb) (two z y) (w.alloc (.cells #[.slice ao n ca, .slice bo m cb] 22)) := by
  have hbl : Below w.heap.size w (w.alloc (.cells #[.slice ao n ca, .slice bo m cb] 22)) := (Below.refl _ _).alloc (Nat.le_refl _) _
  have a1 := ha.below hbl
  have b1 := hb.below hbl
  refine ⟨fun j hj => ?_, fun j hj => ?_, fun j hj => ?_, fun j hj => ?_, by simp⟩
  · rw [cell_of_row _ _ _ _ _ (0, 0) (two_new _)]
    rcases j with _ | _ | j
    · rfl
    · rfl
    · omega
  · rcases j with _ | _ | j
    · exact a1.sl
    · exact b1.sl
    · omega
  · rcases j with _ | _ | j
    · exact a1.lt
    · exact b1.lt
    · omega
  · rcases j with _ | _ | j
    · exact a1.few
    · exact b1.few
    · omega
/-- What is said of two lists. -/
def FD.chk2 (D : FD) (n : Nat) (z : Nat → Int) (m : Nat) (y : Nat → Int) : Int := if D.chk n z = 0 then D.chk m y else D.chk n z
theorem chks_two (D : FD) (n m : Nat) (z y : Nat → Int) : D.chks (two n m) (two z y) 2 = D.chk2 n z m y := by
  show (if (if (0 : Int) = 0 then D.chk n z else 0) = 0 then D.chk m y else (if (0 : Int) = 0 then D.chk n z else 0)) = _
  rw [if_pos rfl]; rfl
theorem over2_any {D : FD} (hD : D ∈ fieldsL) {ao bo : Option Addr} {n m ca cb : Nat} {z y : Nat → Int} {w : World} (ha : Arg ao n ca z w) (hb : Arg bo m cb y w) :
    Calls Try.prog 103 #[.int .i64 D.q, .slice (some ⟨w.heap.size, 0, none⟩) 2 2] (w.alloc (.cells #[.slice ao n ca, .slice bo m cb] 22)) fun e w' => Below w.heap.size w w' ∧
      ((D.chk2 n z m y = 0 ∧ ∃ F T f, e = .returned (.tuple #[.pointer (some ⟨F, 0, none⟩), .int .i64 0]) ∧ FAt F T D f w' ∧ w.heap.size ≤ F ∧ w.heap.size ≤ T) ∨ (D.chk2 n z m y ≠ 0 ∧ e = .returned (.tuple #[.pointer none, .int .i64 (D.chk2 n z m y)]))) := by
  have h := over_any hD (cap := 2) (many_two ha hb) (by omega)
  rw [chks_two] at h
  refine h.mono ?_
  rintro e w' ⟨hb', hr⟩
  have hbl : Below w.heap.size w (w.alloc (.cells #[.slice ao n ca, .slice bo m cb] 22)) := (Below.refl _ _).alloc (Nat.le_refl _) _
  refine ⟨bel_up hbl hb', ?_⟩
  rcases hr with ⟨h0, F, T, f, rfl, hat, h1, h2⟩ | h
  · simp at h1 h2
    exact Or.inl ⟨h0, F, T, f, rfl, hat, by omega, by omega⟩
  · exact Or.inr h

/-- The coefficients of n numbers that are elements. -/
def zc (n : Nat) (z : Nat → Int) : Nat → Nat := fun j => if j < n then (z j).toNat else 0
theorem zc_bd (n : Nat) (z : Nat → Int) : Bd n (zc n z) := fun k hk => by unfold zc; rw [if_neg (by omega)]
theorem chk_zero {D : FD} {n : Nat} {z : Nat → Int} (h : D.chk n z = 0) : n ≤ 128 ∧ ∀ j, j < n → D.has (z j) = true := by
  unfold FD.chk at h
  by_cases h1 : 128 < n
  · rw [if_pos h1] at h; cases h
  · rw [if_neg h1] at h
    by_cases h2 : D.allHas z n = true
    · exact ⟨by omega, allHas_iff.1 h2⟩
    · rw [if_neg h2] at h; cases h
theorem zc_el {D : FD} (F : Fld D) {n : Nat} {z : Nat → Int} (h : D.chk n z = 0) : El D (zc n z) := fun j => by
  unfold zc
  by_cases e : j < n
  · obtain ⟨x, hx, hxq⟩ := has_nat ((chk_zero h).2 j e)
    rw [if_pos e, hx, Int.toNat_natCast]; exact hxq
  · rw [if_neg e]; exact zero_lt' F
theorem zc_sl {D : FD} {ao : Option Addr} {n : Nat} {z : Nat → Int} {w : World} (h : D.chk n z = 0) (hS : SlZ ao n z w) : Sl ao n (zc n z) w := fun j hj => by
  obtain ⟨b, off, e, hc⟩ := hS j hj
  obtain ⟨x, hx, hxq⟩ := has_nat ((chk_zero h).2 j hj)
  refine ⟨b, off, e, ?_⟩
  rw [hc]
  unfold zc
  rw [if_pos hj, hx, Int.toNat_natCast]
theorem chk2_zero {D : FD} {n m : Nat} {z y : Nat → Int} (h : D.chk2 n z m y = 0) : D.chk n z = 0 ∧ D.chk m y = 0 := by
  unfold FD.chk2 at h
  by_cases e : D.chk n z = 0
  · rw [if_pos e] at h; exact ⟨e, h⟩
  · rw [if_neg e] at h; exact absurd h e

set_option maxHeartbeats 2000000 in
set_option maxRecDepth 100000 in
theorem padd_any {D : FD} (hD : D ∈ fieldsL) {ao bo : Option Addr} {n m ca cb : Nat} {z y : Nat → Int} {w : World} (ha : Arg ao n ca z w) (hb : Arg bo m cb y w) :
    Calls Try.prog 65 #[.int .i64 D.q, .slice ao n ca, .slice bo m cb] w fun e w' => Below w.heap.size w w' ∧
      ((D.chk2 n z m y = 0 ∧ ∃ v, e = .returned (.tuple #[v, .int .i64 0]) ∧ OwnP w.heap.size v (dgn (padd D (zc n z) (zc m y)) (max n m)) (padd D (zc n z) (zc m y)) w') ∨ (D.chk2 n z m y ≠ 0 ∧ e = .returned (.tuple #[.slice none 0 0, .int .i64 (D.chk2 n z m y)]))) := by
  have HA : Hid (Arg ao n ca z w ∧ Arg bo m cb y w ∧ D ∈ fieldsL) := ⟨ha, hb, hD⟩
  clear ha hb hD
  go_enter Try.func65, Try.ntmps65
  go_wp2_with fail
  refine (over2_any HA.out.2.2 HA.out.1 HA.out.2.1).mono ?_
  rintro e w1 ⟨hb1, hr⟩
  rcases hr with ⟨h0, F, T, f, rfl, hat, hF, hT⟩ | ⟨h0, rfl⟩
  · have HW : Hid (D.chk2 n z m y = 0 ∧ FAt F T D f w1 ∧ Below w.heap.size w w1) := ⟨h0, hat, hb1⟩
    clear h0 hat hF hT hb1
    go_wp2_with fail
    have c0 := chk2_zero HW.out.1
    have a1 := HA.out.1.below HW.out.2.2
    have b1 := HA.out.2.1.below HW.out.2.2
    have hF := fld HA.out.2.2
    refine (psum_any HA.out.2.2 HW.out.2.1 (by have := (chk_zero c0.1).1; omega) (by have := (chk_zero c0.2).1; omega) (zc_el hF c0.1) (zc_el hF c0.2) (zc_bd _ _) (zc_bd _ _) (zc_sl c0.1 a1.sl) (zc_sl c0.2 b1.sl) a1.lt b1.lt).mono ?_
    rintro e w2 ⟨v, rfl, hown, hb2⟩
    have hs := HW.out.2.2.size
    have HR : Hid (OwnP w.heap.size v (dgn (padd D (zc n z) (zc m y)) (max n m)) (padd D (zc n z) (zc m y)) w2 ∧ Below w.heap.size w w2) := ⟨hown.mono hs, bel_up HW.out.2.2 hb2⟩
    clear hown hb2 a1 b1 hF c0
    go_wp2
    go_ret2
    exact ⟨HR.out.2, Or.inl ⟨HW.out.1, v, rfl, HR.out.1⟩⟩
  · have HW : Hid (D.chk2 n z m y ≠ 0 ∧ Below w.heap.size w w1) := ⟨h0, hb1⟩
    obtain ⟨e, he⟩ : ∃ e, e = D.chk2 n z m y := ⟨_, rfl⟩
    rw [← he] at h0 ⊢
    have hz : (e != 0) = true := by rw [bne_iff_ne]; exact h0
    have HE : Hid (e = D.chk2 n z m y) := he
    clear h0 hb1 he
    go_wp2
    go_ret2
    exact ⟨HW.out.2, Or.inr ⟨HW.out.1, by rw [← HE.out]; rfl⟩⟩
end Go.Proofs.Ytjkncdmbcckcdaa
