/- Texts of ours, one behind the other: U9 U10 U11 U12 U13 U14 U15 U16 U17 V1 V2 V3 W5 V4 V5. -/
import Derived.Test.YtcgmllamiaflcaaZU4
import Derived.Test.YtcgmllamiaflcaaZR5
import Derived.Test.YtcgmllamiaflcaaZW4
import Derived.Lib.QuietBelow
/- The program's polynomials: which may be (Check), and over which field (over). -/
namespace Go.Proofs.Ytcgmllamiaflcaa
open Go.RowKit

/-- The first n numbers of the slice that begins at ao are z. -/
def SlZ (ao : Option Addr) (n : Nat) (z : Nat → Int) (w : World) : Prop := ∀ j, j < n → ∃ b off, ao = some ⟨b, off, none⟩ ∧ w.cell? ⟨b, off + j, none⟩ = some (.int .i64 (z j))
theorem SlZ.below {ao : Option Addr} {n B : Nat} {z : Nat → Int} {w w' : World} (h : SlZ ao n z w) (hb : Below B w w') (hB : LtB ao B) : SlZ ao n z w' := fun j hj => by
  obtain ⟨b, off, rfl, hc⟩ := h j hj
  exact ⟨b, off, rfl, ((bcell hb).1 b (off + j) (hB _ rfl)).trans hc⟩
/-- How many of the first numbers are elements, one after the other. -/
def FD.allHas (D : FD) (z : Nat → Int) : Nat → Bool
  | 0 => true
  | n + 1 => D.allHas z n && D.has (z n)
theorem allHas_iff {D : FD} {z : Nat → Int} : ∀ {n : Nat}, D.allHas z n = true ↔ ∀ j, j < n → D.has (z j) = true
  | 0 => ⟨fun _ j hj => by omega, fun _ => rfl⟩
  | n + 1 => by
    rw [FD.allHas, Bool.and_eq_true, allHas_iff]
    constructor
    · rintro ⟨h1, h2⟩ j hj
      by_cases e : j = n
      · rw [e]; exact h2
      · exact h1 j (by omega)
    · intro h
      exact ⟨fun j hj => h j (by omega), h n (by omega)⟩
/-- What Check says of n numbers. -/
def FD.chk (D : FD) (n : Nat) (z : Nat → Int) : Int := if 128 < n then 4 else if D.allHas z n = true then 0 else 2

set_option maxHeartbeats 2000000 in
set_option maxRecDepth 100000 in
theorem check_any {D : FD} (hD : D ∈ fieldsL) {ao : Option Addr} {n cap : Nat} {z : Nat → Int} {w : World} (h : SlZ ao n z w) (hl : LtB ao w.heap.size) (hn : n ≤ 1000000) :
    Calls Try.prog 30 #[.int .i64 D.q, .slice ao n cap] w fun e w' => e = .returned (.int .i64 (D.chk n z)) ∧ Below w.heap.size w w' := by
  have HS : Hid (SlZ ao n z w ∧ LtB ao w.heap.size ∧ D ∈ fieldsL) := ⟨h, hl, hD⟩
  clear h hl hD
  go_enter Try.func30, Try.ntmps30
  go_wp2_with fail
  refine (new_any HS.out.2.2 w).mono ?_
  rintro e w1 ⟨F, T, g, rfl, hat, hF, hT, hb1⟩
  have HA : Hid (FAt F T D g w1 ∧ SlZ ao n z w1 ∧ Below w.heap.size w w1) := ⟨hat, HS.out.1.below hb1 HS.out.2.1, hb1⟩
  clear hat hF hT hb1
  by_cases h128 : 128 < n
  · have HV : Hid (D.chk n z = 4) := by show D.chk n z = 4; rw [FD.chk, if_pos h128]
    go_wp2
    go_ret
    exact ⟨ret_int (by rw [HV.out]), HA.out.2.2⟩
  · go_wp2
    go_loopw [22] (fun i wr => ∃ r : Nat, r ≤ n ∧ i = .int .i64 r ∧ Hid (D.allHas z r = true) ∧ wr = w1) (fun i _ => n - (intOf i).toNat)
    case atStart => exact ⟨0, by omega, rfl, rfl, rfl⟩
    case round =>
      obtain ⟨r, hr, rfl, HH, rfl⟩ := hrel
      by_cases hlt : r < n
      · obtain ⟨b, off, rfl, hc⟩ := HA.out.2.1 r hlt
        by_cases hh : D.has (z r) = true
        · have HH2 : Hid (D.allHas z (r + 1) = true) := by show D.allHas z (r + 1) = true; rw [FD.allHas, HH.out, hh]; rfl
          go_wp2_with (go_at_call 37; refine (has_any HA.out.1 _).mono ?_; rintro e w' ⟨rfl, hw⟩; have hw := hw.symm; subst hw)
          go_roundw
          case rel => exact ⟨r + 1, by omega, by go_num, HH2.out, by first | rfl | trivial⟩
          case measure => simp [intOf]; omega
        · have hh' : D.has (z r) = false := by simpa using hh
          have HV : Hid (D.chk n z = 2) := by
            show D.chk n z = 2
            rw [FD.chk, if_neg h128, if_neg]
            intro e
            exact hh (allHas_iff.1 e r hlt)
          clear hh
          go_wp2_with (go_at_call 37; refine (has_any HA.out.1 _).mono ?_; rintro e w' ⟨rfl, hw⟩; have hw := hw.symm; subst hw)
          go_ret
          exact ⟨ret_int (by rw [HV.out]), HA.out.2.2⟩
      · have HV : Hid (D.chk n z = 0) := by
          show D.chk n z = 0
          have e : r = n := by omega
          rw [FD.chk, if_neg h128, if_pos (e ▸ HH.out)]
        go_wp2
        go_ret
        exact ⟨ret_int (by rw [HV.out]), HA.out.2.2⟩
end Go.Proofs.Ytcgmllamiaflcaa

/- The program's polynomials: the calls that are listed: Add. -/
namespace Go.Proofs.Ytcgmllamiaflcaa
open Go.RowKit

/-- A list that is handed in: where it lies, how long it is, its numbers. -/
structure Arg (ao : Option Addr) (n cap : Nat) (z : Nat → Int) (w : World) : Prop where
  sl : SlZ ao n z w
  lt : LtB ao w.heap.size
  few : n ≤ 1000000
  nil : ao = none → cap = 0
  le : n ≤ cap
  cap : cap ≤ 9223372036854775807
theorem Arg.below {ao : Option Addr} {n cap : Nat} {z : Nat → Int} {w w' : World} (h : Arg ao n cap z w) (hb : Below w.heap.size w w') : Arg ao n cap z w' :=
  ⟨h.sl.below hb h.lt, h.lt.mono hb.size, h.few, h.nil, h.le, h.cap⟩

def two {α : Type} (x y : α) : Nat → α := fun j => if j = 0 then x else y
/-- The coefficients of n numbers that are elements. -/
def zc (n : Nat) (z : Nat → Int) : Nat → Nat := fun j => if j < n then (z j).toNat else 0
theorem chk_zero {D : FD} {n : Nat} {z : Nat → Int} (h : D.chk n z = 0) : n ≤ 128 ∧ ∀ j, j < n → D.has (z j) = true := by
  unfold FD.chk at h
  by_cases h1 : 128 < n
  · rw [if_pos h1] at h; cases h
  · rw [if_neg h1] at h
    by_cases h2 : D.allHas z n = true
    · exact ⟨by omega, allHas_iff.1 h2⟩
    · rw [if_neg h2] at h; cases h
theorem zc_el {D : FD} (F : Fld D) {n : Nat} {z : Nat → Int} (h : D.chk n z = 0) : El D (zc n z) := fun j => by
  unfold zc
  by_cases e : j < n
  · obtain ⟨x, hx, hxq⟩ := has_nat ((chk_zero h).2 j e)
    rw [if_pos e, hx, Int.toNat_natCast]; exact hxq
  · rw [if_neg e]; exact zero_lt' F
theorem zc_sl {D : FD} {ao : Option Addr} {n : Nat} {z : Nat → Int} {w : World} (h : D.chk n z = 0) (hS : SlZ ao n z w) : Sl ao n (zc n z) w := fun j hj => by
  obtain ⟨b, off, e, hc⟩ := hS j hj
  obtain ⟨x, hx, hxq⟩ := has_nat ((chk_zero h).2 j hj)
  refine ⟨b, off, e, ?_⟩
  rw [hc]
  unfold zc
  rw [if_pos hj, hx, Int.toNat_natCast]
end Go.Proofs.Ytcgmllamiaflcaa

/- The program's polynomials: the calls that are listed: Mul, Div, At. -/
namespace Go.Proofs.Ytcgmllamiaflcaa
open Go.RowKit

end Go.Proofs.Ytcgmllamiaflcaa

/- The program's polynomials: the calls that are listed: Div, At. -/
namespace Go.Proofs.Ytcgmllamiaflcaa
open Go.RowKit

end Go.Proofs.Ytcgmllamiaflcaa

/- The program's polynomials: the calls that are listed: At, Roots. -/
namespace Go.Proofs.Ytcgmllamiaflcaa
open Go.RowKit

end Go.Proofs.Ytcgmllamiaflcaa

/- The program's polynomials: the calls that are listed: Roots. -/
namespace Go.Proofs.Ytcgmllamiaflcaa
open Go.RowKit

end Go.Proofs.Ytcgmllamiaflcaa

/- The program's polynomials: with 1 at the end (monic); the calls that are listed: Gcd. -/
namespace Go.Proofs.Ytcgmllamiaflcaa
open Go.RowKit

end Go.Proofs.Ytcgmllamiaflcaa

/- How many there are to try (tooMany, Tries). -/
namespace Go.Proofs.Ytcgmllamiaflcaa
open Go.RowKit

end Go.Proofs.Ytcgmllamiaflcaa

/- Does an element stand twice in a list (hasTwice)? -/
namespace Go.Proofs.Ytcgmllamiaflcaa
open Go.RowKit

end Go.Proofs.Ytcgmllamiaflcaa

/- The reference's polynomials: without noughts at the end (Trim); which may be (PolyMay). -/
namespace Go.Proofs.Ytcgmllamiaflcaa
open Go.RowKit

end Go.Proofs.Ytcgmllamiaflcaa

/- The reference's polynomials: which may be (PolyMay). -/
namespace Go.Proofs.Ytcgmllamiaflcaa
open Go.RowKit

end Go.Proofs.Ytcgmllamiaflcaa

/- The reference's polynomials: sums (PAdd). -/
namespace Go.Proofs.Ytcgmllamiaflcaa
open Go.RowKit

end Go.Proofs.Ytcgmllamiaflcaa

/- The same where the calls lay blocks: the worlds in which nothing that was there has turned. No Go text here. -/
namespace Go.Proofs.Ytcgmllamiaflcaa
open Go Go.Sort Go.RowKit

end Go.Proofs.Ytcgmllamiaflcaa

/- The reference's polynomials: products (PMul). -/
namespace Go.Proofs.Ytcgmllamiaflcaa
open Go.RowKit Go.Sort

end Go.Proofs.Ytcgmllamiaflcaa

/- The reference's polynomials: values of a polynomial that came in (value, PAt). -/
namespace Go.Proofs.Ytcgmllamiaflcaa
open Go.RowKit

end Go.Proofs.Ytcgmllamiaflcaa
