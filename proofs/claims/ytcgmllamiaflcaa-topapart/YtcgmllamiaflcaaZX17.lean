/- Texts of ours, one behind the other: X17 S5 O2 O3 U23 H1 H2 H3 H4 S8 Y1 Y2 Y3 S9 S10. -/
import Derived.Test.YtcgmllamiaflcaaZK3
import Derived.Test.YtcgmllamiaflcaaZL10
import Derived.Test.YtcgmllamiaflcaaZV7
import Derived.Test.YtcgmllamiaflcaaZK1
/- The program's matrices: is a number in a list (slices.Contains); the rows that make a reduced form 0 (madeNought). -/
namespace Go.Proofs.Ytcgmllamiaflcaa
open Go.RowKit

set_option maxHeartbeats 2000000 in
set_option maxRecDepth 100000 in
theorem indexI_any {ao : Option Addr} {n ca : Nat} {z : Nat → Int} {w : World} (x : Int) (hs : SlZ ao n z w) (hn : n ≤ 1000000) :
    Calls Try.prog 81 #[.slice ao n ca, .int .i64 x] w fun e w' => w' = w ∧ ((∃ i : Nat, i < n ∧ z i = x ∧ e = .returned (.int .i64 i)) ∨ ((∀ j, j < n → z j ≠ x) ∧ e = .returned (.int .i64 (-1)))) := by
  have HS : Hid (SlZ ao n z w) := hs
  clear hs
  go_enter Try.func81, Try.ntmps81
  go_wp2
  go_loopw [5, 8] (fun _ i wr => ∃ r : Nat, r ≤ n ∧ i = .int .i64 r ∧ Hid (∀ j, j < r → z j ≠ x) ∧ wr = w) (fun _ i _ => n - (intOf i).toNat)
  case atStart => exact ⟨0, by omega, rfl, (show Hid _ from fun j hj => by omega), rfl⟩
  case round =>
    obtain ⟨r, hr, rfl, HH, rfl⟩ := hrel
    by_cases hlt : r < n
    · obtain ⟨b, off, rfl, hcz⟩ := HS.out r hlt
      have hib : (r : Int) < (n : Int) := by omega
      obtain ⟨y, hy⟩ : ∃ y, y = z r := ⟨_, rfl⟩
      rw [← hy] at hcz
      by_cases he : x = y
      · have hb : (x == y) = true := beq_iff_eq.2 he
        have HV : Hid (z r = x) := by rw [← hy, he]; rfl
        clear he hy
        go_wp2
        go_ret
        exact ⟨rfl, Or.inl ⟨r, hlt, HV.out, rfl⟩⟩
      · have hb : (x == y) = false := beq_eq_false_iff_ne.2 he
        have HV : Hid (∀ j, j < r + 1 → z j ≠ x) := fun j hj => by
          by_cases e : j = r
          · rw [e, ← hy]; exact fun e => he e.symm
          · exact HH.out j (by omega)
        clear he hy
        go_wp2
        go_roundw
        case rel => exact ⟨r + 1, by omega, by go_num, HV.out, by first | rfl | trivial⟩
        case measure => simp [intOf]; omega
    · have HV : Hid (∀ j, j < n → z j ≠ x) := fun j hj => HH.out j (by omega)
      go_wp2
      go_ret
      exact ⟨rfl, Or.inr ⟨HV.out, rfl⟩⟩

set_option maxHeartbeats 2000000 in
set_option maxRecDepth 100000 in
theorem contains_any {ao : Option Addr} {n ca : Nat} {z : Nat → Int} {w : World} (x : Int) (hs : SlZ ao n z w) (hn : n ≤ 1000000) :
    Calls Try.prog 52 #[.slice ao n ca, .int .i64 x] w fun e w' => e = .returned (.bool (decide (x ∈ zl n z))) ∧ w' = w := by
  have HS : Hid (SlZ ao n z w) := hs
  clear hs
  go_enter Try.func52, Try.ntmps52
  go_wp2_with fail
  refine (indexI_any x HS.out hn).mono ?_
  rintro e w' ⟨hw, ⟨i, hi, hz, rfl⟩ | ⟨hz, rfl⟩⟩
  · have hw := hw.symm
    subst hw
    have hge : (0 : Int) ≤ (i : Int) := by omega
    have HV : Hid (decide (x ∈ zl n z) = true) := by
      show _ = _
      rw [decide_eq_true_eq]; exact zl_mem.2 ⟨i, hi, hz⟩
    clear hz
    go_wp2
    go_ret
    exact ⟨by rw [HV.out]; rfl, rfl⟩
  · have hw := hw.symm
    subst hw
    have HV : Hid (decide (x ∈ zl n z) = false) := by
      show _ = _
      rw [decide_eq_false_iff_not]
      intro h
      obtain ⟨j, hj, e⟩ := zl_mem.1 h
      exact hz j hj e
    clear hz
    go_wp2
    go_ret
    exact ⟨by rw [HV.out]; rfl, rfl⟩

end Go.Proofs.Ytcgmllamiaflcaa

/- Plain mathematics: linear equations (Solve): the rows with what they are to be behind them. -/
namespace Go.Proofs.Ytcgmllamiaflcaa

end Go.Proofs.Ytcgmllamiaflcaa

/- A list of lists of numbers that a statement is given, opened. -/
namespace Go.Proofs.Ytcgmllamiaflcaa
open Go.ChangeShapes Go.WideShapes Go.ChangeAt Go.RowKit

end Go.Proofs.Ytcgmllamiaflcaa

/- How heavy a list of lists is that a statement is given. -/
namespace Go.Proofs.Ytcgmllamiaflcaa
open Go.RowKit Go.Sort

end Go.Proofs.Ytcgmllamiaflcaa

/- The program's polynomials: a sum with an empty list, wherever that lies. -/
namespace Go.Proofs.Ytcgmllamiaflcaa
open Go.RowKit Go.Sort

end Go.Proofs.Ytcgmllamiaflcaa

/- Curves (lists.Curve): what both sides reckon; the calls that they make. -/
namespace Go.Proofs.Ytcgmllamiaflcaa
open Go.RowKit Go.Sort

theorem chk_nat {D : FD} {n : Nat} {c : Nat → Nat} (h : El D c) (hn : n ≤ 128) : D.chk n (fun j => ((c j : Nat) : Int)) = 0 := by
  unfold FD.chk
  rw [if_neg (by omega), if_pos (allHas_iff.2 (fun j _ => has_of_lt (h j)))]
end Go.Proofs.Ytcgmllamiaflcaa

/- Curves: the program's, and the reference's. -/
namespace Go.Proofs.Ytcgmllamiaflcaa
open Go.RowKit Go.Sort

end Go.Proofs.Ytcgmllamiaflcaa

/- Curves: the reference's. -/
namespace Go.Proofs.Ytcgmllamiaflcaa
open Go.RowKit Go.Sort

end Go.Proofs.Ytcgmllamiaflcaa

/- ListsCurve: the walk of the statement, whatever it is given. -/
namespace Go.Proofs.Ytcgmllamiaflcaa
open Go.RowKit Go.Sort

end Go.Proofs.Ytcgmllamiaflcaa

/- Plain mathematics: the shortest rule of a list (Berlekamp and Massey). -/
namespace Go.Proofs.Ytcgmllamiaflcaa

end Go.Proofs.Ytcgmllamiaflcaa

/- The program's rules (reed): trim, missed, less. -/
namespace Go.Proofs.Ytcgmllamiaflcaa
open Go.RowKit Go.Sort

end Go.Proofs.Ytcgmllamiaflcaa

/- The program's rules (reed): the shortest one (shortest, Massey). -/
namespace Go.Proofs.Ytcgmllamiaflcaa
open Go.RowKit Go.Sort

theorem Arg.drewN {ao : Option Addr} {n cap : Nat} {z : Nat → Int} {w : World} (h : Arg ao n cap z w) (k : Nat) : Arg ao n cap z (w.drewN k) := ⟨h.sl, h.lt, h.few, h.nil, h.le, h.cap⟩

end Go.Proofs.Ytcgmllamiaflcaa

/- The program's Massey; lists that are far too long. -/
namespace Go.Proofs.Ytcgmllamiaflcaa
open Go.RowKit Go.Sort

end Go.Proofs.Ytcgmllamiaflcaa

/- Equations that can be met, and the rules of shorter length. -/
namespace Go.Proofs.Ytcgmllamiaflcaa
open Go.RowKit Go.Sort

end Go.Proofs.Ytcgmllamiaflcaa

/- Lists that a rule makes: the shortest rule of enough of them makes the rest. -/
namespace Go.Proofs.Ytcgmllamiaflcaa
open Go.RowKit Go.Sort

theorem ng_ad {D : FD} (F : Fld D) {a b : Nat} (ha : a < D.q) (hb : b < D.q) : D.ng (D.ad a b) = D.ad (D.ng a) (D.ng b) := by
  have h1 : D.ad (D.ad a b) (D.ad (D.ng a) (D.ng b)) = 0 := by
    rw [ad4 F ha hb (ng_lt F ha) (ng_lt F hb), ad_ng F ha, ad_ng F hb, ad_zero F (zero_lt' F)]
  exact (ad_cancel F (ad_lt F ha hb) (ad_lt F (ng_lt F ha) (ng_lt F hb)) (ng_lt F (ad_lt F ha hb)) (h1.trans (ad_ng F (ad_lt F ha hb)).symm)).symm
end Go.Proofs.Ytcgmllamiaflcaa
