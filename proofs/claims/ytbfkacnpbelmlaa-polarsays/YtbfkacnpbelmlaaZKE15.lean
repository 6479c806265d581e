/- Texts of ours, one behind the other: KE15 S34 KH1 KH2 KI1 KI2 KI3 KI4 KR1. -/
import Derived.Test.YtbfkacnpbelmlaaZKE3
import Derived.Test.YtbfkacnpbelmlaaZA1
import Derived.Test.YtbfkacnpbelmlaaZL10
import Derived.Test.YtbfkacnpbelmlaaZR15
/- Codes of few checks: the reference's Bits. -/
namespace Go.Proofs.Ytbfkacnpbelmlaa
open Go.RowKit Go.Sort

/-- What Bits takes: bits, and gaps where they are allowed. -/
def isbg (g : Bool) (x : Int) : Bool := if g = true then isht x else isbt x

set_option maxHeartbeats 8000000 in
set_option maxRecDepth 100000 in
theorem rbits_any (gp : Bool) {ao : Option Addr} {n cap : Nat} {z : Nat → Int} {w : World} (hs : SlZ ao n z w) (hn : n ≤ 1000000) :
    Calls Try.prog 11 #[.slice ao n cap, .bool gp] w fun e w' => e = .returned (.bool (allP (isbg gp) z n)) ∧ w' = w := by
  obtain ⟨R, hR⟩ : ∃ R, R = allP (isbg gp) z n := ⟨_, rfl⟩
  have HS : Hid (SlZ ao n z w ∧ R = allP (isbg gp) z n) := ⟨hs, hR⟩
  rw [← hR]
  clear hs hR
  go_enter Try.func11, Try.ntmps11
  go_wp2
  go_loopw [5] (fun vi wx => ∃ i : Nat, i ≤ n ∧ vi = .int .i64 (i : Nat) ∧ Hid (allP (isbg gp) z i = true) ∧ wx = w) (fun vi _ => n - (intOf vi).toNat)
  case atStart => exact ⟨0, by omega, rfl, rfl, rfl⟩
  case round =>
    obtain ⟨i, hi, rfl, HI, hwx⟩ := hrel
    have hwx := hwx.symm
    subst hwx
    by_cases hlt : i < n
    · have hib : (i : Int) < (n : Int) := by omega
      have hib0 : (0 : Int) ≤ (i : Int) := by omega
      obtain ⟨b, off, rfl, hc⟩ := HS.out.1 i hlt
      obtain ⟨x, hx⟩ : ∃ x, x = z i := ⟨_, rfl⟩
      rw [← hx] at hc
      have key : ∀ c : Bool, isbg gp x = c → (c = false → R = false) ∧ (c = true → allP (isbg gp) z (i + 1) = true) := fun c hcx => by
        constructor
        · intro h
          rw [HS.out.2]
          exact allP_no (by rw [← hx, hcx, h]) n hlt
        · intro h
          show (allP (isbg gp) z i && isbg gp (z i)) = true
          rw [HI.out, ← hx, hcx, h]; rfl
      by_cases h1 : 1 < x
      · have hg : x > 1 := h1
        have HV : Hid (R = false) := (key false (by unfold isbg isht isbt; cases gp <;> simp <;> omega)).1 rfl
        clear key hx
        go_wp2
        go_ret
        exact ⟨by rw [HV.out]; rfl, rfl⟩
      · have hg : ¬ x > 1 := h1
        by_cases h2 : x < -1
        · have HV : Hid (R = false) := (key false (by unfold isbg isht isbt; cases gp <;> simp <;> omega)).1 rfl
          clear key hx
          go_wp2
          go_ret
          exact ⟨by rw [HV.out]; rfl, rfl⟩
        · by_cases h3 : x = -1
          · have hz : (x == -1) = true := by rw [h3]; rfl
            cases gp with
            | false =>
              have HV : Hid (R = false) := (key false (by rw [h3]; rfl)).1 rfl
              clear key hx h3
              go_wp2
              go_ret
              exact ⟨by rw [HV.out]; rfl, rfl⟩
            | true =>
              have HV : Hid (allP (isbg true) z (i + 1) = true) := (key true (by rw [h3]; rfl)).2 rfl
              clear key hx h3
              go_wp2
              go_roundw
              case rel => exact ⟨i + 1, by omega, by go_num, HV.out, by first | rfl | trivial⟩
              case measure => simp [intOf]; omega
          · have hz : (x == -1) = false := beq_eq_false_iff_ne.2 h3
            have HV : Hid (allP (isbg gp) z (i + 1) = true) := (key true (by unfold isbg isht isbt; cases gp <;> simp <;> omega)).2 rfl
            clear key hx h3
            go_wp2
            go_roundw
            case rel => exact ⟨i + 1, by omega, by go_num, HV.out, by first | rfl | trivial⟩
            case measure => simp [intOf]; omega
    · have hib : ¬ (i : Int) < (n : Int) := by omega
      have hie : n = i := by omega
      subst hie
      have HV : Hid (R = true) := by show _ = _; rw [HS.out.2]; exact HI.out
      go_wp2
      go_ret
      exact ⟨by rw [HV.out]; rfl, rfl⟩
end Go.Proofs.Ytbfkacnpbelmlaa

/- Gray's lists. No Go text here. -/
namespace Go.Proofs.Ytbfkacnpbelmlaa

end Go.Proofs.Ytbfkacnpbelmlaa

/- Gray's lists: which sizes may be (digits.Check, product, behind; the reference's SizesMay). -/
namespace Go.Proofs.Ytbfkacnpbelmlaa
open Go.RowKit Go.Sort

end Go.Proofs.Ytbfkacnpbelmlaa

/- Gray's lists: the reference's SizesMay, the program's Gray. -/
namespace Go.Proofs.Ytbfkacnpbelmlaa
open Go.RowKit Go.Sort

end Go.Proofs.Ytbfkacnpbelmlaa

/- Words that may lose a bit: which numbers may be (gap.checkSum; the reference's GapArgs). -/
namespace Go.Proofs.Ytbfkacnpbelmlaa
open Go.RowKit Go.Sort

end Go.Proofs.Ytbfkacnpbelmlaa

/- Words that may lose a bit: the sum of the places of ones (gap.comesTo; the reference's Places). -/
namespace Go.Proofs.Ytbfkacnpbelmlaa
open Go.RowKit Go.Sort

end Go.Proofs.Ytbfkacnpbelmlaa

/- Words that may lose a bit: the reference's Places. -/
namespace Go.Proofs.Ytbfkacnpbelmlaa
open Go.RowKit Go.Sort

end Go.Proofs.Ytbfkacnpbelmlaa

/- Words that may lose a bit: the bits of a number (gap.bits). -/
namespace Go.Proofs.Ytbfkacnpbelmlaa
open Go.RowKit Go.Sort

/-- A row of just n numbers. -/
def RowE (g n : Nat) (z : Nat → Int) (w : World) : Prop := RowF g n 3 (fun j => .int .i64 (z j)) w
theorem rowE_zeros {base n : Nat} {w : World} (h : OwnI base (.slice (some ⟨base, 0, none⟩) n n) (List.replicate n 0) w) : RowE base n (fun _ => 0) w := by
  rcases h.2 with ⟨h1, _⟩ | ⟨g, cap, cur, hv, hg, hh, hle, hcm, hsz, htake⟩
  · cases h1
  · simp only [List.length_replicate, Value.slice.injEq, Option.some.injEq, Addr.mk.injEq, and_true, true_and] at hv
    obtain ⟨rfl, rfl⟩ := hv
    by_cases h0 : n = 0
    · exact ⟨cur, hh, by omega, fun o ho => by omega⟩
    · obtain ⟨gl, cl, fl, hvl, hgl, hgl', hll, hcl, hrl, hfl⟩ := h.row n (by simp) (by omega)
      simp only [Value.slice.injEq, Option.some.injEq, Addr.mk.injEq, and_true, true_and] at hvl
      obtain ⟨rfl, rfl⟩ := hvl
      exact RowF.congr hrl fun k hk => by rw [hfl k hk, list_getD_replicate]
theorem RowE.store {g n : Nat} {z : Nat → Int} {w : World} (h : RowE g n z w) (k : Nat) (v : Int) : RowE g n (fun j => if j = k then v else z j) (w.setCell ⟨g, k, none⟩ (.int .i64 v)) := by
  refine (RowF.store h k (.int .i64 v)).congr (fun o _ => ?_)
  show (if o = k then Value.int .i64 v else Value.int .i64 (z o)) = Value.int .i64 (if o = k then v else z o)
  by_cases e : o = k
  · rw [if_pos e, if_pos e]
  · rw [if_neg e, if_neg e]
theorem RowE.own {g n base : Nat} {z : Nat → Int} {w : World} (h : RowE g n z w) (hb : base ≤ g) (hn : n ≤ 1000000) : OwnI base (.slice (some ⟨g, 0, none⟩) n n) (zl n z) w := RowF.own h (zl_len n z) (fun j hj => by rw [zl_getD n z j hj]) hb hn

end Go.Proofs.Ytbfkacnpbelmlaa

/- Golay: places as the bits of a number, of both sides. -/
namespace Go.Proofs.Ytbfkacnpbelmlaa
open Go.RowKit

theorem wrap_u64 {a : Nat} (h : a < 18446744073709551616) : IntKind.u64.wrap (a : Int) = (a : Int) := by
  show ((a : Int) % 18446744073709551616) = _
  omega
end Go.Proofs.Ytbfkacnpbelmlaa
