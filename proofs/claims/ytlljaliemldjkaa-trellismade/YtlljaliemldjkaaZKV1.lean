/- Texts of ours, one behind the other: KV1 KV2. -/
import Derived.Test.YtlljaliemldjkaaZS82
import Derived.Test.YtlljaliemldjkaaZS78
import Derived.Test.YtlljaliemldjkaaZKE3
import Derived.Test.YtlljaliemldjkaaZKE21
/- Trellises: Check, what is remembered, a sign; of both sides. -/
namespace Go.Proofs.Ytlljaliemldjkaa
open Go.RowKit Go.Sort

/-- A rule that may be. -/
def isrl (x : Int) : Bool := decide (1 ≤ x ∧ x ≤ 31)
/-- What is wrong with rules. -/
def tck (R : Nat) (z : Nat → Int) : Int := if R < 1 ∨ 3 < R then 6 else if allP isrl z R = true then 0 else 2
theorem tck_ok {R : Nat} {z : Nat → Int} (h : tck R z = 0) : 1 ≤ R ∧ R ≤ 3 ∧ ∀ i, i < R → 1 ≤ z i ∧ z i ≤ 31 := by
  unfold tck at h
  by_cases h1 : R < 1 ∨ 3 < R
  · rw [if_pos h1] at h; cases h
  · rw [if_neg h1] at h
    by_cases h2 : allP isrl z R = true
    · exact ⟨by omega, by omega, fun i hi => of_decide_eq_true (allP_iff R h2 i hi)⟩
    · rw [if_neg h2] at h; cases h
set_option maxHeartbeats 4000000 in
set_option maxRecDepth 100000 in
theorem tcheck_any {ao : Option Addr} {R ca : Nat} {z : Nat → Int} {w : World} (hX : SlZ ao R z w) (hR : R ≤ 1000000) :
    Calls Try.prog 10 #[.slice ao R ca] w fun e w' => e = .returned (.int .i64 (tck R z)) ∧ w' = w := by
  obtain ⟨E, hE⟩ : ∃ E, E = tck R z := ⟨_, rfl⟩
  rw [← hE]
  by_cases h1 : R < 1
  · have HV : Hid (E = 6) := by show E = 6; rw [hE]; unfold tck; rw [if_pos (Or.inl h1)]
    have e0 : R = 0 := by omega
    subst e0
    clear hE h1 hX
    go_enter Try.func10, Try.ntmps10
    go_wp2
    go_ret
    exact ⟨by rw [HV.out]; rfl, rfl⟩
  · have a1 : ¬ (R : Int) < 1 := by omega
    by_cases h2 : 3 < R
    · have HV : Hid (E = 6) := by show E = 6; rw [hE]; unfold tck; rw [if_pos (Or.inr h2)]
      have a2 : (3 : Int) < (R : Int) := by omega
      clear hE h2 hX
      go_enter Try.func10, Try.ntmps10
      go_wp2
      go_ret
      exact ⟨by rw [HV.out]; rfl, rfl⟩
    · have a2 : ¬ (3 : Int) < (R : Int) := by omega
      have HX : Hid (SlZ ao R z w ∧ E = if allP isrl z R = true then 0 else 2) := ⟨hX, by show E = _; rw [hE]; unfold tck; rw [if_neg (by omega)]⟩
      clear hE hX
      go_enter Try.func10, Try.ntmps10
      go_wp2
      go_loopw [15] (fun vi wr => ∃ i : Nat, vi = .int .i64 (i : Nat) ∧ i ≤ R ∧ Hid (allP isrl z i = true ∧ wr = w)) (fun vi _ => R - (intOf vi).toNat)
      case atStart => exact ⟨0, rfl, by omega, rfl, rfl⟩
      case round =>
        obtain ⟨i, rfl, hi, HI⟩ := hrel
        have hw := HI.out.2.symm
        subst hw
        by_cases hlt : i < R
        · have hib : (i : Int) < (R : Int) := by omega
          have hib0 : (0 : Int) ≤ (i : Int) := by omega
          obtain ⟨b, off, e1, hcell⟩ := HX.out.1 i hlt
          subst e1
          obtain ⟨v, hv⟩ : ∃ v, v = z i := ⟨_, rfl⟩
          rw [← hv] at hcell
          by_cases c1 : v < 1
          · have HV : Hid (E = 2) := by
              show E = 2
              rw [HX.out.2, if_neg (by rw [allP_no (p := isrl) (i := i) (by rw [← hv]; exact decide_eq_false (by omega)) R hlt]; decide)]
            clear hv
            go_wp2
            go_ret
            exact ⟨by rw [HV.out]; rfl, rfl⟩
          · by_cases c2 : 32 ≤ v
            · have c3 : v ≥ 32 := c2
              have HV : Hid (E = 2) := by
                show E = 2
                rw [HX.out.2, if_neg (by rw [allP_no (p := isrl) (i := i) (by rw [← hv]; exact decide_eq_false (by omega)) R hlt]; decide)]
              clear hv
              go_wp2
              go_ret
              exact ⟨by rw [HV.out]; rfl, rfl⟩
            · have c3 : ¬ v ≥ 32 := c2
              have HN : Hid (allP isrl z (i + 1) = true) := by
                show (allP isrl z i && isrl (z i)) = true
                rw [HI.out.1, ← hv]; exact decide_eq_true (by omega)
              clear hv
              go_wp2
              go_roundw
              case rel => exact ⟨i + 1, by go_num, by omega, HN.out, by first | rfl | trivial⟩
              case measure => simp [intOf]; omega
        · have hib : ¬ (i : Int) < (R : Int) := by omega
          have hie : i = R := by omega
          subst hie
          have HV : Hid (E = 0) := by show E = 0; rw [HX.out.2, if_pos HI.out.1]
          go_wp2
          go_ret
          exact ⟨by rw [HV.out]; rfl, rfl⟩
set_option maxHeartbeats 4000000 in
set_option maxRecDepth 100000 in
theorem rtmay_any {ao : Option Addr} {R ca : Nat} {z : Nat → Int} {w : World} (hX : SlZ ao R z w) (hR : R ≤ 1000000) :
    Calls Try.prog 6 #[.slice ao R ca] w fun e w' => e = .returned (.int .i64 (tck R z)) ∧ w' = w := by
  obtain ⟨E, hE⟩ : ∃ E, E = tck R z := ⟨_, rfl⟩
  rw [← hE]
  by_cases h1 : R < 1
  · have HV : Hid (E = 6) := by show E = 6; rw [hE]; unfold tck; rw [if_pos (Or.inl h1)]
    have e0 : R = 0 := by omega
    subst e0
    clear hE h1 hX
    go_enter Try.func6, Try.ntmps6
    go_wp2
    go_ret
    exact ⟨by rw [HV.out]; rfl, rfl⟩
  · have a1 : ¬ (R : Int) < 1 := by omega
    by_cases h2 : 3 < R
    · have HV : Hid (E = 6) := by show E = 6; rw [hE]; unfold tck; rw [if_pos (Or.inr h2)]
      have a2 : (3 : Int) < (R : Int) := by omega
      clear hE h2 hX
      go_enter Try.func6, Try.ntmps6
      go_wp2
      go_ret
      exact ⟨by rw [HV.out]; rfl, rfl⟩
    · have a2 : ¬ (3 : Int) < (R : Int) := by omega
      have HX : Hid (SlZ ao R z w ∧ E = if allP isrl z R = true then 0 else 2) := ⟨hX, by show E = _; rw [hE]; unfold tck; rw [if_neg (by omega)]⟩
      clear hE hX
      go_enter Try.func6, Try.ntmps6
      go_wp2
      go_loopw [3] (fun vi wr => ∃ i : Nat, vi = .int .i64 (i : Nat) ∧ i ≤ R ∧ Hid (allP isrl z i = true ∧ wr = w)) (fun vi _ => R - (intOf vi).toNat)
      case atStart => exact ⟨0, rfl, by omega, rfl, rfl⟩
      case round =>
        obtain ⟨i, rfl, hi, HI⟩ := hrel
        have hw := HI.out.2.symm
        subst hw
        by_cases hlt : i < R
        · have hib : (i : Int) < (R : Int) := by omega
          have hib0 : (0 : Int) ≤ (i : Int) := by omega
          obtain ⟨b, off, e1, hcell⟩ := HX.out.1 i hlt
          subst e1
          obtain ⟨v, hv⟩ : ∃ v, v = z i := ⟨_, rfl⟩
          rw [← hv] at hcell
          by_cases c1 : v < 1
          · have HV : Hid (E = 2) := by
              show E = 2
              rw [HX.out.2, if_neg (by rw [allP_no (p := isrl) (i := i) (by rw [← hv]; exact decide_eq_false (by omega)) R hlt]; decide)]
            clear hv
            go_wp2
            go_ret
            exact ⟨by rw [HV.out]; rfl, rfl⟩
          · by_cases c2 : 31 < v
            · have c3 : v > 31 := c2
              have HV : Hid (E = 2) := by
                show E = 2
                rw [HX.out.2, if_neg (by rw [allP_no (p := isrl) (i := i) (by rw [← hv]; exact decide_eq_false (by omega)) R hlt]; decide)]
              clear hv
              go_wp2
              go_ret
              exact ⟨by rw [HV.out]; rfl, rfl⟩
            · have c3 : ¬ v > 31 := c2
              have HN : Hid (allP isrl z (i + 1) = true) := by
                show (allP isrl z i && isrl (z i)) = true
                rw [HI.out.1, ← hv]; exact decide_eq_true (by omega)
              clear hv
              go_wp2
              go_roundw
              case rel => exact ⟨i + 1, by go_num, by omega, HN.out, by first | rfl | trivial⟩
              case measure => simp [intOf]; omega
        · have hib : ¬ (i : Int) < (R : Int) := by omega
          have hie : i = R := by omega
          subst hie
          have HV : Hid (E = 0) := by show E = 0; rw [HX.out.2, if_pos HI.out.1]
          go_wp2
          go_ret
          exact ⟨by rw [HV.out]; rfl, rfl⟩
end Go.Proofs.Ytlljaliemldjkaa

/- Trellises: how much is remembered, and a sign. -/
namespace Go.Proofs.Ytlljaliemldjkaa
open Go.RowKit Go.Sort

theorem or_i64n {a b : Nat} (ha : a < 1073741824) (hb : b < 1073741824) : bits BinOp.or IntKind.i64 (a : Int) (b : Int) = ((a ||| b : Nat) : Int) := by
  have h1 : (BitVec.ofInt 64 (a : Int)).toNat = a := by
    rw [BitVec.ofInt_natCast, BitVec.toNat_ofNat]; exact Nat.mod_eq_of_lt (by omega)
  have h2 : (BitVec.ofInt 64 (b : Int)).toNat = b := by
    rw [BitVec.ofInt_natCast, BitVec.toNat_ofNat]; exact Nat.mod_eq_of_lt (by omega)
  have h3 : a ||| b < 1073741824 := Nat.or_lt_two_pow (n := 30) ha hb
  show IntKind.i64.wrap ((BitVec.ofInt 64 (a : Int) ||| BitVec.ofInt 64 (b : Int)).toNat : Int) = _
  rw [BitVec.toNat_or, h1, h2]
  exact wrap_to (by omega) (by omega)
set_option maxHeartbeats 8000000 in
set_option maxRecDepth 100000 in
theorem len64_any {x : Nat} (hx : x < 32) (w : World) : Calls Try.prog 53 #[.int .u64 (x : Nat)] w fun e w' => e = .returned (.int .i64 (mbl x : Nat)) ∧ w' = w := by
  have h : x = 0 ∨ x = 1 ∨ x = 2 ∨ x = 3 ∨ x = 4 ∨ x = 5 ∨ x = 6 ∨ x = 7 ∨ x = 8 ∨ x = 9 ∨ x = 10 ∨ x = 11 ∨ x = 12 ∨ x = 13 ∨ x = 14 ∨ x = 15 ∨ x = 16 ∨ x = 17 ∨ x = 18 ∨ x = 19 ∨ x = 20 ∨ x = 21 ∨ x = 22 ∨ x = 23 ∨ x = 24 ∨ x = 25 ∨ x = 26 ∨ x = 27 ∨ x = 28 ∨ x = 29 ∨ x = 30 ∨ x = 31 := by omega
  clear hx
  rcases h with rfl | rfl | rfl | rfl | rfl | rfl | rfl | rfl | rfl | rfl | rfl | rfl | rfl | rfl | rfl | rfl | rfl | rfl | rfl | rfl | rfl | rfl | rfl | rfl | rfl | rfl | rfl | rfl | rfl | rfl | rfl | rfl <;> (
    go_enter Try.func53, Try.ntmps53
    go_wp2
    go_ret
    refine ⟨?_, by first | rfl | trivial⟩
    refine congrArg Ending.returned ?_
    kernel_rfl)
set_option maxHeartbeats 2000000 in
theorem blen_any {x : Nat} (hx : x < 32) (w : World) : Calls Try.prog 48 #[.int .u64 (x : Nat)] w fun e w' => e = .returned (.int .i64 (mbl x : Nat)) ∧ w' = w := by
  have HC : Hid (∀ w : World, Calls Try.prog 53 #[.int .u64 (x : Nat)] w fun e w' => e = .returned (.int .i64 (mbl x : Nat)) ∧ w' = w) := fun w => len64_any hx w
  go_enter Try.func48, Try.ntmps48
  go_wp2_with fail
  refine (HC.out w).mono ?_
  rintro e w' ⟨rfl, hw⟩
  have hw := hw.symm
  subst hw
  go_wp2
  go_ret
  exact ⟨rfl, by first | rfl | trivial⟩
/-- Rules that may be, as numbers. -/
structure RlZ (ao : Option Addr) (R : Nat) (z : Nat → Nat) (w : World) : Prop where
  sl : SlZ ao R (fun i => ((z i : Nat) : Int)) w
  one : 1 ≤ R
  few : R ≤ 3
  lo : ∀ i, i < R → 1 ≤ z i
  hi : ∀ i, i < R → z i ≤ 31
theorem RlZ.orz {ao : Option Addr} {R : Nat} {z : Nat → Nat} {w : World} (h : RlZ ao R z w) (k : Nat) (hk : k ≤ R) : orz z k < 32 := orz_lt k (fun i hi => by have := h.hi i (by omega); omega)
theorem RlZ.pos {ao : Option Addr} {R : Nat} {z : Nat → Nat} {w : World} (h : RlZ ao R z w) : 0 < Go.Proofs.Ytlljaliemldjkaa.orz z R := Nat.lt_of_lt_of_le (h.lo 0 h.one) (orz_le R h.one)
set_option maxHeartbeats 4000000 in
set_option maxRecDepth 100000 in
theorem tmemory_any {ao : Option Addr} {R ca : Nat} {z : Nat → Nat} {w : World} (hX : RlZ ao R z w) :
    Calls Try.prog 27 #[.slice ao R ca] w fun e w' => e = .returned (.int .i64 (mmr z R : Nat)) ∧ w' = w := by
  have HX : Hid (RlZ ao R z w) := hX
  have hR3 := hX.few
  clear hX
  go_enter Try.func27, Try.ntmps27
  go_wp2
  go_loopw [3, 8] (fun va vi wr => ∃ i a : Nat, va = .int .i64 (a : Nat) ∧ vi = .int .i64 (i : Nat) ∧ i ≤ R ∧ a < 32 ∧ Hid (a = orz z i ∧ wr = w)) (fun _ vi _ => R - (intOf vi).toNat)
  case atStart => exact ⟨0, 0, rfl, rfl, by omega, by omega, rfl, rfl⟩
  case round =>
    obtain ⟨i, a, rfl, rfl, hi, ha, HI⟩ := hrel
    have hw := HI.out.2.symm
    subst hw
    by_cases hlt : i < R
    · have hib : (i : Int) < (R : Int) := by omega
      have hib0 : (0 : Int) ≤ (i : Int) := by omega
      obtain ⟨b, off, e1, hcell⟩ := HX.out.sl i hlt
      subst e1
      obtain ⟨v, hv⟩ : ∃ v, v = z i := ⟨_, rfl⟩
      replace hcell : w.cell? ⟨b, off + i, none⟩ = some (.int .i64 (v : Nat)) := by rw [hv]; exact hcell
      have hvb : v ≤ 31 := by rw [hv]; exact HX.out.hi i hlt
      have hor : bits BinOp.or IntKind.i64 (a : Int) (v : Int) = ((a ||| v : Nat) : Int) := or_i64n (by omega) (by omega)
      have hob : a ||| v < 32 := Nat.or_lt_two_pow (n := 5) ha (by omega)
      have HN : Hid (a ||| v = orz z (i + 1)) := by show a ||| v = orz z i ||| z i; rw [HI.out.1, hv]
      clear hv
      go_wp2
      go_roundw
      case rel => exact ⟨i + 1, a ||| v, by first | rfl | rw [hor], by go_num, by omega, hob, HN.out, by first | rfl | trivial⟩
      case measure => simp [intOf]; omega
    · have hib : ¬ (i : Int) < (R : Int) := by omega
      have hie : i = R := by omega
      subst hie
      obtain ⟨l, hl⟩ : ∃ l, l = mbl a := ⟨_, rfl⟩
      have HC : Hid (Calls Try.prog 48 #[.int .u64 (a : Nat)] w fun e w' => e = .returned (.int .i64 (l : Nat)) ∧ w' = w) := by rw [hl]; exact blen_any ha w
      have hau : IntKind.u64.wrap (a : Int) = (a : Int) := wrap_u64 (by omega)
      have hl5 : l ≤ 5 := by rw [hl]; exact mbl_le a
      obtain ⟨l1, hl1⟩ : ∃ l1, l1 = l - 1 := ⟨_, rfl⟩
      have hlp : 1 ≤ l := by
        have := HX.out.pos
        rw [← HI.out.1] at this
        rw [hl]; unfold mbl; rw [if_neg (by omega)]
        repeat (first | omega | split)
      have hls : (l : Int) - 1 = (l1 : Int) := by omega
      have hlw : IntKind.i64.wrap (l1 : Int) = (l1 : Int) := wrap_to (by omega) (by omega)
      have HV : Hid (mmr z i = l1) := by show mbl (orz z i) - 1 = l1; rw [← HI.out.1, ← hl, hl1]
      clear hl hl1
      go_wp2_with fail
      refine HC.out.mono ?_
      rintro e w' ⟨rfl, hw⟩
      have hw := hw.symm
      subst hw
      go_wp2
      go_ret
      exact ⟨by rw [HV.out]; rfl, by first | rfl | trivial⟩
set_option maxHeartbeats 2000000 in
theorem onesU_any {s : Nat} (hs : s < 32) (w : World) : Calls Try.prog 49 #[.int .u64 (s : Nat)] w fun e w' => e = .returned (.int .i64 (bcn 5 s : Nat)) ∧ w' = w := by
  have hb : bcn 64 s = bcn 5 s := by
    have := bcn_add 5 59 s
    rw [this, Nat.div_eq_of_lt (show s < 2 ^ 5 by omega)]
    have e : bcn 59 0 = 0 := by decide +kernel
    rw [e, Nat.add_zero]
  have HC : Hid (∀ w : World, Calls Try.prog 55 #[.int .u64 (s : Nat)] w fun e w' => e = .returned (.int .i64 (bcn 5 s : Nat)) ∧ w' = w) := fun w => by rw [← hb]; exact ones64U (by omega) w
  clear hb
  go_enter Try.func49, Try.ntmps49
  go_wp2_with fail
  refine (HC.out w).mono ?_
  rintro e w' ⟨rfl, hw⟩
  have hw := hw.symm
  subst hw
  go_wp2
  go_ret
  exact ⟨rfl, by first | rfl | trivial⟩
set_option maxHeartbeats 2000000 in
theorem tsign_any {r x : Nat} (hr : r ≤ 31) (hx : x < 1073741824) (w : World) : Calls Try.prog 28 #[.int .i64 (r : Nat), .int .i64 (x : Nat)] w fun e w' => e = .returned (.int .i64 (sgb r x : Nat)) ∧ w' = w := by
  obtain ⟨a, ha⟩ : ∃ a, a = r &&& x := ⟨_, rfl⟩
  have hab : a < 32 := by have : r &&& x ≤ r := Nat.and_le_left; omega
  obtain ⟨l, hl⟩ : ∃ l, l = bcn 5 a := ⟨_, rfl⟩
  have hl5 : l ≤ 5 := by rw [hl]; exact bcn_le 5 a
  have hand : bits BinOp.and IntKind.i64 (r : Int) (x : Int) = (a : Int) := by rw [ha]; exact and_i64n (by omega) (by omega)
  have hau : IntKind.u64.wrap (a : Int) = (a : Int) := wrap_u64 (by omega)
  have HC : Hid (∀ w : World, Calls Try.prog 49 #[.int .u64 (a : Nat)] w fun e w' => e = .returned (.int .i64 (l : Nat)) ∧ w' = w) := fun w => by rw [hl]; exact onesU_any hab w
  have hone : bits BinOp.and IntKind.i64 (l : Int) 1 = ((l % 2 : Nat) : Int) := and_one l (by omega)
  have HV : Hid (sgb r x = l % 2) := by show bcn 5 (r &&& x) % 2 = l % 2; rw [hl, ha]
  clear ha hl
  go_enter Try.func28, Try.ntmps28
  go_wp2_with fail
  refine (HC.out w).mono ?_
  rintro e w' ⟨rfl, hw⟩
  have hw := hw.symm
  subst hw
  go_wp2
  go_ret
  exact ⟨by rw [HV.out]; first | rfl | rw [hone], by first | rfl | trivial⟩
end Go.Proofs.Ytlljaliemldjkaa
