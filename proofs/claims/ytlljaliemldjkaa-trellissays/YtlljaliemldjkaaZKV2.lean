/- Texts of ours, one behind the other: KV2 KV3. -/
import Derived.Test.YtlljaliemldjkaaZKV1
import Derived.Test.YtlljaliemldjkaaZKH9
/- Trellises: how much is remembered, and a sign. -/
namespace Go.Proofs.Ytlljaliemldjkaa
open Go.RowKit Go.Sort

theorem or_i64n {a b : Nat} (ha : a < 1073741824) (hb : b < 1073741824) : bits BinOp.or IntKind.i64 (a : Int) (b : Int) = ((a ||| b : Nat) : Int) := by
  have h1 : (BitVec.ofInt 64 (a : Int)).toNat = a := by
    rw [BitVec.ofInt_natCast, BitVec.toNat_ofNat]; exact Nat.mod_eq_of_lt (by omega)
  have h2 : (BitVec.ofInt 64 (b : Int)).toNat = b := by
    rw [BitVec.ofInt_natCast, BitVec.toNat_ofNat]; exact Nat.mod_eq_of_lt (by omega)
  have h3 : a ||| b < 1073741824 := Nat.or_lt_two_pow (n := 30) ha hb
  show IntKind.i64.wrap ((BitVec.ofInt 64 (a : Int) ||| BitVec.ofInt 64 (b : Int)).toNat : Int) = _
  rw [BitVec.toNat_or, h1, h2]
  exact wrap_to (by omega) (by omega)
set_option maxHeartbeats 8000000 in
set_option maxRecDepth 100000 in
theorem len64_any {x : Nat} (hx : x < 32) (w : World) : Calls Try.prog 53 #[.int .u64 (x : Nat)] w fun e w' => e = .returned (.int .i64 (mbl x : Nat)) ∧ w' = w := by
  have h : x = 0 ∨ x = 1 ∨ x = 2 ∨ x = 3 ∨ x = 4 ∨ x = 5 ∨ x = 6 ∨ x = 7 ∨ x = 8 ∨ x = 9 ∨ x = 10 ∨ x = 11 ∨ x = 12 ∨ x = 13 ∨ x = 14 ∨ x = 15 ∨ x = 16 ∨ x = 17 ∨ x = 18 ∨ x = 19 ∨ x = 20 ∨ x = 21 ∨ x = 22 ∨ x = 23 ∨ x = 24 ∨ x = 25 ∨ x = 26 ∨ x = 27 ∨ x = 28 ∨ x = 29 ∨ x = 30 ∨ x = 31 := by omega
  clear hx
  rcases h with rfl | rfl | rfl | rfl | rfl | rfl | rfl | rfl | rfl | rfl | rfl | rfl | rfl | rfl | rfl | rfl | rfl | rfl | rfl | rfl | rfl | rfl | rfl | rfl | rfl | rfl | rfl | rfl | rfl | rfl | rfl | rfl <;> (
    go_enter Try.func53, Try.ntmps53
    go_wp2
    go_ret
    refine ⟨?_, by first | rfl | trivial⟩
    refine congrArg Ending.returned ?_
    kernel_rfl)
set_option maxHeartbeats 2000000 in
theorem blen_any {x : Nat} (hx : x < 32) (w : World) : Calls Try.prog 48 #[.int .u64 (x : Nat)] w fun e w' => e = .returned (.int .i64 (mbl x : Nat)) ∧ w' = w := by
  have HC : Hid (∀ w : World, Calls Try.prog 53 #[.int .u64 (x : Nat)] w fun e w' => e = .returned (.int .i64 (mbl x : Nat)) ∧ w' = w) := fun w => len64_any hx w
  go_enter Try.func48, Try.ntmps48
  go_wp2_with fail
  refine (HC.out w).mono ?_
  rintro e w' ⟨rfl, hw⟩
  have hw := hw.symm
  subst hw
  go_wp2
  go_ret
  exact ⟨rfl, by first | rfl | trivial⟩
/-- Rules that may be, as numbers. -/
structure RlZ (ao : Option Addr) (R : Nat) (z : Nat → Nat) (w : World) : Prop where
  sl : SlZ ao R (fun i => ((z i : Nat) : Int)) w
  one : 1 ≤ R
  few : R ≤ 3
  lo : ∀ i, i < R → 1 ≤ z i
  hi : ∀ i, i < R → z i ≤ 31
theorem RlZ.orz {ao : Option Addr} {R : Nat} {z : Nat → Nat} {w : World} (h : RlZ ao R z w) (k : Nat) (hk : k ≤ R) : orz z k < 32 := orz_lt k (fun i hi => by have := h.hi i (by omega); omega)
theorem RlZ.pos {ao : Option Addr} {R : Nat} {z : Nat → Nat} {w : World} (h : RlZ ao R z w) : 0 < Go.Proofs.Ytlljaliemldjkaa.orz z R := Nat.lt_of_lt_of_le (h.lo 0 h.one) (orz_le R h.one)
set_option maxHeartbeats 4000000 in
set_option maxRecDepth 100000 in
theorem tmemory_any {ao : Option Addr} {R ca : Nat} {z : Nat → Nat} {w : World} (hX : RlZ ao R z w) :
    Calls Try.prog 27 #[.slice ao R ca] w fun e w' => e = .returned (.int .i64 (mmr z R : Nat)) ∧ w' = w := by
  have HX : Hid (RlZ ao R z w) := hX
  have hR3 := hX.few
  clear hX
  go_enter Try.func27, Try.ntmps27
  go_wp2
  go_loopw [3, 8] (fun va vi wr => ∃ i a : Nat, va = .int .i64 (a : Nat) ∧ vi = .int .i64 (i : Nat) ∧ i ≤ R ∧ a < 32 ∧ Hid (a = orz z i ∧ wr = w)) (fun _ vi _ => R - (intOf vi).toNat)
  case atStart => exact ⟨0, 0, rfl, rfl, by omega, by omega, rfl, rfl⟩
  case round =>
    obtain ⟨i, a, rfl, rfl, hi, ha, HI⟩ := hrel
    have hw := HI.out.2.symm
    subst hw
    by_cases hlt : i < R
    · have hib : (i : Int) < (R : Int) := by omega
      have hib0 : (0 : Int) ≤ (i : Int) := by omega
      obtain ⟨b, off, e1, hcell⟩ := HX.out.sl i hlt
      subst e1
      obtain ⟨v, hv⟩ : ∃ v, v = z i := ⟨_, rfl⟩
      replace hcell : w.cell? ⟨b, off + i, none⟩ = some (.int .i64 (v : Nat)) := by rw [hv]; exact hcell
      have hvb : v ≤ 31 := by rw [hv]; exact HX.out.hi i hlt
      have hor : bits BinOp.or IntKind.i64 (a : Int) (v : Int) = ((a ||| v : Nat) : Int) := or_i64n (by omega) (by omega)
      have hob : a ||| v < 32 := Nat.or_lt_two_pow (n := 5) ha (by omega)
      have HN : Hid (a ||| v = orz z (i + 1)) := by show a ||| v = orz z i ||| z i; rw [HI.out.1, hv]
      clear hv
      go_wp2
      go_roundw
      case rel => exact ⟨i + 1, a ||| v, by first | rfl | rw [hor], by go_num, by omega, hob, HN.out, by first | rfl | trivial⟩
      case measure => simp [intOf]; omega
    · have hib : ¬ (i : Int) < (R : Int) := by omega
      have hie : i = R := by omega
      subst hie
      obtain ⟨l, hl⟩ : ∃ l, l = mbl a := ⟨_, rfl⟩
      have HC : Hid (Calls Try.prog 48 #[.int .u64 (a : Nat)] w fun e w' => e = .returned (.int .i64 (l : Nat)) ∧ w' = w) := by rw [hl]; exact blen_any ha w
      have hau : IntKind.u64.wrap (a : Int) = (a : Int) := wrap_u64 (by omega)
      have hl5 : l ≤ 5 := by rw [hl]; exact mbl_le a
      obtain ⟨l1, hl1⟩ : ∃ l1, l1 = l - 1 := ⟨_, rfl⟩
      have hlp : 1 ≤ l := by
        have := HX.out.pos
        rw [← HI.out.1] at this
        rw [hl]; unfold mbl; rw [if_neg (by omega)]
        repeat (first | omega | split)
      have hls : (l : Int) - 1 = (l1 : Int) := by omega
      have hlw : IntKind.i64.wrap (l1 : Int) = (l1 : Int) := wrap_to (by omega) (by omega)
      have HV : Hid (mmr z i = l1) := by show mbl (orz z i) - 1 = l1; rw [← HI.out.1, ← hl, hl1]
      clear hl hl1
      go_wp2_with fail
      refine HC.out.mono ?_
      rintro e w' ⟨rfl, hw⟩
      have hw := hw.symm
      subst hw
      go_wp2
      go_ret
      exact ⟨by rw [HV.out]; rfl, by first | rfl | trivial⟩
set_option maxHeartbeats 2000000 in
theorem onesU_any {s : Nat} (hs : s < 32) (w : World) : Calls Try.prog 49 #[.int .u64 (s : Nat)] w fun e w' => e = .returned (.int .i64 (bcn 5 s : Nat)) ∧ w' = w := by
  have hb : bcn 64 s = bcn 5 s := by
    have := bcn_add 5 59 s
    rw [this, Nat.div_eq_of_lt (show s < 2 ^ 5 by omega)]
    have e : bcn 59 0 = 0 := by decide +kernel
    rw [e, Nat.add_zero]
  have HC : Hid (∀ w : World, Calls Try.prog 55 #[.int .u64 (s : Nat)] w fun e w' => e = .returned (.int .i64 (bcn 5 s : Nat)) ∧ w' = w) := fun w => by rw [← hb]; exact ones64U (by omega) w
  clear hb
  go_enter Try.func49, Try.ntmps49
  go_wp2_with fail
  refine (HC.out w).mono ?_
  rintro e w' ⟨rfl, hw⟩
  have hw := hw.symm
  subst hw
  go_wp2
  go_ret
  exact ⟨rfl, by first | rfl | trivial⟩
set_option maxHeartbeats 2000000 in
theorem tsign_any {r x : Nat} (hr : r ≤ 31) (hx : x < 1073741824) (w : World) : Calls Try.prog 28 #[.int .i64 (r : Nat), .int .i64 (x : Nat)] w fun e w' => e = .returned (.int .i64 (sgb r x : Nat)) ∧ w' = w := by
  obtain ⟨a, ha⟩ : ∃ a, a = r &&& x := ⟨_, rfl⟩
  have hab : a < 32 := by have : r &&& x ≤ r := Nat.and_le_left; omega
  obtain ⟨l, hl⟩ : ∃ l, l = bcn 5 a := ⟨_, rfl⟩
  have hl5 : l ≤ 5 := by rw [hl]; exact bcn_le 5 a
  have hand : bits BinOp.and IntKind.i64 (r : Int) (x : Int) = (a : Int) := by rw [ha]; exact and_i64n (by omega) (by omega)
  have hau : IntKind.u64.wrap (a : Int) = (a : Int) := wrap_u64 (by omega)
  have HC : Hid (∀ w : World, Calls Try.prog 49 #[.int .u64 (a : Nat)] w fun e w' => e = .returned (.int .i64 (l : Nat)) ∧ w' = w) := fun w => by rw [hl]; exact onesU_any hab w
  have hone : bits BinOp.and IntKind.i64 (l : Int) 1 = ((l % 2 : Nat) : Int) := and_one l (by omega)
  have HV : Hid (sgb r x = l % 2) := by show bcn 5 (r &&& x) % 2 = l % 2; rw [hl, ha]
  clear ha hl
  go_enter Try.func28, Try.ntmps28
  go_wp2_with fail
  refine (HC.out w).mono ?_
  rintro e w' ⟨rfl, hw⟩
  have hw := hw.symm
  subst hw
  go_wp2
  go_ret
  exact ⟨by rw [HV.out]; first | rfl | rw [hone], by first | rfl | trivial⟩
end Go.Proofs.Ytlljaliemldjkaa

/- Trellises: the reference's Memory and Signs. -/
namespace Go.Proofs.Ytlljaliemldjkaa
open Go.RowKit Go.Sort

theorem shr_mod (v j : Nat) : ((v : Int) / 2 ^ j).tmod 2 = ((v / 2 ^ j % 2 : Nat) : Int) := by
  have e : (v : Int) / 2 ^ j = ((v / 2 ^ j : Nat) : Int) := by rw [Int.natCast_ediv, Int.natCast_pow]; rfl
  rw [e]
  generalize v / 2 ^ j = q
  rw [Int.tmod_eq_emod_of_nonneg (by omega)]
  omega
set_option maxHeartbeats 8000000 in
set_option maxRecDepth 100000 in
theorem rmemory_any {ao : Option Addr} {R ca : Nat} {z : Nat → Nat} {w : World} (hX : RlZ ao R z w) :
    Calls Try.prog 25 #[.slice ao R ca] w fun e w' => e = .returned (.int .i64 (mmr z R : Nat)) ∧ w' = w := by
  have HX : Hid (RlZ ao R z w) := hX
  have hR3 := hX.few
  clear hX
  go_enter Try.func25, Try.ntmps25
  go_wp2
  go_loopw [3, 4] (fun vm vi wr => ∃ i m : Nat, vm = .int .i64 (m : Nat) ∧ vi = .int .i64 (i : Nat) ∧ i ≤ R ∧ m < 5 ∧ Hid (m = mmr z i ∧ wr = w)) (fun _ vi _ => R - (intOf vi).toNat)
  case atStart => exact ⟨0, 0, rfl, rfl, by omega, by omega, rfl, rfl⟩
  case round =>
    obtain ⟨i, m, rfl, rfl, hi, hm, HI⟩ := hrel
    have hw := HI.out.2.symm
    subst hw
    by_cases hlt : i < R
    · have hib : (i : Int) < (R : Int) := by omega
      have hib0 : (0 : Int) ≤ (i : Int) := by omega
      obtain ⟨b, off, e1, hcell⟩ := HX.out.sl i hlt
      subst e1
      obtain ⟨v, hv⟩ : ∃ v, v = z i := ⟨_, rfl⟩
      replace hcell : w.cell? ⟨b, off + i, none⟩ = some (.int .i64 (v : Nat)) := by rw [hv]; exact hcell
      have hvb : v ≤ 31 := by rw [hv]; exact HX.out.hi i hlt
      have HV : Hid (v = z i) := hv
      clear hv
      go_wp2
      go_loopw [3, 5] (fun vm vj wr => ∃ j c : Nat, vm = .int .i64 (c : Nat) ∧ vj = .int .i64 (j : Nat) ∧ j ≤ 5 ∧ c < 5 ∧ Hid (c = mst v m j ∧ wr = w)) (fun _ vj _ => 5 - (intOf vj).toNat)
      case atStart => exact ⟨0, m, rfl, rfl, by omega, hm, (mst_zero v m).symm, rfl⟩
      case round =>
        obtain ⟨j, c, rfl, rfl, hj, hc, HJ⟩ := hrel
        have hw := HJ.out.2.symm
        subst hw
        by_cases hjl : j < 5
        · have hjb : (j : Int) < 5 := by omega
          have hjb0 : (0 : Int) ≤ (j : Int) := by omega
          have HN : Hid (mst v m (j + 1) = if v / 2 ^ j % 2 = 1 ∧ c < j then j else c) := by
            show mst v m (j + 1) = _
            rw [mst_next (by omega) hm hjl, ← HJ.out.1]
          by_cases h1 : v / 2 ^ j % 2 = 1
          · have ht : ((v : Int) / 2 ^ j).tmod 2 = 1 := by rw [shr_mod, h1]; rfl
            by_cases h2 : c < j
            · have HN2 : Hid (j = mst v m (j + 1)) := by show j = _; rw [HN.out, if_pos ⟨h1, h2⟩]
              have h2i : (c : Int) < (j : Int) := by omega
              clear h1 HN
              go_wp2
              go_roundw
              case rel => exact ⟨j + 1, j, rfl, by go_num, by omega, by omega, HN2.out, by first | rfl | trivial⟩
              case measure => simp [intOf]; omega
            · have HN2 : Hid (c = mst v m (j + 1)) := by show c = _; rw [HN.out, if_neg (fun q => h2 q.2)]
              have h2i : ¬ (c : Int) < (j : Int) := by omega
              clear h1 HN
              go_wp2
              go_roundw
              case rel => exact ⟨j + 1, c, rfl, by go_num, by omega, by omega, HN2.out, by first | rfl | trivial⟩
              case measure => simp [intOf]; omega
          · have ht : ¬ ((v : Int) / 2 ^ j).tmod 2 = 1 := by rw [shr_mod]; omega
            have HN2 : Hid (c = mst v m (j + 1)) := by show c = _; rw [HN.out, if_neg (fun q => h1 q.1)]
            clear h1 HN
            go_wp2
            go_roundw
            case rel => exact ⟨j + 1, c, rfl, by go_num, by omega, by omega, HN2.out, by first | rfl | trivial⟩
            case measure => simp [intOf]; omega
        · have hjb : ¬ (j : Int) < 5 := by omega
          have hje : j = 5 := by omega
          have HN : Hid (c = mmr z (i + 1)) := by
            have hz := HX.out.hi i hlt
            show c = mbl (orz z i ||| z i) - 1
            rw [HJ.out.1, hje, mst_five (by omega), HI.out.1, mbl_or (HX.out.orz i (by omega)) (by omega), ← HV.out]; rfl
          clear hje
          go_wp2
          go_roundw
          case rel => exact ⟨i + 1, c, rfl, by go_num, by omega, by omega, HN.out, by first | rfl | trivial⟩
          case measure => simp [intOf]; omega
    · have hib : ¬ (i : Int) < (R : Int) := by omega
      have hie : i = R := by omega
      subst hie
      go_wp2
      go_ret
      exact ⟨by rw [← HI.out.1]; rfl, rfl⟩
end Go.Proofs.Ytlljaliemldjkaa
