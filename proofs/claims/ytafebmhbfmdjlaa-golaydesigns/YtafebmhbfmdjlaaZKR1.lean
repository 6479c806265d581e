/- Golay: places as the bits of a number, of both sides. -/
import Derived.Test.YtafebmhbfmdjlaaZU9
namespace Go.Proofs.Ytafebmhbfmdjlaa
open Go.RowKit

/-- Places as bits. -/
def sbt (z : Nat → Int) : Nat → Nat
  | 0 => 0
  | k + 1 => sbt z k ||| 2 ^ (z k).toNat
theorem sbt_lt {z : Nat → Int} : ∀ k, (∀ i, i < k → (z i).toNat < 64) → sbt z k < 2 ^ 64
  | 0, _ => by show 0 < _; omega
  | k + 1, h => Nat.or_lt_two_pow (sbt_lt k (fun i hi => h i (by omega))) (Nat.pow_lt_pow_right (by omega) (h k (by omega)))

theorem wrap_u64 {a : Nat} (h : a < 18446744073709551616) : IntKind.u64.wrap (a : Int) = (a : Int) := by
  show ((a : Int) % 18446744073709551616) = _
  omega
theorem ofi64 {a : Nat} (h : a < 18446744073709551616) : (BitVec.ofInt 64 (a : Int)).toNat = a := by
  rw [BitVec.ofInt_natCast, BitVec.toNat_ofNat]; exact Nat.mod_eq_of_lt (by omega)
theorem or_u64 {a b : Nat} (ha : a < 18446744073709551616) (hb : b < 18446744073709551616) : bits BinOp.or IntKind.u64 (a : Int) (b : Int) = ((a ||| b : Nat) : Int) := by
  show IntKind.u64.wrap ((BitVec.ofInt 64 (a : Int) ||| BitVec.ofInt 64 (b : Int)).toNat : Int) = _
  rw [BitVec.toNat_or, ofi64 ha, ofi64 hb]
  exact wrap_u64 (Nat.or_lt_two_pow (n := 64) ha hb)
theorem and_u64 {a b : Nat} (ha : a < 18446744073709551616) (hb : b < 18446744073709551616) : bits BinOp.and IntKind.u64 (a : Int) (b : Int) = ((a &&& b : Nat) : Int) := by
  show IntKind.u64.wrap ((BitVec.ofInt 64 (a : Int) &&& BitVec.ofInt 64 (b : Int)).toNat : Int) = _
  rw [BitVec.toNat_and, ofi64 ha, ofi64 hb]
  exact wrap_u64 (Nat.lt_of_le_of_lt Nat.and_le_left ha)

set_option maxHeartbeats 4000000 in
set_option maxRecDepth 100000 in
theorem gof_any {ao : Option Addr} {n ca : Nat} {z : Nat → Int} {w : World} (hX : SlZ ao n z w) (hn : n ≤ 6000) (hz : ∀ i, i < n → 0 ≤ z i ∧ z i < 64) :
    Calls Try.prog 10 #[.slice ao n ca] w fun e w' => e = .returned (.int .u64 (sbt z n : Nat)) ∧ w' = w := by
  have HX : Hid (SlZ ao n z w ∧ ∀ i, i < n → 0 ≤ z i ∧ z i < 64) := ⟨hX, hz⟩
  clear hX hz
  go_enter Try.func10, Try.ntmps10
  go_wp2
  go_loopw [3, 8] (fun vs vi wr => ∃ i s : Nat, vs = .int .u64 (s : Nat) ∧ vi = .int .i64 (i : Nat) ∧ i ≤ n ∧ Hid (s = sbt z i ∧ wr = w)) (fun _ vi _ => n - (intOf vi).toNat)
  case atStart => exact ⟨0, 0, rfl, rfl, by omega, rfl, rfl⟩
  case round =>
    obtain ⟨i, s, rfl, rfl, hi, HS⟩ := hrel
    have hw := HS.out.2.symm
    subst hw
    have hs : s < 18446744073709551616 := by rw [HS.out.1]; exact sbt_lt i (fun j hj => by have := HX.out.2 j (by omega); omega)
    by_cases hlt : i < n
    · have hib : (i : Int) < (n : Int) := by omega
      obtain ⟨b, off, e1, hcell⟩ := HX.out.1 i hlt
      subst e1
      obtain ⟨v, hv⟩ : ∃ v : Nat, v = (z i).toNat := ⟨_, rfl⟩
      have hzv : z i = (v : Int) := by have := (HX.out.2 i hlt).1; omega
      have hv64 : v < 64 := by have := (HX.out.2 i hlt).2; omega
      obtain ⟨P, hP⟩ : ∃ P, P = 2 ^ v := ⟨_, rfl⟩
      have hPb : P < 18446744073709551616 := by rw [hP]; exact Nat.lt_of_lt_of_le (Nat.pow_lt_pow_right (by decide) hv64) (by decide)
      have hsh : (2 : Int) ^ v = (P : Int) := by rw [hP]; simp
      have hPw : IntKind.u64.wrap (P : Int) = (P : Int) := wrap_u64 hPb
      have hor : bits BinOp.or IntKind.u64 (s : Int) (P : Int) = ((s ||| P : Nat) : Int) := or_u64 hs hPb
      have HN : Hid (s ||| P = sbt z (i + 1) ∧ w = w) := ⟨by show _ = sbt z i ||| 2 ^ (z i).toNat; rw [HS.out.1, hP, hv], rfl⟩
      rw [hzv] at hcell
      clear hP hv hzv HS
      go_wp2
      go_roundw
      case rel => exact ⟨i + 1, s ||| P, by first | rfl | rw [hor], by go_num, by omega, HN.out.1, by first | rfl | trivial⟩
      case measure => simp [intOf]; omega
    · have hib : ¬ (i : Int) < (n : Int) := by omega
      have hie : i = n := by omega
      subst hie
      go_wp2
      go_ret
      exact ⟨by rw [← HS.out.1]; rfl, rfl⟩
set_option maxHeartbeats 4000000 in
set_option maxRecDepth 100000 in
theorem rbits_any {ao : Option Addr} {n ca : Nat} {z : Nat → Int} {w : World} (hX : SlZ ao n z w) (hn : n ≤ 6000) (hz : ∀ i, i < n → 0 ≤ z i ∧ z i < 64) :
    Calls Try.prog 13 #[.slice ao n ca] w fun e w' => e = .returned (.int .u64 (sbt z n : Nat)) ∧ w' = w := by
  have HX : Hid (SlZ ao n z w ∧ ∀ i, i < n → 0 ≤ z i ∧ z i < 64) := ⟨hX, hz⟩
  clear hX hz
  go_enter Try.func13, Try.ntmps13
  go_wp2
  go_loopw [3, 4] (fun vs vi wr => ∃ i s : Nat, vs = .int .u64 (s : Nat) ∧ vi = .int .i64 (i : Nat) ∧ i ≤ n ∧ Hid (s = sbt z i ∧ wr = w)) (fun _ vi _ => n - (intOf vi).toNat)
  case atStart => exact ⟨0, 0, rfl, rfl, by omega, rfl, rfl⟩
  case round =>
    obtain ⟨i, s, rfl, rfl, hi, HS⟩ := hrel
    have hw := HS.out.2.symm
    subst hw
    have hs : s < 18446744073709551616 := by rw [HS.out.1]; exact sbt_lt i (fun j hj => by have := HX.out.2 j (by omega); omega)
    by_cases hlt : i < n
    · have hib : (i : Int) < (n : Int) := by omega
      obtain ⟨b, off, e1, hcell⟩ := HX.out.1 i hlt
      subst e1
      obtain ⟨v, hv⟩ : ∃ v : Nat, v = (z i).toNat := ⟨_, rfl⟩
      have hzv : z i = (v : Int) := by have := (HX.out.2 i hlt).1; omega
      have hv64 : v < 64 := by have := (HX.out.2 i hlt).2; omega
      obtain ⟨P, hP⟩ : ∃ P, P = 2 ^ v := ⟨_, rfl⟩
      have hPb : P < 18446744073709551616 := by rw [hP]; exact Nat.lt_of_lt_of_le (Nat.pow_lt_pow_right (by decide) hv64) (by decide)
      have hsh : (2 : Int) ^ v = (P : Int) := by rw [hP]; simp
      have hPw : IntKind.u64.wrap (P : Int) = (P : Int) := wrap_u64 hPb
      have hor : bits BinOp.or IntKind.u64 (s : Int) (P : Int) = ((s ||| P : Nat) : Int) := or_u64 hs hPb
      have HN : Hid (s ||| P = sbt z (i + 1) ∧ w = w) := ⟨by show _ = sbt z i ||| 2 ^ (z i).toNat; rw [HS.out.1, hP, hv], rfl⟩
      rw [hzv] at hcell
      clear hP hv hzv HS
      go_wp2
      go_roundw
      case rel => exact ⟨i + 1, s ||| P, by first | rfl | rw [hor], by go_num, by omega, HN.out.1, by first | rfl | trivial⟩
      case measure => simp [intOf]; omega
    · have hib : ¬ (i : Int) < (n : Int) := by omega
      have hie : i = n := by omega
      subst hie
      go_wp2
      go_ret
      exact ⟨by rw [← HS.out.1]; rfl, rfl⟩
end Go.Proofs.Ytafebmhbfmdjlaa
