/- Weights: what is said of a size and a length, on both sides (Check, CountMay). -/
import Derived.Test.YtnjbnamcedfjaaaZKA3
import Derived.Test.YtnjbnamcedfjaaaZR9
namespace Go.Proofs.Ytnjbnamcedfjaaa
open Go.RowKit

/-- What Power of the reference tells. -/
def PwR (b : Nat) (t : Int) (w : World) (e : Ending) (w' : World) : Prop := ∃ v : Int, e = .returned (.int .i64 v) ∧ w' = w ∧ ((b ^ t.toNat ≤ 1073741824 ∧ v = (b ^ t.toNat : Nat)) ∨ (1073741824 < b ^ t.toNat ∧ v = -1))
set_option maxHeartbeats 2000000 in
theorem rpower_any (b : Nat) (t : Int) (hb : 2 ≤ b) (hb2 : b ≤ 64) (ht : 0 ≤ t) (ht2 : t ≤ 9223372036854775807) (w : World) :
    Calls Try.prog 34 #[.int .i64 (b : Nat), .int .i64 t] w (PwR b t w) := by
  go_enter Try.func34, Try.ntmps34
  go_wp2
  go_loopw [5, 6] (fun vo vi wr => ∃ i o : Nat, vo = .int .i64 (o : Nat) ∧ vi = .int .i64 (i : Nat) ∧ (i : Int) ≤ t ∧ i ≤ 30 ∧ o ≤ 1073741824 ∧ Hid (o = b ^ i) ∧ wr = w) (fun _ vi _ => 31 - (intOf vi).toNat)
  case atStart => exact ⟨0, 1, rfl, rfl, by omega, by omega, by omega, by show 1 = b ^ 0; simp, rfl⟩
  case round =>
    obtain ⟨i, o, rfl, rfl, hi, hi2, ho, HO, hw⟩ := hrel
    have hw := hw.symm
    subst hw
    by_cases hlt : (i : Int) < t
    · obtain ⟨y, hy⟩ : ∃ y, y = o * b := ⟨_, rfl⟩
      have hy2 : y ≤ 1073741824 * 64 := by rw [hy]; exact Nat.mul_le_mul ho hb2
      have hwr : IntKind.i64.wrap ((o : Int) * (b : Int)) = (y : Int) := by
        have he : (o : Int) * (b : Int) = (y : Int) := by rw [hy]; simp
        rw [he]; exact wrap_ka (by omega) (by omega)
      have HY : Hid (y = b ^ (i + 1)) := by show y = _; rw [hy, HO.out, Nat.pow_succ]
      clear hy
      by_cases hf : y ≤ 1073741824
      · have hfb : ¬ (y : Int) > 1073741824 := by omega
        have hfb2 : ¬ (1073741824 : Int) < (y : Int) := by omega
        have hi30 : i + 1 ≤ 30 := pow30 hb (by rw [← HY.out]; exact hf)
        go_wp2
        go_roundw
        case rel => exact ⟨i + 1, y, by first | rfl | simp [hwr], by go_num, by omega, hi30, hf, HY.out, by first | rfl | trivial⟩
        case measure => simp [intOf]; omega
      · have hfb : (y : Int) > 1073741824 := by omega
        have hfb2 : (1073741824 : Int) < (y : Int) := by omega
        have HE : Hid (1073741824 < b ^ t.toNat) := by
          show 1073741824 < b ^ t.toNat
          have : b ^ (i + 1) ≤ b ^ t.toNat := Nat.pow_le_pow_right (by omega) (by omega)
          rw [← HY.out] at this
          omega
        go_wp2
        go_ret
        exact ⟨-1, rfl, rfl, Or.inr ⟨HE.out, rfl⟩⟩
    · have hti : t = (i : Int) := by omega
      subst hti
      have HE : Hid (b ^ (i : Int).toNat ≤ 1073741824 ∧ ((o : Nat) : Int) = (b ^ (i : Int).toNat : Nat)) := by
        show _ ∧ _
        rw [Int.toNat_natCast, ← HO.out]
        exact ⟨ho, rfl⟩
      go_wp2
      go_ret
      exact ⟨_, rfl, rfl, Or.inl HE.out⟩
/-- What is said of a length over a field. -/
def FD.wck (D : FD) (n : Int) : Int := if n < 1 then 4 else if D.q ^ n.toNat ≤ 1073741824 then 0 else 4
theorem wck_ok {D : FD} (F : Fld D) {n : Int} (h : D.wck n = 0) : ∃ m : Nat, n = (m : Int) ∧ 1 ≤ m ∧ m ≤ 30 ∧ D.q ^ m ≤ 1073741824 := by
  unfold FD.wck at h
  by_cases h1 : n < 1
  · rw [if_pos h1] at h; cases h
  · rw [if_neg h1] at h
    by_cases h2 : D.q ^ n.toNat ≤ 1073741824
    · exact ⟨n.toNat, by omega, by omega, pow30 F.q2 h2, h2⟩
    · rw [if_neg h2] at h; cases h

set_option maxHeartbeats 2000000 in
set_option maxRecDepth 100000 in
theorem wcheck_any {D : FD} (hD : D ∈ fieldsL) (n : Int) (hn : n ≤ 9223372036854775807) (w : World) :
    Calls Try.prog 11 #[.int .i64 D.q, .int .i64 n] w fun e w' => e = .returned (.int .i64 (D.wck n)) ∧ Below w.heap.size w w' := by
  have HD : Hid (D ∈ fieldsL) := hD
  have h2 := (fld hD).q2
  have h64 := (fld hD).q64
  clear hD
  go_enter Try.func11, Try.ntmps11
  go_wp2_with fail
  refine (new_any HD.out w).mono ?_
  rintro e w1 ⟨F, T, g, rfl, _, _, _, hb1⟩
  have H1 : Hid (Below w.heap.size w w1) := hb1
  clear hb1
  by_cases h1 : n < 1
  · have HE : Hid (D.wck n = 4) := by show D.wck n = 4; unfold FD.wck; rw [if_pos h1]
    go_wp2
    go_ret
    exact ⟨by rw [HE.out]; rfl, H1.out⟩
  · have HP : Hid (Calls Try.prog 37 #[.int .i64 (D.q : Nat), .int .i64 n] w1 (PwB D.q n w1)) := wpow_any D.q n h2 h64 (by omega) hn w1
    go_wp2_with fail
    refine HP.out.mono ?_
    rintro e w' ⟨v, rfl, hw, hv, hv2⟩
    have hw := hw.symm
    subst hw
    rcases hv with ⟨hp, hv⟩ | ⟨hp, hv⟩
    · have hvb : ¬ (1073741824 : Int) < (v : Int) := by omega
      have hvb2 : ¬ (v : Int) > 1073741824 := by omega
      have HE : Hid (D.wck n = 0) := by show D.wck n = 0; unfold FD.wck; rw [if_neg (by omega), if_pos hp]
      clear hp hv
      go_wp2
      go_ret
      exact ⟨by rw [HE.out]; rfl, H1.out⟩
    · have hvb : (1073741824 : Int) < (v : Int) := by omega
      have hvb2 : (v : Int) > 1073741824 := by omega
      have HE : Hid (D.wck n = 4) := by show D.wck n = 4; unfold FD.wck; rw [if_neg (by omega), if_neg (by omega)]
      clear hp hv
      go_wp2
      go_ret
      exact ⟨by rw [HE.out]; rfl, H1.out⟩
set_option maxHeartbeats 1000000 in
theorem wcheck_none (q : Int) (h : ∀ D ∈ fieldsL, (D.q : Int) ≠ q) (n : Int) (w : World) :
    Calls Try.prog 11 #[.int .i64 q, .int .i64 n] w fun e w' => e = .returned (.int .i64 1) ∧ Below w.heap.size w w' := by
  have HN : Hid (∀ D ∈ fieldsL, (D.q : Int) ≠ q) := h
  clear h
  go_enter Try.func11, Try.ntmps11
  go_wp2_with fail
  refine (new_none q w HN.out).mono ?_
  rintro e w' ⟨rfl, hw⟩
  have hw := hw.symm
  subst hw
  go_wp2
  go_ret
  exact ⟨rfl, Below.refl _ _⟩
end Go.Proofs.Ytnjbnamcedfjaaa
