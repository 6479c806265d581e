/- Texts of ours, one behind the other: KA4 KA5 KA6. -/
import Derived.Test.YtnjbnamcedfjaaaZKA3
import Derived.Test.YtnjbnamcedfjaaaZR9
import Derived.Test.YtnjbnamcedfjaaaZX9
/- Weights: what is said of a size and a length, on both sides (Check, CountMay). -/
namespace Go.Proofs.Ytnjbnamcedfjaaa
open Go.RowKit

/-- What Power of the reference tells. -/
def PwR (b : Nat) (t : Int) (w : World) (e : Ending) (w' : World) : Prop := ∃ v : Int, e = .returned (.int .i64 v) ∧ w' = w ∧ ((b ^ t.toNat ≤ 1073741824 ∧ v = (b ^ t.toNat : Nat)) ∨ (1073741824 < b ^ t.toNat ∧ v = -1))
set_option maxHeartbeats 2000000 in
theorem rpower_any (b : Nat) (t : Int) (hb : 2 ≤ b) (hb2 : b ≤ 64) (ht : 0 ≤ t) (ht2 : t ≤ 9223372036854775807) (w : World) :
    Calls Try.prog 34 #[.int .i64 (b : Nat), .int .i64 t] w (PwR b t w) := by
  go_enter Try.func34, Try.ntmps34
  go_wp2
  go_loopw [5, 6] (fun vo vi wr => ∃ i o : Nat, vo = .int .i64 (o : Nat) ∧ vi = .int .i64 (i : Nat) ∧ (i : Int) ≤ t ∧ i ≤ 30 ∧ o ≤ 1073741824 ∧ Hid (o = b ^ i) ∧ wr = w) (fun _ vi _ => 31 - (intOf vi).toNat)
  case atStart => exact ⟨0, 1, rfl, rfl, by omega, by omega, by omega, by show 1 = b ^ 0; simp, rfl⟩
  case round =>
    obtain ⟨i, o, rfl, rfl, hi, hi2, ho, HO, hw⟩ := hrel
    have hw := hw.symm
    subst hw
    by_cases hlt : (i : Int) < t
    · obtain ⟨y, hy⟩ : ∃ y, y = o * b := ⟨_, rfl⟩
      have hy2 : y ≤ 1073741824 * 64 := by rw [hy]; exact Nat.mul_le_mul ho hb2
      have hwr : IntKind.i64.wrap ((o : Int) * (b : Int)) = (y : Int) := by
        have he : (o : Int) * (b : Int) = (y : Int) := by rw [hy]; simp
        rw [he]; exact wrap_ka (by omega) (by omega)
      have HY : Hid (y = b ^ (i + 1)) := by show y = _; rw [hy, HO.out, Nat.pow_succ]
      clear hy
      by_cases hf : y ≤ 1073741824
      · have hfb : ¬ (y : Int) > 1073741824 := by omega
        have hfb2 : ¬ (1073741824 : Int) < (y : Int) := by omega
        have hi30 : i + 1 ≤ 30 := pow30 hb (by rw [← HY.out]; exact hf)
        go_wp2
        go_roundw
        case rel => exact ⟨i + 1, y, by first | rfl | simp [hwr], by go_num, by omega, hi30, hf, HY.out, by first | rfl | trivial⟩
        case measure => simp [intOf]; omega
      · have hfb : (y : Int) > 1073741824 := by omega
        have hfb2 : (1073741824 : Int) < (y : Int) := by omega
        have HE : Hid (1073741824 < b ^ t.toNat) := by
          show 1073741824 < b ^ t.toNat
          have : b ^ (i + 1) ≤ b ^ t.toNat := Nat.pow_le_pow_right (by omega) (by omega)
          rw [← HY.out] at this
          omega
        go_wp2
        go_ret
        exact ⟨-1, rfl, rfl, Or.inr ⟨HE.out, rfl⟩⟩
    · have hti : t = (i : Int) := by omega
      subst hti
      have HE : Hid (b ^ (i : Int).toNat ≤ 1073741824 ∧ ((o : Nat) : Int) = (b ^ (i : Int).toNat : Nat)) := by
        show _ ∧ _
        rw [Int.toNat_natCast, ← HO.out]
        exact ⟨ho, rfl⟩
      go_wp2
      go_ret
      exact ⟨_, rfl, rfl, Or.inl HE.out⟩
/-- What is said of a length over a field. -/
def FD.wck (D : FD) (n : Int) : Int := if n < 1 then 4 else if D.q ^ n.toNat ≤ 1073741824 then 0 else 4
theorem wck_ok {D : FD} (F : Fld D) {n : Int} (h : D.wck n = 0) : ∃ m : Nat, n = (m : Int) ∧ 1 ≤ m ∧ m ≤ 30 ∧ D.q ^ m ≤ 1073741824 := by
  unfold FD.wck at h
  by_cases h1 : n < 1
  · rw [if_pos h1] at h; cases h
  · rw [if_neg h1] at h
    by_cases h2 : D.q ^ n.toNat ≤ 1073741824
    · exact ⟨n.toNat, by omega, by omega, pow30 F.q2 h2, h2⟩
    · rw [if_neg h2] at h; cases h

set_option maxHeartbeats 2000000 in
set_option maxRecDepth 100000 in
theorem wcheck_any {D : FD} (hD : D ∈ fieldsL) (n : Int) (hn : n ≤ 9223372036854775807) (w : World) :
    Calls Try.prog 11 #[.int .i64 D.q, .int .i64 n] w fun e w' => e = .returned (.int .i64 (D.wck n)) ∧ Below w.heap.size w w' := by
  have HD : Hid (D ∈ fieldsL) := hD
  have h2 := (fld hD).q2
  have h64 := (fld hD).q64
  clear hD
  go_enter Try.func11, Try.ntmps11
  go_wp2_with fail
  refine (new_any HD.out w).mono ?_
  rintro e w1 ⟨F, T, g, rfl, _, _, _, hb1⟩
  have H1 : Hid (Below w.heap.size w w1) := hb1
  clear hb1
  by_cases h1 : n < 1
  · have HE : Hid (D.wck n = 4) := by show D.wck n = 4; unfold FD.wck; rw [if_pos h1]
    go_wp2
    go_ret
    exact ⟨by rw [HE.out]; rfl, H1.out⟩
  · have HP : Hid (Calls Try.prog 37 #[.int .i64 (D.q : Nat), .int .i64 n] w1 (PwB D.q n w1)) := wpow_any D.q n h2 h64 (by omega) hn w1
    go_wp2_with fail
    refine HP.out.mono ?_
    rintro e w' ⟨v, rfl, hw, hv, hv2⟩
    have hw := hw.symm
    subst hw
    rcases hv with ⟨hp, hv⟩ | ⟨hp, hv⟩
    · have hvb : ¬ (1073741824 : Int) < (v : Int) := by omega
      have hvb2 : ¬ (v : Int) > 1073741824 := by omega
      have HE : Hid (D.wck n = 0) := by show D.wck n = 0; unfold FD.wck; rw [if_neg (by omega), if_pos hp]
      clear hp hv
      go_wp2
      go_ret
      exact ⟨by rw [HE.out]; rfl, H1.out⟩
    · have hvb : (1073741824 : Int) < (v : Int) := by omega
      have hvb2 : (v : Int) > 1073741824 := by omega
      have HE : Hid (D.wck n = 4) := by show D.wck n = 4; unfold FD.wck; rw [if_neg (by omega), if_neg (by omega)]
      clear hp hv
      go_wp2
      go_ret
      exact ⟨by rw [HE.out]; rfl, H1.out⟩
set_option maxHeartbeats 1000000 in
theorem wcheck_none (q : Int) (h : ∀ D ∈ fieldsL, (D.q : Int) ≠ q) (n : Int) (w : World) :
    Calls Try.prog 11 #[.int .i64 q, .int .i64 n] w fun e w' => e = .returned (.int .i64 1) ∧ Below w.heap.size w w' := by
  have HN : Hid (∀ D ∈ fieldsL, (D.q : Int) ≠ q) := h
  clear h
  go_enter Try.func11, Try.ntmps11
  go_wp2_with fail
  refine (new_none q w HN.out).mono ?_
  rintro e w' ⟨rfl, hw⟩
  have hw := hw.symm
  subst hw
  go_wp2
  go_ret
  exact ⟨rfl, Below.refl _ _⟩
end Go.Proofs.Ytnjbnamcedfjaaa

/- Weights: sums and looks by closures (the program's times, found, outside; Shows' closures). -/
namespace Go.Proofs.Ytnjbnamcedfjaaa
open Go.RowKit Go.Sort

/-- The sum of the first products. -/
def vsm (f K : Nat → Int) : Nat → Int
  | 0 => 0
  | r + 1 => vsm f K r + f r * K r
set_option maxHeartbeats 2000000 in
set_option maxRecDepth 100000 in
theorem wtimes_any {gf : Nat} {lb : Array Value} (eg : ∀ args w, (callFunc gf args).run Try.prog w = .ok (.enter gf args) w) {ao : Option Addr} {N cap : Nat} {f K : Nat → Int} {w : World}
    (hs : SlZ ao N f w) (hN : N ≤ 100) (hb : ∀ j, j < N → (f j * K j).natAbs ≤ 2305843009213693952) (hv : ∀ j, j ≤ N → (vsm f K j).natAbs ≤ 2305843009213693952) (hp : ∀ j : Nat, j < N → Calls Try.prog gf (#[.int .i64 (j : Nat)] ++ lb) w fun e w' => e = .returned (.int .i64 (K j)) ∧ w' = w) :
    Calls Try.prog 50 #[.slice ao N cap, .func (.func gf) #[] lb] w fun e w' => e = .returned (.int .i64 (vsm f K N)) ∧ w' = w := by
  have HS : Hid (SlZ ao N f w ∧ (∀ j : Nat, j < N → Calls Try.prog gf (#[.int .i64 (j : Nat)] ++ lb) w fun e w' => e = .returned (.int .i64 (K j)) ∧ w' = w) ∧ (∀ j, j < N → (f j * K j).natAbs ≤ 2305843009213693952) ∧ ∀ j, j ≤ N → (vsm f K j).natAbs ≤ 2305843009213693952) := ⟨hs, hp, hb, hv⟩
  clear hs hp hb hv
  go_enter Try.func50, Try.ntmps50
  go_wp2
  go_loopw [5, 10] (fun vs vi wr => ∃ (r : Nat) (s : Int), r ≤ N ∧ vs = .int .i64 s ∧ vi = .int .i64 (r : Nat) ∧ Hid (s = vsm f K r) ∧ wr = w) (fun _ vi _ => N - (intOf vi).toNat)
  case atStart => exact ⟨0, 0, by omega, rfl, rfl, rfl, rfl⟩
  case round =>
    obtain ⟨r, s, hr, rfl, rfl, HV, hw⟩ := hrel
    have hw := hw.symm
    subst hw
    by_cases hlt : r < N
    · obtain ⟨b, off, hao, hcz⟩ := HS.out.1 r hlt
      subst hao
      have hib : (r : Int) < (N : Int) := by omega
      have hcall := HS.out.2.1 r hlt
      obtain ⟨y, hy⟩ : ∃ y, y = f r := ⟨_, rfl⟩
      obtain ⟨kv, hk⟩ : ∃ kv, kv = K r := ⟨_, rfl⟩
      obtain ⟨P, hP⟩ : ∃ P : Int, P = y * kv := ⟨_, rfl⟩
      rw [← hy] at hcz
      rw [← hk] at hcall
      have hPb : P.natAbs ≤ 2305843009213693952 := by rw [hP, hy, hk]; exact HS.out.2.2.1 r hlt
      have hsb : s.natAbs ≤ 2305843009213693952 := by rw [HV.out]; exact HS.out.2.2.2 r (by omega)
      have hsb2 : -2305843009213693952 ≤ s ∧ s ≤ 2305843009213693952 := by omega
      have hPb2 : -2305843009213693952 ≤ P ∧ P ≤ 2305843009213693952 := by omega
      have hw1 : IntKind.i64.wrap (y * kv) = P := by rw [← hP]; exact wrap_ka (by omega) (by omega)
      have HR : Hid (s + P = vsm f K (r + 1)) := by show s + P = vsm f K r + f r * K r; rw [HV.out, hP, hy, hk]
      clear hP hy hk hPb hsb
      go_wp2_with (go_at_fn gf; refine hcall.mono ?_; rintro e w' ⟨rfl, hw⟩; have hw := hw.symm; subst hw)
      go_roundw
      case rel => exact ⟨r + 1, s + P, by omega, by first | rfl | simp [hw1], by go_num, HR.out, by first | rfl | trivial⟩
      case measure => simp [intOf]; omega
    · have hre : r = N := by omega
      subst hre
      go_wp2
      go_ret
      exact ⟨by rw [← HV.out]; rfl, rfl⟩
end Go.Proofs.Ytnjbnamcedfjaaa

/- Weights: what Shows asks of its closures (outside, found, Shows$1, Shows$1$1, Shows$2, checkDistance). -/
namespace Go.Proofs.Ytnjbnamcedfjaaa
open Go.RowKit Go.Sort

def kv (q n k x : Nat) : Int := kc (kwc ((q : Int) - 1) x) n k
theorem kv_abs {q : Nat} (hq : 2 ≤ q) (n k x : Nat) : (kv q n k x).natAbs ≤ q ^ n := by
  refine kc_abs (by omega) (fun i => ?_) n k
  unfold kwc
  by_cases h : i < x
  · rw [if_pos h]; show 1 ≤ q - 1; omega
  · rw [if_neg h]; omega
theorem krawv_any (q n k x : Nat) (hq : 2 ≤ q) (hq2 : q ≤ 64) (hp : q ^ n ≤ 1073741824) (hk : k ≤ n) (hx : x ≤ n) (w : World) :
    Calls Try.prog 35 #[.int .i64 (q : Nat), .int .i64 (n : Nat), .int .i64 (k : Nat), .int .i64 (x : Nat)] w fun e w' => e = .returned (.int .i64 (kv q n k x)) ∧ w' = w := by
  have h := kraw_any q n k x hq hq2 hp hk hx w
  rw [krw_is q n k x hx] at h
  exact h
theorem enters_o1 : ∀ args w, (callFunc 84 args).run Try.prog w = .ok (.enter 84 args) w :=
  enters_of Try.func84 (by kernel_rfl) rfl

end Go.Proofs.Ytnjbnamcedfjaaa
