/- Weights: sums and looks by closures (the program's times, found, outside; Shows' closures). -/
import Derived.Test.YtnjbnamcedfjaaaZKA4
import Derived.Test.YtnjbnamcedfjaaaZZ2
namespace Go.Proofs.Ytnjbnamcedfjaaa
open Go.RowKit Go.Sort

/-- The sum of the first products. -/
def vsm (f K : Nat → Int) : Nat → Int
  | 0 => 0
  | r + 1 => vsm f K r + f r * K r
theorem vsm_abs {f K : Nat → Int} {N : Nat} (hb : ∀ j, j < N → (f j * K j).natAbs ≤ 72057594037927936) : ∀ r, r ≤ N → (vsm f K r).natAbs ≤ r * 72057594037927936
  | 0, _ => by show (0 : Int).natAbs ≤ _; simp
  | r + 1, h => by
    have h1 := vsm_abs hb r (by omega)
    have h2 := hb r (by omega)
    have h3 := Int.natAbs_add_le (vsm f K r) (f r * K r)
    show (vsm f K r + f r * K r).natAbs ≤ _
    rw [Nat.add_mul, Nat.one_mul]
    omega

set_option maxHeartbeats 2000000 in
set_option maxRecDepth 100000 in
theorem wtimes_any {gf : Nat} {lb : Array Value} (eg : ∀ args w, (callFunc gf args).run Try.prog w = .ok (.enter gf args) w) {ao : Option Addr} {N cap : Nat} {f K : Nat → Int} {w : World}
    (hs : SlZ ao N f w) (hN : N ≤ 100) (hb : ∀ j, j < N → (f j * K j).natAbs ≤ 2305843009213693952) (hv : ∀ j, j ≤ N → (vsm f K j).natAbs ≤ 2305843009213693952) (hp : ∀ j : Nat, j < N → Calls Try.prog gf (#[.int .i64 (j : Nat)] ++ lb) w fun e w' => e = .returned (.int .i64 (K j)) ∧ w' = w) :
    Calls Try.prog 50 #[.slice ao N cap, .func (.func gf) #[] lb] w fun e w' => e = .returned (.int .i64 (vsm f K N)) ∧ w' = w := by
  have HS : Hid (SlZ ao N f w ∧ (∀ j : Nat, j < N → Calls Try.prog gf (#[.int .i64 (j : Nat)] ++ lb) w fun e w' => e = .returned (.int .i64 (K j)) ∧ w' = w) ∧ (∀ j, j < N → (f j * K j).natAbs ≤ 2305843009213693952) ∧ ∀ j, j ≤ N → (vsm f K j).natAbs ≤ 2305843009213693952) := ⟨hs, hp, hb, hv⟩
  clear hs hp hb hv
  go_enter Try.func50, Try.ntmps50
  go_wp2
  go_loopw [5, 10] (fun vs vi wr => ∃ (r : Nat) (s : Int), r ≤ N ∧ vs = .int .i64 s ∧ vi = .int .i64 (r : Nat) ∧ Hid (s = vsm f K r) ∧ wr = w) (fun _ vi _ => N - (intOf vi).toNat)
  case atStart => exact ⟨0, 0, by omega, rfl, rfl, rfl, rfl⟩
  case round =>
    obtain ⟨r, s, hr, rfl, rfl, HV, hw⟩ := hrel
    have hw := hw.symm
    subst hw
    by_cases hlt : r < N
    · obtain ⟨b, off, hao, hcz⟩ := HS.out.1 r hlt
      subst hao
      have hib : (r : Int) < (N : Int) := by omega
      have hcall := HS.out.2.1 r hlt
      obtain ⟨y, hy⟩ : ∃ y, y = f r := ⟨_, rfl⟩
      obtain ⟨kv, hk⟩ : ∃ kv, kv = K r := ⟨_, rfl⟩
      obtain ⟨P, hP⟩ : ∃ P : Int, P = y * kv := ⟨_, rfl⟩
      rw [← hy] at hcz
      rw [← hk] at hcall
      have hPb : P.natAbs ≤ 2305843009213693952 := by rw [hP, hy, hk]; exact HS.out.2.2.1 r hlt
      have hsb : s.natAbs ≤ 2305843009213693952 := by rw [HV.out]; exact HS.out.2.2.2 r (by omega)
      have hsb2 : -2305843009213693952 ≤ s ∧ s ≤ 2305843009213693952 := by omega
      have hPb2 : -2305843009213693952 ≤ P ∧ P ≤ 2305843009213693952 := by omega
      have hw1 : IntKind.i64.wrap (y * kv) = P := by rw [← hP]; exact wrap_ka (by omega) (by omega)
      have HR : Hid (s + P = vsm f K (r + 1)) := by show s + P = vsm f K r + f r * K r; rw [HV.out, hP, hy, hk]
      clear hP hy hk hPb hsb
      go_wp2_with (go_at_fn gf; refine hcall.mono ?_; rintro e w' ⟨rfl, hw⟩; have hw := hw.symm; subst hw)
      go_roundw
      case rel => exact ⟨r + 1, s + P, by omega, by first | rfl | simp [hw1], by go_num, HR.out, by first | rfl | trivial⟩
      case measure => simp [intOf]; omega
    · have hre : r = N := by omega
      subst hre
      go_wp2
      go_ret
      exact ⟨by rw [← HV.out]; rfl, rfl⟩
end Go.Proofs.Ytnjbnamcedfjaaa
