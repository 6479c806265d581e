/- Rings: how many values (the reference's RingMay), and the program's Ring. -/
import Derived.Test.YthkjaiihlphgfaaZKH6
namespace Go.Proofs.Ythkjaiihlphgfaa
open Go.RowKit Go.Sort

/-- What is said of a ring's numbers. -/
def rchk (q n : Int) : Int := if q < 2 ∨ 10 < q ∨ n < 1 then 6 else if 1024 < q.toNat ^ n.toNat then 4 else 0
theorem pow_le_pow' {q a b : Nat} (hq : 1 ≤ q) (h : a ≤ b) : q ^ a ≤ q ^ b := Nat.pow_le_pow_right hq h

set_option maxHeartbeats 4000000 in
set_option maxRecDepth 100000 in
theorem ringMay_any (q n : Int) (w : World) :
    Calls Try.prog 46 #[.int .i64 q, .int .i64 n] w fun e w' => e = .returned (.tuple #[.int .i64 ((if rchk q n = 0 then q.toNat ^ n.toNat else 0 : Nat) : Int), .int .i64 (rchk q n)]) ∧ w' = w := by
  obtain ⟨E, hE⟩ : ∃ E, E = rchk q n := ⟨_, rfl⟩
  obtain ⟨A, hA⟩ : ∃ A : Nat, A = if E = 0 then q.toNat ^ n.toNat else 0 := ⟨_, rfl⟩
  rw [← hE, ← hA]
  by_cases h6 : q < 2 ∨ 10 < q ∨ n < 1
  · have hE6 : E = 6 := by rw [hE]; unfold rchk; rw [if_pos h6]
    have HV : Hid (E = 6 ∧ A = 0) := ⟨hE6, by rw [hA, hE6]; rfl⟩
    clear hE hA hE6
    by_cases k1 : q < 2
    · clear h6
      go_enter Try.func46, Try.ntmps46
      go_wp2
      go_ret2
      exact ⟨by rw [HV.out.1, HV.out.2]; rfl, rfl⟩
    · by_cases k2 : 10 < q
      · clear h6
        go_enter Try.func46, Try.ntmps46
        go_wp2
        go_ret2
        exact ⟨by rw [HV.out.1, HV.out.2]; rfl, rfl⟩
      · have k3 : n < 1 := by omega
        clear h6
        go_enter Try.func46, Try.ntmps46
        go_wp2
        go_ret2
        exact ⟨by rw [HV.out.1, HV.out.2]; rfl, rfl⟩
  · obtain ⟨q', hq'⟩ : ∃ q' : Nat, q = (q' : Int) := ⟨q.toNat, by omega⟩
    obtain ⟨n', hn'⟩ : ∃ n' : Nat, n = (n' : Int) := ⟨n.toNat, by omega⟩
    subst hq'
    subst hn'
    have k1 : ¬ (q' : Int) < 2 := by omega
    have k2 : ¬ (10 : Int) < (q' : Int) := by omega
    have k3 : ¬ (n' : Int) < 1 := by omega
    have hE2 : E = if 1024 < q' ^ n' then 4 else 0 := by rw [hE]; unfold rchk; rw [if_neg h6]; rfl
    have HV : Hid (E = (if 1024 < q' ^ n' then 4 else 0) ∧ A = if E = 0 then q' ^ n' else 0) := ⟨hE2, hA⟩
    clear hE hA hE2 h6
    go_enter Try.func46, Try.ntmps46
    go_wp2
    go_loopw [6, 7] (fun va vi wr => ∃ (i a : Nat), i ≤ n' ∧ va = .int .i64 (a : Nat) ∧ vi = .int .i64 (i : Nat) ∧ Hid (a = q' ^ i ∧ a ≤ 1024 ∧ wr = w)) (fun _ vi _ => n' - (intOf vi).toNat)
    case atStart => exact ⟨0, 1, by omega, rfl, rfl, rfl, by omega, rfl⟩
    case round =>
      obtain ⟨i, a, hi, rfl, rfl, HG⟩ := hrel
      rename World => wr
      have ha1 := HG.out.2.1
      by_cases hlt : i < n'
      · have hib : (i : Int) < (n' : Int) := by omega
        obtain ⟨a2, ha2⟩ : ∃ a2, a2 = a * q' := ⟨_, rfl⟩
        have ha2b : a2 ≤ 10240 := by rw [ha2]; exact Nat.mul_le_mul ha1 (show q' ≤ 10 by omega)
        have hw : IntKind.i64.wrap ((a : Int) * (q' : Int)) = (a2 : Int) := wrap_to (by rw [ha2]; simp) (by omega)
        have hp : a2 = q' ^ (i + 1) := by rw [ha2, Nat.pow_succ, HG.out.1]
        by_cases e : 1024 < a2
        · have hz : (1024 : Int) < (a2 : Int) := by omega
          have h4 : E = 4 := by
            rw [HV.out.1, if_pos]
            have := pow_le_pow' (q := q') (a := i + 1) (b := n') (by omega) (by omega)
            omega
          have HR : Hid (E = 4 ∧ A = 0) := ⟨h4, by rw [HV.out.2, h4]; rfl⟩
          clear ha2 hp h4 e ha1
          go_wp2
          go_ret2
          exact ⟨by rw [HR.out.1, HR.out.2]; rfl, HG.out.2.2⟩
        · have hz : ¬ (1024 : Int) < (a2 : Int) := by omega
          have HR : Hid (a2 = q' ^ (i + 1) ∧ a2 ≤ 1024 ∧ wr = w) := ⟨hp, by omega, HG.out.2.2⟩
          have hin : (i : Int) + 1 ≤ 9223372036854775807 := by
            have h1 : i < 2 ^ i := Nat.lt_two_pow_self
            have h2 : 2 ^ i ≤ q' ^ i := Nat.pow_le_pow_left (by omega) i
            have h3 := HG.out.1
            omega
          clear ha2 hp e ha1
          go_wp2
          go_roundw
          case rel => exact ⟨i + 1, a2, by omega, by first | rfl | go_num, by go_num, HR.out⟩
          case measure => simp [intOf]; omega
      · have hib : ¬ (i : Int) < (n' : Int) := by omega
        have hie : i = n' := by omega
        have h4 : E = 0 := by
          rw [HV.out.1, if_neg]
          rw [← hie, ← HG.out.1]; omega
        have HR : Hid (E = 0 ∧ A = a) := ⟨h4, by rw [HV.out.2, h4, if_pos rfl, HG.out.1, hie]⟩
        clear hie h4 ha1
        go_wp2
        go_ret2
        exact ⟨by rw [HR.out.1, HR.out.2]; rfl, HG.out.2.2⟩
end Go.Proofs.Ythkjaiihlphgfaa
