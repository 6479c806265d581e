/- DigitsRing: whatever it is given. -/
import Derived.Test.YthkjaiihlphgfaaZKH10
import Derived.Test.YthkjaiihlphgfaaZS36
import Derived.Test.YthkjaiihlphgfaaZW11
import Derived.Test.YthkjaiihlphgfaaZL1
namespace Go.Proofs.Ythkjaiihlphgfaa
open Go.RowKit Go.Sort

/-- Both ways tell the same ring. -/
def rgs (p : Nat × Nat) : Bool := match rof p.1 (p.1 ^ p.2 / p.1) (p.1 ^ p.2) (p.1 ^ p.2) (2 ^ (p.1 ^ p.2) - 1) 0 (List.replicate (p.2 - 1) 0) with | some l => l.take (p.1 ^ p.2) == rgl p.1 p.2 | none => false
theorem rgs_fin : ∀ q n : Fin 11, 2 ≤ q.1 → 1 ≤ n.1 → q.1 ^ n.1 ≤ 300 → (q.1, n.1) ∈ ([(2, 1), (2, 2), (2, 3), (2, 4), (2, 5), (2, 6), (2, 7), (3, 1), (3, 2), (3, 3), (3, 4), (4, 1), (4, 2), (4, 3), (5, 1), (5, 2), (5, 3), (6, 1), (6, 2), (7, 1), (7, 2), (8, 1), (8, 2), (9, 1), (9, 2), (10, 1), (10, 2)] : List (Nat × Nat)) ∨ (q.1, n.1) ∈ ([(2, 8)] : List (Nat × Nat)) ∨ (q.1, n.1) ∈ ([(3, 5)] : List (Nat × Nat)) ∨ (q.1, n.1) ∈ ([(4, 4)] : List (Nat × Nat)) ∨ (q.1, n.1) ∈ ([(6, 3)] : List (Nat × Nat)) := by decide +kernel
theorem rgs_ok {q n : Nat} (hq : q < 11) (hn : n < 11) (h1 : 2 ≤ q) (h2 : 1 ≤ n) (h3 : q ^ n ≤ 300) : rgs (q, n) = true := by
  rcases rgs_fin ⟨q, hq⟩ ⟨n, hn⟩ h1 h2 h3 with h | h | h | h | h
  · exact List.all_eq_true.1 rof_a _ h
  · exact List.all_eq_true.1 rof_b1 _ h
  · exact List.all_eq_true.1 rof_b2 _ h
  · exact List.all_eq_true.1 rof_b3 _ h
  · exact List.all_eq_true.1 rof_b4 _ h
theorem rgs_some {q n : Nat} (h : rgs (q, n) = true) : ∃ L, rof q (q ^ n / q) (q ^ n) (q ^ n) (2 ^ (q ^ n) - 1) 0 (List.replicate (n - 1) 0) = some L ∧ L.take (q ^ n) = rgl q n := by
  have h : (match rof q (q ^ n / q) (q ^ n) (q ^ n) (2 ^ (q ^ n) - 1) 0 (List.replicate (n - 1) 0) with | some l => l.take (q ^ n) == rgl q n | none => false) = true := h
  revert h
  cases rof q (q ^ n / q) (q ^ n) (q ^ n) (2 ^ (q ^ n) - 1) 0 (List.replicate (n - 1) 0) with
  | none => intro h; cases h
  | some L => intro h; exact ⟨L, rfl, eq_of_beq h⟩

set_option maxHeartbeats 4000000 in
set_option maxRecDepth 100000 in
theorem ring_err (q n : Int) (w : World) (hE : rchk q n ≠ 0) :
    Calls Try.prog 47 #[.int .i64 q, .int .i64 n] w fun x w' => x = .returned (.tuple #[.slice none 0 0, .int .i64 (rchk q n)]) ∧ w' = w := by
  obtain ⟨E, hEe⟩ : ∃ E, E = rchk q n := ⟨_, rfl⟩
  rw [← hEe] at hE ⊢
  by_cases h6 : q < 2 ∨ 10 < q ∨ n < 1
  · have HV : Hid (E = 6) := by show E = 6; rw [hEe]; unfold rchk; rw [if_pos h6]
    clear hEe hE
    by_cases k1 : q < 2
    · clear h6
      go_enter Try.func47, Try.ntmps47
      go_wp2
      go_ret2
      exact ⟨by rw [HV.out]; rfl, rfl⟩
    · by_cases k2 : 10 < q
      · clear h6
        go_enter Try.func47, Try.ntmps47
        go_wp2
        go_ret2
        exact ⟨by rw [HV.out]; rfl, rfl⟩
      · have k3 : n < 1 := by omega
        clear h6
        go_enter Try.func47, Try.ntmps47
        go_wp2
        go_ret2
        exact ⟨by rw [HV.out]; rfl, rfl⟩
  · obtain ⟨q', hq'⟩ : ∃ q' : Nat, q = (q' : Int) := ⟨q.toNat, by omega⟩
    obtain ⟨n', hn'⟩ : ∃ n' : Nat, n = (n' : Int) := ⟨n.toNat, by omega⟩
    subst hq'
    subst hn'
    have k1 : ¬ (q' : Int) < 2 := by omega
    have k2 : ¬ (10 : Int) < (q' : Int) := by omega
    have k3 : ¬ (n' : Int) < 1 := by omega
    have hE2 : E = if 1024 < q' ^ n' then 4 else 0 := by rw [hEe]; unfold rchk; rw [if_neg h6]; rfl
    have hbig : 1024 < q' ^ n' := Classical.byContradiction fun h => hE (by rw [hE2, if_neg h])
    have HV : Hid (E = 4 ∧ 1024 < q' ^ n') := ⟨by rw [hE2, if_pos hbig], hbig⟩
    clear hE hEe hE2 h6 hbig
    go_enter Try.func47, Try.ntmps47
    go_wp2
    go_loopw [6, 20] (fun va vi wr => ∃ (i a : Nat), i ≤ n' ∧ va = .int .i64 (a : Nat) ∧ vi = .int .i64 (i : Nat) ∧ Hid (a = q' ^ i ∧ a ≤ 1024 ∧ wr = w)) (fun _ vi _ => n' - (intOf vi).toNat)
    case atStart => exact ⟨0, 1, by omega, rfl, rfl, rfl, by omega, rfl⟩
    case round =>
      obtain ⟨i, a, hi, rfl, rfl, HG⟩ := hrel
      rename World => wr
      have ha1 := HG.out.2.1
      have hin2 : i < n' := Classical.byContradiction fun h => by
        have h1 : i = n' := by omega
        have h2 := HV.out.2
        rw [← h1, ← HG.out.1] at h2
        omega
      have hib : (i : Int) < (n' : Int) := by omega
      obtain ⟨a2, ha2⟩ : ∃ a2, a2 = a * q' := ⟨_, rfl⟩
      have ha2b : a2 ≤ 10240 := by rw [ha2]; exact Nat.mul_le_mul ha1 (show q' ≤ 10 by omega)
      have hw : IntKind.i64.wrap ((a : Int) * (q' : Int)) = (a2 : Int) := wrap_to (by rw [ha2]; simp) (by omega)
      have hp : a2 = q' ^ (i + 1) := by rw [ha2, Nat.pow_succ, HG.out.1]
      by_cases e : 1024 < a2
      · have hz : (1024 : Int) < (a2 : Int) := by omega
        clear ha2 hp e ha1
        go_wp2
        go_ret2
        exact ⟨by rw [HV.out.1]; rfl, HG.out.2.2⟩
      · have hz : ¬ (1024 : Int) < (a2 : Int) := by omega
        have HR : Hid (a2 = q' ^ (i + 1) ∧ a2 ≤ 1024 ∧ wr = w) := ⟨hp, by omega, HG.out.2.2⟩
        have hin : (i : Int) + 1 ≤ 9223372036854775807 := by
          have h1 : i < 2 ^ i := Nat.lt_two_pow_self
          have h2 : 2 ^ i ≤ q' ^ i := Nat.pow_le_pow_left (by omega) i
          have h3 := HG.out.1
          omega
        clear ha2 hp e ha1
        go_wp2
        go_roundw
        case rel => exact ⟨i + 1, a2, by omega, by first | rfl | go_num, by go_num, HR.out⟩
        case measure => simp [intOf]; omega

set_option maxHeartbeats 8000000 in
set_option maxRecDepth 100000 in
theorem digitsRing_walk (q n : Int) (w : World) :
    Calls Try.prog 8 #[.int .i64 q, .int .i64 n] w fun e w' => e = .returned (.bool true) ∧ Below w.heap.size w w' := by
  obtain ⟨E, hE⟩ : ∃ E, E = rchk q n := ⟨_, rfl⟩
  obtain ⟨A, hA⟩ : ∃ A : Nat, A = if E = 0 then q.toNat ^ n.toNat else 0 := ⟨_, rfl⟩
  have HM : Hid (Calls Try.prog 46 #[.int .i64 q, .int .i64 n] w fun e w' => e = .returned (.tuple #[.int .i64 (A : Nat), .int .i64 E]) ∧ w' = w) := by rw [hA, hE]; exact ringMay_any q n w
  by_cases h0 : E = 0
  · rw [if_pos h0] at hA
    have hr := h0
    rw [hE] at hr
    have h6 : ¬ (q < 2 ∨ 10 < q ∨ n < 1) := fun h => by unfold rchk at hr; rw [if_pos h] at hr; cases hr
    have hA4 : A ≤ 1024 := by
      unfold rchk at hr
      rw [if_neg h6, ← hA] at hr
      refine Classical.byContradiction fun h => ?_
      rw [if_pos (by omega)] at hr
      cases hr
    obtain ⟨q', hq'⟩ : ∃ q' : Nat, q = (q' : Int) := ⟨q.toNat, by omega⟩
    obtain ⟨n', hn'⟩ : ∃ n' : Nat, n = (n' : Int) := ⟨n.toNat, by omega⟩
    subst hq'
    subst hn'
    have hAq : A = q' ^ n' := hA
    have hqb : 2 ≤ q' ∧ q' ≤ 10 ∧ 1 ≤ n' := by omega
    have hA1 : 1 ≤ A := by rw [hAq]; exact Nat.pow_pos (by omega)
    have hn10 : n' ≤ 10 := Classical.byContradiction fun h => by
      have h1 : 2 ^ 11 ≤ 2 ^ n' := Nat.pow_le_pow_right (by omega) (by omega)
      have h2 : 2 ^ n' ≤ q' ^ n' := Nat.pow_le_pow_left (by omega) n'
      have h3 : (2 : Nat) ^ 11 = 2048 := by decide
      omega
    obtain ⟨L, hL, hRl, hLl, _⟩ := ring_ok (rgp_mem q' (by omega) n' (by omega) (by omega) (by omega) (by rw [← hAq]; exact hA4))
    have HR : Hid (Calls Try.prog 47 #[.int .i64 (q' : Nat), .int .i64 (n' : Nat)] w fun x w' => Below w.heap.size w w' ∧ ∃ lo lc, x = .returned (.tuple #[.slice lo A lc, .int .i64 0]) ∧ KI (.slice lo A lc) (zl A (nzl (rgl q' n'))) w') := by
      refine (ring_go (by omega) (by omega) (by omega) hn10 (by rw [← hAq]; exact hA4) w).mono ?_
      rintro x w' ⟨hb, v, rfl, ho⟩
      obtain ⟨lo, lc, hv⟩ := own_form ho
      have hlen : (rgl q' n').length = A := by rw [hRl, hLl, hAq]
      rw [zl_len, hlen] at hv
      rw [hlen] at ho
      subst hv
      exact ⟨hb, lo, lc, rfl, ho.ki (by rw [zl_len]; omega)⟩
    clear hE hr h6 hL hLl hA hRl
    subst h0
    by_cases hbig : 300 < A
    · have hz : (300 : Int) < (A : Int) := by omega
      have hz2 : ((A : Int) == (A : Int)) = true := by simp
      clear hbig hAq
      go_enter Try.func8, Try.ntmps8
      go_wp2_with fail
      refine HM.out.mono ?_
      rintro e w' ⟨rfl, hw⟩
      have hw := hw.symm
      subst hw
      go_wp2_with fail
      refine HR.out.mono ?_
      rintro e w1 ⟨hb1, lo, lc, rfl, _⟩
      have HB : Hid (Below w.heap.size w w1) := hb1
      clear hb1
      go_wp2
      go_ret
      exact ⟨rfl, HB.out⟩
    · have hz : ¬ (300 : Int) < (A : Int) := by omega
      obtain ⟨L2, hL2, hT2⟩ := rgs_some (rgs_ok (q := q') (n := n') (by omega) (by omega) (by omega) (by omega) (by rw [← hAq]; omega))
      have hdiv : q' ^ n' / q' * q' = A := by
        rw [hAq]
        exact Nat.div_mul_cancel (Nat.dvd_of_pow_dvd (k := n') (by omega) (Nat.dvd_refl _))
      have hnd : 1 ≤ q' ^ n' / q' := Classical.byContradiction fun h => by
        have h1 : q' ^ n' / q' = 0 := Nat.lt_one_iff.1 (Nat.lt_of_not_le h)
        rw [h1, Nat.zero_mul] at hdiv
        have h2 : 0 < q' ^ n' := Nat.pow_pos (by omega)
        omega
      rw [← hAq] at hL2 hT2
      have HO : Hid (∀ wx : World, Calls Try.prog 48 #[.int .i64 (q' : Nat), .int .i64 (n' : Nat), .int .i64 (A : Nat)] wx fun x w' => ∃ v, x = .returned v ∧ SliceI v (zl A (nzl (rgl q' n'))) w' ∧ Below wx.heap.size wx w') := fun wx => by
        refine (ringOf_any (by omega) (by omega) (by omega) hn10 (by rw [← hAq] at hdiv; exact hdiv) (by rw [← hAq] at hnd; exact hnd) (by omega) hL2 wx).mono ?_
        rintro x w' ⟨v, rfl, hs, hb⟩
        refine ⟨v, rfl, ?_, hb⟩
        have e : zl A (nzl L2) = zl A (nzl (rgl q' n')) := zl_congr fun j hj => by
          rw [← hT2]
          show ((L2.getD j 0 : Nat) : Int) = (((L2.take A).getD j 0 : Nat) : Int)
          rw [List.getD_eq_getElem?_getD, List.getD_eq_getElem?_getD, List.getElem?_take, if_pos hj]
        rw [← e]; exact hs
      clear hbig hAq hL2 hT2 hdiv hnd
      go_enter Try.func8, Try.ntmps8
      go_wp2_with fail
      refine HM.out.mono ?_
      rintro e w' ⟨rfl, hw⟩
      have hw := hw.symm
      subst hw
      go_wp2_with fail
      refine HR.out.mono ?_
      rintro e w1 ⟨hb1, lo, lc, rfl, hs1⟩
      have H1 : Hid (Below w.heap.size w w1 ∧ KI (.slice lo A lc) (zl A (nzl (rgl q' n'))) w1) := ⟨hb1, hs1⟩
      clear hb1 hs1
      go_wp2_with fail
      refine (HO.out w1).mono ?_
      rintro e w2 ⟨v2, rfl, hs2, hb2⟩
      have HS : Hid (Calls Try.prog 33 #[.slice lo A lc, v2] w2 fun e w' => e = .returned (.bool true) ∧ ∃ d, w' = w2.drewN d) := by
        have h1 := same_any (H1.out.2.below hb2).1 hs2
        rw [decide_eq_true rfl] at h1
        exact h1
      have HB : Hid (Below w.heap.size w w2) := bel_up' H1.out.1 hb2
      clear hs2 hb2
      go_wp2_with fail
      refine HS.out.mono ?_
      rintro e w3 ⟨rfl, d, hd⟩
      have HB3 : Hid (Below w.heap.size w w3) := by rw [hd]; exact below_drewN2 HB.out d
      clear hd
      go_wp2
      go_ret
      exact ⟨rfl, HB3.out⟩
  · have z1 : (E != 0) = true := bne_iff_ne.2 h0
    have z2 : (E == E) = true := by simp
    have HR : Hid (Calls Try.prog 47 #[.int .i64 q, .int .i64 n] w fun x w' => x = .returned (.tuple #[.slice none 0 0, .int .i64 E]) ∧ w' = w) := by rw [hE]; exact ring_err q n w (by rw [← hE]; exact h0)
    clear hE hA h0
    go_enter Try.func8, Try.ntmps8
    go_wp2_with fail
    refine HM.out.mono ?_
    rintro e w' ⟨rfl, hw⟩
    have hw := hw.symm
    subst hw
    go_wp2_with fail
    refine HR.out.mono ?_
    rintro e w' ⟨rfl, hw⟩
    have hw := hw.symm
    subst hw
    go_wp2
    go_ret
    exact ⟨rfl, Below.refl _ _⟩
end Go.Proofs.Ythkjaiihlphgfaa
