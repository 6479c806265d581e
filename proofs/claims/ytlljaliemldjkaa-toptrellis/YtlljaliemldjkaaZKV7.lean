/- Trellises: how many signs are turned; choices; the better of two ways. -/
import Derived.Test.YtlljaliemldjkaaZKV6
import Derived.Test.YtlljaliemldjkaaZS83
namespace Go.Proofs.Ytlljaliemldjkaa
open Go.RowKit Go.Sort

theorem ct_up (p : Nat → Bool) : ∀ n, ct p n ≤ n
  | 0 => Nat.le_refl 0
  | n + 1 => by
    show ct p n + (if p n = true then 1 else 0) ≤ n + 1
    have := ct_up p n
    split <;> omega
/-- How many of the signs of one step are other. -/
def trn (z : Nat → Nat) (R : Nat) (y : Nat → Int) (k x : Nat) : Nat := ct (fun j => !decide (((sgb (z j) x : Nat) : Int) = y (k * R + j))) R
theorem trn_le (z : Nat → Nat) (R : Nat) (y : Nat → Int) (k x : Nat) : trn z R y k x ≤ R := ct_up _ _

set_option maxHeartbeats 8000000 in
set_option maxRecDepth 100000 in
theorem tturn_any {ao so : Option Addr} {R ca l sc k x : Nat} {z : Nat → Nat} {y : Nat → Int} {w : World} (hX : RlZ ao R z w) (hY : SlZ so l y w) (hl : l ≤ 1000) (hk : (k + 1) * R ≤ l) (hx : x < 1073741824) :
    Calls Try.prog 36 #[.slice ao R ca, .slice so l sc, .int .i64 (k : Nat), .int .i64 (x : Nat)] w fun e w' => e = .returned (.int .i64 (trn z R y k x : Nat)) ∧ ∃ d, w' = w.drewN d := by
  have HX : Hid (RlZ ao R z w ∧ SlZ so l y w) := ⟨hX, hY⟩
  have hR3 := hX.few
  have hR1 := hX.one
  obtain ⟨p, hp⟩ : ∃ p : Nat → Bool, p = fun j => !decide (((sgb (z j) x : Nat) : Int) = y (k * R + j)) := ⟨_, rfl⟩
  have HP : Hid (trn z R y k x = ct p R ∧ ∀ j, p j = !decide (((sgb (z j) x : Nat) : Int) = y (k * R + j))) := ⟨by show ct _ R = _; rw [hp], fun j => by rw [hp]⟩
  obtain ⟨kr, hkr⟩ : ∃ kr, kr = k * R := ⟨_, rfl⟩
  have hkl : kr + R ≤ l := by rw [hkr]; rw [Nat.add_mul, Nat.one_mul] at hk; exact hk
  have hmul : (k : Int) * (R : Int) = (kr : Int) := by rw [hkr]; simp
  have hkw : IntKind.i64.wrap (kr : Int) = (kr : Int) := wrap_to rfl (by omega)
  have HK : Hid (kr = k * R) := hkr
  clear hX hY hp hk hkr
  go_enter Try.func36, Try.ntmps36
  go_wp2
  go_loopw [9, 14] (fun vm vi wr => ∃ i m : Nat, vm = .int .i64 (m : Nat) ∧ vi = .int .i64 (i : Nat) ∧ i ≤ R ∧ m ≤ i ∧ Hid (m = ct p i ∧ ∃ d, wr = w.drewN d)) (fun _ vi _ => R - (intOf vi).toNat)
  case atStart => exact ⟨0, 0, rfl, rfl, by omega, by omega, rfl, 0, rfl⟩
  case round =>
    obtain ⟨i, m, rfl, rfl, hi, hm, HI⟩ := hrel
    rename World => wr
    by_cases hlt : i < R
    · have hib : (i : Int) < (R : Int) := by omega
      have hib0 : (0 : Int) ≤ (i : Int) := by omega
      obtain ⟨d0, hd0⟩ := HI.out.2
      obtain ⟨b, off, e1, hc1⟩ := HX.out.1.sl i hlt
      obtain ⟨v, hv⟩ : ∃ v, v = z i := ⟨_, rfl⟩
      replace hc1 : wr.cell? ⟨b, off + i, none⟩ = some (.int .i64 (v : Nat)) := by rw [hd0, hv]; exact hc1
      have hvb : v ≤ 31 := by rw [hv]; exact HX.out.1.hi i hlt
      obtain ⟨q, hq⟩ : ∃ q, q = kr + i := ⟨_, rfl⟩
      have hqi : (kr : Int) + (i : Int) = (q : Int) := by omega
      have hqw : IntKind.i64.wrap (q : Int) = (q : Int) := wrap_to rfl (by omega)
      have hql : q < l := by omega
      have hqb : (q : Int) < (l : Int) := by omega
      have hqb0 : (0 : Int) ≤ (q : Int) := by omega
      obtain ⟨b2, off2, e2, hc2⟩ := HX.out.2 q hql
      obtain ⟨s, hs⟩ : ∃ s, s = y q := ⟨_, rfl⟩
      replace hc2 : wr.cell? ⟨b2, off2 + q, none⟩ = some (.int .i64 s) := by rw [hd0, hs]; exact hc2
      obtain ⟨t, ht⟩ : ∃ t, t = sgb v x := ⟨_, rfl⟩
      have HSg : Hid (∀ wx, Calls Try.prog 28 #[.int .i64 (v : Nat), .int .i64 (x : Nat)] wx fun e w' => e = .returned (.int .i64 (t : Nat)) ∧ w' = wx) := fun wx => by rw [ht]; exact tsign_any hvb hx wx
      have HJ : Hid (∀ i, ∃ j, wr.drewN i = w.drewN j) := fun i => ⟨d0 + i, by rw [hd0, World.drewN_drewN]⟩
      have hpi : p i = !decide ((t : Int) = s) := by rw [HP.out.2 i, ht, hv, hs, hq, HK.out]
      subst e1
      subst e2
      by_cases e : (t : Int) = s
      · have hz : ((t : Int) != s) = false := by rw [e]; simp
        have HV : Hid (m = ct p (i + 1)) := by
          show m = ct p i + if p i = true then 1 else 0
          rw [← HI.out.1, hpi, decide_eq_true e]; rfl
        clear e hv hq hs ht hd0 hpi
        go_wp2
        go_big_quiet (first | (go_at_call 28; exact Calls.quiet_of_same (HSg.out _)))
        go_wp2
        go_roundw
        case rel => exact ⟨i + 1, m, rfl, by go_num, by omega, by omega, HV.out, HJ.out _⟩
        case measure => simp [intOf]; omega
      · have hz : ((t : Int) != s) = true := by rw [bne_iff_ne]; exact e
        have HV : Hid (m + 1 = ct p (i + 1)) := by
          show m + 1 = ct p i + if p i = true then 1 else 0
          rw [← HI.out.1, hpi, decide_eq_false e]; rfl
        clear e hv hq hs ht hd0 hpi
        go_wp2
        go_big_quiet (first | (go_at_call 28; exact Calls.quiet_of_same (HSg.out _)))
        go_wp2
        go_roundw
        case rel => exact ⟨i + 1, m + 1, by go_num, by go_num, by omega, by omega, HV.out, HJ.out _⟩
        case measure => simp [intOf]; omega
    · have hib : ¬ (i : Int) < (R : Int) := by omega
      have hie : i = R := by omega
      subst hie
      go_wp2
      go_ret
      exact ⟨by rw [HP.out.1, ← HI.out.1]; rfl, HI.out.2⟩
set_option maxHeartbeats 1000000 in
theorem choices_any (k n : Nat) (w : World) : Calls Try.prog 51 #[.int .i64 (k : Nat), .int .i64 (n : Nat)] w fun e w' => e = .returned (.int .i64 (chc n k : Nat)) ∧ w' = w := by
  by_cases h : k < n
  · have hi : (k : Int) < (n : Int) := by omega
    have HV : Hid (chc n k = 2) := by show (if k < n then 2 else 1) = 2; rw [if_pos h]
    go_enter Try.func51, Try.ntmps51
    go_wp2
    go_ret
    exact ⟨by rw [HV.out]; rfl, rfl⟩
  · have hi : ¬ (k : Int) < (n : Int) := by omega
    have HV : Hid (chc n k = 1) := by show (if k < n then 2 else 1) = 1; rw [if_neg h]
    go_enter Try.func51, Try.ntmps51
    go_wp2
    go_ret
    exact ⟨by rw [HV.out]; rfl, rfl⟩
end Go.Proofs.Ytlljaliemldjkaa
