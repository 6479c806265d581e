/- Codes of few checks: the reference's alone and Peeled. -/
import Derived.Test.YtjkncdmbcckcdaaZKE6
import Derived.Test.YtjkncdmbcckcdaaZL1
namespace Go.Proofs.Ytjkncdmbcckcdaa
open Go.RowKit Go.Sort

theorem selZ_grow (p : Int → Bool) (z : Nat → Int) (m : Nat) : ∀ d, (selZ p z m).length ≤ (selZ p z (m + d)).length
  | 0 => Nat.le_refl _
  | d + 1 => by
    have ih := selZ_grow p z m d
    show _ ≤ (if p (z (m + d)) = true then selZ p z (m + d) ++ [z (m + d)] else selZ p z (m + d)).length
    split
    · rw [List.length_append]; omega
    · exact ih
/-- What was found of lost places so far: none (-1), or one. -/
def AlS (y z : Nat → Int) (j : Nat) (a : Int) : Prop := (losts y z j = [] ∧ a = -1) ∨ losts y z j = [a]
/-- What alone tells. -/
def AlP (y z : Nat → Int) (l : Nat) (w : World) (e : Ending) (w' : World) : Prop := w' = w ∧ ((∃ x, losts y z l = [x] ∧ e = .returned (.tuple #[.int .i64 x, .int .i64 (par y z l : Nat), .bool true])) ∨ ((losts y z l).length ≠ 1 ∧ ∃ a s, e = .returned (.tuple #[.int .i64 a, .int .i64 s, .bool false])))

set_option maxHeartbeats 8000000 in
set_option maxRecDepth 100000 in
theorem ralone_any {ao wo : Option Addr} {l ca n cw : Nat} {z y : Nat → Int} {w : World} (hz : SlZ ao l z w) (hy : SlZ wo n y w) (hl : l ≤ 100000) (hr : ∀ j, j < l → 0 ≤ z j ∧ z j < (n : Int)) (hb : Bts n y) :
    Calls Try.prog 72 #[.slice ao l ca, .slice wo n cw] w (AlP y z l w) := by
  have HS : Hid (SlZ ao l z w ∧ SlZ wo n y w ∧ (∀ j, j < l → 0 ≤ z j ∧ z j < (n : Int)) ∧ Bts n y) := ⟨hz, hy, hr, hb⟩
  clear hz hy hr hb
  go_enter Try.func72, Try.ntmps72
  go_wp2
  go_loopw [7, 8, 9] (fun va vs vi wx => ∃ (j S : Nat) (a : Int), j ≤ l ∧ S < 2 ∧ vi = .int .i64 (j : Nat) ∧ vs = .int .i64 (S : Nat) ∧ va = .int .i64 a ∧ Hid (S = par y z j ∧ AlS y z j a) ∧ wx = w) (fun _ _ vi _ => l - (intOf vi).toNat)
  case atStart => exact ⟨0, 0, -1, by omega, by omega, rfl, rfl, rfl, ⟨rfl, Or.inl ⟨rfl, rfl⟩⟩, rfl⟩
  case round =>
    obtain ⟨j, S, a, hj, hS2, rfl, rfl, rfl, HI, hwx⟩ := hrel
    have hwx := hwx.symm
    subst hwx
    by_cases hlt : j < l
    · have hib : (j : Int) < (l : Int) := by omega
      have hib0 : (0 : Int) ≤ (j : Int) := by omega
      obtain ⟨b, off, rfl, hc⟩ := HS.out.1 j hlt
      have hxr := HS.out.2.2.1 j hlt
      obtain ⟨X, hX⟩ : ∃ X : Nat, z j = (X : Int) := ⟨(z j).toNat, by omega⟩
      rw [hX] at hc hxr
      have hXn : X < n := by omega
      obtain ⟨b2, o2, rfl, hc2⟩ := HS.out.2.1 X hXn
      have hXb : (X : Int) < (n : Int) := by omega
      have hX0 : (0 : Int) ≤ (X : Int) := by omega
      obtain ⟨v, hv⟩ : ∃ v, v = y X := ⟨_, rfl⟩
      rw [← hv] at hc2
      have hvb := HS.out.2.2.2 X hXn
      rw [← hv] at hvb
      have hyz : y (z j).toNat = v := by rw [hX, hv]; rfl
      by_cases h1 : v = -1
      · have hL : losts y z (j + 1) = losts y z j ++ [(X : Int)] := by
          have e : losts y z (j + 1) = losts y z j ++ [z j] := if_pos (decide_eq_true (by rw [hyz]; exact h1))
          rw [e, hX]
        have hP : par y z (j + 1) = par y z j := par_not (by rw [hyz, h1]; omega)
        have hvg : ¬ v ≥ 0 := by omega
        have hvg2 : ¬ (0 : Int) ≤ v := by omega
        rcases HI.out.2 with ⟨h2, h3⟩ | h2
        · subst h3
          have HV : Hid (S = par y z (j + 1) ∧ AlS y z (j + 1) (X : Int)) := ⟨by rw [hP]; exact HI.out.1, Or.inr (by rw [hL, h2]; rfl)⟩
          clear h1 hv hyz hL hP h2 hvb hX
          go_wp2
          go_roundw
          case rel => exact ⟨j + 1, S, _, by omega, hS2, by go_num, rfl, rfl, HV.out, by first | rfl | trivial⟩
          case measure => simp [intOf]; omega
        · have ha : 0 ≤ a := by
            have hm : a ∈ losts y z j := by rw [h2]; exact List.mem_singleton.2 rfl
            obtain ⟨_, j', hj', e⟩ := selZ_mem _ hm
            have := HS.out.2.2.1 j' (by omega)
            omega
          have hag : a ≥ 0 := ha
          have HV : Hid (AlP y z l w (.returned (.tuple #[.int .i64 0, .int .i64 0, .bool false])) w) := by
            refine ⟨rfl, Or.inr ⟨?_, 0, 0, rfl⟩⟩
            have h3 := selZ_grow (fun x => decide (y x.toNat = -1)) z (j + 1) (l - (j + 1))
            rw [show j + 1 + (l - (j + 1)) = l by omega] at h3
            have h4 : (losts y z (j + 1)).length = 2 := by rw [hL, h2]; rfl
            have h5 : (losts y z (j + 1)).length ≤ (losts y z l).length := h3
            omega
          clear h1 hv hyz hL hP h2 hvb hX
          go_wp2
          go_ret3
          exact HV.out
      · have hL : losts y z (j + 1) = losts y z j := if_neg (show ¬ decide (y (z j).toNat = -1) = true from fun x => h1 (by rw [← hyz]; exact of_decide_eq_true x))
        have hvg : v ≥ 0 := by omega
        have hvg2 : (0 : Int) ≤ v := hvg
        obtain ⟨S', hS'⟩ : ∃ S', S' = par y z (j + 1) := ⟨_, rfl⟩
        have hS'2 : S' < 2 := by rw [hS']; exact par_lt _ _ _
        have hm : ((S : Int) + v).tmod 2 = (S' : Int) := by
          rw [Int.tmod_eq_emod_of_nonneg (by omega), hS', HI.out.1]
          rcases hvb with h | h | h
          · exact absurd h h1
          · rw [h, par_not (by rw [hyz, h]; omega)]
            have := par_lt y z j
            omega
          · rw [h, par_one (by rw [hyz, h])]
            omega
        have HV : Hid (S' = par y z (j + 1) ∧ AlS y z (j + 1) a) := ⟨hS', by have h := HI.out.2; unfold AlS at h ⊢; rw [hL]; exact h⟩
        have hv1 : v ≤ 1 := by omega
        clear h1 hv hyz hL hS' hvb hX
        go_wp2
        go_roundw
        case rel => exact ⟨j + 1, S', a, by omega, hS'2, by go_num, rfl, rfl, HV.out, by first | rfl | trivial⟩
        case measure => simp [intOf]; omega
    · have hib : ¬ (j : Int) < (l : Int) := by omega
      have hie : l = j := by omega
      subst hie
      rcases HI.out.2 with ⟨h2, h3⟩ | h2
      · have HV : Hid (AlP y z l w (.returned (.tuple #[.int .i64 a, .int .i64 (S : Nat), .bool false])) w) := ⟨rfl, Or.inr ⟨by rw [h2]; decide, a, _, rfl⟩⟩
        have hag : ¬ a ≥ 0 := by omega
        have hag2 : ¬ (0 : Int) ≤ a := by omega
        have hag3 : decide ((0 : Int) ≤ a) = false := decide_eq_false hag2
        clear h2 h3
        go_wp2
        go_ret3
        exact HV.out
      · have ha : 0 ≤ a := by
          have hm : a ∈ losts y z l := by rw [h2]; exact List.mem_singleton.2 rfl
          obtain ⟨_, j', hj', e⟩ := selZ_mem _ hm
          have := HS.out.2.2.1 j' hj'
          omega
        have HV : Hid (AlP y z l w (.returned (.tuple #[.int .i64 a, .int .i64 (S : Nat), .bool true])) w) := ⟨rfl, Or.inl ⟨a, h2, by rw [HI.out.1]⟩⟩
        have hag : a ≥ 0 := ha
        have hag3 : decide ((0 : Int) ≤ a) = true := decide_eq_true ha
        clear h2
        go_wp2
        go_ret3
        exact HV.out
end Go.Proofs.Ytjkncdmbcckcdaa
