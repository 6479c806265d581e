/- Texts of ours, one behind the other: K1 K2 K3 J1 S1 S2 T1. -/
import Derived.Test.YtjkncdmbcckcdaaZL10
import Derived.Test.YtjkncdmbcckcdaaZW7
/- What statements make of raw numbers: Raw, Numbers. -/
namespace Go.Proofs.Ytjkncdmbcckcdaa
open Go.RowKit Go.Sort

/-- A number of the machine. -/
def I64 (r : Int) : Prop := -9223372036854775808 ≤ r ∧ r ≤ 9223372036854775807
theorem i64_wrap (x : Int) : I64 (IntKind.i64.wrap x) := by
  unfold I64
  rw [IntKind.wrap_i64]
  omega

set_option maxHeartbeats 2000000 in
theorem raw_any {ao : Option Addr} {n ca : Nat} {z : Nat → Int} {w : World} (h : Arg ao n ca z w) (hn : n ≤ 1000) (i : Nat) (hi : i ≤ 1000000) :
    Calls Try.prog 62 #[.slice ao n ca, .int .i64 i] w fun e w' => (∃ r, e = .returned (.int .i64 r) ∧ I64 r) ∧ ∃ k, w' = w.drewN k := by
  have HA : Hid (Arg ao n ca z w) := h
  clear h
  by_cases h0 : n = 0
  · have hz : ((n : Int) == 0) = true := by rw [h0]; rfl
    clear h0
    go_enter Try.func62, Try.ntmps62
    go_wp2
    go_ret
    exact ⟨⟨_, rfl, by unfold I64; omega⟩, 0, rfl⟩
  · have hz : ((n : Int) == 0) = false := by rw [beq_eq_false_iff_ne]; omega
    obtain ⟨j, hj⟩ : ∃ j, j = i % n := ⟨_, rfl⟩
    obtain ⟨d, hd⟩ : ∃ d, d = i / n := ⟨_, rfl⟩
    have hjn : j < n := by rw [hj]; exact Nat.mod_lt _ (by omega)
    have hdi : d ≤ i := by rw [hd]; exact Nat.div_le_self _ _
    have hm : (i : Int).tmod (n : Int) = (j : Int) := by rw [Int.tmod_eq_emod_of_nonneg (by omega), hj]; rfl
    have hq : (i : Int).tdiv (n : Int) = (d : Int) := by rw [Int.tdiv_eq_ediv_of_nonneg (by omega), hd]; rfl
    obtain ⟨b, off, rfl, hc⟩ := HA.out.sl j hjn
    obtain ⟨x, hx⟩ : ∃ x, x = z j := ⟨_, rfl⟩
    rw [← hx] at hc
    obtain ⟨s, hs⟩ : ∃ s, IntKind.i64.wrap (x + (d : Int) * 7919) = s := ⟨_, rfl⟩
    have HS : Hid (I64 s) := by show I64 s; rw [← hs]; exact i64_wrap _
    have hn0 : ¬ (n : Int) = 0 := by omega
    have hjn' : (j : Int) < (n : Int) := by omega
    have hj0 : (0 : Int) ≤ (j : Int) := by omega
    clear hj hd hx h0
    go_enter Try.func62, Try.ntmps62
    go_wp2
    go_quiet (fail)
    go_wp2
    go_ret
    exact ⟨⟨_, rfl, by first | exact HS.out | exact i64_wrap _⟩, _, rfl⟩

/-- Numbers from 0 on, all below q. -/
def Blw (q k : Nat) (z : Nat → Int) : Prop := ∀ j, j < k → 0 ≤ z j ∧ z j < (q : Int)

set_option maxHeartbeats 4000000 in
set_option maxRecDepth 100000 in
theorem numbers_any {ao : Option Addr} {n ca : Nat} {z : Nat → Int} {w : World} (h : Arg ao n ca z w) (hn : n ≤ 1000) (f q k : Nat) (hf : f ≤ 100000) (hq : 1 ≤ q) (hq2 : q ≤ 100000) (hk : k ≤ 100000) :
    Calls Try.prog 19 #[.slice ao n ca, .int .i64 f, .int .i64 q, .int .i64 k] w fun e w' => ∃ v y, e = .returned v ∧ OwnI w.heap.size v (zl k y) w' ∧ Blw q k y ∧ Below w.heap.size w w' := by
  have HA : Hid (Arg ao n ca z w) := h
  clear h
  go_enter Try.func19, Try.ntmps19
  go_wp2
  go_loopw [9, 10] (fun vl i wr => ∃ (r : Nat) (y : Nat → Int), r ≤ k ∧ i = .int .i64 r ∧ Hid (OwnI w.heap.size vl (zl r y) wr ∧ Blw q r y ∧ Below w.heap.size w wr)) (fun _ i _ => k - (intOf i).toNat)
  case atStart => exact ⟨0, fun _ => 0, by omega, rfl, OwnI.nil _ _, fun j hj => by omega, Below.refl _ _⟩
  case round =>
    obtain ⟨r, y, hr, rfl, HG⟩ := hrel
    have hsz := HG.out.2.2.size
    by_cases hlt : r < k
    · have hib : (r : Int) < (k : Int) := by omega
      have HR : Hid (Calls Try.prog 62 #[.slice ao n ca, .int .i64 ((f : Int) + (r : Int))] wr fun e w' => (∃ x, e = .returned (.int .i64 x) ∧ I64 x) ∧ ∃ k, w' = wr.drewN k) := by
        have h := raw_any (HA.out.below HG.out.2.2) hn (f + r) (by omega)
        rw [Int.natCast_add] at h; exact h
      go_wp2_with fail
      refine HR.out.mono ?_
      rintro e w1 ⟨⟨x, rfl, hx⟩, k1, hw1⟩
      have HG1 : Hid (OwnI w.heap.size u9 (zl r y) w1 ∧ Below w.heap.size w w1) := by rw [hw1]; exact ⟨HG.out.1.drewN _, below_drewN2 HG.out.2.2 _⟩
      have hsz1 := HG1.out.2.size
      clear hw1
      have hp1 := pick_lo x (q : Int) (by omega)
      have hp2 := pick_hi x (q : Int) (by omega)
      obtain ⟨p, hp⟩ : ∃ p, p = pick x (q : Int) := ⟨_, rfl⟩
      have HP : Hid (∀ w : World, Calls Try.prog 17 #[.int .i64 x, .int .i64 q] w fun e w' => e = .returned (.int .i64 p) ∧ w' = w) := fun w => by rw [hp]; exact pick_any x q w hx.1 hx.2 (by omega) (by omega)
      rw [← hp] at hp1 hp2
      clear hp hx HR
      go_wp2_with (first
        | (go_at_call 17; refine (HP.out _).mono ?_; rintro e w' ⟨rfl, hw⟩; have hw := hw.symm; subst hw)
        | (at_builtin; refine append_int rfl _ _ rfl w.heap.size _ (zl r y) rfl (HG1.out.1.alloc _) ⟨_, 0, none⟩ 1 p rfl (by simp) (by rw [zl_len]; omega) (by simp; omega) ?_; intro v2 w3 hown3 hgrow3))
      have HX : Hid (OwnI w.heap.size v2 (zl (r + 1) (fun j => if j = r then p else y j)) w3 ∧ Blw q (r + 1) (fun j => if j = r then p else y j) ∧ Below w.heap.size w w3) := by
        refine ⟨?_, fun j hj => ?_, (HG1.out.2.alloc hsz1 _).grown hgrow3 (by simp; omega) (fun k hk => (HG1.out.1.lt k hk).1)⟩
        · rw [zl_succ, zl_congr (y := y) (fun j hj => by show (if j = r then p else y j) = y j; rw [if_neg (by omega)])]
          show OwnI w.heap.size v2 (zl r y ++ [if r = r then p else y r]) w3
          rw [if_pos rfl]; exact hown3
        · show 0 ≤ (if j = r then p else y j) ∧ (if j = r then p else y j) < (q : Int)
          by_cases e : j = r
          · rw [if_pos e]; exact ⟨hp1, hp2⟩
          · rw [if_neg e]; exact HG.out.2.1 j (by omega)
      clear hown3 hgrow3
      go_roundw
      case rel => exact ⟨r + 1, _, by omega, by go_num, HX.out⟩
      case measure => simp [intOf]; omega
    · have hib : ¬ (r : Int) < (k : Int) := by omega
      have e : r = k := by omega
      subst e
      go_wp2
      go_ret
      exact ⟨_, rfl, y, HG.out.1, HG.out.2.1, HG.out.2.2⟩
end Go.Proofs.Ytjkncdmbcckcdaa

/- What statements make of raw numbers: different elements (PlacesOf). -/
namespace Go.Proofs.Ytjkncdmbcckcdaa
open Go.RowKit Go.Sort

end Go.Proofs.Ytjkncdmbcckcdaa

/- PolyMade: the walk of the statement. -/
namespace Go.Proofs.Ytjkncdmbcckcdaa
open Go.RowKit Go.Sort

theorem OwnI.argL {base : Nat} {v : Value} {n : Nat} {y : Nat → Int} {w : World} (h : OwnI base v (zl n y) w) : ∃ ao ca, v = .slice ao n ca ∧ ArgL ao n ca y w := by
  rcases h.2 with ⟨h1, h2⟩ | ⟨g, cap, cur, hv, hg, hh, hle, hcm, hsz, htake⟩
  · rw [zl_len] at h2
    subst h2
    exact ⟨none, 0, h1, fun j hj => by omega, fun x hx => (by cases hx), fun _ => rfl, Nat.le_refl _, by omega⟩
  · rw [zl_len] at hv hle
    refine ⟨_, cap, hv, fun j hj => ⟨g, 0, rfl, ?_⟩, fun x hx => (by cases hx; exact lt_of_block hh), fun e => (by cases e), hle, by unfold maxLen at hcm; omega⟩
    obtain ⟨g', cap', e, _, _, hc, _⟩ := h.at (fun e => by
      have := congrArg List.length e
      rw [zl_len] at this
      simp at this
      omega)
    rw [zl_len, hv] at e
    cases e
    rw [Nat.zero_add]
    have := hc j (by rw [zl_len]; exact hj)
    rwa [zl_getD n y j hj] at this
end Go.Proofs.Ytjkncdmbcckcdaa

/- Calls at polynomials that end with 1: products, parts. -/
namespace Go.Proofs.Ytjkncdmbcckcdaa
open Go.RowKit

end Go.Proofs.Ytjkncdmbcckcdaa

/- Plain mathematics: what rows span; the one reduced form of it. No Go text here. -/
namespace Go.Proofs.Ytjkncdmbcckcdaa

end Go.Proofs.Ytjkncdmbcckcdaa

/- Plain mathematics: a row more, put into a reduced form. No Go text here. -/
namespace Go.Proofs.Ytjkncdmbcckcdaa

end Go.Proofs.Ytjkncdmbcckcdaa

/- The reference's matrices: a row less another (less). -/
namespace Go.Proofs.Ytjkncdmbcckcdaa
open Go.RowKit Go.Sort

end Go.Proofs.Ytjkncdmbcckcdaa
