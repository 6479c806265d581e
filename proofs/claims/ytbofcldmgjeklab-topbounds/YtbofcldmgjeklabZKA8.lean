/- Texts of ours, one behind the other: KA8 KA9 KA10 KA11 KB1 S21 KB2 S22. -/
import Derived.Test.YtbofcldmgjeklabZKA6
import Derived.Laws.EntriesVeiled
import Derived.Test.YtbofcldmgjeklabZL1
import Derived.Test.YtbofcldmgjeklabZK8
import Derived.Test.YtbofcldmgjeklabZKA1
/- Weights: Shows of the program where the lengths may be. -/
namespace Go.Proofs.Ytbofcldmgjeklab
open Go.RowKit Go.Sort

set_option maxHeartbeats 2000000 in
set_option maxRecDepth 100000 in
theorem shows_at {q n d : Nat} (hq : 2 ≤ q) (hq2 : q ≤ 64) (hp : q ^ n ≤ 1073741824) (hn2 : n ≤ 30) (hd : d ≤ n) {ao : Option Addr} {cap : Nat} {f : Nat → Int} (ho : outB f 1048576 (n + 1) = false) (hf : f 0 ≠ 0) (bb : Bool) (hbb : bb = foundB (fun x => decide (0 < dsm q n f x)) d (n + 1 - d)) {w : World} (hX : Arg ao (n + 1) cap f w) (hC : ∀ wx, Calls Try.prog 80 #[.int .i64 (q : Nat), .int .i64 (n : Nat), .int .i64 (d : Nat)] wx fun e w' => e = .returned (.int .i64 0) ∧ Below wx.heap.size wx w') :
    Calls Try.prog 36 #[.int .i64 (q : Nat), .int .i64 (n : Nat), .int .i64 (d : Nat), .slice ao (n + 1 : Nat) cap] w fun e w' => e = .returned (if bb = true then .tuple #[.int .i64 0, .int .i64 0, .bool false, .int .i64 0] else .tuple #[.int .i64 (dsm q n f 0), .int .i64 (f 0), .bool true, .int .i64 0]) ∧ Below w.heap.size w w' := by
  have HG : Hid (q ^ n ≤ 1073741824 ∧ outB f 1048576 (n + 1) = false ∧ bb = foundB (fun x => decide (0 < dsm q n f x)) d (n + 1 - d)) := ⟨hp, ho, hbb⟩
  obtain ⟨N, hN0⟩ : ∃ N, N = n + 1 := ⟨_, rfl⟩
  rw [← hN0] at ho hX ⊢
  have hN : (N : Int) = (n : Int) + 1 := by omega
  have HN0 : Hid (N = n + 1) := hN0
  clear hp hbb hN0
  obtain ⟨wa, hwa⟩ : ∃ wa, wa = shw w (q : Nat) (n : Nat) (.slice ao N cap) := ⟨_, rfl⟩
  have HC : Hid (Calls Try.prog 80 #[.int .i64 (q : Nat), .int .i64 (n : Nat), .int .i64 (d : Nat)] wa fun e w' => e = .returned (.int .i64 0) ∧ Below wa.heap.size wa w') := hC wa
  have HA : Hid (Below w.heap.size w wa ∧ wa.heap.size = w.heap.size + 3 ∧ wa.cell? ⟨w.heap.size, 0, none⟩ = some (.int .i64 (q : Nat)) ∧ wa.cell? ⟨w.heap.size + 1, 0, none⟩ = some (.int .i64 (n : Nat)) ∧ wa.cell? ⟨w.heap.size + 1 + 1, 0, none⟩ = some (.slice ao N cap)) := by rw [hwa]; exact ⟨shw_below _ _ _ _, shw_size _ _ _ _, shw_cells _ _ _ _⟩
  have HX : Hid (Arg ao N cap f w) := hX
  unfold shw at hwa
  clear hC hX
  go_enter Try.func36, Try.ntmps36
  go_wp2_with fail
  rw [← hwa]
  clear hwa
  refine HC.out.mono ?_
  rintro e w1 ⟨rfl, hb⟩
  have hs := HA.out.2.1
  have hs1 := hb.size
  have H1 : Hid (Below w.heap.size w w1 ∧ Arg ao N cap f w1) := ⟨bel_up' HA.out.1 hb, HX.out.below (bel_up' HA.out.1 hb)⟩
  have c4 := ((bcell hb).1 w.heap.size 0 (by omega)).trans HA.out.2.2.1
  have c5 := ((bcell hb).1 (w.heap.size + 1) 0 (by omega)).trans HA.out.2.2.2.1
  have c7 := ((bcell hb).1 (w.heap.size + 1 + 1) 0 (by omega)).trans HA.out.2.2.2.2
  have l7 : w.heap.size + 1 + 1 < w1.heap.size := by omega
  have l5 : w.heap.size + 1 < w1.heap.size := by omega
  have l4 : w.heap.size < w1.heap.size := by omega
  clear hb hs hs1
  have HO : Hid (Calls Try.prog 83 #[.slice ao N cap, .int .i64 1048576] w1 fun e w' => e = .returned (.bool false) ∧ Below w1.heap.size w1 w') := by
    show Calls _ _ _ _ _
    rw [← ho]
    exact outside_any 1048576 H1.out.2.sl H1.out.2.lt H1.out.2.few
  clear ho
  have hz : ((N : Int) != (n : Int) + 1) = false := by rw [hN]; simp
  go_wp2_with fail
  refine HO.out.mono ?_
  rintro e w2 ⟨rfl, hb⟩
  have hs2 := hb.size
  have H2 : Hid (Below w.heap.size w w2 ∧ Arg ao N cap f w2) := ⟨bel_up' H1.out.1 hb, H1.out.2.below hb⟩
  have c4 := ((bcell hb).1 w.heap.size 0 l4).trans c4
  have c5 := ((bcell hb).1 (w.heap.size + 1) 0 l5).trans c5
  have c7 := ((bcell hb).1 (w.heap.size + 1 + 1) 0 l7).trans c7
  have l4 : w.heap.size < w2.heap.size := by omega
  have l5 : w.heap.size + 1 < w2.heap.size := by omega
  have l7 : w.heap.size + 1 + 1 < w2.heap.size := by omega
  clear hb hs2
  have HF : Hid (∀ j, j < n + 1 → 0 ≤ f j ∧ f j ≤ 1048576) := outB_no HG.out.2.1
  obtain ⟨b, off, hao, c0⟩ := H2.out.2.sl 0 (by omega)
  have lb : b < w2.heap.size := H2.out.2.lt _ hao
  subst hao
  rw [Nat.add_zero] at c0
  obtain ⟨f0, hf0⟩ : ∃ f0, f0 = f 0 := ⟨_, rfl⟩
  rw [← hf0] at c0 hf
  have HF0 : Hid (f0 = f 0) := hf0
  clear hf0
  obtain ⟨w3, hw3⟩ : ∃ w3, w3 = w2.alloc (.cells #[.func (.func 84) #[] #[.pointer (some ⟨w.heap.size + 1 + 1, 0, none⟩), .pointer (some ⟨w.heap.size, 0, none⟩), .pointer (some ⟨w.heap.size + 1, 0, none⟩)]] 61) := ⟨_, rfl⟩
  have hal : Below w2.heap.size w2 w3 := by rw [hw3]; exact (Below.refl _ _).alloc (Nat.le_refl _) _
  have s3 : w3.heap.size = w2.heap.size + 1 := by rw [hw3]; simp
  have ca : w3.cell? ⟨w2.heap.size, 0, none⟩ = some (.func (.func 84) #[] #[.pointer (some ⟨w.heap.size + 1 + 1, 0, none⟩), .pointer (some ⟨w.heap.size, 0, none⟩), .pointer (some ⟨w.heap.size + 1, 0, none⟩)]) := by rw [hw3]; simp
  have H3 : Hid (Below w.heap.size w w3 ∧ Arg (some ⟨b, off, none⟩) N cap f w3 ∧ ShB (w.heap.size + 1 + 1) w.heap.size (w.heap.size + 1) q n (some ⟨b, off, none⟩) cap f w3) := by
    have hA3 := H2.out.2.below hal
    refine ⟨bel_up' H2.out.1 hal, hA3, ?_⟩
    have hsl := hA3.sl
    rw [HN0.out] at hsl
    refine ⟨?_, ((bcell hal).1 _ 0 l4).trans c4, ((bcell hal).1 _ 0 l5).trans c5, hsl, by omega, by omega, by omega, hA3.lt⟩
    rw [← HN0.out]; exact ((bcell hal).1 _ 0 l7).trans c7
  have HFd : Hid (Calls Try.prog 86 #[.int .i64 (d : Nat), .int .i64 (n : Nat), .func (.func 87) #[] #[.pointer (some ⟨w2.heap.size, 0, none⟩)]] w3 fun e w' => e = .returned (.bool bb) ∧ Below w3.heap.size w3 w') := by
    show Calls _ _ _ _ _
    rw [HG.out.2.2]
    refine found_any enters_s2 hd (by omega) (fun j wx hj hj2 hb => ?_)
    have e : (#[Value.int .i64 (j : Nat)] ++ #[Value.pointer (some ⟨w2.heap.size, 0, none⟩)] : Array Value) = #[.int .i64 (j : Nat), .pointer (some ⟨w2.heap.size, 0, none⟩)] := rfl
    rw [e]
    exact s2_any hq hq2 HG.out.1 hn2 HF.out j hj2 (H3.out.2.2.below hb) (((bcell hb).1 w2.heap.size 0 (by omega)).trans ca)
  have hz0 : (f0 == 0) = false := by rw [beq_eq_false_iff_ne]; exact hf
  go_wp2_with fail
  rw [← hw3]
  refine HFd.out.mono ?_
  rintro e w4 ⟨rfl, hb⟩
  cases bb
  · have hbw : Below w.heap.size w w4 := bel_up' H3.out.1 hb
    have hB4 := H3.out.2.2.below hb
    have hA4 := H3.out.2.1.below hb
    have hs4 := hb.size
    obtain ⟨v0, hv0⟩ : ∃ v0, v0 = dsm q n f 0 := ⟨_, rfl⟩
    have HC1 : Hid (∀ d os, Calls Try.prog 84 (#[.int .i64 0] ++ #[.pointer (some ⟨w.heap.size + 1 + 1, 0, none⟩), .pointer (some ⟨w.heap.size, 0, none⟩), .pointer (some ⟨w.heap.size + 1, 0, none⟩)]) (grow (redrawn w4 d) os) fun e w'' => e = .returned (.int .i64 v0) ∧ ∃ p : Regrown, w'' = grow (redrawn w4 p.d) p.os) := fun d os => by
      rw [hv0]
      exact Calls.regrown_of (s1_any hq hq2 HG.out.1 hn2 HF.out 0 (by omega) (hB4.below (below_regrown w4 d os)))
    have HV0 : Hid (v0 = dsm q n f 0) := hv0
    have k13 := cell_regrown (w := w4) (((bcell hb).1 w2.heap.size 0 (by omega)).trans ca)
    have k7 := cell_regrown (w := w4) (((bcell hb).1 (w.heap.size + 1 + 1) 0 (by omega)).trans (((bcell hal).1 _ 0 l7).trans c7))
    have k0 := cell_regrown (w := w4) (((bcell hb).1 b off (by omega)).trans (((bcell hal).1 _ _ lb).trans c0))
    have H4 : Hid (Below w.heap.size w w4) := hbw
    have eg := enters_s1
    clear hb hbw hB4 hA4 hv0
    go_wp2
    refine below_tail 6 (by kernel_rfl) (by kernel_rfl) ?_
    simp only [List.take_succ_cons, List.take_zero, List.drop_succ_cons, List.drop_zero]
    repeat (go_big_quiet_step (first | (go_at_fn 84; exact HC1.out _ _)))
    refine wpQuiet_nil ?_
    intro _ hw'
    obtain ⟨⟨ds, oss⟩, hw''⟩ := hw'
    subst hw''
    have H7 : Hid (Below w.heap.size w (grow (redrawn w4 ds) oss)) := bel_up' H4.out (below_regrown w4 ds oss)
    go_wp2
    refine bodyPost_ret (results_four rfl _ _ _) rfl ?_
    exact ⟨by rw [← HV0.out, ← HF0.out]; rfl, H7.out⟩
  · have H4 : Hid (Below w.heap.size w w4) := bel_up' H3.out.1 hb
    clear hb
    go_wp2
    refine bodyPost_ret (results_four rfl _ _ _) rfl ?_
    exact ⟨rfl, H4.out⟩
end Go.Proofs.Ytbofcldmgjeklab

/- Weights: the reference's CountMay. -/
namespace Go.Proofs.Ytbofcldmgjeklab
open Go.RowKit Go.Sort

end Go.Proofs.Ytbofcldmgjeklab

/- WeightsShow's walk where something is wrong (printed by make/ka10.py). -/
namespace Go.Proofs.Ytbofcldmgjeklab
open Go.RowKit Go.Sort

end Go.Proofs.Ytbofcldmgjeklab

/- WeightsShow's walk where the lengths may be (printed by make/ka11.py). -/
namespace Go.Proofs.Ytbofcldmgjeklab
open Go.RowKit Go.Sort
theorem SlZ.cell {b off n : Nat} {z : Nat → Int} {w : World} (h : SlZ (some ⟨b, off, none⟩) n z w) {j : Nat} (hj : j < n) : w.cell? ⟨b, off + j, none⟩ = some (.int .i64 (z j)) := by
  obtain ⟨b', off', e, hc⟩ := h j hj
  cases e
  exact hc

end Go.Proofs.Ytbofcldmgjeklab

/- Weights: Griesmer's bound, both sides (printed by make/kb1.py). -/
namespace Go.Proofs.Ytbofcldmgjeklab
open Go.RowKit Go.Sort

def gd (q d : Nat) : Nat → Nat
  | 0 => d
  | i + 1 => (gd q d i + q - 1) / q
def gs (q d : Nat) : Nat → Nat
  | 0 => 0
  | i + 1 => gs q d i + gd q d i
theorem up_le {x q : Nat} (hq : 1 ≤ q) : (x + q - 1) / q ≤ x := by
  by_cases h : x = 0
  · subst h
    rw [Nat.div_eq_of_lt (by omega)]; omega
  · have h1 : x * 1 ≤ x * q := Nat.mul_le_mul_left x hq
    have h2 : x + q - 1 < (x + 1) * q := by
      have : 1 * q ≤ x * q := Nat.mul_le_mul_right q (by omega)
      rw [Nat.add_mul]
      omega
    have := (Nat.div_lt_iff_lt_mul (show 0 < q by omega)).2 h2
    omega
theorem gd_le {q d : Nat} (hq : 1 ≤ q) : ∀ i, gd q d i ≤ d
  | 0 => Nat.le_refl _
  | i + 1 => Nat.le_trans (up_le hq) (gd_le hq i)
theorem gs_le {q d : Nat} (hq : 1 ≤ q) : ∀ i, gs q d i ≤ i * d
  | 0 => by show 0 ≤ _; omega
  | i + 1 => by
    have h1 := gs_le (d := d) hq i
    have h2 := gd_le (d := d) hq i
    show gs q d i + gd q d i ≤ _
    rw [Nat.add_mul]
    omega

set_option maxHeartbeats 1000000 in
theorem roundUp_any (a b : Nat) (hb : 1 ≤ b) (ha2 : a ≤ 1152921504606846976) (hb2 : b ≤ 1152921504606846976) (w : World) :
    Calls Try.prog 82 #[.int .i64 (a : Nat), .int .i64 (b : Nat)] w fun e w' => e = .returned (.int .i64 ((a + b - 1) / b : Nat)) ∧ w' = w := by
  obtain ⟨x, hx⟩ : ∃ x, x = (a + b - 1) / b := ⟨_, rfl⟩
  have hq : Int.tdiv ((a : Int) + (b : Int) - 1) (b : Int) = (x : Int) := by
    rw [show (a : Int) + (b : Int) - 1 = ((a + b - 1 : Nat) : Int) by omega, hx]
    rfl
  have hne : (b : Int) ≠ 0 := by omega
  have hx2 : x ≤ 2305843009213693952 := by rw [hx]; exact Nat.le_trans (Nat.div_le_self _ _) (by omega)
  rw [← hx]
  clear hx
  go_enter Try.func82, Try.ntmps82
  go_wp2
  go_ret
  exact ⟨by first | rfl | simp [hq], rfl⟩

set_option maxHeartbeats 2000000 in
set_option maxRecDepth 100000 in
theorem gri_ok {D : FD} (hD : D ∈ fieldsL) (k d : Nat) (hk : 1 ≤ k) (hk2 : k ≤ 64) (hd : 1 ≤ d) (hd2 : d ≤ 64) (w : World) :
    Calls Try.prog 35 #[.int .i64 D.q, .int .i64 (k : Nat), .int .i64 (d : Nat)] w fun e w' => e = .returned (.tuple #[.int .i64 (gs D.q d k : Nat), .int .i64 0]) ∧ Below w.heap.size w w' := by
  have h1 : ¬ (k : Int) < 1 := by omega
  have h2 : ¬ (64 : Int) < (k : Int) := by omega
  have h2b : ¬ (k : Int) > 64 := by omega
  have h3 : ¬ (d : Int) < 1 := by omega
  have h4 : ¬ (64 : Int) < (d : Int) := by omega
  have h4b : ¬ (d : Int) > 64 := by omega
  have hq2 := (fld hD).q2
  have hq64 := (fld hD).q64
  have HD : Hid (D ∈ fieldsL) := hD
  clear hD
  go_enter Try.func35, Try.ntmps35
  go_wp2_with fail
  refine (new_any HD.out w).mono ?_
  rintro e w1 ⟨F, T, g, rfl, _, _, _, hb1⟩
  have H1 : Hid (Below w.heap.size w w1) := hb1
  clear hb1
  go_wp2
  go_loopw [10, 2, 34] (fun vs vd vi wr => ∃ i s x : Nat, vs = .int .i64 (s : Nat) ∧ vd = .int .i64 (x : Nat) ∧ vi = .int .i64 (i : Nat) ∧ i ≤ k ∧ Hid (s = gs D.q d i ∧ x = gd D.q d i) ∧ wr = w1) (fun _ _ vi _ => k - (intOf vi).toNat)
  case atStart => exact ⟨0, 0, d, rfl, rfl, rfl, by omega, ⟨rfl, rfl⟩, rfl⟩
  case round =>
    obtain ⟨i, s, x, rfl, rfl, rfl, hi, HV, hw⟩ := hrel
    have hw := hw.symm
    subst hw
    by_cases hlt : i < k
    · have hib : (i : Int) < (k : Int) := by omega
      have hs : s ≤ 4096 := by
        rw [HV.out.1]
        exact Nat.le_trans (gs_le (by omega) i) (Nat.le_trans (Nat.mul_le_mul (show i ≤ 64 by omega) hd2) (by omega))
      have hx : x ≤ 64 := by rw [HV.out.2]; exact Nat.le_trans (gd_le (by omega) i) hd2
      obtain ⟨y, hy⟩ : ∃ y, y = (x + D.q - 1) / D.q := ⟨_, rfl⟩
      have HR : Hid (s + x = gs D.q d (i + 1) ∧ y = gd D.q d (i + 1)) := by
        refine ⟨?_, ?_⟩
        · show s + x = gs D.q d i + gd D.q d i; rw [HV.out.1, HV.out.2]
        · show y = (gd D.q d i + D.q - 1) / D.q; rw [hy, HV.out.2]
      have HC : Hid (∀ ww : World, Calls Try.prog 82 #[.int .i64 (x : Nat), .int .i64 (D.q : Nat)] ww fun e w' => e = .returned (.int .i64 (y : Nat)) ∧ w' = ww) := fun ww => by
        rw [hy]; exact roundUp_any x D.q (by omega) (by omega) (by omega) ww
      clear hy
      go_wp2_with (go_at_call 82; refine (HC.out _).mono ?_; rintro e w2 ⟨rfl, hw⟩; have hw := hw.symm; subst hw)
      go_roundw
      case rel => exact ⟨i + 1, s + x, y, by go_num, rfl, by go_num, by omega, HR.out, by first | rfl | trivial⟩
      case measure => simp [intOf]; omega
    · have hie : i = k := by omega
      subst hie
      go_wp2
      go_ret2
      exact ⟨by rw [← HV.out.1]; rfl, H1.out⟩
end Go.Proofs.Ytbofcldmgjeklab

/- Plain mathematics: balls; a sum split into high and low parts, and divided. No Go text here. -/
namespace Go.Proofs.Ytbofcldmgjeklab

/-- How many words lie within r - 1 places. -/
def bls (q n : Nat) : Nat → Nat
  | 0 => 0
  | r + 1 => bls q n r + (q - 1) ^ r * chs n r
theorem bterm_le {q n r : Nat} (hq : 1 ≤ q) : (q - 1) ^ r * chs n r ≤ q ^ n := by
  have h := chs_pw (q - 1) n r
  rw [show q - 1 + 1 = q by omega] at h
  exact h
theorem bls_le {q n : Nat} (hq : 1 ≤ q) : ∀ r, bls q n r ≤ r * q ^ n
  | 0 => by show 0 ≤ _; omega
  | r + 1 => by
    have h1 := bls_le (n := n) hq r
    have h2 := bterm_le (n := n) (r := r) hq
    show bls q n r + (q - 1) ^ r * chs n r ≤ _
    rw [Nat.add_mul]
    omega
theorem bls_pos {q n : Nat} : ∀ r, 1 ≤ bls q n (r + 1)
  | 0 => by
    show 1 ≤ 0 + (q - 1) ^ 0 * chs n 0
    rw [chs_zero]; simp
  | r + 1 => by
    have := bls_pos (q := q) (n := n) r
    show 1 ≤ bls q n (r + 1) + _
    omega

end Go.Proofs.Ytbofcldmgjeklab

/- Weights: balls, and numbers of sets of the reference (printed by make/kb2.py). -/
namespace Go.Proofs.Ytbofcldmgjeklab
open Go.RowKit

set_option maxHeartbeats 4000000 in
set_option maxRecDepth 100000 in
theorem wball_any (q n r : Nat) (hq : 2 ≤ q) (hq2 : q ≤ 64) (hp : q ^ n ≤ 1073741824) (hr : r ≤ n) (w : World) :
    Calls Try.prog 81 #[.int .i64 (q : Nat), .int .i64 (n : Nat), .int .i64 (r : Nat)] w fun e w' => e = .returned (.int .i64 (bls q n (r + 1) : Nat)) ∧ w' = w := by
  have hn30 : n ≤ 30 := pow30 hq hp
  go_enter Try.func81, Try.ntmps81
  go_wp2
  go_loopw [7, 11] (fun vs vi wr => ∃ i s : Nat, vs = .int .i64 (s : Nat) ∧ vi = .int .i64 (i : Nat) ∧ i ≤ r + 1 ∧ Hid (s = bls q n i) ∧ wr = w) (fun _ vi _ => r + 1 - (intOf vi).toNat)
  case atStart => exact ⟨0, 0, rfl, rfl, by omega, rfl, rfl⟩
  case round =>
    obtain ⟨i, s, rfl, rfl, hi, HS, hw⟩ := hrel
    have hw := hw.symm
    subst hw
    have hs : s ≤ 34359738368 := by
      rw [HS.out]
      refine Nat.le_trans (bls_le (by omega) i) (Nat.le_trans (Nat.mul_le_mul (show i ≤ 32 by omega) hp) (by omega))
    by_cases hlt : i < r + 1
    · have hib : (i : Int) < (r : Int) + 1 := by omega
      obtain ⟨pw, hpw⟩ : ∃ pw, pw = (q - 1) ^ i := ⟨_, rfl⟩
      obtain ⟨o1, ho1⟩ : ∃ o1, o1 = chs n i := ⟨_, rfl⟩
      have hpwb : pw ≤ 1073741824 := by
        rw [hpw]
        have h1 : (q - 1) ^ i ≤ q ^ i := Nat.pow_le_pow_left (by omega) i
        have h2 : q ^ i ≤ q ^ n := Nat.pow_le_pow_right (by omega) (by omega)
        omega
      obtain ⟨P, hP⟩ : ∃ P, P = pw * o1 := ⟨_, rfl⟩
      have hP2 : P ≤ 1073741824 := by rw [hP, hpw, ho1]; exact Nat.le_trans (bterm_le (by omega)) hp
      have HPw : Hid (Calls Try.prog 75 #[.int .i64 ((q : Int) - 1), .int .i64 (i : Nat)] w fun e w' => e = .returned (.int .i64 (pw : Nat)) ∧ w' = w) := by
        show Calls _ _ _ _ _
        rw [show (q : Int) - 1 = ((q - 1 : Nat) : Int) by omega, hpw]
        exact wpow_is (q - 1) i (by omega) (by omega) (by omega) (by rw [← hpw]; exact hpwb) w
      have HO1 : Hid (Calls Try.prog 115 #[.int .i64 (n : Nat), .int .i64 (i : Nat)] w fun e w' => e = .returned (.int .i64 (o1 : Nat)) ∧ w' = w) := by
        show Calls _ _ _ _ _
        rw [ho1]; exact wover_any n i (by omega) (by omega) w
      have hw1 : IntKind.i64.wrap ((pw : Int) * (o1 : Int)) = (P : Int) := by
        rw [show (pw : Int) * (o1 : Int) = (P : Int) by rw [hP]; simp]
        exact wrap_ka (by omega) (by omega)
      have HR : Hid (s + P = bls q n (i + 1)) := by
        show s + P = bls q n i + (q - 1) ^ i * chs n i
        rw [HS.out, hP, hpw, ho1]
      clear hP hpw ho1 HS
      go_wp2_with fail
      refine HPw.out.mono ?_
      rintro e w' ⟨rfl, hw⟩
      have hw := hw.symm
      subst hw
      go_wp2_with fail
      refine HO1.out.mono ?_
      rintro e w' ⟨rfl, hw⟩
      have hw := hw.symm
      subst hw
      go_wp2
      go_roundw
      case rel => exact ⟨i + 1, s + P, by first | rfl | simp [hw1] | go_num, by go_num, by omega, HR.out, by first | rfl | trivial⟩
      case measure => simp [intOf]; omega
    · have hib : ¬ (i : Int) < (r : Int) + 1 := by omega
      have hie : i = r + 1 := by omega
      subst hie
      go_wp2
      go_ret
      exact ⟨by rw [← HS.out]; rfl, rfl⟩

end Go.Proofs.Ytbofcldmgjeklab

/- Plain mathematics: sums of products, bounded by the sum of the numbers; split into two parts. No Go text here. -/
namespace Go.Proofs.Ytbofcldmgjeklab

/-- The sum of numbers. -/
def tsm (f : Nat → Int) (r : Nat) : Int := vsm f (fun _ => 1) r
theorem tsm_succ (f : Nat → Int) (r : Nat) : tsm f (r + 1) = tsm f r + f r := by
  show vsm f (fun _ => 1) r + f r * 1 = _
  rw [Int.mul_one]; rfl
theorem tsm_nn {f : Nat → Int} {N : Nat} (hf : ∀ j, j < N → 0 ≤ f j) : ∀ r, r ≤ N → 0 ≤ tsm f r
  | 0, _ => Int.le_refl _
  | r + 1, h => by
    have h1 := tsm_nn hf r (by omega)
    have h2 := hf r (by omega)
    rw [tsm_succ]
    omega
theorem tsm_mono {f : Nat → Int} {N : Nat} (hf : ∀ j, j < N → 0 ≤ f j) : ∀ d r, r + d ≤ N → tsm f r ≤ tsm f (r + d)
  | 0, r, _ => Int.le_refl _
  | d + 1, r, h => by
    have h1 := tsm_mono hf d r (by omega)
    have h2 := hf (r + d) (by omega)
    rw [show r + (d + 1) = r + d + 1 from rfl, tsm_succ]
    omega
theorem tsm_le {f : Nat → Int} {N : Nat} (hf : ∀ j, j < N → 0 ≤ f j) {r : Nat} (hr : r ≤ N) : tsm f r ≤ tsm f N := by
  have h := tsm_mono hf (N - r) r (by omega)
  rw [show r + (N - r) = N by omega] at h
  exact h
theorem tsm_below {f g : Nat → Int} {N : Nat} (hg : ∀ j, j < N → g j ≤ f j) : ∀ r, r ≤ N → tsm g r ≤ tsm f r
  | 0, _ => Int.le_refl _
  | r + 1, h => by
    have h1 := tsm_below hg r (by omega)
    have h2 := hg r (by omega)
    rw [tsm_succ, tsm_succ]
    omega
theorem vsm_bound {f K : Nat → Int} {B N : Nat} (hf : ∀ j, j < N → 0 ≤ f j) (hK : ∀ j, j < N → (K j).natAbs ≤ B) : ∀ r, r ≤ N → (vsm f K r).natAbs ≤ B * (tsm f r).toNat
  | 0, _ => by show (0 : Int).natAbs ≤ _; simp
  | r + 1, h => by
    have h1 := vsm_bound hf hK r (by omega)
    have h2 := hf r (by omega)
    have h3 := tsm_nn hf r (by omega)
    have h4 : (f r * K r).natAbs ≤ B * (f r).toNat := by
      rw [Int.natAbs_mul, Nat.mul_comm]
      exact Nat.mul_le_mul (hK r (by omega)) (by omega)
    have h5 := Int.natAbs_add_le (vsm f K r) (f r * K r)
    rw [tsm_succ, show (tsm f r + f r).toNat = (tsm f r).toNat + (f r).toNat by omega, Nat.mul_add]
    show (vsm f K r + f r * K r).natAbs ≤ _
    omega
theorem tsm_part {f : Nat → Int} : ∀ r, 32768 * tsm (fun j => f j / 32768) r ≤ tsm f r
  | 0 => Int.le_refl _
  | r + 1 => by
    have h1 := tsm_part (f := f) r
    rw [tsm_succ, tsm_succ]
    omega
/-- What both sides hold of a sum, for numbers that may be. -/
structure Trn (f K : Nat → Int) (N : Nat) (A : Int) : Prop where
  nn : ∀ j, j < N → 0 ≤ f j
  kb : ∀ j, j < N → (K j).natAbs ≤ 1073741824
  sum : tsm f N = A
  pos : 0 < A
  le : A ≤ 1073741824
theorem Trn.any {f K g : Nat → Int} {N : Nat} {A : Int} (h : Trn f K N A) (hg : ∀ j, j < N → 0 ≤ g j ∧ g j ≤ f j) : ∀ r, r ≤ N → (vsm g K r).natAbs ≤ 1152921504606846976 := fun r hr => by
  have h1 := vsm_bound (fun j hj => (hg j hj).1) h.kb r hr
  have h2 := tsm_below (fun j hj => (hg j hj).2) r hr
  have h3 := tsm_le h.nn hr
  have h4 := h.sum
  have h5 := h.le
  have h6 : 1073741824 * (tsm g r).toNat ≤ 1073741824 * 1073741824 := Nat.mul_le_mul_left _ (by omega)
  omega
/-- The high part, divided, is small. -/
theorem Trn.high {f K : Nat → Int} {N : Nat} {A : Int} (h : Trn f K N A) : ((vsm (fun j => f j / 32768) K N).tdiv A * 32768).natAbs ≤ 1073741824 := by
  have hf2 : ∀ j, j < N → 0 ≤ f j / 32768 := fun j hj => by have := h.nn j hj; omega
  have h1 := vsm_bound hf2 h.kb N (Nat.le_refl _)
  have h2 := tsm_part (f := f) N
  have h3 := tsm_nn hf2 N (Nat.le_refl _)
  have h4 := h.sum
  have h5 := h.pos
  obtain ⟨H, hH⟩ : ∃ H, H = vsm (fun j => f j / 32768) K N := ⟨_, rfl⟩
  obtain ⟨T, hT⟩ : ∃ T, T = (tsm (fun j => f j / 32768) N).toNat := ⟨_, rfl⟩
  rw [← hH, ← hT] at h1
  rw [← hH]
  have h6 : 32768 * T ≤ A.natAbs := by omega
  have h7 : H.natAbs * 32768 ≤ 1073741824 * A.natAbs := by
    have : H.natAbs * 32768 ≤ 1073741824 * T * 32768 := Nat.mul_le_mul_right _ h1
    rw [Nat.mul_assoc, Nat.mul_comm T] at this
    exact Nat.le_trans this (Nat.mul_le_mul_left _ h6)
  rw [Int.natAbs_mul, Int.natAbs_tdiv]
  have h8 : H.natAbs / A.natAbs * A.natAbs ≤ H.natAbs := Nat.div_mul_le_self _ _
  have h9 : H.natAbs / A.natAbs * 32768 * A.natAbs ≤ 1073741824 * A.natAbs := by
    have := Nat.mul_le_mul_right 32768 h8
    rw [Nat.mul_right_comm]
    exact Nat.le_trans this h7
  exact Nat.le_of_mul_le_mul_right h9 (by omega)
end Go.Proofs.Ytbofcldmgjeklab
