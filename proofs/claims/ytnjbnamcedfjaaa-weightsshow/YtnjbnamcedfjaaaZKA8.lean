/- Weights: Shows of the program where the lengths may be. -/
import Derived.Test.YtnjbnamcedfjaaaZKA7
import Derived.Laws.EntriesVeiled
namespace Go.Proofs.Ytnjbnamcedfjaaa
open Go.RowKit Go.Sort

set_option maxHeartbeats 2000000 in
set_option maxRecDepth 100000 in
theorem shows_cnt (q n d : Int) {ao : Option Addr} {N cap : Nat} {f : Nat → Int} (hN : (N : Int) ≠ n + 1) (hn : 0 ≤ n) (hn2 : n ≤ 1000) {w : World} (hX : Arg ao N cap f w) (hC : ∀ wx, Calls Try.prog 47 #[.int .i64 q, .int .i64 n, .int .i64 d] wx fun e w' => e = .returned (.int .i64 0) ∧ Below wx.heap.size wx w') :
    Calls Try.prog 16 #[.int .i64 q, .int .i64 n, .int .i64 d, .slice ao N cap] w fun e w' => e = .returned (.tuple #[.int .i64 0, .int .i64 0, .bool false, .int .i64 6]) ∧ Below w.heap.size w w' := by
  obtain ⟨wa, hwa⟩ : ∃ wa, wa = shw w q n (.slice ao N cap) := ⟨_, rfl⟩
  have HC : Hid (Calls Try.prog 47 #[.int .i64 q, .int .i64 n, .int .i64 d] wa fun e w' => e = .returned (.int .i64 0) ∧ Below wa.heap.size wa w') := hC wa
  have HA : Hid (Below w.heap.size w wa ∧ wa.heap.size = w.heap.size + 3 ∧ wa.cell? ⟨w.heap.size, 0, none⟩ = some (.int .i64 q) ∧ wa.cell? ⟨w.heap.size + 1, 0, none⟩ = some (.int .i64 n) ∧ wa.cell? ⟨w.heap.size + 1 + 1, 0, none⟩ = some (.slice ao N cap)) := by rw [hwa]; exact ⟨shw_below _ _ _ _, shw_size _ _ _ _, shw_cells _ _ _ _⟩
  have HX : Hid (Arg ao N cap f w) := hX
  unfold shw at hwa
  clear hC hX
  go_enter Try.func16, Try.ntmps16
  go_wp2_with fail
  rw [← hwa]
  clear hwa
  refine HC.out.mono ?_
  rintro e w1 ⟨rfl, hb⟩
  have hs := HA.out.2.1
  have hs1 := hb.size
  have H1 : Hid (Below w.heap.size w w1 ∧ Arg ao N cap f w1) := ⟨bel_up' HA.out.1 hb, HX.out.below (bel_up' HA.out.1 hb)⟩
  have c4 := ((bcell hb).1 w.heap.size 0 (by omega)).trans HA.out.2.2.1
  have c5 := ((bcell hb).1 (w.heap.size + 1) 0 (by omega)).trans HA.out.2.2.2.1
  have c7 := ((bcell hb).1 (w.heap.size + 1 + 1) 0 (by omega)).trans HA.out.2.2.2.2
  have l7 : w.heap.size + 1 + 1 < w1.heap.size := by omega
  have l5 : w.heap.size + 1 < w1.heap.size := by omega
  have l4 : w.heap.size < w1.heap.size := by omega
  clear hb hs hs1
  have hz : ((N : Int) != n + 1) = true := by rw [bne_iff_ne]; exact hN
  go_wp2
  refine bodyPost_ret (results_four rfl _ _ _) rfl ?_
  exact ⟨rfl, H1.out.1⟩

set_option maxHeartbeats 2000000 in
set_option maxRecDepth 100000 in
theorem shows_val (q n d : Int) {ao : Option Addr} {N cap : Nat} {f : Nat → Int} (hN : (N : Int) = n + 1) (hn : 0 ≤ n) (hn2 : n ≤ 1000) (ho : outB f 1048576 N = true) {w : World} (hX : Arg ao N cap f w) (hC : ∀ wx, Calls Try.prog 47 #[.int .i64 q, .int .i64 n, .int .i64 d] wx fun e w' => e = .returned (.int .i64 0) ∧ Below wx.heap.size wx w') :
    Calls Try.prog 16 #[.int .i64 q, .int .i64 n, .int .i64 d, .slice ao N cap] w fun e w' => e = .returned (.tuple #[.int .i64 0, .int .i64 0, .bool false, .int .i64 2]) ∧ Below w.heap.size w w' := by
  obtain ⟨wa, hwa⟩ : ∃ wa, wa = shw w q n (.slice ao N cap) := ⟨_, rfl⟩
  have HC : Hid (Calls Try.prog 47 #[.int .i64 q, .int .i64 n, .int .i64 d] wa fun e w' => e = .returned (.int .i64 0) ∧ Below wa.heap.size wa w') := hC wa
  have HA : Hid (Below w.heap.size w wa ∧ wa.heap.size = w.heap.size + 3 ∧ wa.cell? ⟨w.heap.size, 0, none⟩ = some (.int .i64 q) ∧ wa.cell? ⟨w.heap.size + 1, 0, none⟩ = some (.int .i64 n) ∧ wa.cell? ⟨w.heap.size + 1 + 1, 0, none⟩ = some (.slice ao N cap)) := by rw [hwa]; exact ⟨shw_below _ _ _ _, shw_size _ _ _ _, shw_cells _ _ _ _⟩
  have HX : Hid (Arg ao N cap f w) := hX
  unfold shw at hwa
  clear hC hX
  go_enter Try.func16, Try.ntmps16
  go_wp2_with fail
  rw [← hwa]
  clear hwa
  refine HC.out.mono ?_
  rintro e w1 ⟨rfl, hb⟩
  have hs := HA.out.2.1
  have hs1 := hb.size
  have H1 : Hid (Below w.heap.size w w1 ∧ Arg ao N cap f w1) := ⟨bel_up' HA.out.1 hb, HX.out.below (bel_up' HA.out.1 hb)⟩
  have c4 := ((bcell hb).1 w.heap.size 0 (by omega)).trans HA.out.2.2.1
  have c5 := ((bcell hb).1 (w.heap.size + 1) 0 (by omega)).trans HA.out.2.2.2.1
  have c7 := ((bcell hb).1 (w.heap.size + 1 + 1) 0 (by omega)).trans HA.out.2.2.2.2
  have l7 : w.heap.size + 1 + 1 < w1.heap.size := by omega
  have l5 : w.heap.size + 1 < w1.heap.size := by omega
  have l4 : w.heap.size < w1.heap.size := by omega
  clear hb hs hs1
  have HO : Hid (Calls Try.prog 48 #[.slice ao N cap, .int .i64 1048576] w1 fun e w' => e = .returned (.bool true) ∧ Below w1.heap.size w1 w') := by
    show Calls _ _ _ _ _
    rw [← ho]
    exact outside_any 1048576 H1.out.2.sl H1.out.2.lt H1.out.2.few
  clear ho
  have hz : ((N : Int) != n + 1) = false := by rw [hN]; simp
  go_wp2_with fail
  refine HO.out.mono ?_
  rintro e w2 ⟨rfl, hb⟩
  have H2 : Hid (Below w.heap.size w w2) := bel_up' H1.out.1 hb
  clear hb
  go_wp2
  refine bodyPost_ret (results_four rfl _ _ _) rfl ?_
  exact ⟨rfl, H2.out⟩

set_option maxHeartbeats 2000000 in
set_option maxRecDepth 100000 in
theorem shows_zero (q n d : Int) {ao : Option Addr} {N cap : Nat} {f : Nat → Int} (hN : (N : Int) = n + 1) (hn : 0 ≤ n) (hn2 : n ≤ 1000) (ho : outB f 1048576 N = false) (hf : f 0 = 0) {w : World} (hX : Arg ao N cap f w) (hC : ∀ wx, Calls Try.prog 47 #[.int .i64 q, .int .i64 n, .int .i64 d] wx fun e w' => e = .returned (.int .i64 0) ∧ Below wx.heap.size wx w') :
    Calls Try.prog 16 #[.int .i64 q, .int .i64 n, .int .i64 d, .slice ao N cap] w fun e w' => e = .returned (.tuple #[.int .i64 0, .int .i64 0, .bool false, .int .i64 0]) ∧ Below w.heap.size w w' := by
  obtain ⟨wa, hwa⟩ : ∃ wa, wa = shw w q n (.slice ao N cap) := ⟨_, rfl⟩
  have HC : Hid (Calls Try.prog 47 #[.int .i64 q, .int .i64 n, .int .i64 d] wa fun e w' => e = .returned (.int .i64 0) ∧ Below wa.heap.size wa w') := hC wa
  have HA : Hid (Below w.heap.size w wa ∧ wa.heap.size = w.heap.size + 3 ∧ wa.cell? ⟨w.heap.size, 0, none⟩ = some (.int .i64 q) ∧ wa.cell? ⟨w.heap.size + 1, 0, none⟩ = some (.int .i64 n) ∧ wa.cell? ⟨w.heap.size + 1 + 1, 0, none⟩ = some (.slice ao N cap)) := by rw [hwa]; exact ⟨shw_below _ _ _ _, shw_size _ _ _ _, shw_cells _ _ _ _⟩
  have HX : Hid (Arg ao N cap f w) := hX
  unfold shw at hwa
  clear hC hX
  go_enter Try.func16, Try.ntmps16
  go_wp2_with fail
  rw [← hwa]
  clear hwa
  refine HC.out.mono ?_
  rintro e w1 ⟨rfl, hb⟩
  have hs := HA.out.2.1
  have hs1 := hb.size
  have H1 : Hid (Below w.heap.size w w1 ∧ Arg ao N cap f w1) := ⟨bel_up' HA.out.1 hb, HX.out.below (bel_up' HA.out.1 hb)⟩
  have c4 := ((bcell hb).1 w.heap.size 0 (by omega)).trans HA.out.2.2.1
  have c5 := ((bcell hb).1 (w.heap.size + 1) 0 (by omega)).trans HA.out.2.2.2.1
  have c7 := ((bcell hb).1 (w.heap.size + 1 + 1) 0 (by omega)).trans HA.out.2.2.2.2
  have l7 : w.heap.size + 1 + 1 < w1.heap.size := by omega
  have l5 : w.heap.size + 1 < w1.heap.size := by omega
  have l4 : w.heap.size < w1.heap.size := by omega
  clear hb hs hs1
  have HO : Hid (Calls Try.prog 48 #[.slice ao N cap, .int .i64 1048576] w1 fun e w' => e = .returned (.bool false) ∧ Below w1.heap.size w1 w') := by
    show Calls _ _ _ _ _
    rw [← ho]
    exact outside_any 1048576 H1.out.2.sl H1.out.2.lt H1.out.2.few
  clear ho
  have hz : ((N : Int) != n + 1) = false := by rw [hN]; simp
  go_wp2_with fail
  refine HO.out.mono ?_
  rintro e w2 ⟨rfl, hb⟩
  have hs2 := hb.size
  have H2 : Hid (Below w.heap.size w w2 ∧ Arg ao N cap f w2) := ⟨bel_up' H1.out.1 hb, H1.out.2.below hb⟩
  have c4 := ((bcell hb).1 w.heap.size 0 l4).trans c4
  have c5 := ((bcell hb).1 (w.heap.size + 1) 0 l5).trans c5
  have c7 := ((bcell hb).1 (w.heap.size + 1 + 1) 0 l7).trans c7
  have l4 : w.heap.size < w2.heap.size := by omega
  have l5 : w.heap.size + 1 < w2.heap.size := by omega
  have l7 : w.heap.size + 1 + 1 < w2.heap.size := by omega
  clear hb hs2
  obtain ⟨b, off, hao, c0⟩ := H2.out.2.sl 0 (by omega)
  have lb : b < w2.heap.size := H2.out.2.lt _ hao
  subst hao
  rw [Nat.add_zero] at c0
  rw [hf] at c0
  go_wp2
  refine bodyPost_ret (results_four rfl _ _ _) rfl ?_
  exact ⟨rfl, H2.out.1.alloc (by omega) _⟩

set_option maxHeartbeats 2000000 in
set_option maxRecDepth 100000 in
theorem shows_at {q n d : Nat} (hq : 2 ≤ q) (hq2 : q ≤ 64) (hp : q ^ n ≤ 1073741824) (hn2 : n ≤ 30) (hd : d ≤ n) {ao : Option Addr} {cap : Nat} {f : Nat → Int} (ho : outB f 1048576 (n + 1) = false) (hf : f 0 ≠ 0) (bb : Bool) (hbb : bb = foundB (fun x => decide (0 < dsm q n f x)) d (n + 1 - d)) {w : World} (hX : Arg ao (n + 1) cap f w) (hC : ∀ wx, Calls Try.prog 47 #[.int .i64 (q : Nat), .int .i64 (n : Nat), .int .i64 (d : Nat)] wx fun e w' => e = .returned (.int .i64 0) ∧ Below wx.heap.size wx w') :
    Calls Try.prog 16 #[.int .i64 (q : Nat), .int .i64 (n : Nat), .int .i64 (d : Nat), .slice ao (n + 1 : Nat) cap] w fun e w' => e = .returned (if bb = true then .tuple #[.int .i64 0, .int .i64 0, .bool false, .int .i64 0] else .tuple #[.int .i64 (dsm q n f 0), .int .i64 (f 0), .bool true, .int .i64 0]) ∧ Below w.heap.size w w' := by
  have HG : Hid (q ^ n ≤ 1073741824 ∧ outB f 1048576 (n + 1) = false ∧ bb = foundB (fun x => decide (0 < dsm q n f x)) d (n + 1 - d)) := ⟨hp, ho, hbb⟩
  obtain ⟨N, hN0⟩ : ∃ N, N = n + 1 := ⟨_, rfl⟩
  rw [← hN0] at ho hX ⊢
  have hN : (N : Int) = (n : Int) + 1 := by omega
  have HN0 : Hid (N = n + 1) := hN0
  clear hp hbb hN0
  obtain ⟨wa, hwa⟩ : ∃ wa, wa = shw w (q : Nat) (n : Nat) (.slice ao N cap) := ⟨_, rfl⟩
  have HC : Hid (Calls Try.prog 47 #[.int .i64 (q : Nat), .int .i64 (n : Nat), .int .i64 (d : Nat)] wa fun e w' => e = .returned (.int .i64 0) ∧ Below wa.heap.size wa w') := hC wa
  have HA : Hid (Below w.heap.size w wa ∧ wa.heap.size = w.heap.size + 3 ∧ wa.cell? ⟨w.heap.size, 0, none⟩ = some (.int .i64 (q : Nat)) ∧ wa.cell? ⟨w.heap.size + 1, 0, none⟩ = some (.int .i64 (n : Nat)) ∧ wa.cell? ⟨w.heap.size + 1 + 1, 0, none⟩ = some (.slice ao N cap)) := by rw [hwa]; exact ⟨shw_below _ _ _ _, shw_size _ _ _ _, shw_cells _ _ _ _⟩
  have HX : Hid (Arg ao N cap f w) := hX
  unfold shw at hwa
  clear hC hX
  go_enter Try.func16, Try.ntmps16
  go_wp2_with fail
  rw [← hwa]
  clear hwa
  refine HC.out.mono ?_
  rintro e w1 ⟨rfl, hb⟩
  have hs := HA.out.2.1
  have hs1 := hb.size
  have H1 : Hid (Below w.heap.size w w1 ∧ Arg ao N cap f w1) := ⟨bel_up' HA.out.1 hb, HX.out.below (bel_up' HA.out.1 hb)⟩
  have c4 := ((bcell hb).1 w.heap.size 0 (by omega)).trans HA.out.2.2.1
  have c5 := ((bcell hb).1 (w.heap.size + 1) 0 (by omega)).trans HA.out.2.2.2.1
  have c7 := ((bcell hb).1 (w.heap.size + 1 + 1) 0 (by omega)).trans HA.out.2.2.2.2
  have l7 : w.heap.size + 1 + 1 < w1.heap.size := by omega
  have l5 : w.heap.size + 1 < w1.heap.size := by omega
  have l4 : w.heap.size < w1.heap.size := by omega
  clear hb hs hs1
  have HO : Hid (Calls Try.prog 48 #[.slice ao N cap, .int .i64 1048576] w1 fun e w' => e = .returned (.bool false) ∧ Below w1.heap.size w1 w') := by
    show Calls _ _ _ _ _
    rw [← ho]
    exact outside_any 1048576 H1.out.2.sl H1.out.2.lt H1.out.2.few
  clear ho
  have hz : ((N : Int) != (n : Int) + 1) = false := by rw [hN]; simp
  go_wp2_with fail
  refine HO.out.mono ?_
  rintro e w2 ⟨rfl, hb⟩
  have hs2 := hb.size
  have H2 : Hid (Below w.heap.size w w2 ∧ Arg ao N cap f w2) := ⟨bel_up' H1.out.1 hb, H1.out.2.below hb⟩
  have c4 := ((bcell hb).1 w.heap.size 0 l4).trans c4
  have c5 := ((bcell hb).1 (w.heap.size + 1) 0 l5).trans c5
  have c7 := ((bcell hb).1 (w.heap.size + 1 + 1) 0 l7).trans c7
  have l4 : w.heap.size < w2.heap.size := by omega
  have l5 : w.heap.size + 1 < w2.heap.size := by omega
  have l7 : w.heap.size + 1 + 1 < w2.heap.size := by omega
  clear hb hs2
  have HF : Hid (∀ j, j < n + 1 → 0 ≤ f j ∧ f j ≤ 1048576) := outB_no HG.out.2.1
  obtain ⟨b, off, hao, c0⟩ := H2.out.2.sl 0 (by omega)
  have lb : b < w2.heap.size := H2.out.2.lt _ hao
  subst hao
  rw [Nat.add_zero] at c0
  obtain ⟨f0, hf0⟩ : ∃ f0, f0 = f 0 := ⟨_, rfl⟩
  rw [← hf0] at c0 hf
  have HF0 : Hid (f0 = f 0) := hf0
  clear hf0
  obtain ⟨w3, hw3⟩ : ∃ w3, w3 = w2.alloc (.cells #[.func (.func 49) #[] #[.pointer (some ⟨w.heap.size + 1 + 1, 0, none⟩), .pointer (some ⟨w.heap.size, 0, none⟩), .pointer (some ⟨w.heap.size + 1, 0, none⟩)]] 54) := ⟨_, rfl⟩
  have hal : Below w2.heap.size w2 w3 := by rw [hw3]; exact (Below.refl _ _).alloc (Nat.le_refl _) _
  have s3 : w3.heap.size = w2.heap.size + 1 := by rw [hw3]; simp
  have ca : w3.cell? ⟨w2.heap.size, 0, none⟩ = some (.func (.func 49) #[] #[.pointer (some ⟨w.heap.size + 1 + 1, 0, none⟩), .pointer (some ⟨w.heap.size, 0, none⟩), .pointer (some ⟨w.heap.size + 1, 0, none⟩)]) := by rw [hw3]; simp
  have H3 : Hid (Below w.heap.size w w3 ∧ Arg (some ⟨b, off, none⟩) N cap f w3 ∧ ShB (w.heap.size + 1 + 1) w.heap.size (w.heap.size + 1) q n (some ⟨b, off, none⟩) cap f w3) := by
    have hA3 := H2.out.2.below hal
    refine ⟨bel_up' H2.out.1 hal, hA3, ?_⟩
    have hsl := hA3.sl
    rw [HN0.out] at hsl
    refine ⟨?_, ((bcell hal).1 _ 0 l4).trans c4, ((bcell hal).1 _ 0 l5).trans c5, hsl, by omega, by omega, by omega, hA3.lt⟩
    rw [← HN0.out]; exact ((bcell hal).1 _ 0 l7).trans c7
  have HFd : Hid (Calls Try.prog 52 #[.int .i64 (d : Nat), .int .i64 (n : Nat), .func (.func 53) #[] #[.pointer (some ⟨w2.heap.size, 0, none⟩)]] w3 fun e w' => e = .returned (.bool bb) ∧ Below w3.heap.size w3 w') := by
    show Calls _ _ _ _ _
    rw [HG.out.2.2]
    refine found_any enters_s2 hd (by omega) (fun j wx hj hj2 hb => ?_)
    have e : (#[Value.int .i64 (j : Nat)] ++ #[Value.pointer (some ⟨w2.heap.size, 0, none⟩)] : Array Value) = #[.int .i64 (j : Nat), .pointer (some ⟨w2.heap.size, 0, none⟩)] := rfl
    rw [e]
    exact s2_any hq hq2 HG.out.1 hn2 HF.out j hj2 (H3.out.2.2.below hb) (((bcell hb).1 w2.heap.size 0 (by omega)).trans ca)
  have hz0 : (f0 == 0) = false := by rw [beq_eq_false_iff_ne]; exact hf
  go_wp2_with fail
  rw [← hw3]
  refine HFd.out.mono ?_
  rintro e w4 ⟨rfl, hb⟩
  cases bb
  · have hbw : Below w.heap.size w w4 := bel_up' H3.out.1 hb
    have hB4 := H3.out.2.2.below hb
    have hA4 := H3.out.2.1.below hb
    have hs4 := hb.size
    obtain ⟨v0, hv0⟩ : ∃ v0, v0 = dsm q n f 0 := ⟨_, rfl⟩
    have HC1 : Hid (∀ d os, Calls Try.prog 49 (#[.int .i64 0] ++ #[.pointer (some ⟨w.heap.size + 1 + 1, 0, none⟩), .pointer (some ⟨w.heap.size, 0, none⟩), .pointer (some ⟨w.heap.size + 1, 0, none⟩)]) (grow (redrawn w4 d) os) fun e w'' => e = .returned (.int .i64 v0) ∧ ∃ p : Regrown, w'' = grow (redrawn w4 p.d) p.os) := fun d os => by
      rw [hv0]
      exact Calls.regrown_of (s1_any hq hq2 HG.out.1 hn2 HF.out 0 (by omega) (hB4.below (below_regrown w4 d os)))
    have HV0 : Hid (v0 = dsm q n f 0) := hv0
    have k13 := cell_regrown (w := w4) (((bcell hb).1 w2.heap.size 0 (by omega)).trans ca)
    have k7 := cell_regrown (w := w4) (((bcell hb).1 (w.heap.size + 1 + 1) 0 (by omega)).trans (((bcell hal).1 _ 0 l7).trans c7))
    have k0 := cell_regrown (w := w4) (((bcell hb).1 b off (by omega)).trans (((bcell hal).1 _ _ lb).trans c0))
    have H4 : Hid (Below w.heap.size w w4) := hbw
    have eg := enters_s1
    clear hb hbw hB4 hA4 hv0
    go_wp2
    refine below_tail 6 (by kernel_rfl) (by kernel_rfl) ?_
    simp only [List.take_succ_cons, List.take_zero, List.drop_succ_cons, List.drop_zero]
    repeat (go_big_quiet_step (first | (go_at_fn 49; exact HC1.out _ _)))
    refine wpQuiet_nil ?_
    intro _ hw'
    obtain ⟨⟨ds, oss⟩, hw''⟩ := hw'
    subst hw''
    have H7 : Hid (Below w.heap.size w (grow (redrawn w4 ds) oss)) := bel_up' H4.out (below_regrown w4 ds oss)
    go_wp2
    refine bodyPost_ret (results_four rfl _ _ _) rfl ?_
    exact ⟨by rw [← HV0.out, ← HF0.out]; rfl, H7.out⟩
  · have H4 : Hid (Below w.heap.size w w4) := bel_up' H3.out.1 hb
    clear hb
    go_wp2
    refine bodyPost_ret (results_four rfl _ _ _) rfl ?_
    exact ⟨rfl, H4.out⟩
end Go.Proofs.Ytnjbnamcedfjaaa
