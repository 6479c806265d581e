/- Polar: the walk of PolarMade. -/
import Derived.Test.YtbfkacnpbelmlaaZKS33
import Derived.Test.YtbfkacnpbelmlaaZKE15
import Derived.Test.YtbfkacnpbelmlaaZL10
namespace Go.Proofs.Ytbfkacnpbelmlaa
open Go.RowKit Go.Sort

set_option maxHeartbeats 2000000 in
set_option maxRecDepth 100000 in
theorem pmade_long (m k l t : Int) {ao : Option Addr} {n c : Nat} (w : World) (hn : 256 < n) (_hn2 : n ≤ 17592186044416) :
    Calls Try.prog 4 #[.slice ao n c, .int .i64 m, .int .i64 k, .int .i64 l, .int .i64 t] w fun e w' => e = .returned (.bool true) ∧ Below w.heap.size w w' := by
  have h1 : (n : Int) > 256 := by omega
  have h2 : (256 : Int) < (n : Int) := by omega
  clear hn
  go_enter Try.func4, Try.ntmps4
  go_wp2
  go_ret
  exact ⟨rfl, Below.refl _ _⟩
theorem pk_any {c : Int} (hc : I64 c) {n : Nat} (h0 : 0 < n) (hn : n ≤ 1000) : ∃ x : Nat, x < n ∧ ∀ w : World, Calls Try.prog 18 #[.int .i64 c, .int .i64 (n : Nat)] w fun e w' => e = .returned (.int .i64 (x : Nat)) ∧ w' = w := by
  have h1 := pick_lo c (n : Int) (by omega)
  have h2 := pick_hi c (n : Int) (by omega)
  refine ⟨(pick c (n : Int)).toNat, by omega, fun w => ?_⟩
  have h := pick_any c (n : Int) w hc.1 hc.2 (by omega) (by omega)
  rw [show (((pick c (n : Int)).toNat : Nat) : Int) = pick c (n : Int) by omega]
  exact h

set_option maxHeartbeats 8000000 in
set_option maxRecDepth 100000 in
theorem pmade_walk {m k lost turned : Int} (hm : I64 m) (hk : I64 k) (hlo : I64 lost) (htu : I64 turned) {ao : Option Addr} {n c : Nat} {z : Nat → Int} {w : World} (ha : ArgL ao n c z w) (hn2 : n ≤ 17592186044416) :
    Calls Try.prog 4 #[.slice ao n c, .int .i64 m, .int .i64 k, .int .i64 lost, .int .i64 turned] w fun e w' => e = .returned (.bool true) ∧ Below w.heap.size w w' := by
  by_cases hn : 256 < n
  · exact pmade_long m k lost turned w hn hn2
  have hn3 : ¬ (n : Int) > 256 := by omega
  have hn4 : ¬ (256 : Int) < (n : Int) := by omega
  have hn5 : n ≤ 256 := by omega
  obtain ⟨M, hM, hpM⟩ := pk_any hm (n := 6) (by omega) (by omega)
  obtain ⟨N, hN⟩ : ∃ N, N = 2 ^ M := ⟨_, rfl⟩
  have hM5 : M ≤ 5 := by omega
  have hN2 := pow32 hM5 hN
  obtain ⟨N1, hN1⟩ : ∃ N1, N1 = N + 1 := ⟨_, rfl⟩
  obtain ⟨K, hK, hpK⟩ := pk_any hk (n := N1) (by omega) (by omega)
  obtain ⟨Lo, hLo, hpL⟩ := pk_any hlo (n := N) (by omega) (by omega)
  obtain ⟨Tu, hTu, hpT⟩ := pk_any htu (n := 4) (by omega) (by omega)
  have hNi : (2 : Int) ^ M = (N : Int) := by rw [hN]; simp
  have hNw : IntKind.i64.wrap (N : Int) = (N : Int) := wrap_to rfl (by omega)
  have hN1i : (N : Int) + 1 = (N1 : Int) := by omega
  have hN1w : IntKind.i64.wrap (N1 : Int) = (N1 : Int) := wrap_to rfl (by omega)
  have HA : Hid (Arg ao n c z w) := ha.arg (by omega)
  have HP0 : Hid (∀ w : World, Calls Try.prog 18 #[.int .i64 m, .int .i64 6] w fun e w' => e = .returned (.int .i64 (M : Nat)) ∧ w' = w) := hpM
  have HP1 : Hid (∀ w : World, Calls Try.prog 18 #[.int .i64 k, .int .i64 (N1 : Nat)] w fun e w' => e = .returned (.int .i64 (K : Nat)) ∧ w' = w) := hpK
  have HP2 : Hid (∀ w : World, Calls Try.prog 18 #[.int .i64 lost, .int .i64 (N : Nat)] w fun e w' => e = .returned (.int .i64 (Lo : Nat)) ∧ w' = w) := hpL
  have HP3 : Hid (∀ w : World, Calls Try.prog 18 #[.int .i64 turned, .int .i64 4] w fun e w' => e = .returned (.int .i64 (Tu : Nat)) ∧ w' = w) := hpT
  have HX : Hid (N = 2 ^ M ∧ K ≤ N ∧ 1 ≤ N) := ⟨hN, by omega, hN2.2⟩
  have HW : Hid (Calls Try.prog 19 #[.slice ao n c, .int .i64 0, .int .i64 (K : Nat), .bool false] w fun e w' => ∃ bo cb y, e = .returned (.slice bo K cb) ∧ SL bo K y w' ∧ allP isbt y K = true ∧ Below w.heap.size w w') := by
    refine (wordOf_any HA.out (by omega) 0 K false (by omega) (by omega)).mono ?_
    rintro e w' ⟨v, y, rfl, ho, hy, hb'⟩
    obtain ⟨bo, cb, rfl, hA⟩ := ho.argL
    refine ⟨bo, cb, y, rfl, ⟨hA.sl, hA.lt⟩, ?_, hb'⟩
    have : ∀ q, q ≤ K → allP isbt y q = true := fun q => by
      induction q with
      | zero => intro _; rfl
      | succ q ih =>
        intro hq
        show (allP isbt y q && isbt (y q)) = true
        rw [ih (by omega)]
        exact decide_eq_true ((hy q (by omega)).resolve_right (fun h => by cases h.1))
    exact this K (Nat.le_refl _)
  have hNb : N ≤ 32 := hN2.1
  clear hN hN1 hpM hpK hpL hpT ha hm hk hlo htu hN2 hn hK
  go_enter Try.func4, Try.ntmps4
  go_wp2_with fail
  refine (HP0.out w).mono ?_
  rintro e w' ⟨rfl, hw⟩
  have hw := hw.symm
  subst hw
  clear HP0
  go_wp2_with fail
  refine (HP1.out w).mono ?_
  rintro e w' ⟨rfl, hw⟩
  have hw := hw.symm
  subst hw
  clear HP1
  go_wp2_with fail
  refine HW.out.mono ?_
  rintro e w1 ⟨bo, cb, y, rfl, hS1, hy1, hb1⟩
  have HPw : Hid (Calls Try.prog 15 #[.int .i64 (M : Nat), .slice bo K cb] w1 fun e w' => ∃ g c9 y9, e = .returned (.slice (some ⟨g, 0, none⟩) N c9) ∧ N ≤ c9 ∧ c9 ≤ 9223372036854775807 ∧ w.heap.size ≤ g ∧ RowZ g N y9 w' ∧ Below w.heap.size w w') := by
    have hf := bits_of hS1 hy1
    refine (polarWord_any hM5 HX.out.1 HX.out.2.1 (fun i hi => by rw [HX.out.1]; exact bpl_lt hM5 (by rw [← HX.out.1]; exact HX.out.2.1) i hi) hf.1 hf.2.1 hf.2.2 (fun w1 => bestOf_zl hM5 HX.out.1 HX.out.2.1 w1)).mono ?_
    rintro e w' ⟨v, rfl, ho, hb⟩
    obtain ⟨g, c9, rfl, h1, h2, h3, h4⟩ := ho.rowZ (by have := HX.out.2.2; omega)
    exact ⟨g, c9, _, rfl, h1, h2, Nat.le_trans hb1.size h3, h4, bel_up' hb1 hb⟩
  clear hS1 hy1 hb1 HW
  go_wp2_with fail
  refine HPw.out.mono ?_
  rintro e w2 ⟨g, c9, y9, rfl, h91, h92, h93, h94, hb2⟩
  have H2 : Hid (RowZ g N y9 w2 ∧ Below w.heap.size w w2 ∧ w.heap.size ≤ g ∧ N ≤ c9 ∧ c9 ≤ 9223372036854775807) := ⟨h94, hb2, h93, h91, h92⟩
  clear h92 h93 h94 hb2 HPw
  go_wp2
  go_loopw [12] (fun vi wr => ∃ (t : Nat) (y : Nat → Int), t ≤ Lo ∧ vi = .int .i64 (t : Nat) ∧ Hid (RowZ g N y wr ∧ Below w.heap.size w wr)) (fun vi _ => Lo - (intOf vi).toNat)
  case atStart => exact ⟨0, y9, by omega, rfl, H2.out.1, H2.out.2.1⟩
  case round =>
    obtain ⟨t, y1, ht, rfl, HG⟩ := hrel
    rename World => wr
    go_wp2_with fail
    refine (HP2.out wr).mono ?_
    rintro e w' ⟨rfl, hw⟩
    have hw := hw.symm
    subst hw
    by_cases hlt : t < Lo
    · have hib : (t : Int) < (Lo : Int) := by omega
      obtain ⟨T4, hT4⟩ : ∃ T4, T4 = 40 + t := ⟨_, rfl⟩
      have hT4i : 40 + (t : Int) = (T4 : Int) := by omega
      have hT4w : IntKind.i64.wrap (T4 : Int) = (T4 : Int) := wrap_to rfl (by omega)
      have HR : Hid (Calls Try.prog 20 #[.slice ao n c, .int .i64 (T4 : Nat)] wr fun e w' => (∃ r, e = .returned (.int .i64 r) ∧ I64 r) ∧ ∃ k, w' = wr.drewN k) := raw_any (HA.out.below HG.out.2) (by omega) T4 (by omega)
      clear hT4
      go_wp2_with fail
      refine HR.out.mono ?_
      rintro e w' ⟨⟨r, rfl, hrI⟩, nd, hwd⟩
      obtain ⟨q, hq, hpq⟩ := pk_any hrI (n := N) HX.out.2.2 (by omega)
      have HPq : Hid (∀ w : World, Calls Try.prog 18 #[.int .i64 r, .int .i64 (N : Nat)] w fun e w' => e = .returned (.int .i64 (q : Nat)) ∧ w' = w) := hpq
      have HQ : Hid (RowZ g N y1 w' ∧ Below w.heap.size w w') := by rw [hwd]; exact ⟨rowZ_drew HG.out.1 _, bel_drewN HG.out.2 _⟩
      clear hrI hpq hwd HR
      rename World => wq
      go_wp2_with fail
      refine (HPq.out wq).mono ?_
      rintro e w' ⟨rfl, hw⟩
      have hw := hw.symm
      subst hw
      clear HPq
      have hqi : (q : Int) < (N : Int) := by omega
      have hqi0 : (0 : Int) ≤ (q : Int) := by omega
      obtain ⟨o0, hc0⟩ : ∃ o0, wq.cell? ⟨g, q, none⟩ = some (.int .i64 o0) := ⟨_, HQ.out.1.cell q hq⟩
      have hf0 := HQ.out.1.free q
      have HS : Hid (RowZ g N (fun j => if j = q then -1 else y1 j) (wq.setCell ⟨g, q, none⟩ (.int .i64 (-1))) ∧ Below w.heap.size w (wq.setCell ⟨g, q, none⟩ (.int .i64 (-1)))) := ⟨HQ.out.1.store q (-1) (fun j _ => rfl), HQ.out.2.setCell H2.out.2.2.1 _⟩
      go_wp2
      go_roundw
      case rel => exact ⟨t + 1, _, by omega, by go_num, HS.out⟩
      case measure => simp [intOf]; omega
    · have hib : ¬ (t : Int) < (Lo : Int) := by omega
      go_wp2_with fail
      refine (HP3.out wr).mono ?_
      rintro e w' ⟨rfl, hw⟩
      have hw := hw.symm
      subst hw
      have HPS : Hid (∀ (y : Nat → Int) (wx : World), RowZ g N y wx → Below w.heap.size w wx → Calls Try.prog 3 #[.int .i64 (M : Nat), .int .i64 (K : Nat), .slice (some ⟨g, 0, none⟩) N c9] wx fun e w' => e = .returned (.bool true) ∧ Below w.heap.size w w') := fun y wx hy hb => by
        refine (psays_walk (M : Int) (K : Int) (z := y) ⟨hy.slz, fun a e => (by cases e; exact hy.lt'), fun e => (by cases e), H2.out.2.2.2.1, H2.out.2.2.2.2⟩ (by omega)).mono ?_
        rintro e w' ⟨he, h9⟩
        exact ⟨he, bel_up' hb h9⟩
      by_cases hz : Tu = 0
      · subst hz
        have hN0 : (0 : Int) < (N : Int) := by have := HX.out.2.2; omega
        obtain ⟨o0, hc0⟩ : ∃ o0, wr.cell? ⟨g, 0, none⟩ = some (.int .i64 o0) := ⟨_, HG.out.1.cell 0 HX.out.2.2⟩
        have hf0 := HG.out.1.free 0
        have HS : Hid (RowZ g N (fun j => if j = 0 then 1 else y1 j) (wr.setCell ⟨g, 0, none⟩ (.int .i64 1)) ∧ Below w.heap.size w (wr.setCell ⟨g, 0, none⟩ (.int .i64 1))) := ⟨HG.out.1.store 0 1 (fun j _ => rfl), HG.out.2.setCell H2.out.2.2.1 _⟩
        go_wp2_with fail
        refine (HPS.out _ _ HS.out.1 HS.out.2).mono ?_
        rintro e w8 ⟨rfl, h8⟩
        have H8 : Hid (Below w.heap.size w w8) := h8
        clear h8
        go_wp2
        go_ret
        exact ⟨rfl, H8.out⟩
      · have hzb : ((Tu : Int) == 0) = false := by rw [beq_eq_false_iff_ne]; omega
        clear hz
        go_wp2_with fail
        refine (HPS.out _ _ HG.out.1 HG.out.2).mono ?_
        rintro e w8 ⟨rfl, h8⟩
        have H8 : Hid (Below w.heap.size w w8) := h8
        clear h8
        go_wp2
        go_ret
        exact ⟨rfl, H8.out⟩
end Go.Proofs.Ytbfkacnpbelmlaa
