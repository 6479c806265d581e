/- Words that may lose a bit: the program's Words. -/
import Derived.Test.YtillljojdnofgaaZKI8
namespace Go.Proofs.Ytillljojdnofgaa
open Go.RowKit Go.Sort

theorem wz_bits (n k : Nat) : (zl n fun j => ((bitNo n k j : Nat) : Int)) = wz n (dgs 2 n k) := zl_congr fun j hj => by
  show ((bitNo n k j : Nat) : Int) = ((dgs 2 n k j : Nat) : Int)
  unfold dgs bitNo
  rw [if_pos hj]

set_option maxHeartbeats 4000000 in
set_option maxRecDepth 100000 in
theorem gwords_err (n a : Int) (hE : gaChk n a ≠ 0) (w : World) :
    Calls Try.prog 10 #[.int .i64 n, .int .i64 a] w fun e w' => e = .returned (.tuple #[.slice none 0 0, .int .i64 (gaChk n a)]) ∧ w' = w := by
  obtain ⟨E, hEe⟩ : ∃ E, E = gaChk n a := ⟨_, rfl⟩
  have HC : Hid (Calls Try.prog 46 #[.int .i64 n, .int .i64 a] w fun e w' => e = .returned (.int .i64 E) ∧ w' = w) := by rw [hEe]; exact checkSum_any n a w
  rw [← hEe] at hE ⊢
  have z0 : (E != 0) = true := bne_iff_ne.2 hE
  clear hEe hE
  go_enter Try.func10, Try.ntmps10
  go_wp2_with fail
  refine HC.out.mono ?_
  rintro e w' ⟨rfl, hw⟩
  have hw := hw.symm
  subst hw
  go_wp2
  go_ret2
  exact ⟨rfl, rfl⟩

theorem gaChk_nat {n a : Nat} (hn1 : 1 ≤ n) (hn : n ≤ 12) (ha : a ≤ n) : gaChk (n : Int) (a : Int) = 0 := by
  unfold gaChk
  rw [if_neg (by omega), if_neg (by omega)]

set_option maxHeartbeats 8000000 in
set_option maxRecDepth 100000 in
theorem gwords_ok {n a : Nat} (hn1 : 1 ≤ n) (hn : n ≤ 12) (ha : a ≤ n) (w : World) :
    Calls Try.prog 10 #[.int .i64 (n : Nat), .int .i64 (a : Nat)] w fun e w' => ∃ v, e = .returned (.tuple #[v, .int .i64 0]) ∧ WLs w.heap.size v n (wdL n a (2 ^ n)) w' ∧ Below w.heap.size w w' := by
  have HC : Hid (Calls Try.prog 46 #[.int .i64 (n : Nat), .int .i64 (a : Nat)] w fun e w' => e = .returned (.int .i64 0) ∧ w' = w) := by
    have h := checkSum_any (n : Int) (a : Int) w
    rw [gaChk_nat hn1 hn ha] at h; exact h
  obtain ⟨N, hN⟩ : ∃ N, N = 2 ^ n := ⟨_, rfl⟩
  have hN4 : N ≤ 4096 := by rw [hN]; exact Nat.le_trans (Nat.pow_le_pow_right (by omega) hn) (by decide)
  have HN : Hid (N = 2 ^ n) := hN
  have hNI : (2 : Int) ^ n = (N : Int) := by rw [hN]; simp
  have wN : IntKind.i64.wrap ((N : Nat) : Int) = (N : Int) := wrap_to rfl (by omega)
  have hn0 : ¬ (n : Int) < 0 := by omega
  have hn63 : ¬ (63 : Int) < (n : Int) := by omega
  have hn64 : ¬ (64 : Int) ≤ (n : Int) := by omega
  rw [← hN]
  clear hN
  go_enter Try.func10, Try.ntmps10
  go_wp2_with fail
  refine HC.out.mono ?_
  rintro e w' ⟨rfl, hw⟩
  have hw := hw.symm
  subst hw
  go_wp2
  go_loopw [7, 18] (fun vo vk wr => ∃ k : Nat, k ≤ N ∧ vk = .int .i64 (k : Nat) ∧ Hid (WLs w.heap.size vo n (wdL n a k) wr ∧ Below w.heap.size w wr)) (fun _ vk _ => N - (intOf vk).toNat)
  case atStart => exact ⟨0, by omega, rfl, WLs.nil _ _ _, Below.refl _ _⟩
  case round =>
    obtain ⟨k, hk, rfl, HG⟩ := hrel
    rename World => wr
    by_cases hlt : k < N
    · have hib : (k : Int) < (N : Int) := by omega
      have HBi : Hid (Calls Try.prog 47 #[.int .i64 (k : Nat), .int .i64 (n : Nat)] wr fun e w' => ∃ g, e = .returned (.slice (some ⟨g, 0, none⟩) n n) ∧ OwnI wr.heap.size (.slice (some ⟨g, 0, none⟩) n n) (wz n (dgs 2 n k)) w' ∧ Below wr.heap.size wr w') := by
        have h := bits_any (k := k) (n := n) hn (by omega) wr
        rw [wz_bits] at h; exact h
      obtain ⟨cb, hcb⟩ : ∃ cb, cb = (((psm (dgs 2 n k) n % (n + 1) : Nat) : Int) == (a : Int)) := ⟨_, rfl⟩
      have hbit : ∀ j, j < n → dgs 2 n k j ≤ 1 := fun j _ => by have := dgs_lt (q := 2) (k := n) (a := k) (by omega) j; omega
      have HCo : Hid (∀ (g : Nat) (wx : World), OwnI wr.heap.size (.slice (some ⟨g, 0, none⟩) n n) (wz n (dgs 2 n k)) wx → Calls Try.prog 48 #[.slice (some ⟨g, 0, none⟩) n n, .int .i64 (a : Nat)] wx fun e w' => e = .returned (.bool cb) ∧ w' = wx) := fun g wx ho => by
        obtain ⟨x, cx, e, ha⟩ := ho.argL
        cases e
        rw [hcb]
        exact comesTo_any (a : Int) ha.sl (by omega) hbit
      have HNx : Hid (wdL n a (k + 1) = wdL n a k ++ if cb = true then [dgs 2 n k] else []) := by
        show wdL n a k ++ _ = _
        rw [hcb]
        congr 1
        by_cases e : psm (dgs 2 n k) n % (n + 1) = a
        · rw [if_pos e, if_pos (by rw [e]; simp)]
        · rw [if_neg e, if_neg (by rw [beq_iff_eq]; omega)]
      have hszr := HG.out.2.size
      clear hcb hbit
      go_wp2_with fail
      refine HBi.out.mono ?_
      rintro e w1 ⟨g, rfl, ho1, hb1⟩
      have hs1 := hb1.size
      have H1 : Hid (OwnI wr.heap.size (.slice (some ⟨g, 0, none⟩) n n) (wz n (dgs 2 n k)) w1 ∧ WLs w.heap.size u7 n (wdL n a k) w1 ∧ Below w.heap.size w w1) := ⟨ho1, HG.out.1.below hb1, bel_up' HG.out.2 hb1⟩
      clear ho1 hb1
      go_wp2_with fail
      refine (HCo.out g w1 H1.out.1).mono ?_
      rintro e w' ⟨rfl, hw⟩
      have hw := hw.symm
      subst hw
      cases cb with
      | false =>
        have HN2 : Hid (WLs w.heap.size u7 n (wdL n a (k + 1)) w1 ∧ Below w.heap.size w w1) := by
          refine ⟨?_, H1.out.2.2⟩
          rw [HNx.out, if_neg (by decide), List.append_nil]; exact H1.out.2.1
        go_wp2
        go_roundw
        case rel => exact ⟨k + 1, by omega, by go_num, HN2.out⟩
        case measure => simp [intOf]; omega
      | true =>
        have HN2 : Hid (wdL n a (k + 1) = wdL n a k ++ [dgs 2 n k]) := by show _ = _; rw [HNx.out, if_pos rfl]
        obtain ⟨lst, hov, hln, hels⟩ := H1.out.2.1
        have hll : lst.length ≤ 1000000 := by rw [hln]; have := wdL_len n a k; omega
        have HV : Hid (OwnV w.heap.size u7 lst w1 ∧ lst.length = (wdL n a k).length ∧ (∀ (j : Nat) (u : Value) (c : Nat → Nat), lst[j]? = some u → (wdL n a k)[j]? = some c → OwnI w.heap.size u (wz n c) w1) ∧ OwnI w.heap.size (.slice (some ⟨g, 0, none⟩) n n) (wz n (dgs 2 n k)) w1) := ⟨hov, hln, hels, H1.out.1.mono hszr⟩
        clear hov hln hels
        go_wp2_with (at_builtin; refine append_sl rfl _ _ rfl w.heap.size u7 lst rfl (HV.out.1.below ((Below.refl _ _).alloc (Nat.le_refl _) _) (Nat.le_refl _)) ⟨w1.heap.size, 0, none⟩ 1 (.slice (some ⟨g, 0, none⟩) n n) rfl rfl (by rw [cell_of_row _ _ _ _ _ (0, 0) (two_new _)]; rfl) hll (by simp; omega) ?_; intro v' w6 hown6 hg6)
        have hal : Below w1.heap.size w1 (w1.alloc (.cells #[.slice (some ⟨g, 0, none⟩) n n] 22)) := (Below.refl _ _).alloc (Nat.le_refl _) _
        have ho := HV.out.1.below hal (Nat.le_refl _)
        have H6 : Hid (WLs w.heap.size v' n (wdL n a (k + 1)) w6 ∧ Below w.heap.size w w6) := by
          refine ⟨?_, (bel_up' H1.out.2.2 hal).grown hg6 (by simp; omega) (fun q hq => ho.open_ge q hq)⟩
          rw [HN2.out]
          have hp := wl_push ho HV.out.2.1 (fun j u c hu hc => (HV.out.2.2.1 j u c hu hc).below hal fun q hq => ((HV.out.2.2.1 j u c hu hc).lt q hq).2) (HV.out.2.2.2.below hal fun q hq => (HV.out.2.2.2.lt q hq).2) hg6
          exact ⟨_, hown6, hp.1, hp.2⟩
        clear hown6 hg6 hal ho
        try go_wp2
        go_roundw
        case rel => exact ⟨k + 1, by omega, by go_num, H6.out⟩
        case measure => simp [intOf]; omega
    · have hib : ¬ (k : Int) < (N : Int) := by omega
      have HE : Hid (WLs w.heap.size u7 n (wdL n a N) wr ∧ Below w.heap.size w wr) := by
        have h := HG.out
        rw [show k = N by omega] at h; exact h
      go_wp2
      go_ret2
      exact ⟨_, rfl, HE.out⟩
end Go.Proofs.Ytillljojdnofgaa
