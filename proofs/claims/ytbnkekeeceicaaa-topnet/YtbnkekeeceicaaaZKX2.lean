/- Texts of ours, one behind the other: KX2 KX3 KX4. -/
import Derived.Test.YtbnkekeeceicaaaZKW8
import Derived.Test.YtbnkekeeceicaaaZS92
import Derived.Test.YtbnkekeeceicaaaZS96
/- Nets: parts of a row turned about (swapRange, rotate). -/
namespace Go.Proofs.Ytbnkekeeceicaaa
open Go.RowKit Go.Sort

/-- A row that is another now. -/
def RowP (g m base : Nat) (p' : Nat → Nat) (W : World) (e : Ending) (w' : World) : Prop := e = .returned (.tuple #[]) ∧ Row g m p' w' ∧ Below base W w'
set_option maxHeartbeats 8000000 in
set_option maxRecDepth 100000 in
theorem swapR_any {g m c base a b n : Nat} {p : Nat → Nat} {fv : Value} {W w : World} (hR : Row g m p w) (hg : base ≤ g) (hB : Below base W w) (hab : a + n ≤ b) (hbm : b + n ≤ m) (hm : m ≤ 100) :
    Calls Try.prog 82 #[.slice (some ⟨g, 0, none⟩) m c, .int .i64 (a : Nat), .int .i64 (b : Nat), .int .i64 (n : Nat), fv] w (RowP g m base (swr p a b n) W) := by
  have HS : Hid (Row g m p w ∧ Below base W w) := ⟨hR, hB⟩
  clear hR hB
  go_enter Try.func82, Try.ntmps82
  go_wp2
  go_loopw [10] (fun vi wr => ∃ i : Nat, i ≤ n ∧ vi = .int .i64 (i : Nat) ∧ Hid (Row g m (swr p a b i) wr ∧ Below base W wr)) (fun vi _ => n - (RowKit.intOf vi).toNat)
  case atStart => exact ⟨0, by omega, rfl, by rw [swr_zero]; exact HS.out.1, HS.out.2⟩
  case round =>
    obtain ⟨i, hi, rfl, HI⟩ := hrel
    rename World => wr
    by_cases hlt : i < n
    · have hib : (i : Int) < (n : Int) := by omega
      obtain ⟨u, hu⟩ : ∃ u, u = a + i := ⟨_, rfl⟩
      obtain ⟨v, hv⟩ : ∃ v, v = b + i := ⟨_, rfl⟩
      have hui : (a : Int) + (i : Int) = (u : Int) := by omega
      have hvi : (b : Int) + (i : Int) = (v : Int) := by omega
      have huw : IntKind.i64.wrap (u : Int) = (u : Int) := wrap_to rfl (by omega)
      have hvw : IntKind.i64.wrap (v : Int) = (v : Int) := wrap_to rfl (by omega)
      obtain ⟨p1, hp1⟩ : ∃ p1, p1 = swr p a b i := ⟨_, rfl⟩
      have hrow := HI.out.1
      rw [← hp1] at hrow
      obtain ⟨x, hx⟩ : ∃ x, x = p1 u := ⟨_, rfl⟩
      obtain ⟨y, hy⟩ : ∃ y, y = p1 v := ⟨_, rfl⟩
      have k1 := hrow.cell u (by omega)
      have k2 := hrow.cell v (by omega)
      have f1 := hrow.free u
      have f2 := hrow.free v
      rw [← hx] at k1
      rw [← hy] at k2
      have hum : (u : Int) < (m : Int) := by omega
      have hum0 : (0 : Int) ≤ (u : Int) := by omega
      have hvm : (v : Int) < (m : Int) := by omega
      have hvm0 : (0 : Int) ≤ (v : Int) := by omega
      have HN : Hid (∀ d, Row g m (swr p a b (i + 1)) (((wr.drewN d).setCell ⟨g, u, none⟩ (.int .i64 (y : Nat))).setCell ⟨g, v, none⟩ (.int .i64 (x : Nat))) ∧ Below base W (((wr.drewN d).setCell ⟨g, u, none⟩ (.int .i64 (y : Nat))).setCell ⟨g, v, none⟩ (.int .i64 (x : Nat)))) := fun d => by
        have h := hrow.swq u v d
        rw [← hx, ← hy, hp1, hu, hv, ← swr_next (by omega)] at h
        rw [hu, hv]
        exact ⟨h, ((below_drewN2 HI.out.2 d).setCell hg _).setCell hg _⟩
      have hne : u ≠ v := by omega
      have hne2 : v ≠ u := by omega
      clear hrow hp1 hx hy hu hv
      go_wp2
      go_region
      go_wp2
      go_roundw
      case rel => exact ⟨i + 1, by omega, by go_num, HN.out 1⟩
      case measure => simp [RowKit.intOf]; omega
    · have hib : ¬ (i : Int) < (n : Int) := by omega
      have hie : n = i := by omega
      subst hie
      go_wp2
      exact bodyPost_end (results_none rfl _ _ _) rfl ⟨rfl, HI.out.1, HI.out.2⟩

set_option maxHeartbeats 8000000 in
set_option maxRecDepth 100000 in
theorem rot_any {g m c base a k b : Nat} {p : Nat → Nat} {fv : Value} {W w : World} (hR : Row g m p w) (hg : base ≤ g) (hB : Below base W w) (hak : a < k) (hkb : k < b) (hbm : b ≤ m) (hm : m ≤ 100) :
    Calls Try.prog 78 #[.slice (some ⟨g, 0, none⟩) m c, .int .i64 (a : Nat), .int .i64 (k : Nat), .int .i64 (b : Nat), fv] w fun e w' => RowP g m base (rtd p k (k - a) (b - k)) W e w' ∧ Rng m a b p (rtd p k (k - a) (b - k)) := by
  have HS : Hid (Row g m p w ∧ Below base W w) := ⟨hR, hB⟩
  obtain ⟨i0, hi0⟩ : ∃ i0, i0 = k - a := ⟨_, rfl⟩
  obtain ⟨j0, hj0⟩ : ∃ j0, j0 = b - k := ⟨_, rfl⟩
  have hii : (k : Int) - (a : Int) = (i0 : Int) := by omega
  have hji : (b : Int) - (k : Int) = (j0 : Int) := by omega
  have hiw : IntKind.i64.wrap (i0 : Int) = (i0 : Int) := wrap_to rfl (by omega)
  have hjw : IntKind.i64.wrap (j0 : Int) = (j0 : Int) := wrap_to rfl (by omega)
  have HIJ : Hid (i0 = k - a ∧ j0 = b - k) := ⟨hi0, hj0⟩
  rw [← hi0, ← hj0]
  clear hR hB hi0 hj0
  go_enter Try.func78, Try.ntmps78
  go_wp2
  clear hii hji hiw hjw
  go_loopw [10, 11] (fun v10 v11 wr => ∃ (i j : Nat) (q : Nat → Nat), 1 ≤ i ∧ i ≤ i0 ∧ 1 ≤ j ∧ j ≤ j0 ∧ v10 = .int .i64 (i : Nat) ∧ v11 = .int .i64 (j : Nat) ∧ Hid (Row g m q wr ∧ rtd q k i j = rtd p k i0 j0 ∧ Rng m a b p q ∧ Below base W wr)) (fun v10 v11 _ => (RowKit.intOf v10).toNat + (RowKit.intOf v11).toNat)
  case atStart => exact ⟨i0, j0, p, by have := HIJ.out; omega, Nat.le_refl _, by have := HIJ.out; omega, Nat.le_refl _, rfl, rfl, HS.out.1, rfl, Rng.refl _ _ _ _, HS.out.2⟩
  case round =>
    obtain ⟨i, j, q, hi1, hi2, hj1, hj2, rfl, rfl, HI⟩ := hrel
    rename World => wr
    have hik : i ≤ k := by have := HIJ.out; omega
    have hjm : k + j ≤ b := by have := HIJ.out; omega
    have hia : a ≤ k - i := by have := HIJ.out; omega
    obtain ⟨u, hu⟩ : ∃ u, u = k - i := ⟨_, rfl⟩
    have hui : (k : Int) - (i : Int) = (u : Int) := by omega
    have huw : IntKind.i64.wrap (u : Int) = (u : Int) := wrap_to rfl (by omega)
    by_cases hij : i = j
    · have hijb : (((i : Nat) : Int) != ((j : Nat) : Int)) = false := by rw [hij]; simp
      have HSw : Hid (Calls Try.prog 82 #[.slice (some ⟨g, 0, none⟩) m c, .int .i64 (u : Nat), .int .i64 (k : Nat), .int .i64 (i : Nat), fv] wr (RowP g m base (swr q u k i) W)) := swapR_any HI.out.1 hg HI.out.2.2.2 (by omega) (by omega) hm
      have HE : Hid (swr q u k i = rtd p k i0 j0 ∧ Rng m a b p (swr q u k i)) := by
        refine ⟨?_, HI.out.2.2.1.trans (Rng.swr q (n := i) (by omega) (by omega) (by omega) hbm i (Nat.le_refl _))⟩
        rw [← HI.out.2.1, ← hij, rtd_same hik, hu]
      clear hij hu
      go_wp2_with fail
      refine HSw.out.mono ?_
      rintro e w1 ⟨rfl, hr1, hb1⟩
      have H1 : Hid (Row g m (swr q u k i) w1 ∧ Below base W w1) := ⟨hr1, hb1⟩
      clear hr1 hb1
      go_wp2
      exact bodyPost_end (results_none rfl _ _ _) rfl ⟨⟨rfl, by rw [← HE.out.1]; exact H1.out.1, H1.out.2⟩, by rw [← HE.out.1]; exact HE.out.2⟩
    · have hijb : (((i : Nat) : Int) != ((j : Nat) : Int)) = true := bne_iff_ne.2 (by omega)
      by_cases hlt : j < i
      · have hltb : (j : Int) < (i : Int) := by omega
        obtain ⟨d, hd⟩ : ∃ d, d = i - j := ⟨_, rfl⟩
        have hdi : (i : Int) - (j : Int) = (d : Int) := by omega
        have hdw : IntKind.i64.wrap (d : Int) = (d : Int) := wrap_to rfl (by omega)
        have HSw : Hid (Calls Try.prog 82 #[.slice (some ⟨g, 0, none⟩) m c, .int .i64 (u : Nat), .int .i64 (k : Nat), .int .i64 (j : Nat), fv] wr (RowP g m base (swr q u k j) W)) := swapR_any HI.out.1 hg HI.out.2.2.2 (by omega) (by omega) hm
        have HE : Hid (rtd (swr q u k j) k d j = rtd p k i0 j0 ∧ Rng m a b p (swr q u k j) ∧ 1 ≤ d ∧ d ≤ i0 ∧ d < i) := by
          refine ⟨?_, HI.out.2.2.1.trans (Rng.swr q (n := j) (by omega) (by omega) (by omega) hbm j (Nat.le_refl _)), by omega, by omega, by omega⟩
          rw [← HI.out.2.1, rtd_less hlt hik, hu, hd]
        clear hij hu hd
        go_wp2_with fail
        refine HSw.out.mono ?_
        rintro e w1 ⟨rfl, hr1, hb1⟩
        have H1 : Hid (Row g m (swr q u k j) w1 ∧ Below base W w1) := ⟨hr1, hb1⟩
        clear hr1 hb1
        go_wp2
        go_roundw
        case rel => exact ⟨d, j, swr q u k j, HE.out.2.2.1, HE.out.2.2.2.1, hj1, hj2, by go_num, rfl, H1.out.1, HE.out.1, HE.out.2.1, H1.out.2⟩
        case measure => simp [RowKit.intOf]; have := HE.out.2.2.2.2; omega
      · have hltb : ¬ (j : Int) < (i : Int) := by omega
        obtain ⟨d, hd⟩ : ∃ d, d = j - i := ⟨_, rfl⟩
        have hdi : (j : Int) - (i : Int) = (d : Int) := by omega
        have hdw : IntKind.i64.wrap (d : Int) = (d : Int) := wrap_to rfl (by omega)
        obtain ⟨s, hs⟩ : ∃ s, s = k + j := ⟨_, rfl⟩
        have hsi : (k : Int) + (j : Int) = (s : Int) := by omega
        have hsw : IntKind.i64.wrap (s : Int) = (s : Int) := wrap_to rfl (by omega)
        obtain ⟨v, hv⟩ : ∃ v, v = s - i := ⟨_, rfl⟩
        have hvi : (s : Int) - (i : Int) = (v : Int) := by omega
        have hvw : IntKind.i64.wrap (v : Int) = (v : Int) := wrap_to rfl (by omega)
        have HSw : Hid (Calls Try.prog 82 #[.slice (some ⟨g, 0, none⟩) m c, .int .i64 (u : Nat), .int .i64 (v : Nat), .int .i64 (i : Nat), fv] wr (RowP g m base (swr q u v i) W)) := swapR_any HI.out.1 hg HI.out.2.2.2 (by omega) (by omega) hm
        have HE : Hid (rtd (swr q u v i) k i d = rtd p k i0 j0 ∧ Rng m a b p (swr q u v i) ∧ 1 ≤ d ∧ d ≤ j0 ∧ d < j) := by
          refine ⟨?_, HI.out.2.2.1.trans (Rng.swr q (n := i) (by omega) (by omega) (by omega) hbm i (Nat.le_refl _)), by omega, by omega, by omega⟩
          rw [← HI.out.2.1, rtd_more (by omega : i < j) hik, hu, hd, hv, hs]
        clear hij hu hd hs hv
        go_wp2_with fail
        refine HSw.out.mono ?_
        rintro e w1 ⟨rfl, hr1, hb1⟩
        have H1 : Hid (Row g m (swr q u v i) w1 ∧ Below base W w1) := ⟨hr1, hb1⟩
        clear hr1 hb1
        go_wp2
        go_roundw
        case rel => exact ⟨i, d, swr q u v i, hi1, hi2, HE.out.2.2.1, HE.out.2.2.2.1, rfl, by go_num, H1.out.1, HE.out.1, HE.out.2.1, H1.out.2⟩
        case measure => simp [RowKit.intOf]; have := HE.out.2.2.2.2; omega
end Go.Proofs.Ytbnkekeeceicaaa

/- Nets: one led into a rising part (symMerge where a part has one). -/
namespace Go.Proofs.Ytbnkekeeceicaaa
open Go.RowKit Go.Sort

theorem wrap_u {a : Nat} (h : a ≤ 1000000) : IntKind.u64.wrap (a : Int) = (a : Int) := by
  show ((a : Int) % 18446744073709551616) = _
  omega
set_option maxHeartbeats 8000000 in
set_option maxRecDepth 100000 in
theorem symA_any {g m c base bE a k b : Nat} {F p : Nat → Nat} {W w : World} (hC : Cmp bE m base F W) (hR : Row g m p w) (hg : base ≤ g) (hB : Below base W w) (hp : ∀ x, x < m → p x < m) (hk : k = a + 1) (hkb : k < b) (hbm : b ≤ m) (hm : m ≤ 100) (hs : Sdd F p k b) :
    Calls Try.prog 70 #[.slice (some ⟨g, 0, none⟩) m c, .int .i64 (a : Nat), .int .i64 (k : Nat), .int .i64 (b : Nat), .func (.func 36) #[] #[.pointer (some ⟨bE, 0, none⟩)]] w (SrtP g m base a b F p W) := by
  have HS : Hid (Cmp bE m base F W ∧ Row g m p w ∧ Below base W w ∧ (∀ x, x < m → p x < m) ∧ Sdd F p k b ∧ k = a + 1) := ⟨hC, hR, hB, hp, hs, hk⟩
  have hka : (k : Int) - (a : Int) = 1 := by omega
  have hab : a < b := by omega
  have hak : a < k := by omega
  clear hC hR hB hp hs hk
  go_enter Try.func70, Try.ntmps70
  go_wp2
  go_loopw [10, 11] (fun v10 v11 wr => ∃ i j : Nat, k ≤ i ∧ i ≤ j ∧ j ≤ b ∧ v10 = .int .i64 (i : Nat) ∧ v11 = .int .i64 (j : Nat) ∧ Hid ((∀ x, k ≤ x → x < i → F (p x) < F (p a)) ∧ (∀ x, j ≤ x → x < b → F (p a) ≤ F (p x)) ∧ ∃ d, wr = w.drewN d)) (fun v10 v11 _ => (RowKit.intOf v11).toNat - (RowKit.intOf v10).toNat)
  case atStart => exact ⟨k, b, Nat.le_refl _, by omega, Nat.le_refl _, rfl, rfl, fun x h1 h2 => absurd h2 (by omega), fun x h1 h2 => absurd h2 (by omega), 0, rfl⟩
  case round =>
    obtain ⟨i, j, hi, hij, hj, rfl, rfl, HI⟩ := hrel
    rename World => wr
    by_cases hlt : i < j
    · have hib : (i : Int) < (j : Int) := by omega
      obtain ⟨s, hse⟩ : ∃ s, s = i + j := ⟨_, rfl⟩
      have hsi : (i : Int) + (j : Int) = (s : Int) := by omega
      have hsw : IntKind.i64.wrap (s : Int) = (s : Int) := wrap_to rfl (by omega)
      have hsu := wrap_u (a := s) (by omega)
      have HSE : Hid (s = i + j) := hse
      clear hse
      obtain ⟨h, hh⟩ : ∃ h, h = s / 2 := ⟨_, rfl⟩
      have hhi : (s : Int) / 2 = (h : Int) := by omega
      have hhb : i ≤ h ∧ h < j := by have := HSE.out; omega
      obtain ⟨x, hx⟩ : ∃ x, x = p h := ⟨_, rfl⟩
      obtain ⟨y, hy⟩ : ∃ y, y = p a := ⟨_, rfl⟩
      have hxm : x < m := by rw [hx]; exact HS.out.2.2.2.1 h (by omega)
      have hym : y < m := by rw [hy]; exact HS.out.2.2.2.1 a (by omega)
      have hrow : Row g m p wr := by obtain ⟨d, hd⟩ := HI.out.2.2; rw [hd]; exact HS.out.2.1.drewN d
      have k1 := hrow.cell h (by omega)
      have k2 := hrow.cell a (by omega)
      rw [← hx] at k1
      rw [← hy] at k2
      have hhm : (h : Int) < (m : Int) := by omega
      have hhm0 : (0 : Int) ≤ (h : Int) := by omega
      have ham : (a : Int) < (m : Int) := by omega
      have ham0 : (0 : Int) ≤ (a : Int) := by omega
      have HC : Hid (∀ d, Calls Try.prog 36 #[.int .i64 (x : Nat), .int .i64 (y : Nat), .pointer (some ⟨bE, 0, none⟩)] (wr.drewN d) fun e w' => e = .returned (.int .i64 (((F x : Nat) : Int) - ((F y : Nat) : Int))) ∧ ∃ k, w' = (wr.drewN d).drewN k) := fun d => by
        obtain ⟨d0, hd0⟩ := HI.out.2.2
        rw [hd0, World.drewN_drewN]
        exact HS.out.1 _ (below_drewN2 HS.out.2.2.1 _) x y hxm hym
      have HW : Hid (∀ d, ∃ d', wr.drewN d = w.drewN d') := fun d => by
        obtain ⟨d0, hd0⟩ := HI.out.2.2
        exact ⟨_, by rw [hd0, World.drewN_drewN]⟩
      have HXY : Hid (x = p h ∧ y = p a) := ⟨hx, hy⟩
      clear hx hy hh hrow
      by_cases hcm : F x < F y
      · have hcb : ((F x : Nat) : Int) - ((F y : Nat) : Int) < 0 := by omega
        have HN : Hid ((∀ x, k ≤ x → x < h + 1 → F (p x) < F (p a)) ∧ ∀ x, j ≤ x → x < b → F (p a) ≤ F (p x)) := by
          refine ⟨fun z h1 h2 => ?_, HI.out.2.1⟩
          have q1 : F (p z) ≤ F (p h) := HS.out.2.2.2.2.1 z h h1 (by omega) (by omega)
          have q2 : F (p h) < F (p a) := by rw [← HXY.out.1, ← HXY.out.2]; exact hcm
          omega
        clear hcm
        go_wp2
        go_quiet ((go_at_call 36; exact Calls.quiet_of (HC.out _)))
        go_wp2
        go_roundw
        case rel => exact ⟨h + 1, j, by omega, by omega, hj, by go_num, rfl, HN.out.1, HN.out.2, HW.out _⟩
        case measure => simp [RowKit.intOf]; omega
      · have hcb : ¬ ((F x : Nat) : Int) - ((F y : Nat) : Int) < 0 := by omega
        have HN : Hid ((∀ x, k ≤ x → x < i → F (p x) < F (p a)) ∧ ∀ x, h ≤ x → x < b → F (p a) ≤ F (p x)) := by
          refine ⟨HI.out.1, fun z h1 h2 => ?_⟩
          have q1 : F (p h) ≤ F (p z) := HS.out.2.2.2.2.1 h z (by omega) (by omega) h2
          have q2 : ¬ F (p h) < F (p a) := by rw [← HXY.out.1, ← HXY.out.2]; exact hcm
          omega
        clear hcm
        go_wp2
        go_quiet ((go_at_call 36; exact Calls.quiet_of (HC.out _)))
        go_wp2
        go_roundw
        case rel => exact ⟨i, h, by omega, by omega, by omega, rfl, by go_num, HN.out.1, HN.out.2, HW.out _⟩
        case measure => simp [RowKit.intOf]; omega
    · have hib : ¬ (i : Int) < (j : Int) := by omega
      have hije : i = j := by omega
      have HF : Hid (Sdd F (shu p a (i - 1)) a b) := shu_sdd (by have := HS.out.2.2.2.2.2; omega) (by omega) (by have h := HS.out.2.2.2.2.1; rw [HS.out.2.2.2.2.2] at h; exact h) (by have h := HI.out.1; rw [HS.out.2.2.2.2.2] at h; exact h) (by rw [hije]; exact HI.out.2.1)
      obtain ⟨i1, hi1⟩ : ∃ i1, i1 = i - 1 := ⟨_, rfl⟩
      have hi1i : (i : Int) - 1 = (i1 : Int) := by omega
      have hi1w : IntKind.i64.wrap (i1 : Int) = (i1 : Int) := wrap_to rfl (by omega)
      rw [← hi1] at HF
      have hi1b : a ≤ i1 ∧ i1 + 1 ≤ b := by omega
      have HRw : Hid (Row g m p wr ∧ Below base W wr) := by obtain ⟨d, hd⟩ := HI.out.2.2; rw [hd]; exact ⟨HS.out.2.1.drewN d, below_drewN2 HS.out.2.2.1 d⟩
      clear hije hi1
      go_wp2
      go_loopw [13] (fun v13 wx => ∃ z : Nat, a ≤ z ∧ z ≤ i1 ∧ v13 = .int .i64 (z : Nat) ∧ Hid (Row g m (shu p a z) wx ∧ Rng m a b p (shu p a z) ∧ Below base W wx)) (fun v13 _ => i1 - (RowKit.intOf v13).toNat)
      case atStart => exact ⟨a, Nat.le_refl _, hi1b.1, rfl, by rw [shu_zero]; exact HRw.out.1, by rw [shu_zero]; exact Rng.refl _ _ _ _, HRw.out.2⟩
      case round =>
        obtain ⟨z, hz1, hz2, rfl, HJ⟩ := hrel
        rename World => wx
        by_cases hzl : z < i1
        · have hzb : (z : Int) < (i1 : Int) := by omega
          obtain ⟨z1, hz1e⟩ : ∃ z1, z1 = z + 1 := ⟨_, rfl⟩
          have hz1i : (z : Int) + 1 = (z1 : Int) := by omega
          have hz1w : IntKind.i64.wrap (z1 : Int) = (z1 : Int) := wrap_to rfl (by omega)
          obtain ⟨p1, hp1⟩ : ∃ p1, p1 = shu p a z := ⟨_, rfl⟩
          have hrow := HJ.out.1
          rw [← hp1] at hrow
          obtain ⟨x, hx⟩ : ∃ x, x = p1 z := ⟨_, rfl⟩
          obtain ⟨y, hy⟩ : ∃ y, y = p1 z1 := ⟨_, rfl⟩
          have k1 := hrow.cell z (by omega)
          have k2 := hrow.cell z1 (by omega)
          have f1 := hrow.free z
          have f2 := hrow.free z1
          rw [← hx] at k1
          rw [← hy] at k2
          have hzm : (z : Int) < (m : Int) := by omega
          have hzm0 : (0 : Int) ≤ (z : Int) := by omega
          have hz1m : (z1 : Int) < (m : Int) := by omega
          have hz1m0 : (0 : Int) ≤ (z1 : Int) := by omega
          have HN : Hid (∀ d, Row g m (shu p a (z + 1)) (((wx.drewN d).setCell ⟨g, z, none⟩ (.int .i64 (y : Nat))).setCell ⟨g, z1, none⟩ (.int .i64 (x : Nat))) ∧ Rng m a b p (shu p a (z + 1)) ∧ Below base W (((wx.drewN d).setCell ⟨g, z, none⟩ (.int .i64 (y : Nat))).setCell ⟨g, z1, none⟩ (.int .i64 (x : Nat)))) := fun d => by
            have h := hrow.swq z z1 d
            rw [← hx, ← hy, hp1, hz1e, ← shu_next hz1] at h
            refine ⟨by rw [hz1e]; exact h, ?_, ((below_drewN2 HJ.out.2.2 d).setCell hg _).setCell hg _⟩
            rw [shu_next hz1]
            exact HJ.out.2.1.trans (Rng.swq _ ⟨by omega, by omega⟩ ⟨by omega, by omega⟩ hbm)
          have hne : z ≠ z1 := by omega
          have hne2 : z1 ≠ z := by omega
          clear hrow hp1 hx hy hz1e
          go_wp2
          go_region
          go_wp2
          go_roundw
          case rel => exact ⟨z + 1, by omega, by omega, by go_num, HN.out 1⟩
          case measure => simp [RowKit.intOf]; omega
        · have hzb : ¬ (z : Int) < (i1 : Int) := by omega
          have hze : i1 = z := by omega
          subst hze
          go_wp2
          exact bodyPost_ret (results_none rfl _ _ _) rfl ⟨_, rfl, HJ.out.1, HJ.out.2.1, HF.out, HJ.out.2.2⟩
end Go.Proofs.Ytbnkekeeceicaaa

/- Nets: the last led into a rising part (symMerge where the second part has one; turned out of KX3 by a script, then by hand). -/
namespace Go.Proofs.Ytbnkekeeceicaaa
open Go.RowKit Go.Sort

set_option maxHeartbeats 8000000 in
set_option maxRecDepth 100000 in
theorem symB_any {g m c base bE a k b : Nat} {F p : Nat → Nat} {W w : World} (hC : Cmp bE m base F W) (hR : Row g m p w) (hg : base ≤ g) (hB : Below base W w) (hp : ∀ x, x < m → p x < m) (hak : a + 1 < k) (hb : b = k + 1) (hbm : b ≤ m) (hm : m ≤ 100) (hs : Sdd F p a k) :
    Calls Try.prog 70 #[.slice (some ⟨g, 0, none⟩) m c, .int .i64 (a : Nat), .int .i64 (k : Nat), .int .i64 (b : Nat), .func (.func 36) #[] #[.pointer (some ⟨bE, 0, none⟩)]] w (SrtP g m base a b F p W) := by
  have HS : Hid (Cmp bE m base F W ∧ Row g m p w ∧ Below base W w ∧ (∀ x, x < m → p x < m) ∧ Sdd F p a k ∧ b = k + 1) := ⟨hC, hR, hB, hp, hs, hb⟩
  obtain ⟨e0, he0⟩ : ∃ e0, e0 = k - a := ⟨_, rfl⟩
  have hka : (k : Int) - (a : Int) = (e0 : Int) := by omega
  have hkw : IntKind.i64.wrap (e0 : Int) = (e0 : Int) := wrap_to rfl (by omega)
  have hke : (((e0 : Nat) : Int) == 1) = false := beq_eq_false_iff_ne.2 (by omega)
  have hkb1 : (b : Int) - (k : Int) = 1 := by omega
  have hkb : k < b := by omega
  have hkm : k < m := by omega
  clear hC hR hB hp hs hb he0
  go_enter Try.func70, Try.ntmps70
  go_wp2
  go_loopw [14, 15] (fun v10 v11 wr => ∃ i j : Nat, a ≤ i ∧ i ≤ j ∧ j ≤ k ∧ v10 = .int .i64 (i : Nat) ∧ v11 = .int .i64 (j : Nat) ∧ Hid ((∀ x, a ≤ x → x < i → F (p x) ≤ F (p k)) ∧ (∀ x, j ≤ x → x < k → F (p k) < F (p x)) ∧ ∃ d, wr = w.drewN d)) (fun v10 v11 _ => (RowKit.intOf v11).toNat - (RowKit.intOf v10).toNat)
  case atStart => exact ⟨a, k, Nat.le_refl _, by omega, Nat.le_refl _, rfl, rfl, fun x h1 h2 => absurd h2 (by omega), fun x h1 h2 => absurd h2 (by omega), 0, rfl⟩
  case round =>
    obtain ⟨i, j, hi, hij, hj, rfl, rfl, HI⟩ := hrel
    rename World => wr
    by_cases hlt : i < j
    · have hib : (i : Int) < (j : Int) := by omega
      obtain ⟨s, hse⟩ : ∃ s, s = i + j := ⟨_, rfl⟩
      have hsi : (i : Int) + (j : Int) = (s : Int) := by omega
      have hsw : IntKind.i64.wrap (s : Int) = (s : Int) := wrap_to rfl (by omega)
      have hsu := wrap_u (a := s) (by omega)
      have HSE : Hid (s = i + j) := hse
      clear hse
      obtain ⟨h, hh⟩ : ∃ h, h = s / 2 := ⟨_, rfl⟩
      have hhi : (s : Int) / 2 = (h : Int) := by omega
      have hhb : i ≤ h ∧ h < j := by have := HSE.out; omega
      obtain ⟨x, hx⟩ : ∃ x, x = p k := ⟨_, rfl⟩
      obtain ⟨y, hy⟩ : ∃ y, y = p h := ⟨_, rfl⟩
      have hxm : x < m := by rw [hx]; exact HS.out.2.2.2.1 k (by omega)
      have hym : y < m := by rw [hy]; exact HS.out.2.2.2.1 h (by omega)
      have hrow : Row g m p wr := by obtain ⟨d, hd⟩ := HI.out.2.2; rw [hd]; exact HS.out.2.1.drewN d
      have k1 := hrow.cell k (by omega)
      have k2 := hrow.cell h (by omega)
      rw [← hx] at k1
      rw [← hy] at k2
      have hhm : (h : Int) < (m : Int) := by omega
      have hhm0 : (0 : Int) ≤ (h : Int) := by omega
      have ham : (k : Int) < (m : Int) := by omega
      have ham0 : (0 : Int) ≤ (k : Int) := by omega
      have HC : Hid (∀ d, Calls Try.prog 36 #[.int .i64 (x : Nat), .int .i64 (y : Nat), .pointer (some ⟨bE, 0, none⟩)] (wr.drewN d) fun e w' => e = .returned (.int .i64 (((F x : Nat) : Int) - ((F y : Nat) : Int))) ∧ ∃ k, w' = (wr.drewN d).drewN k) := fun d => by
        obtain ⟨d0, hd0⟩ := HI.out.2.2
        rw [hd0, World.drewN_drewN]
        exact HS.out.1 _ (below_drewN2 HS.out.2.2.1 _) x y hxm hym
      have HW : Hid (∀ d, ∃ d', wr.drewN d = w.drewN d') := fun d => by
        obtain ⟨d0, hd0⟩ := HI.out.2.2
        exact ⟨_, by rw [hd0, World.drewN_drewN]⟩
      have HXY : Hid (x = p k ∧ y = p h) := ⟨hx, hy⟩
      clear hx hy hh hrow
      by_cases hcm : F x < F y
      · have hcb : ((F x : Nat) : Int) - ((F y : Nat) : Int) < 0 := by omega
        have hcd : decide (((F x : Nat) : Int) - ((F y : Nat) : Int) < 0) = true := decide_eq_true hcb
        have HN : Hid ((∀ x, a ≤ x → x < i → F (p x) ≤ F (p k)) ∧ ∀ x, h ≤ x → x < k → F (p k) < F (p x)) := by
          refine ⟨HI.out.1, fun z h1 h2 => ?_⟩
          have q1 : F (p h) ≤ F (p z) := HS.out.2.2.2.2.1 h z (by omega) (by omega) h2
          have q2 : F (p k) < F (p h) := by rw [← HXY.out.1, ← HXY.out.2]; exact hcm
          omega
        clear hcm
        go_wp2
        go_quiet ((go_at_call 36; exact Calls.quiet_of (HC.out _)))
        go_wp2
        go_roundw
        case rel => exact ⟨i, h, by omega, by omega, by omega, rfl, by go_num, HN.out.1, HN.out.2, HW.out _⟩
        case measure => simp [RowKit.intOf]; omega
      · have hcb : ¬ ((F x : Nat) : Int) - ((F y : Nat) : Int) < 0 := by omega
        have hcd : decide (((F x : Nat) : Int) - ((F y : Nat) : Int) < 0) = false := decide_eq_false hcb
        have HN : Hid ((∀ x, a ≤ x → x < h + 1 → F (p x) ≤ F (p k)) ∧ ∀ x, j ≤ x → x < k → F (p k) < F (p x)) := by
          refine ⟨fun z h1 h2 => ?_, HI.out.2.1⟩
          have q1 : F (p z) ≤ F (p h) := HS.out.2.2.2.2.1 z h h1 (by omega) (by omega)
          have q2 : ¬ F (p k) < F (p h) := by rw [← HXY.out.1, ← HXY.out.2]; exact hcm
          omega
        clear hcm
        go_wp2
        go_quiet ((go_at_call 36; exact Calls.quiet_of (HC.out _)))
        go_wp2
        go_roundw
        case rel => exact ⟨h + 1, j, by omega, by omega, hj, by go_num, rfl, HN.out.1, HN.out.2, HW.out _⟩
        case measure => simp [RowKit.intOf]; omega
    · have hib : ¬ (i : Int) < (j : Int) := by omega
      have hije : i = j := by omega
      have HF : Hid (Sdd F (shd p k i) a b) := by
        have h := shd_sdd hi (by omega) HS.out.2.2.2.2.1 HI.out.1 (by rw [hije]; exact HI.out.2.1)
        rw [← HS.out.2.2.2.2.2] at h
        exact h
      have HRw : Hid (Row g m p wr ∧ Below base W wr) := by obtain ⟨d, hd⟩ := HI.out.2.2; rw [hd]; exact ⟨HS.out.2.1.drewN d, below_drewN2 HS.out.2.2.1 d⟩
      have hik : i ≤ k := by omega
      clear hije
      go_wp2
      go_loopw [17] (fun v17 wx => ∃ z : Nat, i ≤ z ∧ z ≤ k ∧ v17 = .int .i64 (z : Nat) ∧ Hid (Row g m (shd p k z) wx ∧ Rng m a b p (shd p k z) ∧ Below base W wx)) (fun v17 _ => (RowKit.intOf v17).toNat)
      case atStart => exact ⟨k, hik, Nat.le_refl _, rfl, by rw [shd_zero]; exact HRw.out.1, by rw [shd_zero]; exact Rng.refl _ _ _ _, HRw.out.2⟩
      case round =>
        obtain ⟨z, hz1, hz2, rfl, HJ⟩ := hrel
        rename World => wx
        by_cases hzl : i < z
        · have hzb : (i : Int) < (z : Int) := by omega
          obtain ⟨z1, hz1e⟩ : ∃ z1, z1 = z - 1 := ⟨_, rfl⟩
          have hz1i : (z : Int) - 1 = (z1 : Int) := by omega
          have hz1w : IntKind.i64.wrap (z1 : Int) = (z1 : Int) := wrap_to rfl (by omega)
          obtain ⟨p1, hp1⟩ : ∃ p1, p1 = shd p k z := ⟨_, rfl⟩
          have hrow := HJ.out.1
          rw [← hp1] at hrow
          obtain ⟨x, hx⟩ : ∃ x, x = p1 z := ⟨_, rfl⟩
          obtain ⟨y, hy⟩ : ∃ y, y = p1 z1 := ⟨_, rfl⟩
          have k1 := hrow.cell z (by omega)
          have k2 := hrow.cell z1 (by omega)
          have f1 := hrow.free z
          have f2 := hrow.free z1
          rw [← hx] at k1
          rw [← hy] at k2
          have hzm : (z : Int) < (m : Int) := by omega
          have hzm0 : (0 : Int) ≤ (z : Int) := by omega
          have hz1m : (z1 : Int) < (m : Int) := by omega
          have hz1m0 : (0 : Int) ≤ (z1 : Int) := by omega
          have HN : Hid (∀ d, Row g m (shd p k z1) (((wx.drewN d).setCell ⟨g, z, none⟩ (.int .i64 (y : Nat))).setCell ⟨g, z1, none⟩ (.int .i64 (x : Nat))) ∧ Rng m a b p (shd p k z1) ∧ Below base W (((wx.drewN d).setCell ⟨g, z, none⟩ (.int .i64 (y : Nat))).setCell ⟨g, z1, none⟩ (.int .i64 (x : Nat)))) := fun d => by
            have h := hrow.swq z z1 d
            rw [← hx, ← hy, hp1, hz1e, ← shd_next hz2 (by omega)] at h
            refine ⟨by rw [hz1e]; exact h, ?_, ((below_drewN2 HJ.out.2.2 d).setCell hg _).setCell hg _⟩
            rw [hz1e, shd_next hz2 (by omega)]
            exact HJ.out.2.1.trans (Rng.swq _ ⟨by omega, by omega⟩ ⟨by omega, by omega⟩ hbm)
          have hne : z ≠ z1 := by omega
          have hne2 : z1 ≠ z := by omega
          have hz1b : i ≤ z1 ∧ z1 ≤ k ∧ z1 < z := by omega
          clear hrow hp1 hx hy hz1e
          go_wp2
          go_region
          go_wp2
          go_roundw
          case rel => exact ⟨z1, hz1b.1, hz1b.2.1, by go_num, HN.out 1⟩
          case measure => simp [RowKit.intOf]; omega
        · have hzb : ¬ (i : Int) < (z : Int) := by omega
          have hze : i = z := by omega
          subst hze
          go_wp2
          exact bodyPost_ret (results_none rfl _ _ _) rfl ⟨_, rfl, HJ.out.1, HJ.out.2.1, HF.out, HJ.out.2.2⟩
end Go.Proofs.Ytbnkekeeceicaaa
