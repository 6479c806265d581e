/- Texts of ours, one behind the other: L12 L13. -/
import Derived.Test.YtbpeahhhkcljeaaZO2
/- MatrixSays: inverses. -/
namespace Go.Proofs.Ytbpeahhhkcljeaa
open Go.RowKit Go.Sort

set_option maxHeartbeats 2000000 in
set_option maxRecDepth 100000 in
/-- Where the matrix may not be. -/
theorem inverse_err (q e : Int) (he : e ≠ 0) (x0 x1 x2 x3 : Int) (x4 : Option Addr) (x5 x6 : Nat) (rank : Int) {ao : Option Addr} {m ca : Nat} {w : World}
    (hI : ∀ w1, Below w.heap.size w w1 → Calls Try.prog 99 #[.int .i64 q, .slice ao m ca] w1 fun r w' => r = .returned (.tuple #[.slice none 0 0, .int .i64 e]) ∧ Below w1.heap.size w1 w') :
    Calls Try.prog 65 #[.int .i64 q, .agg #[.int .i64 x0, .int .i64 x1, .int .i64 x2, .int .i64 x3, .slice x4 x5 x6], .slice ao m ca, .int .i64 rank, .int .i64 e] w fun r w' => r = .returned (.bool true) ∧ Below w.heap.size w w' := by
  have HI : Hid (∀ w1, Below w.heap.size w w1 → Calls Try.prog 99 #[.int .i64 q, .slice ao m ca] w1 fun r w' => r = .returned (.tuple #[.slice none 0 0, .int .i64 e]) ∧ Below w1.heap.size w1 w') := hI
  have hz1 : (e == 0) = false := by rw [beq_eq_false_iff_ne]; exact he
  have hz2 : (e != 0) = true := by rw [bne_iff_ne]; exact he
  have hz3 : (e == e) = true := by simp
  clear hI he
  go_enter Try.func65, Try.ntmps65
  go_wp2_with fail
  refine (HI.out _ ((Below.refl _ _).alloc (Nat.le_refl _) _)).mono ?_
  rintro r w1 ⟨rfl, hb1⟩
  have HB : Hid (Below w.heap.size w w1) := bel_up' ((Below.refl _ _).alloc (Nat.le_refl _) _) hb1
  clear hb1
  go_wp2
  go_ret
  exact ⟨rfl, HB.out⟩

set_option maxHeartbeats 2000000 in
set_option maxRecDepth 100000 in
/-- Where there is no row. -/
theorem inverse_zero (q : Int) (x0 x1 x2 x3 : Int) (x4 : Option Addr) (x5 x6 : Nat) {ao : Option Addr} {ca : Nat} {w : World}
    (hI : ∀ w1, Below w.heap.size w w1 → Calls Try.prog 99 #[.int .i64 q, .slice ao 0 ca] w1 fun r w' => (∃ lo lc, r = .returned (.tuple #[.slice lo 0 lc, .int .i64 0])) ∧ Below w1.heap.size w1 w') :
    Calls Try.prog 65 #[.int .i64 q, .agg #[.int .i64 x0, .int .i64 x1, .int .i64 x2, .int .i64 x3, .slice x4 x5 x6], .slice ao 0 ca, .int .i64 0, .int .i64 0] w fun r w' => r = .returned (.bool true) ∧ Below w.heap.size w w' := by
  have HI : Hid (∀ w1, Below w.heap.size w w1 → Calls Try.prog 99 #[.int .i64 q, .slice ao 0 ca] w1 fun r w' => (∃ lo lc, r = .returned (.tuple #[.slice lo 0 lc, .int .i64 0])) ∧ Below w1.heap.size w1 w') := hI
  clear hI
  go_enter Try.func65, Try.ntmps65
  go_wp2_with fail
  refine (HI.out _ ((Below.refl _ _).alloc (Nat.le_refl _) _)).mono ?_
  rintro r w1 ⟨⟨lo, lc, rfl⟩, hb1⟩
  have HB : Hid (Below w.heap.size w w1) := bel_up' ((Below.refl _ _).alloc (Nat.le_refl _) _) hb1
  clear hb1
  go_wp2
  go_ret
  exact ⟨rfl, HB.out⟩

set_option maxHeartbeats 2000000 in
set_option maxRecDepth 100000 in
/-- Where there is no inverse. -/
theorem inverse_no (q e : Int) (x0 x1 x2 x3 : Int) (x4 : Option Addr) (x5 x6 : Nat) {ao : Option Addr} {m ca kr : Nat} {A : Nat → Option Addr} {N C : Nat → Nat} {Z : Nat → Nat → Int} {w : World} (ha : MatZ ao m A N C Z w) (hm : 0 < m) (hcase : (N 0 ≠ m ∧ e = 3) ∨ (N 0 = m ∧ kr < m ∧ e = 8))
    (hI : ∀ w1, Below w.heap.size w w1 → Calls Try.prog 99 #[.int .i64 q, .slice ao m ca] w1 fun r w' => r = .returned (.tuple #[.slice none 0 0, .int .i64 e]) ∧ Below w1.heap.size w1 w') :
    Calls Try.prog 65 #[.int .i64 q, .agg #[.int .i64 x0, .int .i64 x1, .int .i64 x2, .int .i64 x3, .slice x4 x5 x6], .slice ao m ca, .int .i64 (kr : Nat), .int .i64 0] w fun r w' => r = .returned (.bool true) ∧ Below w.heap.size w w' := by
  have HI : Hid (∀ w1, Below w.heap.size w w1 → Calls Try.prog 99 #[.int .i64 q, .slice ao m ca] w1 fun r w' => r = .returned (.tuple #[.slice none 0 0, .int .i64 e]) ∧ Below w1.heap.size w1 w') := hI
  have hbl : Below w.heap.size w (w.alloc (.cells #[.int .i64 x0, .int .i64 x1, .int .i64 x2, .int .i64 x3, .slice x4 x5 x6] 28)) := (Below.refl _ _).alloc (Nat.le_refl _) _
  obtain ⟨b, off, rfl, hc⟩ := (ha.below hbl).cell 0 hm
  rw [show off + 0 = off from rfl] at hc
  obtain ⟨n0, hn0⟩ : ∃ n0, n0 = N 0 := ⟨_, rfl⟩
  rw [← hn0] at hc hcase
  have hmi : (0 : Int) < (m : Int) := by omega
  rcases hcase with ⟨h1, rfl⟩ | ⟨h1, h2, rfl⟩
  · have hz : ((m : Int) != (n0 : Int)) = true := by rw [bne_iff_ne]; omega
    clear hI ha hbl hn0 h1
    go_enter Try.func65, Try.ntmps65
    go_wp2_with fail
    refine (HI.out _ ((Below.refl _ _).alloc (Nat.le_refl _) _)).mono ?_
    rintro r w1 ⟨rfl, hb1⟩
    have HB : Hid (Below w.heap.size w w1) := bel_up' ((Below.refl _ _).alloc (Nat.le_refl _) _) hb1
    clear hb1
    go_wp2
    go_ret
    exact ⟨rfl, HB.out⟩
  · have hz : ((m : Int) != (n0 : Int)) = false := by rw [h1]; simp
    have hkb : (kr : Int) < (m : Int) := by omega
    clear hI ha hbl hn0 h1 h2
    go_enter Try.func65, Try.ntmps65
    go_wp2_with fail
    refine (HI.out _ ((Below.refl _ _).alloc (Nat.le_refl _) _)).mono ?_
    rintro r w1 ⟨rfl, hb1⟩
    have HB : Hid (Below w.heap.size w w1) := bel_up' ((Below.refl _ _).alloc (Nat.le_refl _) _) hb1
    clear hb1
    go_wp2
    go_ret
    exact ⟨rfl, HB.out⟩

theorem mchk_of {D : FD} {m : Nat} {N : Nat → Nat} {Z : Nat → Nat → Int} (hm : m ≤ 64) (h : ∀ i, i < m → D.mrow (N 0) (N i) (Z i) = 0) : D.mchk m N Z = 0 := by
  have key : ∀ k, k ≤ m → D.mchks N Z k = 0 := fun k => by
    induction k with
    | zero => intro _; rfl
    | succ k ih =>
      intro hk
      rw [FD.mchks, ih (by omega)]
      simp [h k (by omega)]
  unfold FD.mchk
  rw [if_neg (by omega)]
  exact key m (Nat.le_refl _)
theorem InvR.matZ {G2 m : Nat} {h : Nat → Nat} {R : Nat → Nat → Nat} {w : World} (H : InvR G2 m h R w) (hm : m ≤ 64) : MatZ (some ⟨G2, 0, none⟩) m (fun i => some ⟨h i, m, none⟩) (fun _ => m) (fun _ => m) (fun i c => ((R i (m + c) : Nat) : Int)) w :=
  ⟨fun i hi => ⟨G2, 0, rfl, by rw [Nat.zero_add]; exact (H i hi).1⟩, fun i hi => (H i hi).2, fun i _ => Nat.le_refl _, fun i _ => (by omega), (fun i _ e => by cases e), fun i _ => (by omega)⟩
theorem InvR.mchk {D : FD} {m : Nat} {R : Nat → Nat → Nat} (hm0 : 0 < m) (hm : m ≤ 64) (he : ∀ i, i < m → El D (R i)) : D.mchk m (fun _ => m) (fun i c => ((R i (m + c) : Nat) : Int)) = 0 := by
  refine mchk_of hm (fun i hi => ?_)
  unfold FD.mrow
  rw [if_neg (by omega), if_neg (by omega), if_pos]
  exact allHas_iff.2 (fun j _ => has_of_lt (he i hi (m + j)))

set_option maxHeartbeats 8000000 in
set_option maxRecDepth 100000 in
/-- The inverse. -/
theorem inverse_yes {D : FD} (hD : D ∈ fieldsL) (gm cm : Nat) {ao : Option Addr} {m n ca : Nat} {A : Nat → Option Addr} {N C : Nat → Nat} {Z : Nat → Nat → Int} {w : World} (ha : MatZ ao m A N C Z w) (h0 : D.mchk m N Z = 0) (hm : m = n + 1) (hN : N 0 = m) (hM : ModAt D (.slice (some ⟨gm, 0, none⟩) (D.m + 1) cm) D.md w)
    (hI : ∀ w1, Below w.heap.size w w1 → Calls Try.prog 99 #[.int .i64 D.q, .slice ao m ca] w1 fun r w' => (∃ G2 h R, r = .returned (.tuple #[.slice (some ⟨G2, 0, none⟩) m m, .int .i64 0]) ∧ InvR G2 m h R w' ∧ (∀ i, i < m → El D (R i)) ∧ ∀ i c, i < m → prodR D (mzc N Z i) (fun i c => R i (m + c)) m c = if c = i then 1 else 0) ∧ Below w1.heap.size w1 w') :
    Calls Try.prog 65 #[.int .i64 D.q, .agg #[.int .i64 D.q, .int .i64 D.p, .int .i64 D.m, .int .i64 D.gen, .slice (some ⟨gm, 0, none⟩) (D.m + 1) cm], .slice ao m ca, .int .i64 (m : Nat), .int .i64 0] w fun r w' => r = .returned (.bool true) ∧ Below w.heap.size w w' := by
  have hbl : Below w.heap.size w (w.alloc (.cells #[.int .i64 D.q, .int .i64 D.p, .int .i64 D.m, .int .i64 D.gen, .slice (some ⟨gm, 0, none⟩) (D.m + 1) cm] 28)) := (Below.refl _ _).alloc (Nat.le_refl _) _
  have HA : Hid (D ∈ fieldsL ∧ MatZ ao m A N C Z w ∧ D.mchk m N Z = 0 ∧ m = n + 1 ∧ N 0 = m ∧ ModAt D (.slice (some ⟨gm, 0, none⟩) (D.m + 1) cm) D.md w ∧ Box w.heap.size D D.gen (.slice (some ⟨gm, 0, none⟩) (D.m + 1) cm) (w.alloc (.cells #[.int .i64 D.q, .int .i64 D.p, .int .i64 D.m, .int .i64 D.gen, .slice (some ⟨gm, 0, none⟩) (D.m + 1) cm] 28))) := ⟨hD, ha, h0, hm, hN, hM, box_new D D.gen _ w⟩
  have HI : Hid (∀ w1, Below w.heap.size w w1 → Calls Try.prog 99 #[.int .i64 D.q, .slice ao m ca] w1 fun r w' => (∃ G2 h R, r = .returned (.tuple #[.slice (some ⟨G2, 0, none⟩) m m, .int .i64 0]) ∧ InvR G2 m h R w' ∧ (∀ i, i < m → El D (R i)) ∧ ∀ i c, i < m → prodR D (mzc N Z i) (fun i c => R i (m + c)) m c = if c = i then 1 else 0) ∧ Below w1.heap.size w1 w') := hI
  have hm64 : m ≤ 64 := by
    obtain ⟨h1, _⟩ := mchk_rows (fld hD) h0 ha (by omega)
    exact h1
  have hm0 : 0 < m := by omega
  have hmi : (0 : Int) < (m : Int) := by omega
  obtain ⟨b, off, rfl, hc⟩ := (ha.below hbl).cell 0 hm0
  rw [show off + 0 = off from rfl, hN] at hc
  have hz : ((m : Int) != (m : Int)) = false := by simp
  have hkb : ¬ (m : Int) < (m : Int) := by omega
  have hmz : ((m : Int) == 0) = false := by rw [beq_eq_false_iff_ne]; omega
  clear hD ha h0 hm hN hM hI hbl
  go_enter Try.func65, Try.ntmps65
  go_wp2_with fail
  refine (HI.out _ ((Below.refl _ _).alloc (Nat.le_refl _) _)).mono ?_
  rintro r w1 ⟨⟨G2, h, R, rfl, hinv, hel, hprod⟩, hb1⟩
  have HB : Hid (InvR G2 m h R w1 ∧ (∀ i, i < m → El D (R i)) ∧ (∀ i c, i < m → prodR D (mzc N Z i) (fun i c => R i (m + c)) m c = if c = i then 1 else 0) ∧ Below w.heap.size w w1 ∧ Box w.heap.size D D.gen (.slice (some ⟨gm, 0, none⟩) (D.m + 1) cm) w1) := ⟨hinv, hel, hprod, bel_up' ((Below.refl _ _).alloc (Nat.le_refl _) _) hb1, HA.out.2.2.2.2.2.2.below hb1 (by simp)⟩
  have hs1 : w.heap.size < w1.heap.size := by have := hb1.size; simp at this; omega
  clear hb1 hinv hel hprod hc
  have HP : Hid (∀ w2, Below w1.heap.size w1 w2 → Calls Try.prog 12 #[.agg #[.int .i64 D.q, .int .i64 D.p, .int .i64 D.m, .int .i64 D.gen, .slice (some ⟨gm, 0, none⟩) (D.m + 1) cm], .slice (some ⟨b, off, none⟩) m ca, .slice (some ⟨G2, 0, none⟩) m m] w2 fun e w' => ∃ po pc, e = .returned (.slice po m pc) ∧ RL (.slice po m pc) m m (fun i => prodR D (mzc N Z i) (fun i c => R i (m + c)) m) w' ∧ Below w2.heap.size w2 w') := fun w2 hb2 => by
    have hmn := HA.out.2.2.2.1
    have hAm := HA.out.2.1.below (bel_up' HB.out.2.2.2.1 hb2)
    obtain ⟨_, n', hn', _, hrows, hmr⟩ := mchk_rows (fld HA.out.1) HA.out.2.2.1 hAm (by omega)
    have hnn : n' = n := by have := HA.out.2.2.2.2.1; omega
    subst hnn
    have hMB : MatR (some ⟨G2, 0, none⟩) (n' + 1) n' (fun i c => R i (m + c)) w2 := fun i hi => by
      have hi' := HB.out.1 i (by omega)
      refine ⟨G2, 0, _, rfl, by rw [Nat.zero_add]; exact ((bcell hb2).1 G2 i (cell_lt hi'.1)).trans hi'.1, some ⟨h i, m, none⟩, m, by rw [hmn], ?_, fun a e => ?_, (fun e => by cases e), by omega, by omega⟩
      · rw [← hmn]; exact slz_below hi'.2 hb2
      · cases e
        obtain ⟨b', o', e', hc'⟩ := hi'.2 0 (by omega)
        cases e'
        exact Nat.lt_of_lt_of_le (cell_lt hc') hb2.size
    have hcall := rproduct_any HA.out.1 D.gen gm cm (ca := ca) (cb := m) (by omega) (by omega) (by omega) (fun i hi => (hrows i hi).2.1) (fun i hi c => HB.out.2.1 i (by omega) (m + c)) hmr hMB (HA.out.2.2.2.2.2.1.below (bel_up' HB.out.2.2.2.1 hb2))
    rw [← hmn] at hcall
    refine hcall.mono ?_
    rintro e w' ⟨v, rfl, hll, hb'⟩
    have hrl := hll.rl
    rw [← hmn] at hrl
    obtain ⟨po, pc, rfl, hrl'⟩ := hrl
    exact ⟨po, pc, rfl, ⟨po, pc, rfl, hrl'⟩, hb'⟩
  have HMy : Hid (Calls Try.prog 10 #[.int .i64 D.q, .slice (some ⟨G2, 0, none⟩) m m] w1 fun r w' => r = .returned (.int .i64 0) ∧ Below w1.heap.size w1 w') := by
    show Calls _ _ _ _ _
    have h := matrixMay_any (ca := m) HA.out.1 (HB.out.1.matZ hm64) (by omega)
    rw [InvR.mchk hm0 hm64 HB.out.2.1] at h
    exact h
  have hcl : ∀ w', Below w1.heap.size w1 w' → w'.cell? ⟨G2, 0, none⟩ = some (.slice (some ⟨h 0, m, none⟩) m m) := fun w' hb => ((bcell hb).1 G2 0 (cell_lt (HB.out.1 0 hm0).1)).trans (HB.out.1 0 hm0).1
  have HCl : Hid (∀ w', Below w1.heap.size w1 w' → w'.cell? ⟨G2, 0, none⟩ = some (.slice (some ⟨h 0, m, none⟩) m m)) := hcl
  clear hcl
  go_wp2_with (go_at_call 10; refine HMy.out.mono ?_; rintro r w2 ⟨rfl, hb2⟩; have hcl2 := HCl.out w2 hb2; have hbx := HB.out.2.2.2.2.below hb2 hs1; have k0 := hbx.c0; have k1 := hbx.c1; have k2 := hbx.c2; have k3 := hbx.c3; have k4 := hbx.c4)
  refine (HP.out w2 hb2).mono ?_
  rintro e w3 ⟨po, pc, rfl, hrl, hb3⟩
  have H3 : Hid (RL (.slice po m pc) m m (fun i => prodR D (mzc N Z i) (fun i c => R i (m + c)) m) w3 ∧ Below w.heap.size w w3) := ⟨hrl, bel_up' (bel_up' HB.out.2.2.2.1 hb2) hb3⟩
  clear hrl hb2 hb3 hcl2 hbx k0 k1 k2 k3 k4 HMy HCl HP
  go_wp2_with fail
  go_loopw [14] (fun vi wr => ∃ i : Nat, i ≤ m ∧ vi = .int .i64 i ∧ wr = w3) (fun vi _ => m - (intOf vi).toNat)
  case atStart => exact ⟨0, by omega, rfl, rfl⟩
  case round =>
    obtain ⟨i, hi, rfl, hw⟩ := hrel
    have hw := hw.symm
    subst hw
    by_cases hlt : i < m
    · have hib : (i : Int) < (m : Int) := by omega
      go_wp2_with fail
      go_loopw [15] (fun vk wr => ∃ k : Nat, k ≤ m ∧ vk = .int .i64 k ∧ wr = w3) (fun vk _ => m - (intOf vk).toNat)
      case atStart => exact ⟨0, by omega, rfl, rfl⟩
      case round =>
        obtain ⟨k, hk, rfl, hw⟩ := hrel
        have hw := hw.symm
        subst hw
        by_cases hlk : k < m
        · have hkb : (k : Int) < (m : Int) := by omega
          obtain ⟨ao', ca', e', hrl⟩ := H3.out.1
          cases e'
          obtain ⟨bp, op, x, cx, rfl, hcr, hsl⟩ := hrl i hlt
          obtain ⟨bx, ox, rfl, hcx⟩ := hsl k hlk
          replace hcx : w3.cell? ⟨bx, ox + k, none⟩ = some (.int .i64 ((prodR D (mzc N Z i) (fun i c => R i (m + c)) m k : Nat) : Int)) := hcx
          rw [HB.out.2.2.1 i k hlt] at hcx
          by_cases hik : k = i
          · rw [if_pos hik] at hcx
            have hz5 : ((i : Int) == (k : Int)) = true := by rw [hik]; simp
            clear hik hsl hrl
            go_wp2
            go_roundw
            case rel => exact ⟨k + 1, by omega, by go_num, by first | rfl | trivial⟩
            case measure => simp [intOf]; omega
          · rw [if_neg hik] at hcx
            have hz5 : ((i : Int) == (k : Int)) = false := by rw [beq_eq_false_iff_ne]; omega
            clear hik hsl hrl
            go_wp2
            go_roundw
            case rel => exact ⟨k + 1, by omega, by go_num, by first | rfl | trivial⟩
            case measure => simp [intOf]; omega
        · have hkb : ¬ (k : Int) < (m : Int) := by omega
          go_wp2
          go_roundw
          case rel => exact ⟨i + 1, by omega, by go_num, by first | rfl | trivial⟩
          case measure => simp [intOf]; omega
    · have hib : ¬ (i : Int) < (m : Int) := by omega
      go_wp2
      go_ret
      exact ⟨rfl, H3.out.2⟩
end Go.Proofs.Ytbpeahhhkcljeaa

/- MatrixSays: one matrix (matrixOne), where it may not be, and where it has no row. -/
namespace Go.Proofs.Ytbpeahhhkcljeaa
open Go.RowKit Go.Sort

set_option maxHeartbeats 8000000 in
set_option maxRecDepth 100000 in
theorem matrixOne_err (q e : Int) (he : e ≠ 0) {ao bo : Option Addr} {m mb ca cb : Nat} {w : World}
    (hFi : ∀ w1, Below w.heap.size w w1 → Calls Try.prog 11 #[.int .i64 q] w1 fun r w' => ∃ x0 x1 x2 x3 x4 x5 x6 e0, r = .returned (.tuple #[.agg #[.int .i64 x0, .int .i64 x1, .int .i64 x2, .int .i64 x3, .slice x4 x5 x6], .int .i64 e0]) ∧ Below w1.heap.size w1 w')
    (hRe : ∀ w1, Below w.heap.size w w1 → Calls Try.prog 39 #[.int .i64 q, .slice ao m ca] w1 fun r w' => r = .returned (.tuple #[.slice none 0 0, .slice none 0 0, .int .i64 e]) ∧ Below w1.heap.size w1 w')
    (hRa : ∀ w1, Below w.heap.size w w1 → Calls Try.prog 37 #[.int .i64 q, .slice ao m ca] w1 fun r w' => r = .returned (.tuple #[.int .i64 0, .int .i64 e]) ∧ Below w1.heap.size w1 w')
    (hNu : ∀ w1, Below w.heap.size w w1 → Calls Try.prog 38 #[.int .i64 q, .slice ao m ca] w1 fun r w' => r = .returned (.tuple #[.slice none 0 0, .int .i64 e]) ∧ Below w1.heap.size w1 w')
    (hSo : ∀ w1, Below w.heap.size w w1 → Calls Try.prog 63 #[.int .i64 q, .slice ao m ca, .slice bo mb cb] w1 fun r w' => r = .returned (.tuple #[.slice none 0 0, .bool false, .int .i64 e]) ∧ Below w1.heap.size w1 w')
    (hIn : ∀ w1, Below w.heap.size w w1 → Calls Try.prog 99 #[.int .i64 q, .slice ao m ca] w1 fun r w' => r = .returned (.tuple #[.slice none 0 0, .int .i64 e]) ∧ Below w1.heap.size w1 w') :
    Calls Try.prog 16 #[.int .i64 q, .slice ao m ca, .slice bo mb cb, .int .i64 e] w fun r w' => r = .returned (.bool true) ∧ Below w.heap.size w w' := by
  have HFi : Hid (∀ w1, Below w.heap.size w w1 → Calls Try.prog 11 #[.int .i64 q] w1 fun r w' => ∃ x0 x1 x2 x3 x4 x5 x6 e0, r = .returned (.tuple #[.agg #[.int .i64 x0, .int .i64 x1, .int .i64 x2, .int .i64 x3, .slice x4 x5 x6], .int .i64 e0]) ∧ Below w1.heap.size w1 w') := hFi
  have HRe : Hid (∀ w1, Below w.heap.size w w1 → Calls Try.prog 39 #[.int .i64 q, .slice ao m ca] w1 fun r w' => r = .returned (.tuple #[.slice none 0 0, .slice none 0 0, .int .i64 e]) ∧ Below w1.heap.size w1 w') := hRe
  have HRa : Hid (∀ w1, Below w.heap.size w w1 → Calls Try.prog 37 #[.int .i64 q, .slice ao m ca] w1 fun r w' => r = .returned (.tuple #[.int .i64 0, .int .i64 e]) ∧ Below w1.heap.size w1 w') := hRa
  have HNu : Hid (∀ w1, Below w.heap.size w w1 → Calls Try.prog 38 #[.int .i64 q, .slice ao m ca] w1 fun r w' => r = .returned (.tuple #[.slice none 0 0, .int .i64 e]) ∧ Below w1.heap.size w1 w') := hNu
  have HSo : Hid (∀ w1, Below w.heap.size w w1 → Calls Try.prog 63 #[.int .i64 q, .slice ao m ca, .slice bo mb cb] w1 fun r w' => r = .returned (.tuple #[.slice none 0 0, .bool false, .int .i64 e]) ∧ Below w1.heap.size w1 w') := hSo
  have HIn : Hid (∀ w1, Below w.heap.size w w1 → Calls Try.prog 99 #[.int .i64 q, .slice ao m ca] w1 fun r w' => r = .returned (.tuple #[.slice none 0 0, .int .i64 e]) ∧ Below w1.heap.size w1 w') := hIn
  have HE : Hid (e ≠ 0) := he
  have hz1 : (e == 0) = false := by rw [beq_eq_false_iff_ne]; exact he
  have hz2 : (e != e) = false := by simp
  clear hFi hRe hRa hNu hSo hIn he
  go_enter Try.func16, Try.ntmps16
  go_wp2_with fail
  refine (HFi.out _ (Below.refl _ _)).mono ?_
  rintro r w1 ⟨x0, x1, x2, x3, x4, x5, x6, e0, rfl, hb'⟩
  have HB : Hid (Below w.heap.size w (w1.alloc (.cells #[.int .i64 x0, .int .i64 x1, .int .i64 x2, .int .i64 x3, .slice x4 x5 x6] 28)) ∧ (w1.alloc (.cells #[.int .i64 x0, .int .i64 x1, .int .i64 x2, .int .i64 x3, .slice x4 x5 x6] 28)).heap.size = w1.heap.size + 1) := ⟨(bel_up' (Below.refl _ _) hb').alloc hb'.size _, by simp⟩
  have k0 : (w1.alloc (.cells #[.int .i64 x0, .int .i64 x1, .int .i64 x2, .int .i64 x3, .slice x4 x5 x6] 28)).cell? ⟨w1.heap.size, 0, none⟩ = some (.int .i64 x0) := by simp
  have HX : Hid (∀ wx, Below (w1.alloc (.cells #[.int .i64 x0, .int .i64 x1, .int .i64 x2, .int .i64 x3, .slice x4 x5 x6] 28)).heap.size (w1.alloc (.cells #[.int .i64 x0, .int .i64 x1, .int .i64 x2, .int .i64 x3, .slice x4 x5 x6] 28)) wx → wx.cell? ⟨w1.heap.size, 0, none⟩ = some (.int .i64 x0) ∧ wx.cell? ⟨w1.heap.size, 1, none⟩ = some (.int .i64 x1) ∧ wx.cell? ⟨w1.heap.size, 2, none⟩ = some (.int .i64 x2) ∧ wx.cell? ⟨w1.heap.size, 3, none⟩ = some (.int .i64 x3) ∧ wx.cell? ⟨w1.heap.size, 4, none⟩ = some (.slice x4 x5 x6)) := fun wx hx => by
    have hl : w1.heap.size < (w1.alloc (.cells #[.int .i64 x0, .int .i64 x1, .int .i64 x2, .int .i64 x3, .slice x4 x5 x6] 28)).heap.size := by simp
    exact ⟨((bcell hx).1 _ _ hl).trans (by simp), ((bcell hx).1 _ _ hl).trans (by simp), ((bcell hx).1 _ _ hl).trans (by simp), ((bcell hx).1 _ _ hl).trans (by simp), ((bcell hx).1 _ _ hl).trans (by simp)⟩
  clear hb' k0
  go_wp2_with fail
  refine (HRe.out _ HB.out.1).mono ?_
  rintro r w2 ⟨rfl, hb2⟩
  have HB2 : Hid (Below w.heap.size w w2 ∧ Below (w1.alloc (.cells #[.int .i64 x0, .int .i64 x1, .int .i64 x2, .int .i64 x3, .slice x4 x5 x6] 28)).heap.size (w1.alloc (.cells #[.int .i64 x0, .int .i64 x1, .int .i64 x2, .int .i64 x3, .slice x4 x5 x6] 28)) w2) := ⟨bel_up' HB.out.1 hb2, hb2⟩
  clear hb2
  go_wp2_with fail
  refine (HRa.out _ HB2.out.1).mono ?_
  rintro r w3 ⟨rfl, hb2⟩
  have HB3 : Hid (Below w.heap.size w w3 ∧ Below (w1.alloc (.cells #[.int .i64 x0, .int .i64 x1, .int .i64 x2, .int .i64 x3, .slice x4 x5 x6] 28)).heap.size (w1.alloc (.cells #[.int .i64 x0, .int .i64 x1, .int .i64 x2, .int .i64 x3, .slice x4 x5 x6] 28)) w3) := ⟨bel_up' HB2.out.1 hb2, bel_up' HB2.out.2 hb2⟩
  clear hb2
  go_wp2_with fail
  refine (HNu.out _ HB3.out.1).mono ?_
  rintro r w4 ⟨rfl, hb2⟩
  have HB4 : Hid (Below w.heap.size w w4 ∧ Below (w1.alloc (.cells #[.int .i64 x0, .int .i64 x1, .int .i64 x2, .int .i64 x3, .slice x4 x5 x6] 28)).heap.size (w1.alloc (.cells #[.int .i64 x0, .int .i64 x1, .int .i64 x2, .int .i64 x3, .slice x4 x5 x6] 28)) w4) := ⟨bel_up' HB3.out.1 hb2, bel_up' HB3.out.2 hb2⟩
  clear hb2
  go_wp2_with (first
    | (go_at_call 15; refine (lists_err2 e HE.out _ _ _ _).mono ?_; rintro r w' ⟨rfl, hw⟩; have hw := hw.symm; subst hw)
    | (go_at_call 59; refine (list_err2 e HE.out _ _ _ _).mono ?_; rintro r w' ⟨rfl, hw⟩; have hw := hw.symm; subst hw)
    | (go_at_call 60; refine (num_err e HE.out _ _).mono ?_; rintro r w' ⟨rfl, hw⟩; have hw := hw.symm; subst hw)
    | fail)
  refine (HSo.out _ HB4.out.1).mono ?_
  rintro r w5 ⟨rfl, hb2⟩
  have HB5 : Hid (Below w.heap.size w w5 ∧ Below (w1.alloc (.cells #[.int .i64 x0, .int .i64 x1, .int .i64 x2, .int .i64 x3, .slice x4 x5 x6] 28)).heap.size (w1.alloc (.cells #[.int .i64 x0, .int .i64 x1, .int .i64 x2, .int .i64 x3, .slice x4 x5 x6] 28)) w5) := ⟨bel_up' HB4.out.1 hb2, bel_up' HB4.out.2 hb2⟩
  clear hb2
  go_wp2_with fail
  refine (same_any (la := []) (lb := []) (Or.inl ⟨rfl, _, _, rfl⟩) (Or.inl ⟨rfl, _, _, rfl⟩)).mono ?_
  rintro r w6 ⟨rfl, d, rfl⟩
  have hdec : decide (([] : List Int) = []) = true := rfl
  rw [hdec]
  have hbd : Below w5.heap.size w5 (w5.drewN d) := ⟨rfl, rfl, rfl, Nat.le_refl _, fun _ _ => rfl⟩
  have HB6 : Hid (Below w.heap.size w (w5.drewN d)) := bel_up' HB5.out.1 hbd
  obtain ⟨k0, k1, k2, k3, k4⟩ := HX.out _ (bel_up' HB5.out.2 hbd)
  clear hdec hbd
  go_wp2_with fail
  refine (inverse_err q e HE.out x0 x1 x2 x3 x4 x5 x6 0 (fun wx hx => HIn.out wx (bel_up' HB6.out hx))).mono ?_
  rintro r w7 ⟨rfl, hb7⟩
  have HB7 : Hid (Below w.heap.size w w7) := bel_up' HB6.out hb7
  clear hb7
  go_wp2
  go_ret
  exact ⟨rfl, HB7.out⟩
end Go.Proofs.Ytbpeahhhkcljeaa
