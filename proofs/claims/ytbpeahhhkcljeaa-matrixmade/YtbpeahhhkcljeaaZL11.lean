/- Texts of ours, one behind the other: L11 L12. -/
import Derived.Test.YtbpeahhhkcljeaaZX20
import Derived.Test.YtbpeahhhkcljeaaZT10
import Derived.Test.YtbpeahhhkcljeaaZL10
/- MatrixSays: lists of lists held against one another; how heavy a matrix is; are all numbers elements. -/
namespace Go.Proofs.Ytbpeahhhkcljeaa
open Go.RowKit Go.Sort

theorem sl_sliceI {x : Option Addr} {n cx : Nat} {c : Nat → Nat} {w : World} (h : Sl x n c w) (hn : n ≤ 1000000) : SliceI (.slice x n cx) (zl n fun j => ((c j : Nat) : Int)) w := by
  by_cases h0 : n = 0
  · subst h0
    exact Or.inl ⟨rfl, x, cx, rfl⟩
  · obtain ⟨b, off, e, _⟩ := h 0 (by omega)
    refine Or.inr ⟨fun e => ?_, by rw [zl_len]; exact hn, b, off, cx, by rw [zl_len, e], fun j hj => ?_⟩
    · have := congrArg List.length e
      rw [zl_len] at this
      exact h0 this
    · rw [zl_len] at hj
      obtain ⟨b', off', e', hc⟩ := h j hj
      rw [e] at e'
      cases e'
      rw [zl_getD n _ j hj]; exact hc

set_option maxHeartbeats 2000000 in
set_option maxRecDepth 100000 in
theorem sameAll_rl {va vb : Value} {k n : Nat} {R : Nat → Nat → Nat} {w : World} (ha : RL va k n R w) (hb : RL vb k n R w) (hk : k ≤ 1000000) (hn : n ≤ 1000000) :
    Calls Try.prog 56 #[va, vb] w fun e w' => e = .returned (.bool true) ∧ ∃ n, w' = w.drewN n := by
  obtain ⟨ao, ca, rfl, ha⟩ := ha
  obtain ⟨bo, cb, rfl, hb⟩ := hb
  have HC : Hid ((∀ i, i < k → ∃ b off x cx, ao = some ⟨b, off, none⟩ ∧ w.cell? ⟨b, off + i, none⟩ = some (.slice x n cx) ∧ Sl x n (R i) w) ∧ ∀ i, i < k → ∃ b off x cx, bo = some ⟨b, off, none⟩ ∧ w.cell? ⟨b, off + i, none⟩ = some (.slice x n cx) ∧ Sl x n (R i) w) := ⟨ha, hb⟩
  clear ha hb
  go_enter Try.func56, Try.ntmps56
  go_wp2
  go_loopw [5] (fun i wr => ∃ r : Nat, r ≤ k ∧ i = .int .i64 r ∧ ∃ n, wr = w.drewN n) (fun i _ => k - (intOf i).toNat)
  case atStart => exact ⟨0, by omega, rfl, 0, rfl⟩
  case round =>
    obtain ⟨r, hr, rfl, d, rfl⟩ := hrel
    by_cases hlt : r < k
    · obtain ⟨b, off, x, cx, rfl, hc, hs⟩ := HC.out.1 r hlt
      obtain ⟨b', off', x', cx', rfl, hc', hs'⟩ := HC.out.2 r hlt
      have HS : Hid (∀ k, Calls Try.prog 64 #[.slice x n cx, .slice x' n cx'] (w.drewN (d + k)) fun e w' => e = .returned (.bool true) ∧ ∃ m, w' = w.drewN (d + m)) := fun k => by
        refine (same_any (w := w.drewN (d + k)) ((sl_sliceI hs hn).drewN _) ((sl_sliceI hs' hn).drewN _)).mono ?_
        rintro e w' ⟨rfl, m, rfl⟩
        exact ⟨by rw [decide_eq_true rfl], k + m, by rw [World.drewN_drewN, Nat.add_assoc]⟩
      have hib : (r : Int) < (k : Int) := by omega
      have hib0 : (0 : Int) ≤ (r : Int) := by omega
      clear hs hs'
      go_wp2
      go_big_quiet (first | (go_at_call 64; exact HS.out _))
      go_wp2
      go_roundw
      case rel => exact ⟨r + 1, by omega, by go_num, _, by first | rfl | rw [World.drewN_drewN]⟩
      case measure => simp [intOf]; omega
    · go_wp2
      go_ret
      exact ⟨rfl, _, rfl⟩

set_option maxHeartbeats 2000000 in
theorem lists_rl {va vb : Value} {k n : Nat} {R : Nat → Nat → Nat} {w : World} (ha : RL va k n R w) (hb : RL vb k n R w) (hk : k ≤ 1000000) (hn : n ≤ 1000000) :
    Calls Try.prog 15 #[va, .int .i64 0, vb, .int .i64 0] w fun r w' => r = .returned (.bool true) ∧ ∃ n, w' = w.drewN n := by
  have H : Hid (RL va k n R w ∧ RL vb k n R w) := ⟨ha, hb⟩
  clear ha hb
  go_enter Try.func15, Try.ntmps15
  go_wp2_with fail
  refine (sameAll_rl H.out.1 H.out.2 hk hn).mono ?_
  rintro e w' ⟨rfl, n, rfl⟩
  go_wp2
  go_ret
  exact ⟨rfl, _, rfl⟩

set_option maxHeartbeats 4000000 in
set_option maxRecDepth 100000 in
theorem relements_any {D : FD} (gen : Nat) (v : Value) {ao : Option Addr} {n ca : Nat} {z : Nat → Int} {w : World} (hn : n ≤ 1000000) (hA : SlZ ao n z w) :
    Calls Try.prog 61 #[.agg #[.int .i64 D.q, .int .i64 D.p, .int .i64 D.m, .int .i64 gen, v], .slice ao n ca] w fun e w' => e = .returned (.bool (D.allHas z n)) ∧ Below w.heap.size w w' := by
  have hbl : Below w.heap.size w (w.alloc (.cells #[.int .i64 D.q, .int .i64 D.p, .int .i64 D.m, .int .i64 gen, v] 28)) := (Below.refl _ _).alloc (Nat.le_refl _) _
  have HS : Hid (SlZ ao n z w ∧ Box w.heap.size D gen v (w.alloc (.cells #[.int .i64 D.q, .int .i64 D.p, .int .i64 D.m, .int .i64 gen, v] 28)) ∧ Below w.heap.size w (w.alloc (.cells #[.int .i64 D.q, .int .i64 D.p, .int .i64 D.m, .int .i64 gen, v] 28))) := ⟨hA, box_new D gen _ w, hbl⟩
  clear hA hbl
  go_enter Try.func61, Try.ntmps61
  go_wp2
  go_loopw [5] (fun i wr => ∃ r : Nat, r ≤ n ∧ i = .int .i64 r ∧ Hid (Box w.heap.size D gen v wr ∧ Below w.heap.size w wr ∧ D.allHas z r = true) ∧ w.heap.size < wr.heap.size) (fun i _ => n - (intOf i).toNat)
  case atStart => exact ⟨0, by omega, rfl, ⟨HS.out.2.1, HS.out.2.2, rfl⟩, by simp⟩
  case round =>
    obtain ⟨r, hr, rfl, HG, hsz⟩ := hrel
    rename World => wr
    by_cases hlt : r < n
    · obtain ⟨b, off, rfl, hcl⟩ := (slz_below HS.out.1 HG.out.2.1) r hlt
      obtain ⟨x, hx⟩ : ∃ x, x = z r := ⟨_, rfl⟩
      rw [← hx] at hcl
      have z1 : (0 : Int) ≤ (r : Int) := by omega
      have z2 : (r : Int) < (n : Int) := by omega
      have k0 := cell_regrown HG.out.1.c0
      have k1 := cell_regrown HG.out.1.c1
      have k2 := cell_regrown HG.out.1.c2
      have k3 := cell_regrown HG.out.1.c3
      have k4 := cell_regrown HG.out.1.c4
      have k5 := cell_regrown hcl
      have HC : Hid (∀ d os, Calls Try.prog 45 #[.agg #[.int .i64 D.q, .int .i64 D.p, .int .i64 D.m, .int .i64 gen, v], .int .i64 x] (grow (redrawn wr d) os) fun e w'' => e = .returned (.bool (D.has x)) ∧ ∃ p : Regrown, w'' = grow (redrawn wr p.d) p.os) := fun d os => Calls.regrown_of (rhas_any D gen v x (grow (redrawn wr d) os))
      by_cases hh : D.has x = true
      · rw [hh] at HC
        have HH : Hid (D.allHas z (r + 1) = true) := by
          show (D.allHas z r && D.has (z r)) = true
          rw [HG.out.2.2, ← hx, hh]; rfl
        clear hx hcl hh
        go_wp2
        refine wp_region_quiet_below (by kernel_rfl) (by kernel_rfl) ?_
        repeat (go_big_quiet_step (first | (go_at_call 45; exact HC.out _ _)))
        refine wpQuiet_nil ?_
        intro _ hw'
        obtain ⟨⟨dq, osq⟩, hw''⟩ := hw'
        subst hw''
        have hb := below_regrown wr dq osq
        have HR : Hid (Box w.heap.size D gen v (grow (redrawn wr dq) osq) ∧ Below w.heap.size w (grow (redrawn wr dq) osq)) := ⟨HG.out.1.below hb hsz, bel_up HG.out.2.1 hb⟩
        have hs := hb.size
        clear hb k0 k1 k2 k3 k4 k5 HC
        go_wp2
        go_roundw
        case rel => exact ⟨r + 1, by omega, by go_num, ⟨HR.out.1, HR.out.2, HH.out⟩, by omega⟩
        case measure => simp [intOf]; omega
      · have hh' : D.has x = false := by simpa using hh
        rw [hh'] at HC
        have HH : Hid (D.allHas z n = false) := by
          show _ = _
          cases h : D.allHas z n with
          | false => rfl
          | true => exact absurd (by rw [hx]; exact allHas_iff.1 h r hlt) hh
        clear hx hcl hh hh'
        go_wp2
        refine wp_region_quiet_below (by kernel_rfl) (by kernel_rfl) ?_
        repeat (go_big_quiet_step (first | (go_at_call 45; exact HC.out _ _)))
        refine wpQuiet_nil ?_
        intro _ hw'
        obtain ⟨⟨dq, osq⟩, hw''⟩ := hw'
        subst hw''
        have hb := below_regrown wr dq osq
        have HR : Hid (Below w.heap.size w (grow (redrawn wr dq) osq)) := bel_up HG.out.2.1 hb
        clear hb k0 k1 k2 k3 k4 k5 HC
        go_wp2
        go_ret
        exact ⟨by rw [HH.out]; rfl, HR.out⟩
    · have hre : n = r := by omega
      subst hre
      have HH : Hid (D.allHas z n = true) := HG.out.2.2
      go_wp2
      go_ret
      exact ⟨by rw [HH.out]; rfl, HG.out.2.1⟩
end Go.Proofs.Ytbpeahhhkcljeaa

/- MatrixSays: inverses. -/
namespace Go.Proofs.Ytbpeahhhkcljeaa
open Go.RowKit Go.Sort

set_option maxHeartbeats 2000000 in
set_option maxRecDepth 100000 in
/-- Where the matrix may not be. -/
theorem inverse_err (q e : Int) (he : e ≠ 0) (x0 x1 x2 x3 : Int) (x4 : Option Addr) (x5 x6 : Nat) (rank : Int) {ao : Option Addr} {m ca : Nat} {w : World}
    (hI : ∀ w1, Below w.heap.size w w1 → Calls Try.prog 99 #[.int .i64 q, .slice ao m ca] w1 fun r w' => r = .returned (.tuple #[.slice none 0 0, .int .i64 e]) ∧ Below w1.heap.size w1 w') :
    Calls Try.prog 65 #[.int .i64 q, .agg #[.int .i64 x0, .int .i64 x1, .int .i64 x2, .int .i64 x3, .slice x4 x5 x6], .slice ao m ca, .int .i64 rank, .int .i64 e] w fun r w' => r = .returned (.bool true) ∧ Below w.heap.size w w' := by
  have HI : Hid (∀ w1, Below w.heap.size w w1 → Calls Try.prog 99 #[.int .i64 q, .slice ao m ca] w1 fun r w' => r = .returned (.tuple #[.slice none 0 0, .int .i64 e]) ∧ Below w1.heap.size w1 w') := hI
  have hz1 : (e == 0) = false := by rw [beq_eq_false_iff_ne]; exact he
  have hz2 : (e != 0) = true := by rw [bne_iff_ne]; exact he
  have hz3 : (e == e) = true := by simp
  clear hI he
  go_enter Try.func65, Try.ntmps65
  go_wp2_with fail
  refine (HI.out _ ((Below.refl _ _).alloc (Nat.le_refl _) _)).mono ?_
  rintro r w1 ⟨rfl, hb1⟩
  have HB : Hid (Below w.heap.size w w1) := bel_up' ((Below.refl _ _).alloc (Nat.le_refl _) _) hb1
  clear hb1
  go_wp2
  go_ret
  exact ⟨rfl, HB.out⟩

set_option maxHeartbeats 2000000 in
set_option maxRecDepth 100000 in
/-- Where there is no row. -/
theorem inverse_zero (q : Int) (x0 x1 x2 x3 : Int) (x4 : Option Addr) (x5 x6 : Nat) {ao : Option Addr} {ca : Nat} {w : World}
    (hI : ∀ w1, Below w.heap.size w w1 → Calls Try.prog 99 #[.int .i64 q, .slice ao 0 ca] w1 fun r w' => (∃ lo lc, r = .returned (.tuple #[.slice lo 0 lc, .int .i64 0])) ∧ Below w1.heap.size w1 w') :
    Calls Try.prog 65 #[.int .i64 q, .agg #[.int .i64 x0, .int .i64 x1, .int .i64 x2, .int .i64 x3, .slice x4 x5 x6], .slice ao 0 ca, .int .i64 0, .int .i64 0] w fun r w' => r = .returned (.bool true) ∧ Below w.heap.size w w' := by
  have HI : Hid (∀ w1, Below w.heap.size w w1 → Calls Try.prog 99 #[.int .i64 q, .slice ao 0 ca] w1 fun r w' => (∃ lo lc, r = .returned (.tuple #[.slice lo 0 lc, .int .i64 0])) ∧ Below w1.heap.size w1 w') := hI
  clear hI
  go_enter Try.func65, Try.ntmps65
  go_wp2_with fail
  refine (HI.out _ ((Below.refl _ _).alloc (Nat.le_refl _) _)).mono ?_
  rintro r w1 ⟨⟨lo, lc, rfl⟩, hb1⟩
  have HB : Hid (Below w.heap.size w w1) := bel_up' ((Below.refl _ _).alloc (Nat.le_refl _) _) hb1
  clear hb1
  go_wp2
  go_ret
  exact ⟨rfl, HB.out⟩

set_option maxHeartbeats 2000000 in
set_option maxRecDepth 100000 in
/-- Where there is no inverse. -/
theorem inverse_no (q e : Int) (x0 x1 x2 x3 : Int) (x4 : Option Addr) (x5 x6 : Nat) {ao : Option Addr} {m ca kr : Nat} {A : Nat → Option Addr} {N C : Nat → Nat} {Z : Nat → Nat → Int} {w : World} (ha : MatZ ao m A N C Z w) (hm : 0 < m) (hcase : (N 0 ≠ m ∧ e = 3) ∨ (N 0 = m ∧ kr < m ∧ e = 8))
    (hI : ∀ w1, Below w.heap.size w w1 → Calls Try.prog 99 #[.int .i64 q, .slice ao m ca] w1 fun r w' => r = .returned (.tuple #[.slice none 0 0, .int .i64 e]) ∧ Below w1.heap.size w1 w') :
    Calls Try.prog 65 #[.int .i64 q, .agg #[.int .i64 x0, .int .i64 x1, .int .i64 x2, .int .i64 x3, .slice x4 x5 x6], .slice ao m ca, .int .i64 (kr : Nat), .int .i64 0] w fun r w' => r = .returned (.bool true) ∧ Below w.heap.size w w' := by
  have HI : Hid (∀ w1, Below w.heap.size w w1 → Calls Try.prog 99 #[.int .i64 q, .slice ao m ca] w1 fun r w' => r = .returned (.tuple #[.slice none 0 0, .int .i64 e]) ∧ Below w1.heap.size w1 w') := hI
  have hbl : Below w.heap.size w (w.alloc (.cells #[.int .i64 x0, .int .i64 x1, .int .i64 x2, .int .i64 x3, .slice x4 x5 x6] 28)) := (Below.refl _ _).alloc (Nat.le_refl _) _
  obtain ⟨b, off, rfl, hc⟩ := (ha.below hbl).cell 0 hm
  rw [show off + 0 = off from rfl] at hc
  obtain ⟨n0, hn0⟩ : ∃ n0, n0 = N 0 := ⟨_, rfl⟩
  rw [← hn0] at hc hcase
  have hmi : (0 : Int) < (m : Int) := by omega
  rcases hcase with ⟨h1, rfl⟩ | ⟨h1, h2, rfl⟩
  · have hz : ((m : Int) != (n0 : Int)) = true := by rw [bne_iff_ne]; omega
    clear hI ha hbl hn0 h1
    go_enter Try.func65, Try.ntmps65
    go_wp2_with fail
    refine (HI.out _ ((Below.refl _ _).alloc (Nat.le_refl _) _)).mono ?_
    rintro r w1 ⟨rfl, hb1⟩
    have HB : Hid (Below w.heap.size w w1) := bel_up' ((Below.refl _ _).alloc (Nat.le_refl _) _) hb1
    clear hb1
    go_wp2
    go_ret
    exact ⟨rfl, HB.out⟩
  · have hz : ((m : Int) != (n0 : Int)) = false := by rw [h1]; simp
    have hkb : (kr : Int) < (m : Int) := by omega
    clear hI ha hbl hn0 h1 h2
    go_enter Try.func65, Try.ntmps65
    go_wp2_with fail
    refine (HI.out _ ((Below.refl _ _).alloc (Nat.le_refl _) _)).mono ?_
    rintro r w1 ⟨rfl, hb1⟩
    have HB : Hid (Below w.heap.size w w1) := bel_up' ((Below.refl _ _).alloc (Nat.le_refl _) _) hb1
    clear hb1
    go_wp2
    go_ret
    exact ⟨rfl, HB.out⟩

theorem mchk_of {D : FD} {m : Nat} {N : Nat → Nat} {Z : Nat → Nat → Int} (hm : m ≤ 64) (h : ∀ i, i < m → D.mrow (N 0) (N i) (Z i) = 0) : D.mchk m N Z = 0 := by
  have key : ∀ k, k ≤ m → D.mchks N Z k = 0 := fun k => by
    induction k with
    | zero => intro _; rfl
    | succ k ih =>
      intro hk
      rw [FD.mchks, ih (by omega)]
      simp [h k (by omega)]
  unfold FD.mchk
  rw [if_neg (by omega)]
  exact key m (Nat.le_refl _)
theorem InvR.matZ {G2 m : Nat} {h : Nat → Nat} {R : Nat → Nat → Nat} {w : World} (H : InvR G2 m h R w) (hm : m ≤ 64) : MatZ (some ⟨G2, 0, none⟩) m (fun i => some ⟨h i, m, none⟩) (fun _ => m) (fun _ => m) (fun i c => ((R i (m + c) : Nat) : Int)) w :=
  ⟨fun i hi => ⟨G2, 0, rfl, by rw [Nat.zero_add]; exact (H i hi).1⟩, fun i hi => (H i hi).2, fun i _ => Nat.le_refl _, fun i _ => (by omega), (fun i _ e => by cases e), fun i _ => (by omega)⟩
theorem InvR.mchk {D : FD} {m : Nat} {R : Nat → Nat → Nat} (hm0 : 0 < m) (hm : m ≤ 64) (he : ∀ i, i < m → El D (R i)) : D.mchk m (fun _ => m) (fun i c => ((R i (m + c) : Nat) : Int)) = 0 := by
  refine mchk_of hm (fun i hi => ?_)
  unfold FD.mrow
  rw [if_neg (by omega), if_neg (by omega), if_pos]
  exact allHas_iff.2 (fun j _ => has_of_lt (he i hi (m + j)))

set_option maxHeartbeats 8000000 in
set_option maxRecDepth 100000 in
/-- The inverse. -/
theorem inverse_yes {D : FD} (hD : D ∈ fieldsL) (gm cm : Nat) {ao : Option Addr} {m n ca : Nat} {A : Nat → Option Addr} {N C : Nat → Nat} {Z : Nat → Nat → Int} {w : World} (ha : MatZ ao m A N C Z w) (h0 : D.mchk m N Z = 0) (hm : m = n + 1) (hN : N 0 = m) (hM : ModAt D (.slice (some ⟨gm, 0, none⟩) (D.m + 1) cm) D.md w)
    (hI : ∀ w1, Below w.heap.size w w1 → Calls Try.prog 99 #[.int .i64 D.q, .slice ao m ca] w1 fun r w' => (∃ G2 h R, r = .returned (.tuple #[.slice (some ⟨G2, 0, none⟩) m m, .int .i64 0]) ∧ InvR G2 m h R w' ∧ (∀ i, i < m → El D (R i)) ∧ ∀ i c, i < m → prodR D (mzc N Z i) (fun i c => R i (m + c)) m c = if c = i then 1 else 0) ∧ Below w1.heap.size w1 w') :
    Calls Try.prog 65 #[.int .i64 D.q, .agg #[.int .i64 D.q, .int .i64 D.p, .int .i64 D.m, .int .i64 D.gen, .slice (some ⟨gm, 0, none⟩) (D.m + 1) cm], .slice ao m ca, .int .i64 (m : Nat), .int .i64 0] w fun r w' => r = .returned (.bool true) ∧ Below w.heap.size w w' := by
  have hbl : Below w.heap.size w (w.alloc (.cells #[.int .i64 D.q, .int .i64 D.p, .int .i64 D.m, .int .i64 D.gen, .slice (some ⟨gm, 0, none⟩) (D.m + 1) cm] 28)) := (Below.refl _ _).alloc (Nat.le_refl _) _
  have HA : Hid (D ∈ fieldsL ∧ MatZ ao m A N C Z w ∧ D.mchk m N Z = 0 ∧ m = n + 1 ∧ N 0 = m ∧ ModAt D (.slice (some ⟨gm, 0, none⟩) (D.m + 1) cm) D.md w ∧ Box w.heap.size D D.gen (.slice (some ⟨gm, 0, none⟩) (D.m + 1) cm) (w.alloc (.cells #[.int .i64 D.q, .int .i64 D.p, .int .i64 D.m, .int .i64 D.gen, .slice (some ⟨gm, 0, none⟩) (D.m + 1) cm] 28))) := ⟨hD, ha, h0, hm, hN, hM, box_new D D.gen _ w⟩
  have HI : Hid (∀ w1, Below w.heap.size w w1 → Calls Try.prog 99 #[.int .i64 D.q, .slice ao m ca] w1 fun r w' => (∃ G2 h R, r = .returned (.tuple #[.slice (some ⟨G2, 0, none⟩) m m, .int .i64 0]) ∧ InvR G2 m h R w' ∧ (∀ i, i < m → El D (R i)) ∧ ∀ i c, i < m → prodR D (mzc N Z i) (fun i c => R i (m + c)) m c = if c = i then 1 else 0) ∧ Below w1.heap.size w1 w') := hI
  have hm64 : m ≤ 64 := by
    obtain ⟨h1, _⟩ := mchk_rows (fld hD) h0 ha (by omega)
    exact h1
  have hm0 : 0 < m := by omega
  have hmi : (0 : Int) < (m : Int) := by omega
  obtain ⟨b, off, rfl, hc⟩ := (ha.below hbl).cell 0 hm0
  rw [show off + 0 = off from rfl, hN] at hc
  have hz : ((m : Int) != (m : Int)) = false := by simp
  have hkb : ¬ (m : Int) < (m : Int) := by omega
  have hmz : ((m : Int) == 0) = false := by rw [beq_eq_false_iff_ne]; omega
  clear hD ha h0 hm hN hM hI hbl
  go_enter Try.func65, Try.ntmps65
  go_wp2_with fail
  refine (HI.out _ ((Below.refl _ _).alloc (Nat.le_refl _) _)).mono ?_
  rintro r w1 ⟨⟨G2, h, R, rfl, hinv, hel, hprod⟩, hb1⟩
  have HB : Hid (InvR G2 m h R w1 ∧ (∀ i, i < m → El D (R i)) ∧ (∀ i c, i < m → prodR D (mzc N Z i) (fun i c => R i (m + c)) m c = if c = i then 1 else 0) ∧ Below w.heap.size w w1 ∧ Box w.heap.size D D.gen (.slice (some ⟨gm, 0, none⟩) (D.m + 1) cm) w1) := ⟨hinv, hel, hprod, bel_up' ((Below.refl _ _).alloc (Nat.le_refl _) _) hb1, HA.out.2.2.2.2.2.2.below hb1 (by simp)⟩
  have hs1 : w.heap.size < w1.heap.size := by have := hb1.size; simp at this; omega
  clear hb1 hinv hel hprod hc
  have HP : Hid (∀ w2, Below w1.heap.size w1 w2 → Calls Try.prog 12 #[.agg #[.int .i64 D.q, .int .i64 D.p, .int .i64 D.m, .int .i64 D.gen, .slice (some ⟨gm, 0, none⟩) (D.m + 1) cm], .slice (some ⟨b, off, none⟩) m ca, .slice (some ⟨G2, 0, none⟩) m m] w2 fun e w' => ∃ po pc, e = .returned (.slice po m pc) ∧ RL (.slice po m pc) m m (fun i => prodR D (mzc N Z i) (fun i c => R i (m + c)) m) w' ∧ Below w2.heap.size w2 w') := fun w2 hb2 => by
    have hmn := HA.out.2.2.2.1
    have hAm := HA.out.2.1.below (bel_up' HB.out.2.2.2.1 hb2)
    obtain ⟨_, n', hn', _, hrows, hmr⟩ := mchk_rows (fld HA.out.1) HA.out.2.2.1 hAm (by omega)
    have hnn : n' = n := by have := HA.out.2.2.2.2.1; omega
    subst hnn
    have hMB : MatR (some ⟨G2, 0, none⟩) (n' + 1) n' (fun i c => R i (m + c)) w2 := fun i hi => by
      have hi' := HB.out.1 i (by omega)
      refine ⟨G2, 0, _, rfl, by rw [Nat.zero_add]; exact ((bcell hb2).1 G2 i (cell_lt hi'.1)).trans hi'.1, some ⟨h i, m, none⟩, m, by rw [hmn], ?_, fun a e => ?_, (fun e => by cases e), by omega, by omega⟩
      · rw [← hmn]; exact slz_below hi'.2 hb2
      · cases e
        obtain ⟨b', o', e', hc'⟩ := hi'.2 0 (by omega)
        cases e'
        exact Nat.lt_of_lt_of_le (cell_lt hc') hb2.size
    have hcall := rproduct_any HA.out.1 D.gen gm cm (ca := ca) (cb := m) (by omega) (by omega) (by omega) (fun i hi => (hrows i hi).2.1) (fun i hi c => HB.out.2.1 i (by omega) (m + c)) hmr hMB (HA.out.2.2.2.2.2.1.below (bel_up' HB.out.2.2.2.1 hb2))
    rw [← hmn] at hcall
    refine hcall.mono ?_
    rintro e w' ⟨v, rfl, hll, hb'⟩
    have hrl := hll.rl
    rw [← hmn] at hrl
    obtain ⟨po, pc, rfl, hrl'⟩ := hrl
    exact ⟨po, pc, rfl, ⟨po, pc, rfl, hrl'⟩, hb'⟩
  have HMy : Hid (Calls Try.prog 10 #[.int .i64 D.q, .slice (some ⟨G2, 0, none⟩) m m] w1 fun r w' => r = .returned (.int .i64 0) ∧ Below w1.heap.size w1 w') := by
    show Calls _ _ _ _ _
    have h := matrixMay_any (ca := m) HA.out.1 (HB.out.1.matZ hm64) (by omega)
    rw [InvR.mchk hm0 hm64 HB.out.2.1] at h
    exact h
  have hcl : ∀ w', Below w1.heap.size w1 w' → w'.cell? ⟨G2, 0, none⟩ = some (.slice (some ⟨h 0, m, none⟩) m m) := fun w' hb => ((bcell hb).1 G2 0 (cell_lt (HB.out.1 0 hm0).1)).trans (HB.out.1 0 hm0).1
  have HCl : Hid (∀ w', Below w1.heap.size w1 w' → w'.cell? ⟨G2, 0, none⟩ = some (.slice (some ⟨h 0, m, none⟩) m m)) := hcl
  clear hcl
  go_wp2_with (go_at_call 10; refine HMy.out.mono ?_; rintro r w2 ⟨rfl, hb2⟩; have hcl2 := HCl.out w2 hb2; have hbx := HB.out.2.2.2.2.below hb2 hs1; have k0 := hbx.c0; have k1 := hbx.c1; have k2 := hbx.c2; have k3 := hbx.c3; have k4 := hbx.c4)
  refine (HP.out w2 hb2).mono ?_
  rintro e w3 ⟨po, pc, rfl, hrl, hb3⟩
  have H3 : Hid (RL (.slice po m pc) m m (fun i => prodR D (mzc N Z i) (fun i c => R i (m + c)) m) w3 ∧ Below w.heap.size w w3) := ⟨hrl, bel_up' (bel_up' HB.out.2.2.2.1 hb2) hb3⟩
  clear hrl hb2 hb3 hcl2 hbx k0 k1 k2 k3 k4 HMy HCl HP
  go_wp2_with fail
  go_loopw [14] (fun vi wr => ∃ i : Nat, i ≤ m ∧ vi = .int .i64 i ∧ wr = w3) (fun vi _ => m - (intOf vi).toNat)
  case atStart => exact ⟨0, by omega, rfl, rfl⟩
  case round =>
    obtain ⟨i, hi, rfl, hw⟩ := hrel
    have hw := hw.symm
    subst hw
    by_cases hlt : i < m
    · have hib : (i : Int) < (m : Int) := by omega
      go_wp2_with fail
      go_loopw [15] (fun vk wr => ∃ k : Nat, k ≤ m ∧ vk = .int .i64 k ∧ wr = w3) (fun vk _ => m - (intOf vk).toNat)
      case atStart => exact ⟨0, by omega, rfl, rfl⟩
      case round =>
        obtain ⟨k, hk, rfl, hw⟩ := hrel
        have hw := hw.symm
        subst hw
        by_cases hlk : k < m
        · have hkb : (k : Int) < (m : Int) := by omega
          obtain ⟨ao', ca', e', hrl⟩ := H3.out.1
          cases e'
          obtain ⟨bp, op, x, cx, rfl, hcr, hsl⟩ := hrl i hlt
          obtain ⟨bx, ox, rfl, hcx⟩ := hsl k hlk
          replace hcx : w3.cell? ⟨bx, ox + k, none⟩ = some (.int .i64 ((prodR D (mzc N Z i) (fun i c => R i (m + c)) m k : Nat) : Int)) := hcx
          rw [HB.out.2.2.1 i k hlt] at hcx
          by_cases hik : k = i
          · rw [if_pos hik] at hcx
            have hz5 : ((i : Int) == (k : Int)) = true := by rw [hik]; simp
            clear hik hsl hrl
            go_wp2
            go_roundw
            case rel => exact ⟨k + 1, by omega, by go_num, by first | rfl | trivial⟩
            case measure => simp [intOf]; omega
          · rw [if_neg hik] at hcx
            have hz5 : ((i : Int) == (k : Int)) = false := by rw [beq_eq_false_iff_ne]; omega
            clear hik hsl hrl
            go_wp2
            go_roundw
            case rel => exact ⟨k + 1, by omega, by go_num, by first | rfl | trivial⟩
            case measure => simp [intOf]; omega
        · have hkb : ¬ (k : Int) < (m : Int) := by omega
          go_wp2
          go_roundw
          case rel => exact ⟨i + 1, by omega, by go_num, by first | rfl | trivial⟩
          case measure => simp [intOf]; omega
    · have hib : ¬ (i : Int) < (m : Int) := by omega
      go_wp2
      go_ret
      exact ⟨rfl, H3.out.2⟩
end Go.Proofs.Ytbpeahhhkcljeaa
