/- Texts of ours, one behind the other: KL5 KL6 KL7. -/
import Derived.Test.YtdfneklnpghhmaaGreatDoorZKI21
import Derived.Test.YtdfneklnpghhmaaGreatDoorZKL3
import Derived.Test.YtdfneklnpghhmaaGreatDoorZI6
import Derived.Test.YtdfneklnpghhmaaGreatDoorZO2
/- Codes: those of few words (code.small). -/
namespace Go.Proofs.YtdfneklnpghhmaaGreatDoor
open Go.RowKit Go.Sort

theorem laid_rb {b b' : Nat} {w : World} (h : RB b' w) (hne : b' ≠ b) (q n : Int) (v : Value) : RB b' (laid w b q n v) := by
  have e := laid_heap w b q n v hne
  have ec : ∀ o, (laid w b q n v).cell? ⟨b', o, none⟩ = w.cell? ⟨b', o, none⟩ := fun o => by simp [World.cell?, e]
  have ef : ∀ o, (laid w b q n v).frozen? ⟨b', o, none⟩ = w.frozen? ⟨b', o, none⟩ := fun o => World.frozen?_of_block e
  exact ⟨by rw [ec]; exact h.c0, by rw [ec]; exact h.c1, by rw [ec]; exact h.c2, by rw [ef]; exact h.f0, by rw [ef]; exact h.f1, by rw [ef]; exact h.f2⟩
/-- What small tells of a code that may be. -/
def SmP (D : FD) (n m : Nat) (M : Nat → Nat → Nat) (w : World) (x : Ending) (w' : World) : Prop :=
  ∃ k R, Red D n m M k R ∧ Below w.heap.size w w' ∧ ((D.q ^ k ≤ 4096 ∧ ∃ ro rc, (k ≤ rc ∧ rc ≤ 1000000) ∧ MV w.heap.size (.slice ro k rc) k n R w' ∧ x = .returned (.tuple #[.agg #[.int .i64 D.q, .int .i64 (n : Nat), .slice ro k rc], .int .i64 0])) ∨
    (¬ D.q ^ k ≤ 4096 ∧ x = .returned (.tuple #[.agg #[.int .i64 0, .int .i64 0, .slice none 0 0], .int .i64 4])))
set_option maxHeartbeats 4000000 in
set_option maxRecDepth 100000 in
theorem small_err (e : Int) (he : e ≠ 0) (q n : Int) {ao : Option Addr} {m ca : Nat} {w : World}
    (hC : ∀ wx, Below w.heap.size w wx → Calls Tryz.prog 47 #[.agg #[.int .i64 q, .int .i64 n, .slice ao m ca]] wx fun x w' => x = .returned (.int .i64 e) ∧ Below wx.heap.size wx w') :
    Calls Tryz.prog 45 #[.agg #[.int .i64 q, .int .i64 n, .slice ao m ca]] w fun x w' => x = .returned (.tuple #[.agg #[.int .i64 0, .int .i64 0, .slice none 0 0], .int .i64 e]) ∧ Below w.heap.size w w' := by
  have HC : Hid _ := hC
  have hz : (e != 0) = true := by rw [bne_iff_ne]; exact he
  have HE : Hid (e ≠ 0) := he
  clear hC he
  obtain ⟨w0, hw0⟩ : ∃ w0, w0 = (w.alloc (.cells #[.int .i64 q, .int .i64 n, .slice ao m ca] 24)).alloc (.cells #[.int .i64 0, .int .i64 0, .slice none 0 0] 24) := ⟨_, rfl⟩
  have HW : Hid (Below w.heap.size w w0 ∧ RB w.heap.size w0 ∧ RB (w.heap.size + 1) w0 ∧ w0.heap.size = w.heap.size + 2) := by
    obtain ⟨h1, h2, h3, h4⟩ := two_boxes q n 0 0 (.slice ao m ca) (.slice none 0 0) w
    have h5 := RBt.new #[.int .i64 q, .int .i64 n, .slice ao m ca] w
    have h6 := RBt.new #[.int .i64 0, .int .i64 0, .slice none 0 0] (w.alloc (.cells #[.int .i64 q, .int .i64 n, .slice ao m ca] 24))
    rw [show (w.alloc (.cells #[.int .i64 q, .int .i64 n, .slice ao m ca] 24)).heap.size = w.heap.size + 1 by simp] at h6
    have h7 : RBt w.heap.size w0 := by
      obtain ⟨cs, hcs⟩ := h5
      exact ⟨cs, by rw [hw0, Below.heap_alloc _ _ _ (by simp)]; exact hcs⟩
    rw [hw0] at h7 ⊢
    exact ⟨h1, RB.of h2 h7, RB.of h3 h6, by simp⟩
  go_enter Tryz.func45, Tryz.ntmps45
  go_wp2_with fail
  rw [← hw0]
  clear hw0
  refine (cMake_err e HE.out q n (w := w0) fun wx hx => HC.out wx (HW.out.1.trans (hx.mono HW.out.1.size))).mono ?_
  rintro x w1 ⟨rfl, hb1⟩
  have H1 : Hid (Below w.heap.size w w1 ∧ RB w.heap.size w1 ∧ RB (w.heap.size + 1) w1) := ⟨bel_up' HW.out.1 hb1, HW.out.2.1.keep hb1, HW.out.2.2.1.keep hb1⟩
  clear hb1
  obtain ⟨⟨x0, c0⟩, ⟨x1, c1⟩, ⟨x2, c2⟩, f0, f1, f2⟩ := H1.out.2.1
  obtain ⟨⟨y0, d0⟩, ⟨y1, d1⟩, ⟨y2, d2⟩, g0, g1, g2⟩ := H1.out.2.2
  go_wp2
  obtain ⟨w2, hw2⟩ : ∃ w2, w2 = laid w1 w.heap.size 0 0 (.slice none 0 0) := ⟨_, rfl⟩
  obtain ⟨w3, hw3⟩ : ∃ w3, w3 = laid w2 (w.heap.size + 1) 0 0 (.slice none 0 0) := ⟨_, rfl⟩
  have H3 : Hid (CB (w.heap.size + 1) 0 0 (.slice none 0 0) w3 ∧ Below w.heap.size w w3) := by
    rw [hw3, hw2]
    exact ⟨laid_cb (laid_rb H1.out.2.2 (by omega) _ _ _) _ _ _, laid_below (laid_below H1.out.1 (Nat.le_refl _) _ _ _) (by omega) _ _ _⟩
  rw [hw2] at hw3
  unfold laid at hw3
  rw [← hw3]
  clear hw2 hw3 c0 c1 c2 f0 f1 f2 d0 d1 d2 g0 g1 g2
  obtain ⟨c0, c1, c2⟩ := H3.out.1
  refine bodyPost_ret (v := .tuple #[.agg #[.int .i64 0, .int .i64 0, .slice none 0 0], .int .i64 e]) (by simp [results, Tryz.results45, go_sem, c0, c1, c2]) rfl ?_
  exact ⟨rfl, H3.out.2⟩

set_option maxHeartbeats 8000000 in
set_option maxRecDepth 100000 in
theorem small_ok {D : FD} (hD : D ∈ fieldsL) {ao : Option Addr} {m n ca : Nat} {A : Nat → Option Addr} {N C : Nat → Nat} {Z : Nat → Nat → Int} {w : World} (ha : CdZ D ao m n A N C Z w)
    (hC : ∀ wx, Below w.heap.size w wx → Calls Tryz.prog 47 #[.agg #[.int .i64 D.q, .int .i64 (n : Nat), .slice ao m ca]] wx fun x w' => x = .returned (.int .i64 0) ∧ Below wx.heap.size wx w') :
    Calls Tryz.prog 45 #[.agg #[.int .i64 D.q, .int .i64 (n : Nat), .slice ao m ca]] w (SmP D n m (mzc N Z) w) := by
  obtain ⟨w0, hw0⟩ : ∃ w0, w0 = (w.alloc (.cells #[.int .i64 D.q, .int .i64 (n : Nat), .slice ao m ca] 24)).alloc (.cells #[.int .i64 0, .int .i64 0, .slice none 0 0] 24) := ⟨_, rfl⟩
  have HW : Hid (Below w.heap.size w w0 ∧ RB w.heap.size w0 ∧ RB (w.heap.size + 1) w0 ∧ w0.heap.size = w.heap.size + 2) := by
    obtain ⟨h1, h2, h3, h4⟩ := two_boxes D.q n 0 0 (.slice ao m ca) (.slice none 0 0) w
    have h5 := RBt.new #[.int .i64 D.q, .int .i64 n, .slice ao m ca] w
    have h6 := RBt.new #[.int .i64 0, .int .i64 0, .slice none 0 0] (w.alloc (.cells #[.int .i64 D.q, .int .i64 n, .slice ao m ca] 24))
    rw [show (w.alloc (.cells #[.int .i64 D.q, .int .i64 n, .slice ao m ca] 24)).heap.size = w.heap.size + 1 by simp] at h6
    have h7 : RBt w.heap.size w0 := by
      obtain ⟨cs, hcs⟩ := h5
      exact ⟨cs, by rw [hw0, Below.heap_alloc _ _ _ (by simp)]; exact hcs⟩
    rw [hw0] at h7 ⊢
    exact ⟨h1, RB.of h2 h7, RB.of h3 h6, by simp⟩
  have HA : Hid (D ∈ fieldsL ∧ CdZ D ao m n A N C Z w0) := ⟨hD, ha.below HW.out.1⟩
  have HC : Hid _ := hC
  have hq2 := (fld hD).q2
  have hq64 := (fld hD).q64
  clear hD ha hC
  go_enter Tryz.func45, Tryz.ntmps45
  go_wp2_with fail
  rw [← hw0]
  clear hw0
  refine (cMakeC_ok HA.out.1 HA.out.2 (fun wx hx => HC.out wx (HW.out.1.trans (hx.mono HW.out.1.size)))).mono ?_
  rintro x w1 ⟨k, R, ro, rc, rfl, hkr, hmv, hred, hb1⟩
  have H1 : Hid (Below w.heap.size w w1 ∧ RB w.heap.size w1 ∧ RB (w.heap.size + 1) w1 ∧ MV w0.heap.size (.slice ro k rc) k n R w1 ∧ Red D n m (mzc N Z) k R) := ⟨bel_up' HW.out.1 hb1, HW.out.2.1.keep hb1, HW.out.2.2.1.keep hb1, hmv, hred⟩
  have HKR : Hid (k ≤ rc ∧ rc ≤ 1000000) := hkr
  have hk6 : k ≤ 1000000 := by omega
  clear hb1 hmv hred hkr
  obtain ⟨⟨x0, c0⟩, ⟨x1, c1⟩, ⟨x2, c2⟩, f0, f1, f2⟩ := H1.out.2.1
  obtain ⟨w2, hw2⟩ : ∃ w2, w2 = laid w1 w.heap.size D.q n (.slice ro k rc) := ⟨_, rfl⟩
  have H2 : Hid (CB w.heap.size D.q n (.slice ro k rc) w2 ∧ RB (w.heap.size + 1) w2 ∧ MV w0.heap.size (.slice ro k rc) k n R w2 ∧ Below w.heap.size w w2) := by
    have := HW.out.2.2.2
    rw [hw2]; exact ⟨laid_cb H1.out.2.1 _ _ _, laid_rb H1.out.2.2.1 (by omega) _ _ _, laid_mv H1.out.2.2.2.1 (by omega) _ _ _, laid_below H1.out.1 (Nat.le_refl _) _ _ _⟩
  have hcb2 := H2.out.1
  obtain ⟨e0, e1, e2⟩ := hcb2
  rw [hw2] at e0 e1 e2
  unfold laid at e0 e1 e2 hw2
  go_wp2
  rw [← hw2]
  clear hw2 e0 e1 e2 c0 c1 c2 f0 f1 f2
  go_loopw [5, 18] (fun vm vi wr => ∃ (i x : Nat), i ≤ k ∧ x ≤ 4096 ∧ vm = .int .i64 (x : Nat) ∧ vi = .int .i64 (i : Nat) ∧ Hid (x = D.q ^ i ∧ wr = w2)) (fun _ vi _ => k - (intOf vi).toNat)
  case atStart => exact ⟨0, 1, by omega, by omega, rfl, rfl, rfl, rfl⟩
  case round =>
    obtain ⟨i, x, hi, hx, rfl, rfl, HG⟩ := hrel
    rename World => wr
    have hwr : wr = w2 := HG.out.2
    subst hwr
    have hcb := H2.out.1
    obtain ⟨a0, a1, a2⟩ := hcb
    by_cases hlt : i < k
    · have hib : (i : Int) < (k : Int) := by omega
      obtain ⟨y, hy⟩ : ∃ y, y = x * D.q := ⟨_, rfl⟩
      have hyb : y ≤ 262144 := by rw [hy]; exact Nat.le_trans (Nat.mul_le_mul hx hq64) (by omega)
      have wy : IntKind.i64.wrap ((x : Int) * (D.q : Int)) = (y : Int) := wrap_to (by rw [hy]; simp) (by omega)
      have HY : Hid (y = D.q ^ (i + 1)) := by show y = D.q ^ (i + 1); rw [hy, HG.out.1, Nat.pow_succ]
      clear hy
      by_cases hbig : 4096 < y
      · have hz : (4096 : Int) < (y : Int) := by omega
        have HB : Hid (¬ D.q ^ k ≤ 4096) := fun h => by
          have h1 : D.q ^ (i + 1) ≤ D.q ^ k := Nat.pow_le_pow_right (by omega) (by omega)
          have := HY.out; omega
        clear hbig
        obtain ⟨⟨y0, d0⟩, ⟨y1, d1⟩, ⟨y2, d2⟩, g0, g1, g2⟩ := H2.out.2.1
        go_wp2
        obtain ⟨w3, hw3⟩ : ∃ w3, w3 = laid wr (w.heap.size + 1) 0 0 (.slice none 0 0) := ⟨_, rfl⟩
        have H3 : Hid (CB (w.heap.size + 1) 0 0 (.slice none 0 0) w3 ∧ Below w.heap.size w w3) := by
          rw [hw3]; exact ⟨laid_cb H2.out.2.1 _ _ _, laid_below H2.out.2.2.2 (by omega) _ _ _⟩
        unfold laid at hw3
        rw [← hw3]
        clear hw3 d0 d1 d2 g0 g1 g2 a0 a1 a2
        obtain ⟨c0, c1, c2⟩ := H3.out.1
        refine bodyPost_ret (v := .tuple #[.agg #[.int .i64 0, .int .i64 0, .slice none 0 0], .int .i64 4]) (by simp [results, Tryz.results45, go_sem, c0, c1, c2]) rfl ?_
        exact ⟨k, R, H1.out.2.2.2.2, H3.out.2, Or.inr ⟨HB.out, rfl⟩⟩
      · have hz : ¬ (4096 : Int) < (y : Int) := by omega
        have hyl : y ≤ 4096 := by omega
        clear hbig
        go_wp2
        go_roundw
        case rel => exact ⟨i + 1, y, by omega, hyl, rfl, by go_num, HY.out, by first | rfl | trivial⟩
        case measure => simp [intOf]; omega
    · have hib : ¬ (i : Int) < (k : Int) := by omega
      have hie : i = k := by omega
      have HB : Hid (D.q ^ k ≤ 4096) := by show D.q ^ k ≤ 4096; rw [← hie, ← HG.out.1]; exact hx
      clear hie
      obtain ⟨⟨y0, d0⟩, ⟨y1, d1⟩, ⟨y2, d2⟩, g0, g1, g2⟩ := H2.out.2.1
      go_wp2
      obtain ⟨w3, hw3⟩ : ∃ w3, w3 = laid wr (w.heap.size + 1) D.q n (.slice ro k rc) := ⟨_, rfl⟩
      have H3 : Hid (CB (w.heap.size + 1) D.q n (.slice ro k rc) w3 ∧ Below w.heap.size w w3 ∧ MV w.heap.size (.slice ro k rc) k n R w3) := by
        have := HW.out.2.2.2
        rw [hw3]; exact ⟨laid_cb H2.out.2.1 _ _ _, laid_below H2.out.2.2.2 (by omega) _ _ _, (laid_mv H2.out.2.2.1 (by omega) _ _ _).mono (by omega)⟩
      unfold laid at hw3
      rw [← hw3]
      clear hw3 d0 d1 d2 g0 g1 g2 a0 a1 a2
      obtain ⟨c0, c1, c2⟩ := H3.out.1
      refine bodyPost_ret (v := .tuple #[.agg #[.int .i64 D.q, .int .i64 (n : Nat), .slice ro k rc], .int .i64 0]) (by simp [results, Tryz.results45, go_sem, c0, c1, c2]) rfl ?_
      exact ⟨k, R, H1.out.2.2.2.2, H3.out.2.1, Or.inl ⟨HB.out, ro, rc, HKR.out, H3.out.2.2, rfl⟩⟩
end Go.Proofs.YtdfneklnpghhmaaGreatDoor

/- The words of a code by their numbers; how many have a weight. -/
namespace Go.Proofs.YtdfneklnpghhmaaGreatDoor
open Go.RowKit Go.Sort

set_option maxHeartbeats 4000000 in
theorem words_any (q n : Int) (v : Value) (w : World) :
    Calls Tryz.prog 27 #[.agg #[.int .i64 q, .int .i64 n, v]] w fun e w' => e = .returned (.func (.func 49) #[] #[.pointer (some ⟨w.heap.size, 0, none⟩)]) ∧ w' = w.alloc (.cells #[.int .i64 q, .int .i64 n, v] 24) := by
  go_enter Tryz.func27, Tryz.ntmps27
  go_wp2
  go_ret
  exact ⟨rfl, rfl⟩
set_option maxHeartbeats 4000000 in
set_option maxRecDepth 100000 in
theorem weightS_any {ao : Option Addr} {n ca : Nat} {a : Nat → Int} {w : World} (hA : SlZ ao n a w) (hn : n ≤ 1000) :
    Calls Tryz.prog 46 #[.slice ao n ca] w fun e w' => e = .returned (.int .i64 (ct (fun i => !decide (a i = 0)) n : Nat)) ∧ w' = w := by
  have HF : Hid (SlZ ao n a w) := hA
  clear hA
  go_enter Tryz.func46, Tryz.ntmps46
  go_wp2
  go_loopw [3, 8] (fun vm vi wr => ∃ (r m : Nat), r ≤ n ∧ m ≤ r ∧ vm = .int .i64 (m : Nat) ∧ vi = .int .i64 r ∧ Hid (m = ct (fun i => !decide (a i = 0)) r ∧ wr = w)) (fun _ vi _ => n - (intOf vi).toNat)
  case atStart => exact ⟨0, 0, by omega, by omega, rfl, rfl, rfl, rfl⟩
  case round =>
    obtain ⟨r, m, hr, hmr, rfl, rfl, HG⟩ := hrel
    rename World => wr
    by_cases hlt : r < n
    · have hib : (r : Int) < (n : Int) := by omega
      obtain ⟨ba, oa, hao, hca⟩ := HF.out r hlt
      rw [← HG.out.2] at hca
      subst hao
      obtain ⟨x, hx⟩ : ∃ x, x = a r := ⟨_, rfl⟩
      rw [← hx] at hca
      by_cases e : x = 0
      · have hz : (x != 0) = false := by rw [e]; simp
        have HV : Hid (m = ct (fun i => !decide (a i = 0)) (r + 1)) := by
          show m = ct (fun i => !decide (a i = 0)) r + if (!decide (a r = 0)) = true then 1 else 0
          rw [← HG.out.1, decide_eq_true (by rw [← hx]; exact e)]; rfl
        clear e hx
        go_wp2
        go_roundw
        case rel => exact ⟨r + 1, m, by omega, by omega, rfl, by go_num, HV.out, HG.out.2⟩
        case measure => simp [intOf]; omega
      · have hz : (x != 0) = true := by rw [bne_iff_ne]; exact e
        have HV : Hid (m + 1 = ct (fun i => !decide (a i = 0)) (r + 1)) := by
          show m + 1 = ct (fun i => !decide (a i = 0)) r + if (!decide (a r = 0)) = true then 1 else 0
          rw [← HG.out.1, decide_eq_false (by rw [← hx]; exact e)]; rfl
        clear e hx
        go_wp2
        go_roundw
        case rel => exact ⟨r + 1, m + 1, by omega, by omega, by go_num, by go_num, HV.out, HG.out.2⟩
        case measure => simp [intOf]; omega
    · have hib : ¬ (r : Int) < (n : Int) := by omega
      have hre : n = r := by omega
      subst hre
      go_wp2
      go_ret
      exact ⟨by rw [HG.out.1]; rfl, HG.out.2⟩

theorem hnm_div {q : Nat} (hq : 2 ≤ q) {z : Nat → Nat} {i : Nat} : ∀ t, (∀ j, j < i + t → z j < q) → hnm q z (i + t) / q ^ t = hnm q z i
  | 0, _ => by rw [Nat.pow_zero, Nat.div_one]; rfl
  | t + 1, h => by
    have h1 := hnm_div hq (z := z) (i := i) t (fun j hj => h j (by omega))
    have h2 := h (i + t) (by omega)
    show (hnm q z (i + t) * q + z (i + t)) / q ^ (t + 1) = _
    rw [Nat.pow_succ', ← Nat.div_div_eq_div_mul, Nat.mul_comm (hnm q z (i + t)) q, Nat.mul_add_div (by omega), Nat.div_eq_of_lt h2, Nat.add_zero]
    exact h1
theorem hnm_dgs {q K : Nat} (hq : 2 ≤ q) {z : Nat → Nat} (hz : ∀ j, j < K → z j < q) (i : Nat) (hi : i < K) : z i = dgs q K (hnm q z K) i := by
  have h := hnm_div hq (z := z) (i := i + 1) (K - 1 - i) (fun j hj => hz j (by omega))
  rw [show i + 1 + (K - 1 - i) = K by omega] at h
  unfold dgs
  rw [if_pos hi, h]
  show z i = (hnm q z i * q + z i) % q
  rw [Nat.mul_comm, Nat.mul_add_mod, Nat.mod_eq_of_lt (hz i hi)]
/-- The r-th word. -/
def wdr (D : FD) (R : Nat → Nat → Nat) (K r : Nat) : Nat → Nat := enw D R (dgs D.q K r) K
/-- Its weight. -/
def wgr (D : FD) (R : Nat → Nat → Nat) (n K r : Nat) : Nat := ct (fun i => !decide (((wdr D R K r i : Nat) : Int) = 0)) n
/-- Of the first words, how many have a weight. -/
def wcn (D : FD) (R : Nat → Nat → Nat) (n K : Nat) : Nat → Nat → Nat
  | 0 => fun _ => 0
  | r + 1 => fun x => wcn D R n K r x + if x = wgr D R n K r then 1 else 0
theorem wcn_le (D : FD) (R : Nat → Nat → Nat) (n K : Nat) : ∀ r x, wcn D R n K r x ≤ r
  | 0, x => Nat.le_refl 0
  | r + 1, x => by
    have := wcn_le D R n K r x
    show wcn D R n K r x + (if x = wgr D R n K r then 1 else 0) ≤ r + 1
    split <;> omega
theorem ct_most (p : Nat → Bool) : ∀ n, ct p n ≤ n
  | 0 => Nat.le_refl 0
  | n + 1 => by
    have := ct_most p n
    show ct p n + (if p n = true then 1 else 0) ≤ n + 1
    split <;> omega
theorem WdE.word {D : FD} (F : Fld D) {R : Nat → Nat → Nat} {n K B0 r : Nat} {args : Array Value} {X : World} (h : WdE D R n K B0 r args X) : ∃ g c, args = #[.slice (some ⟨g, 0, none⟩) n c] ∧ n ≤ c ∧ c ≤ 9223372036854775807 ∧ Row g n (wdr D R K r) X ∧ B0 ≤ g := by
  obtain ⟨z, g, c, hz, hr, ha, h1, h2, h3, h4⟩ := h
  refine ⟨g, c, ha, h1, h2, ?_, h4⟩
  unfold wdr
  rw [← enw_zc (z := z) (fun i hi => by rw [← hr]; exact hnm_dgs F.q2 hz i hi)]
  exact h3
theorem Row.grc {g n B : Nat} {c : Nat → Nat} {X Y : World} (h : Row g n c X) (hg : GrC B X Y) : Row g n c Y := by
  refine h.other (hg.same g h.lt (Or.inr fun o ho => ?_))
  obtain ⟨cap, f, ⟨cs, h1, _⟩, _⟩ := h
  rw [h1] at ho
  cases ho; rfl
theorem WdE.grc {D : FD} {R : Nat → Nat → Nat} {n K B0 B r : Nat} {args : Array Value} {X Y : World} (h : WdE D R n K B0 r args X) (hg : GrC B X Y) : WdE D R n K B0 r args Y := by
  obtain ⟨z, g, c, hz, hr, ha, h1, h2, h3, h4⟩ := h
  exact ⟨z, g, c, hz, hr, ha, h1, h2, h3.grc hg, h4⟩
end Go.Proofs.YtdfneklnpghhmaaGreatDoor

/- code.Weights: the words of a code, gone through. -/
namespace Go.Proofs.YtdfneklnpghhmaaGreatDoor
open Go.RowKit Go.Sort Go.Shelf
attribute [local go_sem] Oper.semAt_some

theorem MV.wdr {B k rc n : Nat} {ro : Option Addr} {R : Nat → Nat → Nat} {w : World} (h : MV B (.slice ro k rc) k n R w) : ∃ (Gm mm : Nat) (hm : Nat → Nat), WdR ro n k B Gm mm R hm w ∧ (0 < k → Gm < w.heap.size) ∧ ∀ i, i < k → hm i < w.heap.size := by
  rcases h with ⟨e, _⟩ | ⟨G, mc, mm, hm, ev, hM⟩
  · exact ⟨0, 0, fun _ => 0, fun hk => absurd hk (by omega), fun hk => absurd hk (by omega), fun i hi => absurd hi (by omega)⟩
  · cases ev
    exact ⟨G, mm, hm, fun _ => ⟨rfl, hM⟩, fun _ => hM.ltG, fun i hi => hM.lt i hi⟩
/-- What Weights tells of a code that may be. -/
def WsP (D : FD) (n m : Nat) (M : Nat → Nat → Nat) (w : World) (x : Ending) (w' : World) : Prop :=
  ∃ k R, Red D n m M k R ∧ Below w.heap.size w w' ∧ ((D.q ^ k ≤ 4096 ∧ ∃ g, w.heap.size ≤ g ∧ Row g (n + 1) (wcn D R n k (D.q ^ k)) w' ∧ x = .returned (.tuple #[.slice (some ⟨g, 0, none⟩) (n + 1) (n + 1), .int .i64 0])) ∨
    (¬ D.q ^ k ≤ 4096 ∧ x = .returned (.tuple #[.slice none 0 0, .int .i64 4])))

set_option maxHeartbeats 8000000 in
set_option maxRecDepth 100000 in
theorem weights_ok {D : FD} (hD : D ∈ fieldsL) {ao : Option Addr} {m n ca : Nat} {M : Nat → Nat → Nat} {w : World} (hn1 : 1 ≤ n) (hn : n ≤ 64)
    (hS : ∀ wx, Below w.heap.size w wx → Calls Tryz.prog 45 #[.agg #[.int .i64 D.q, .int .i64 (n : Nat), .slice ao m ca]] wx (SmP D n m M wx)) :
    Calls Tryz.prog 25 #[.agg #[.int .i64 D.q, .int .i64 (n : Nat), .slice ao m ca]] w (WsP D n m M w) := by
  obtain ⟨w0, hw0⟩ : ∃ w0, w0 = w.alloc (.cells #[.int .i64 D.q, .int .i64 (n : Nat), .slice ao m ca] 24) := ⟨_, rfl⟩
  have hb0 : Below w.heap.size w w0 := by rw [hw0]; exact (Below.refl _ _).alloc (Nat.le_refl _) _
  have HS := hS w0 hb0
  replace HS : Hid (Calls Tryz.prog 45 #[.agg #[.int .i64 D.q, .int .i64 (n : Nat), .slice ao m ca]] w0 (SmP D n m M w0)) := HS
  refine callsIn_wide.1 (callsIn_of_wp_marks (n := 0) Tryz.func25 rfl trivial ?_ rfl)
  refine wpIn_wide.2 ?_
  simp only [Tryz.ntmps25, List.size_toArray, List.length_cons, List.length_nil, Nat.reduceAdd, Nat.reduceSub, Array.replicate_succ, Array.replicate_zero, List.push_toArray, List.append_toArray, List.nil_append, List.cons_append]
  go_wp2_with fail
  rw [← hw0]
  have HB0 : Hid (Below w.heap.size w w0 ∧ w0.heap.size = w.heap.size + 1 ∧ RB w.heap.size w0) := ⟨hb0, by rw [hw0]; simp, by rw [hw0]; exact RB.new _ _ _ _⟩
  clear hw0 hb0 hS
  refine HS.out.mono ?_
  rintro x w1 ⟨k, R, hred, hb1, hx⟩
  have H1 : Hid (Below w.heap.size w w1 ∧ RB w.heap.size w1 ∧ Red D n m M k R ∧ w0.heap.size ≤ w1.heap.size) := ⟨below_two' HB0.out.1 hb1, HB0.out.2.2.keep hb1, hred, hb1.size⟩
  clear hred hb1
  obtain ⟨⟨x0, c0⟩, ⟨x1, c1⟩, ⟨x2, c2⟩, f0, f1, f2⟩ := H1.out.2.1
  rcases hx with ⟨hfew, ro, rc, hkr, hmv, rfl⟩ | ⟨hmany, rfl⟩
  · obtain ⟨w2, hw2⟩ : ∃ w2, w2 = laid w1 w.heap.size D.q n (.slice ro k rc) := ⟨_, rfl⟩
    have H2 : Hid (CB w.heap.size D.q n (.slice ro k rc) w2 ∧ MV w0.heap.size (.slice ro k rc) k n R w2 ∧ Below w.heap.size w w2) := by
      have := HB0.out.2.1
      rw [hw2]; exact ⟨laid_cb H1.out.2.1 _ _ _, laid_mv hmv (by omega) _ _ _, laid_below H1.out.1 (Nat.le_refl _) _ _ _⟩
    have HKR : Hid (D.q ^ k ≤ 4096 ∧ k ≤ rc ∧ rc ≤ 1000000) := ⟨hfew, hkr⟩
    obtain ⟨e0, e1, e2⟩ := H2.out.1
    rw [hw2] at e0 e1 e2
    unfold laid at e0 e1 e2 hw2
    obtain ⟨n1, hn1e⟩ : ∃ n1, n1 = n + 1 := ⟨_, rfl⟩
    have wn1 : IntKind.i64.wrap ((n : Int) + 1) = (n1 : Int) := wrap_to (by omega) (by omega)
    have HN1 : Hid (n1 = n + 1) := hn1e
    have hn1b : n1 ≤ 65 := by omega
    clear hmv hfew hkr hn1e
    have HW2 : Hid (w2 = ((w1.setCell ⟨w.heap.size, 0, none⟩ (.int .i64 D.q)).setCell ⟨w.heap.size, 1, none⟩ (.int .i64 n)).setCell ⟨w.heap.size, 2, none⟩ (.slice ro k rc)) := hw2
    go_wp2_with (at_make; refine make_int rfl _ _ rfl _ n1 rfl rfl rfl (by omega) ?_; rw [← HW2.out]; intro w3 hown3 hgrow3; have hb3 : Below w2.heap.size w2 w3 := below_grown hgrow3 (Nat.le_refl _) (fun k hk => by cases hk); have hcb3 := H2.out.1.keep hb3; obtain ⟨a0, a1, a2⟩ := hcb3; have hlt3 : w.heap.size < w3.heap.size := cell_lt a0; clear e0 e1 e2 c0 c1 c2 f0 f1 f2)
    obtain ⟨gO, hgO⟩ : ∃ gO, gO = w1.heap.size := ⟨_, rfl⟩
    have hs2 : w2.heap.size = w1.heap.size := by rw [HW2.out]; simp [World.setCell]
    have hrow3 := row_zeros hown3
    rw [hs2, ← hgO] at hrow3
    rw [← hgO]
    obtain ⟨w4, hw4⟩ : ∃ w4, w4 = w3.alloc (.cells #[.slice (some ⟨gO, 0, none⟩) n1 n1] 37) := ⟨_, rfl⟩
    rw [← hw4]
    have hs4 : w4.heap.size = w3.heap.size + 1 := by rw [hw4]; simp
    have hb4 : Below w3.heap.size w3 w4 := by rw [hw4]; exact (Below.refl _ _).alloc (Nat.le_refl _) _
    have hbx4 : w4.cell? ⟨w3.heap.size, 0, none⟩ = some (.slice (some ⟨gO, 0, none⟩) n1 n1) := by rw [hw4]; simp
    have hs3 : w2.heap.size ≤ w3.heap.size := hb3.size
    obtain ⟨w5, hw5⟩ : ∃ w5, w5 = w4.alloc (.cells #[.int .i64 D.q, .int .i64 (n : Nat), .slice ro k rc] 24) := ⟨_, rfl⟩
    have hb5 : Below w4.heap.size w4 w5 := by rw [hw5]; exact (Below.refl _ _).alloc (Nat.le_refl _) _
    have hs5 : w5.heap.size = w4.heap.size + 1 := by rw [hw5]; simp
    have hcb5 : CB w4.heap.size D.q n (.slice ro k rc) w5 := by rw [hw5]; exact CB.new _ _ _ _
    obtain ⟨Gm, mm, hm, hWR2, hGl2, hhl2⟩ := H2.out.2.1.wdr
    have hWR5 : WdR ro n k w0.heap.size Gm mm R hm w5 := fun hk => ⟨(hWR2 hk).1, (((hWR2 hk).2.below hb3).below hb4).below hb5⟩
    have HWR : Hid (WdR ro n k w0.heap.size Gm mm R hm w5 ∧ (0 < k → Gm < gO) ∧ ∀ i, i < k → hm i < gO) := ⟨hWR5, fun hk => by have := hGl2 hk; omega, fun i hi => by have := hhl2 i hi; omega⟩
    clear hWR2 hGl2 hhl2 hWR5
    have hrow5 : Row gO n1 pnil w5 := (hrow3.below hb4 hrow3.lt).below hb5 (by have := hrow3.lt; omega)
    have hbx5 : w5.cell? ⟨w3.heap.size, 0, none⟩ = some (.slice (some ⟨gO, 0, none⟩) n1 n1) := ((bcell hb5).1 _ 0 (cell_lt hbx4)).trans hbx4
    have hbw5 : Below w.heap.size w w5 := below_two' (below_two' (below_two' H2.out.2.2 hb3) hb4) hb5
    refine (words_any D.q n (.slice ro k rc) w4).mono ?_
    rintro e w5' ⟨rfl, he5⟩
    rw [← hw5] at he5
    subst he5
    obtain ⟨cb, hcbe⟩ : ∃ cb, cb = w4.heap.size := ⟨_, rfl⟩
    obtain ⟨bO, hbO⟩ : ∃ bO, bO = w3.heap.size := ⟨_, rfl⟩
    rw [← hcbe] at hcb5 ⊢
    rw [← hbO] at hbx5
    try rw [← hbO]
    have hsz1 := H1.out.2.2.2
    have HO : Hid (w.heap.size < gO ∧ gO < bO ∧ bO < cb ∧ cb < w5'.heap.size) := ⟨by have := HB0.out.2.1; omega, by have := hrow3.lt; omega, by omega, by omega⟩
    have HX : Hid (CB cb D.q n (.slice ro k rc) w5' ∧ Row gO n1 pnil w5' ∧ w5'.cell? ⟨bO, 0, none⟩ = some (.slice (some ⟨gO, 0, none⟩) n1 n1) ∧ Below w.heap.size w w5') := ⟨hcb5, hrow5, hbx5, hbw5⟩
    clear hw5 hw4 hb5 hb4 hbx4 hrow5 hbx5 hbw5 hcb5 hrow3 hs5 hs4 hs3 hs2 hown3 hgrow3 hb3 a0 a1 a2 hlt3 hcbe hbO hgO hsz1 HW2 hw2
    have hFl := fld hD
    have HRel : Hid (∀ i, i < k → El D (R i)) := H1.out.2.2.1.rows.1
    have hWR := HWR.out.1
    have hGl : 0 < k → ¬ Gm = gO := fun hk => by have := HWR.out.2.1 hk; omega
    have hhl : ∀ i, i < k → ¬ hm i = gO := fun i hi => by have := HWR.out.2.2 i hi; omega
    have hseq := words_seq (own := fun x => x = gO) hD HX.out.1 hWR hn1 (by omega) HKR.out.2.1 HKR.out.2.2 (by have := HKR.out.1; omega) HRel.out (fun x e => by have := HO.out; omega) (fun e => by have := HO.out; omega) hGl hhl
    have HQ : Hid (SeqI Tryz.prog 49 #[.pointer (some ⟨cb, 0, none⟩)] (D.q ^ k) (WdE D R n k w5'.heap.size) (fun x => x = gO) w5') := hseq
    clear hseq hWR hGl hhl
    go_wp2
    refine range_law (gf := 49) (lb := #[.pointer (some ⟨cb, 0, none⟩)]) rfl (enters_of Tryz.func49 (by kernel_rfl) rfl) HQ.out (fun x e => by have := HO.out; omega) (fun r args X h => by obtain ⟨z, g, c, _, _, ha, _⟩ := h; rw [ha]; rfl)
      (fun r X => Row gO n1 (wcn D R n k r) X ∧ X.cell? ⟨bO, 0, none⟩ = some (.slice (some ⟨gO, 0, none⟩) n1 n1) ∧ Below w.heap.size w X ∧ w5'.heap.size ≤ X.heap.size) ?stable (fun r args X Y h hg => h.grc hg) ?start
      (fun args => { tmps := #[.agg #[.int .i64 D.q, .int .i64 (n : Nat), .slice ao m ca], .pointer (some ⟨w.heap.size, 0, none⟩), .slice none 0 0, .int .i64 0, .int .i64 0, .pointer (some ⟨bO, 0, none⟩), args.getD 0 undef, .tuple #[.agg #[.int .i64 D.q, .int .i64 (n : Nat), .slice ro k rc], .int .i64 0], .agg #[.int .i64 D.q, .int .i64 (n : Nat), .slice ao m ca], .tuple #[.agg #[.int .i64 D.q, .int .i64 (n : Nat), .slice ro k rc], .int .i64 0], .agg #[.int .i64 D.q, .int .i64 (n : Nat), .slice ro k rc], .int .i64 0, .int .i64 0, .bool false, undef, .pointer (some ⟨w.heap.size, 1, none⟩), .int .i64 (n : Nat), .int .i64 (n1 : Nat), .slice (some ⟨gO, 0, none⟩) n1 n1, .agg #[.int .i64 D.q, .int .i64 (n : Nat), .slice ro k rc], .func (.func 49) #[] #[.pointer (some ⟨cb, 0, none⟩)], args.getD 0 undef, undef, undef, undef, undef, undef, undef, undef, undef], defers := [] })
      ?assign ?body ?done
    case stable =>
      rintro r X Y ⟨h1, h2, h3, h4⟩ hg
      have hbO : bO < w5'.heap.size := by have := HO.out; omega
      refine ⟨h1.grc hg, ?_, ?_, by have := hg.size; omega⟩
      · have e := hg.same bO (by omega) (Or.inl hbO)
        unfold World.cell? at h2 ⊢
        rw [e]; exact h2
      · exact h3.trans ⟨hg.os, hg.tape, hg.output, hg.size, fun i hi => hg.same i (by have := h3.size; omega) (Or.inl (by have := HO.out; omega))⟩
    case start => exact ⟨HX.out.2.1, HX.out.2.2.1, HX.out.2.2.2, Nat.le_refl _⟩
    case assign =>
      intro l r args X K he hK
      obtain ⟨g, c, ha, _⟩ := he.word hFl
      subst ha
      gi_wp2
      exact hK
    case body =>
      rintro l r args X hr ⟨h1, h2, h3, h4⟩ he
      obtain ⟨g, c, ha, hc1, hc2, hrow, hge⟩ := he.word hFl
      subst ha
      obtain ⟨t, ht⟩ : ∃ t, t = wgr D R n k r := ⟨_, rfl⟩
      have htn : t ≤ n := by rw [ht]; exact ct_most _ _
      have ht1 : t < n1 := by have := HN1.out; omega
      have hti : (t : Int) < (n1 : Int) := by omega
      have hti0 : (0 : Int) ≤ (t : Int) := by omega
      have hcell := h1.cell t ht1
      have hfree := h1.free t
      obtain ⟨y, hy⟩ : ∃ y, y = wcn D R n k r t := ⟨_, rfl⟩
      rw [← hy] at hcell
      have hyr : y ≤ 4096 := by
        have h5 := wcn_le D R n k r t
        have h6 := HKR.out.1
        omega
      obtain ⟨y1, hy1⟩ : ∃ y1, y1 = y + 1 := ⟨_, rfl⟩
      have wy : IntKind.i64.wrap ((y : Int) + 1) = (y1 : Int) := wrap_to (by omega) (by omega)
      have HWt : Hid (∀ j, Calls Tryz.prog 46 #[.slice (some ⟨g, 0, none⟩) n c] (X.drewN j) fun e w' => e = .returned (.int .i64 (t : Nat)) ∧ w' = X.drewN j) := fun j => by
        rw [ht]; exact weightS_any (a := fun i => ((wdr D R k r i : Nat) : Int)) ((hrow.drewN j).sl (Nat.le_refl _)).z (by omega)
      have HS : Hid (∀ j, Row gO n1 (wcn D R n k (r + 1)) ((X.drewN j).setCell ⟨gO, t, none⟩ (.int .i64 (y1 : Nat)))) := fun j => (h1.drewN j).store t y1 fun i _ => by
        show wcn D R n k r i + (if i = wgr D R n k r then 1 else 0) = _
        rw [← ht]
        by_cases e : i = t
        · rw [if_pos e, if_pos e, e, ← hy, hy1]
        · rw [if_neg e, if_neg e]; rfl
      have HI : Hid (X.cell? ⟨bO, 0, none⟩ = some (.slice (some ⟨gO, 0, none⟩) n1 n1) ∧ Below w.heap.size w X ∧ w5'.heap.size ≤ X.heap.size) := ⟨h2, h3, h4⟩
      clear ht hy hy1 h1 hrow he h3 h4
      gi_wp2
      refine quiet_round 7 (by rintro ⟨a, w, h⟩; exact absurd h.1 (by intro h; cases h)) (by kernel_rfl) (by kernel_rfl) (by kernel_rfl) ?_
      simp only [List.take_succ_cons, List.take_zero, List.drop_succ_cons, List.drop_zero]
      repeat (go_big_quiet_step ((go_at_call 46; exact Calls.quiet_of_same (HWt.out _))))
      refine wpQuiet_nil ?_
      intro _ hw'
      obtain ⟨nq, hw''⟩ := hw'
      subst hw''
      go_wp2
      have hbg : bO ≠ gO := by have := HO.out; omega
      refine ⟨⟨rfl, rfl, rfl, by simp [World.setCell], fun x _ hx => Below.heap_setCell _ _ _ _ hx⟩, HS.out nq, ?_, ?_, HI.out.2.2⟩
      · have e := Below.heap_setCell (X.drewN nq) ⟨gO, t, none⟩ (.int .i64 (y1 : Nat)) bO hbg
        have h5 := HI.out.1
        unfold World.cell? at h5 ⊢
        rw [e]; exact h5
      · have h6 : Below w.heap.size w (X.drewN nq) := ⟨HI.out.2.1.os, HI.out.2.1.tape, HI.out.2.1.output, HI.out.2.1.size, HI.out.2.1.block⟩
        exact h6.setCell (by have := HO.out; show w.heap.size ≤ gO; omega) _
    case done =>
      rintro De We hDe ⟨h1, h2, h3, h4⟩ hK
      have HE : Hid (Row gO n1 (wcn D R n k (D.q ^ k)) (We.putObj De (.deferred none)) ∧ Below w.heap.size w (We.putObj De (.deferred none))) := by
        have hO := HO.out
        refine ⟨h1.other (World.putObj_heap_other (by omega)), ?_⟩
        exact h3.grown (grownBy_putObj' _ _ _) h3.size (fun k hk => by cases hk; omega)
      go_wp2
      refine ⟨by simp, .inl ⟨_, _, rfl, run_takeDeferred hK, ?_⟩⟩
      refine ⟨.tuple #[.slice (some ⟨gO, 0, none⟩) n1 n1, .int .i64 0], by simp [results, Tryz.results25, go_sem], ?_⟩
      have hn1e := HN1.out
      refine ⟨k, R, H1.out.2.2.1, HE.out.2, Or.inl ⟨HKR.out.1, gO, by have := HO.out; omega, ?_, ?_⟩⟩
      · rw [← hn1e]; exact HE.out.1
      · rw [← hn1e]
  · have HM : Hid (¬ D.q ^ k ≤ 4096) := hmany
    obtain ⟨w2, hw2⟩ : ∃ w2, w2 = laid w1 w.heap.size 0 0 (.slice none 0 0) := ⟨_, rfl⟩
    have HB : Hid (Below w.heap.size w w2) := by rw [hw2]; exact laid_below H1.out.1 (Nat.le_refl _) _ _ _
    unfold laid at hw2
    go_wp2
    rw [← hw2]
    refine ⟨.tuple #[.slice none 0 0, .int .i64 4], by simp [results, Tryz.results25, go_sem], ?_⟩
    exact ⟨k, R, H1.out.2.2.1, HB.out, Or.inr ⟨HM.out, rfl⟩⟩
end Go.Proofs.YtdfneklnpghhmaaGreatDoor
