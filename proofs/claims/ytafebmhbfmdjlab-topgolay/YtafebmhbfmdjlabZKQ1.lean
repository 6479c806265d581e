/- Texts of ours, one behind the other: KQ1 KQ2. -/
import Derived.Test.YtafebmhbfmdjlabZKA1
import Derived.Test.YtafebmhbfmdjlabZS62
import Derived.Test.YtafebmhbfmdjlabZS47
/- Golay: together, ball. -/
namespace Go.Proofs.Ytafebmhbfmdjlab
open Go.RowKit Go.Sort

set_option maxHeartbeats 4000000 in
set_option maxRecDepth 100000 in
theorem gtog_any {ao : Option Addr} {n ca : Nat} {z : Nat → Int} {w : World} (hX : SlZ ao n z w) (hn : n ≤ 100) (hz : ∀ i, i < n → 0 ≤ z i ∧ z i ≤ 1073741824) :
    Calls Try.prog 26 #[.slice ao n ca] w fun e w' => e = .returned (.int .i64 (tsm z n)) ∧ w' = w := by
  have HX : Hid (SlZ ao n z w ∧ ∀ i, i < n → 0 ≤ z i ∧ z i ≤ 1073741824) := ⟨hX, hz⟩
  clear hX hz
  go_enter Try.func26, Try.ntmps26
  go_wp2
  go_loopw [3, 8] (fun vs vi wr => ∃ (i : Nat) (s : Int), vs = .int .i64 s ∧ vi = .int .i64 (i : Nat) ∧ i ≤ n ∧ 0 ≤ s ∧ s ≤ (i : Int) * 1073741824 ∧ Hid (s = tsm z i ∧ wr = w)) (fun _ vi _ => n - (intOf vi).toNat)
  case atStart => exact ⟨0, 0, rfl, rfl, by omega, by omega, by omega, rfl, rfl⟩
  case round =>
    obtain ⟨i, s, rfl, rfl, hi, hs0, hs1, HS⟩ := hrel
    have hw := HS.out.2.symm
    subst hw
    by_cases hlt : i < n
    · have hib : (i : Int) < (n : Int) := by omega
      obtain ⟨b, off, e1, hcell⟩ := HX.out.1 i hlt
      subst e1
      obtain ⟨v, hv⟩ : ∃ v, v = z i := ⟨_, rfl⟩
      have hv0 := HX.out.2 i hlt
      rw [← hv] at hcell hv0
      have HN : Hid (s + v = tsm z (i + 1)) := by show _ = _; rw [tsm_succ, HS.out.1, hv]
      have hsb : s ≤ 107374182400 := by omega
      clear hv HS
      go_wp2
      go_roundw
      case rel => exact ⟨i + 1, s + v, by go_num, by go_num, by omega, by omega, by omega, HN.out, by first | rfl | trivial⟩
      case measure => simp [intOf]; omega
    · have hib : ¬ (i : Int) < (n : Int) := by omega
      have hie : i = n := by omega
      subst hie
      go_wp2
      go_ret
      exact ⟨by rw [← HS.out.1]; rfl, rfl⟩

theorem kc_const (b : Nat) : ∀ n k, kc (fun _ => (b : Int)) n k = ((b ^ k * chs n k : Nat) : Int)
  | 0, 0 => rfl
  | 0, k + 1 => by show (0 : Int) = ((b ^ (k + 1) * 0 : Nat) : Int); simp
  | n + 1, 0 => by rw [kc_zero, chs_zero]; simp
  | n + 1, k + 1 => by
    show kc (fun _ => (b : Int)) n (k + 1) + (b : Int) * kc (fun _ => (b : Int)) n k = ((b ^ (k + 1) * (chs n k + chs n (k + 1)) : Nat) : Int)
    rw [kc_const b n (k + 1), kc_const b n k, Nat.mul_add, Int.natCast_add, Nat.pow_succ, show b ^ k * b * chs n k = b * (b ^ k * chs n k) by rw [Nat.mul_comm (b ^ k) b, Nat.mul_assoc], Int.natCast_mul b, Int.add_comm]
theorem kv_zero {q : Nat} (hq : 2 ≤ q) (n k : Nat) : kv q n k 0 = (((q - 1) ^ k * chs n k : Nat) : Int) := by
  rw [← kc_const]
  unfold kv
  have : kwc ((q : Int) - 1) 0 = fun _ => (((q - 1 : Nat) : Int)) := funext fun i => by
    unfold kwc
    rw [if_neg (by omega)]; omega
  rw [this]

set_option maxHeartbeats 4000000 in
set_option maxRecDepth 100000 in
theorem gball2_any {D : FD} (hD : D ∈ fieldsL) (n r : Nat) (hn1 : 1 ≤ n) (hp : D.q ^ n ≤ 1073741824) (hr : r ≤ n) (w : World) :
    Calls Try.prog 27 #[.int .i64 (D.q : Nat), .int .i64 (n : Nat), .int .i64 (r : Nat)] w fun e w' => e = .returned (.int .i64 (bls D.q n (r + 1) : Nat)) ∧ Below w.heap.size w w' := by
  have h2 := (fld hD).q2
  have h64 := (fld hD).q64
  have hn30 : n ≤ 30 := pow30 h2 hp
  have HC : Hid (∀ (k : Nat) wx, k ≤ n → Calls Try.prog 43 #[.int .i64 (D.q : Nat), .int .i64 (n : Nat), .int .i64 (k : Nat), .int .i64 0] wx fun e w' => e = .returned (.tuple #[.int .i64 (((D.q - 1) ^ k * chs n k : Nat) : Int), .int .i64 0]) ∧ Below wx.heap.size wx w') := fun k wx hk => by
    rw [← kv_zero h2]
    have hc := wcheck_any hD (n : Int) (by omega) wx
    rw [show D.wck (n : Int) = 0 by unfold FD.wck; rw [if_neg (by omega), Int.toNat_natCast, if_pos hp]] at hc
    exact wK_ok D.q n k 0 h2 h64 hp hk (by omega) hc
  have HT : Hid (∀ k, k ≤ n → (D.q - 1) ^ k * chs n k ≤ 1073741824) := fun k hk => Nat.le_trans (bterm_le (by omega)) hp
  obtain ⟨R1, hR1⟩ : ∃ R1, R1 = r + 1 := ⟨_, rfl⟩
  have hRw : IntKind.i64.wrap ((r : Int) + 1) = (R1 : Int) := by rw [hR1]; exact wrap_to (by omega) (by omega)
  have hR31 : R1 ≤ 31 := by omega
  have HR : Hid (R1 = r + 1) := hR1
  rw [← hR1]
  clear hR1 hp
  go_enter Try.func27, Try.ntmps27
  go_wp2
  go_loopw [7, 13] (fun vs vi wr => ∃ i s : Nat, vs = .int .i64 (s : Nat) ∧ vi = .int .i64 (i : Nat) ∧ i ≤ R1 ∧ s ≤ i * 1073741824 ∧ Hid (s = bls D.q n i ∧ Below w.heap.size w wr)) (fun _ vi _ => R1 - (intOf vi).toNat)
  case atStart => exact ⟨0, 0, rfl, rfl, by omega, by omega, rfl, Below.refl _ _⟩
  case round =>
    obtain ⟨i, s, rfl, rfl, hi, hs, HS⟩ := hrel
    rename World => wr
    by_cases hlt : i < R1
    · have hib : (i : Int) < (R1 : Int) := by omega
      obtain ⟨y, hy⟩ : ∃ y, y = (D.q - 1) ^ i * chs n i := ⟨_, rfl⟩
      have hyb : y ≤ 1073741824 := by rw [hy]; exact HT.out i (by have := HR.out; omega)
      have HK : Hid (Calls Try.prog 43 #[.int .i64 (D.q : Nat), .int .i64 (n : Nat), .int .i64 (i : Nat), .int .i64 0] wr fun e w' => e = .returned (.tuple #[.int .i64 (y : Nat), .int .i64 0]) ∧ Below wr.heap.size wr w') := by
        show Calls _ _ _ _ _
        rw [hy]; exact HC.out i wr (by have := HR.out; omega)
      have HN : Hid (s + y = bls D.q n (i + 1)) := by show _ = bls D.q n i + _; rw [HS.out.1, hy]
      have hsb : s ≤ 34359738368 := by omega
      clear hy
      go_wp2_with fail
      refine HK.out.mono ?_
      rintro e wx ⟨rfl, hb⟩
      have HB : Hid (Below w.heap.size w wx) := bel_up' HS.out.2 hb
      clear hb HS HK
      go_wp2
      go_roundw
      case rel => exact ⟨i + 1, s + y, by go_num, by go_num, by omega, by omega, HN.out, HB.out⟩
      case measure => simp [intOf]; omega
    · have hib : ¬ (i : Int) < (R1 : Int) := by omega
      have hie : i = R1 := by omega
      subst hie
      go_wp2
      go_ret
      exact ⟨by rw [← HS.out.1]; rfl, HS.out.2⟩
end Go.Proofs.Ytafebmhbfmdjlab

/- Golay: Perfect, of a code whose words lie far enough apart and fill all. -/
namespace Go.Proofs.Ytafebmhbfmdjlab
open Go.RowKit Go.Sort

theorem tsm_none {z : Nat → Int} : ∀ n, (∀ i, i < n → z i = 0) → tsm z n = 0
  | 0, _ => rfl
  | n + 1, h => by rw [tsm_succ, tsm_none n (fun i hi => h i (by omega)), h n (by omega)]; rfl

theorem wcn_same {D : FD} {R R' : Nat → Nat → Nat} {n k : Nat} (h : ∀ i, i < k → R i = R' i) : ∀ r, wcn D R n k r = wcn D R' n k r
  | 0 => rfl
  | r + 1 => funext fun x => by
    show wcn D R n k r x + (if x = wgr D R n k r then 1 else 0) = wcn D R' n k r x + (if x = wgr D R' n k r then 1 else 0)
    have e : wdr D R k r = wdr D R' k r := by unfold wdr; exact enw_congr h
    rw [wcn_same h r]
    unfold wgr
    rw [e]

set_option maxHeartbeats 2000000 in
set_option maxRecDepth 100000 in
theorem perfect_any {D : FD} (hD : D ∈ fieldsL) {n m r : Nat} (ca : Nat) {ao : Option Addr} {M : Nat → Nat → Nat} {w : World} (h : Cod D n ao m M w) (hp : D.q ^ n ≤ 1073741824) (hr : 2 * r ≤ n) {K : Nat} {R0 : Nat → Nat → Nat} (hred : Red D n m M K R0) (hf : Far D n K R0 (2 * r + 1)) (hK : D.q ^ K ≤ 4096) (hb : D.q ^ K * bls D.q n (r + 1) = bls D.q n (n + 1)) :
    Calls Try.prog 10 #[.agg #[.int .i64 D.q, .int .i64 (n : Nat), .slice ao m ca], .int .i64 (r : Nat)] w fun e w' => e = .returned (.tuple #[.bool true, .int .i64 0]) ∧ Below w.heap.size w w' := by
  have h2 := (fld hD).q2
  have h64 := (fld hD).q64
  have hn30 : n ≤ 30 := pow30 h2 hp
  have hn1 : 1 ≤ n := (h.rows (fld hD)).2.1.1
  obtain ⟨w0, hw0⟩ : ∃ w0, w0 = w.alloc (.cells #[.int .i64 D.q, .int .i64 (n : Nat), .slice ao m ca] 25) := ⟨_, rfl⟩
  have H0 : Hid (Below w.heap.size w w0 ∧ CB w.heap.size D.q n (.slice ao m ca) w0 ∧ w0.heap.size = w.heap.size + 1) := by
    have := box_at D.q (n : Nat) (.slice ao m ca) w
    rw [← hw0] at this; exact this
  have HW : Hid (Calls Try.prog 24 #[.agg #[.int .i64 D.q, .int .i64 (n : Nat), .slice ao m ca]] w0 (WsP D n m M w0)) := Cod.wts hD ca (h.below H0.out.1)
  have HCk : Hid (∀ wx, Calls Try.prog 25 #[.int .i64 D.q, .int .i64 (n : Nat)] wx fun e w' => e = .returned (.int .i64 0) ∧ Below wx.heap.size wx w') := fun wx => by
    have hc := wcheck_any hD (n : Int) (by omega) wx
    rw [show D.wck (n : Int) = 0 by unfold FD.wck; rw [if_neg (by omega), Int.toNat_natCast, if_pos hp]] at hc
    exact hc
  obtain ⟨bf, hbf⟩ : ∃ bf : Nat → Nat, bf = fun x => bls D.q n (x + 1) := ⟨_, rfl⟩
  obtain ⟨bv, hbv⟩ : ∃ bv, bv = bls D.q n (r + 1) := ⟨_, rfl⟩
  obtain ⟨bn, hbn⟩ : ∃ bn, bn = bls D.q n (n + 1) := ⟨_, rfl⟩
  have hb_r : bf r = bv := by rw [hbf, hbv]
  have hb_n : bf n = bn := by rw [hbf, hbn]
  have HBx : Hid (∀ (x : Nat) wx, x ≤ n → Calls Try.prog 27 #[.int .i64 (D.q : Nat), .int .i64 (n : Nat), .int .i64 (x : Nat)] wx fun e w' => e = .returned (.int .i64 (bf x : Nat)) ∧ Below wx.heap.size wx w') := fun x wx hx => by rw [hbf]; exact gball2_any hD n x hn1 hp hx wx
  have hbnb : bn ≤ 34359738368 := by
    rw [hbn]
    exact Nat.le_trans (bls_le (by omega) (n + 1)) (Nat.le_trans (Nat.mul_le_mul (show n + 1 ≤ 32 by omega) hp) (by omega))
  obtain ⟨q4, hq4⟩ : ∃ q4, q4 = D.q ^ K := ⟨_, rfl⟩
  have hq4b : q4 ≤ 4096 := by rw [hq4]; exact hK
  have hqp : 0 < q4 := by rw [hq4]; exact Nat.pow_pos (by omega)
  rw [← hbv, ← hbn, ← hq4] at hb
  have hmul : (q4 : Int) * (bv : Int) = (bn : Int) := by rw [← hb]; simp
  have hbvb : bv ≤ 34359738368 := by
    have : 1 * bv ≤ q4 * bv := Nat.mul_le_mul_right _ hqp
    omega
  have HF : Hid (D ∈ fieldsL ∧ Red D n m M K R0 ∧ Far D n K R0 (2 * r + 1) ∧ q4 = D.q ^ K) := ⟨hD, hred, hf, hq4⟩
  obtain ⟨r2, hr2⟩ : ∃ r2, r2 = 2 * r := ⟨_, rfl⟩
  have hr2i : (2 : Int) * (r : Int) = (r2 : Int) := by omega
  have hr2n : (r2 : Int) ≤ (n : Int) := by omega
  have HR2 : Hid (r2 = 2 * r) := hr2
  obtain ⟨n1, hn1e⟩ : ∃ n1, n1 = n + 1 := ⟨_, rfl⟩
  have HN1 : Hid (n1 = n + 1) := hn1e
  obtain ⟨r3, hr3⟩ : ∃ r3, r3 = r2 + 1 := ⟨_, rfl⟩
  have hr3w : IntKind.i64.wrap ((r2 : Int) + 1) = (r3 : Int) := by rw [hr3]; exact wrap_to (by omega) (by omega)
  have hr3n : r3 ≤ n1 := by omega
  have hr31 : 1 ≤ r3 := by omega
  have hr3i : (r3 : Int) ≤ (n1 : Int) := by omega
  have hr3j : (1 : Int) ≤ (r3 : Int) := by omega
  have hr3s : (r3 : Int) - 1 = (r2 : Int) := by omega
  have hn1b : n1 ≤ 31 := by omega
  have hr0 : ¬ (r : Int) < 0 := by omega
  have hrn : ¬ (n : Int) < (r : Int) := by omega
  clear h hD hred hf hq4 hbv hbn hb hp hbf hr2 hn1e hr3 hK
  go_enter Try.func10, Try.ntmps10
  go_wp2_with fail
  rw [← hw0]
  clear hw0
  refine HW.out.mono ?_
  rintro e w1 ⟨k, R, hre, hb1, hx⟩
  have H1 : Hid (Below w.heap.size w w1 ∧ CB w.heap.size D.q n (.slice ao m ca) w1) := ⟨below_two' H0.out.1 hb1, H0.out.2.1.keep hb1⟩
  have hkK : k = K ∧ ∀ i, i < k → R i = R0 i := Red.uniq (fld HF.out.1) hre HF.out.2.1 (fun _ => Iff.rfl)
  obtain ⟨hk1, hk2⟩ := hkK
  subst hk1
  rcases hx with ⟨hfew, g, hg, hrow, rfl⟩ | ⟨hno, _⟩
  rotate_left
  · exact absurd (by rw [← HF.out.2.2.2]; exact hq4b) hno
  rw [← HN1.out] at hrow
  have hwz : ∀ x, 0 < x → x ≤ r2 → wcn D R n k (D.q ^ k) x = 0 := fun x h0 hx => by
    rw [wcn_same hk2]
    exact far_wcn (fld HF.out.1) HF.out.2.2.1 h0 (by have := HR2.out; omega)
  have hwb : ∀ x, wcn D R n k (D.q ^ k) x ≤ 4096 := fun x => Nat.le_trans (wcn_le D R n k _ x) (by rw [← HF.out.2.2.2]; exact hq4b)
  have HT1 : Hid (∀ wx c, Below w1.heap.size w1 wx → Calls Try.prog 26 #[.slice (some ⟨g, 1, none⟩) r2 c] wx fun e w' => e = .returned (.int .i64 0) ∧ w' = wx) := fun wx c hx => by
    have hrx := hrow.below hx hrow.lt
    have := gtog_any (ao := some ⟨g, 1, none⟩) (n := r2) (ca := c) (z := fun i => ((wcn D R n k (D.q ^ k) (1 + i) : Nat) : Int)) (w := wx) (fun i hi => ⟨g, 1, rfl, hrx.cell (1 + i) (by have := HN1.out; omega)⟩) (by omega) (fun i hi => by have := hwb (1 + i); omega)
    rw [tsm_none r2 (fun i hi => by show ((wcn D R n k (D.q ^ k) (1 + i) : Nat) : Int) = 0; rw [hwz (1 + i) (by omega) (by omega)]; rfl)] at this
    exact this
  have HT2 : Hid (∀ wx c, Below w1.heap.size w1 wx → Calls Try.prog 26 #[.slice (some ⟨g, 0, none⟩) n1 c] wx fun e w' => e = .returned (.int .i64 (q4 : Nat)) ∧ w' = wx) := fun wx c hx => by
    have hrx := hrow.below hx hrow.lt
    have := gtog_any (ao := some ⟨g, 0, none⟩) (n := n1) (ca := c) (z := fun i => ((wcn D R n k (D.q ^ k) i : Nat) : Int)) (w := wx) (fun i hi => ⟨g, 0, rfl, by rw [Nat.zero_add]; exact hrx.cell i hi⟩) (by omega) (fun i hi => by have := hwb i; omega)
    rw [HN1.out, wcn_all (fld HF.out.1), ← HF.out.2.2.2, ← HN1.out] at this
    exact this
  rw [← HN1.out]
  clear hre hb1 hfew hg hrow hwz hwb hk2
  obtain ⟨c0, c1, c2⟩ := H1.out.2
  go_wp2_with fail
  refine (HCk.out w1).mono ?_
  rintro e w2 ⟨rfl, hb2⟩
  have H2 : Hid (Below w.heap.size w w2 ∧ CB w.heap.size D.q n (.slice ao m ca) w2 ∧ Below w1.heap.size w1 w2) := ⟨bel_up' H1.out.1 hb2, H1.out.2.keep hb2, hb2⟩
  clear hb2 c0 c1 c2
  obtain ⟨c0, c1, c2⟩ := H2.out.2.1
  have hmin : min (r2 : Int) (n : Int) = (r2 : Int) := by omega
  have hn1x : ¬ n1 = 1 := by have := HN1.out; omega
  have hn1y : ¬ 1 = n1 := by omega
  have hn1z : ¬ n1 - 1 = 0 := by omega
  have hr3t : r3 - 1 = r2 := by omega
  go_upto_region 9 with fail
  go_wp2_with fail
  refine (HT1.out _ _ H2.out.2.2).mono ?_
  rintro e w' ⟨rfl, hw⟩
  have hw := hw.symm
  subst hw
  have HA1 : Hid (∀ d os c, Calls Try.prog 26 #[.slice (some ⟨g, 0, none⟩) n1 c] (grow (redrawn w2 d) os) fun e w'' => e = .returned (.int .i64 (q4 : Nat)) ∧ ∃ p : Regrown, w'' = grow (redrawn w2 p.d) p.os) := fun d os c => (HT2.out _ c (bel_up' H2.out.2.2 (below_regrown w2 d os))).mono (fun e w'' h => ⟨h.1, ⟨d, os⟩, h.2⟩)
  clear hmin
  have k0 := cell_regrown c0
  have k1 := cell_regrown c1
  have k2 := cell_regrown c2
  go_upto_region 11 with fail
  refine below_tail 16 (by kernel_rfl) (by kernel_rfl) ?_
  simp only [List.take_succ_cons, List.take_zero, List.drop_succ_cons, List.drop_zero]
  repeat (go_big_quiet_step (first | (go_at_call 26; exact HA1.out _ _ _) | (go_at_call 27; exact Calls.regrown_of (HBx.out _ _ (by omega)))))
  refine wpQuiet_nil ?_
  intro _ hw'
  obtain ⟨⟨ds, oss⟩, hw''⟩ := hw'
  subst hw''
  have H7 : Hid (Below w.heap.size w (grow (redrawn w2 ds) oss)) := bel_up' H2.out.1 (below_regrown w2 ds oss)
  clear k0 k1 k2 c0 c1 c2
  go_wp2
  go_ret2
  exact ⟨by first | rfl | simp, H7.out⟩
end Go.Proofs.Ytafebmhbfmdjlab
