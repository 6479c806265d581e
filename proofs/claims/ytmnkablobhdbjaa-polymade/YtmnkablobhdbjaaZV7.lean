/- Texts of ours, one behind the other: V7 V8. -/
import Derived.Test.YtmnkablobhdbjaaZV6
/- The reference's polynomials: with 1 at the end (Monic); common divisors (PGcd). -/
namespace Go.Proofs.Ytmnkablobhdbjaa
open Go.RowKit Go.Sort

set_option maxHeartbeats 8000000 in
set_option maxRecDepth 100000 in
theorem rmonic_any {D : FD} (hD : D ∈ fieldsL) (gen gm cm : Nat) {ao : Option Addr} {n ca : Nat} {a : Nat → Nat} {w : World} (hn : n ≤ 1000) (ha : El D a) (hbn : Bd n a) (hA : Sl ao n a w) (hla : LtB ao w.heap.size)
    (hna : n ≤ ca) (hca : ca ≤ 9223372036854775807) (hza : ao = none → ca = 0) (hM : ModAt D (.slice (some ⟨gm, 0, none⟩) (D.m + 1) cm) D.md w) :
    Calls Try.prog 78 #[rf D.q D.p D.m gen (.slice (some ⟨gm, 0, none⟩) (D.m + 1) cm), .slice ao n ca] w fun e w' => ∃ v, e = .returned v ∧ OwnP w.heap.size v (dgn a n) (D.mon a (dgn a n)) w' ∧ Below w.heap.size w w' := by
  have HF : Hid (D ∈ fieldsL ∧ El D a ∧ Bd n a) := ⟨hD, ha, hbn⟩
  have HM : Hid (ModAt D (.slice (some ⟨gm, 0, none⟩) (D.m + 1) cm) D.md w) := hM
  have HB0 : Hid (Box w.heap.size D gen (.slice (some ⟨gm, 0, none⟩) (D.m + 1) cm) (w.alloc (.cells #[.int .i64 D.q, .int .i64 D.p, .int .i64 D.m, .int .i64 gen, .slice (some ⟨gm, 0, none⟩) (D.m + 1) cm] 28))) := box_new D gen _ w
  have hbl : Below w.heap.size w (w.alloc (.cells #[.int .i64 D.q, .int .i64 D.p, .int .i64 D.m, .int .i64 gen, .slice (some ⟨gm, 0, none⟩) (D.m + 1) cm] 28)) := (Below.refl _ _).alloc (Nat.le_refl _) _
  have HS : Hid (Sl ao n a (w.alloc (.cells #[.int .i64 D.q, .int .i64 D.p, .int .i64 D.m, .int .i64 gen, .slice (some ⟨gm, 0, none⟩) (D.m + 1) cm] 28)) ∧ LtB ao w.heap.size ∧ (ao = none → ca = 0) ∧ Below w.heap.size w (w.alloc (.cells #[.int .i64 D.q, .int .i64 D.p, .int .i64 D.m, .int .i64 gen, .slice (some ⟨gm, 0, none⟩) (D.m + 1) cm] 28))) := ⟨hA.below hbl hla, hla, hza, hbl⟩
  clear hD ha hbn hM hA hla hza hbl
  unfold rf
  obtain ⟨n', hn'⟩ : ∃ n', n' = dgn a n := ⟨_, rfl⟩
  rw [← hn']
  have hn1 : n' ≤ n := by rw [hn']; exact dgn_le _ _
  have HN : Hid (n' = dgn a n ∧ Trd n' a) := ⟨hn', by rw [hn']; exact trd_dgn HF.out.2.2⟩
  clear hn'
  go_enter Try.func78, Try.ntmps78
  go_wp2_with fail
  refine (rtrim_any HS.out.1 hna hca HS.out.2.2.1 (HS.out.2.1.mono (by simp)) (by omega)).mono ?_
  rintro e w1 ⟨va, rfl, hoa, hb1⟩
  rw [← HN.out.1] at hoa
  have hs1 := hb1.size
  obtain ⟨a1, c1, hva, _, _, _, _, _, _⟩ := hoa.open
  subst hva
  have HW1 : Hid (OwnP (w.heap.size + 1) (.slice a1 n' c1) n' a w1 ∧ Below w.heap.size w w1 ∧ Box w.heap.size D gen (.slice (some ⟨gm, 0, none⟩) (D.m + 1) cm) w1) :=
    ⟨by have h := hoa; simp at h; exact h, bel_up' HS.out.2.2.2 hb1, HB0.out.below hb1 (by simp)⟩
  have hs1' : w.heap.size < w1.heap.size := by simp at hs1; omega
  clear hoa hb1 hs1 HB0 HS
  by_cases h0 : n' = 0
  · have hz : ((n' : Int) == 0) = true := by rw [h0]; rfl
    have HZ : Hid (n' = 0) := h0
    clear h0
    go_wp2
    go_ret
    exact ⟨_, rfl, ⟨none, 0, by rw [HZ.out]; rfl, by have := HZ.out; omega, by omega, fun x hx => (by cases hx), fun x hx => (by cases hx), fun _ => rfl, fun h1 => absurd h1 (by have := HZ.out; omega)⟩, HW1.out.2.1⟩
  · obtain ⟨l, rfl⟩ : ∃ l, n' = l + 1 := ⟨n' - 1, by omega⟩
    clear h0
    obtain ⟨ga, rfl, hga1, hga2, hrowa⟩ := HW1.out.1.row (by omega)
    obtain ⟨x, hx⟩ : ∃ x, x = a l := ⟨_, rfl⟩
    obtain ⟨inv, hinv⟩ : ∃ inv, inv = D.iv (a l) := ⟨_, rfl⟩
    have hcl : w1.cell? ⟨ga, l, none⟩ = some (.int .i64 (x : Nat)) := by rw [hx]; exact hrowa.cell l (by omega)
    have k0 := cell_regrown HW1.out.2.2.c0
    have k1 := cell_regrown HW1.out.2.2.c1
    have k2 := cell_regrown HW1.out.2.2.c2
    have k3 := cell_regrown HW1.out.2.2.c3
    have k4 := cell_regrown HW1.out.2.2.c4
    have k5 := cell_regrown hcl
    have HC0 : Hid (∀ d os, Calls Try.prog 28 #[.agg #[.int .i64 D.q, .int .i64 D.p, .int .i64 D.m, .int .i64 gen, .slice (some ⟨gm, 0, none⟩) (D.m + 1) cm], .int .i64 (x : Nat)] (grow (redrawn w1 d) os) fun e w'' => e = .returned (.int .i64 (inv : Nat)) ∧ ∃ p : Regrown, w'' = grow (redrawn w1 p.d) p.os) := by
      intro d os
      have h := rinv_any HF.out.1 gen (x : Nat) (HM.out.below (bel_up' HW1.out.2.1 (below_regrown w1 d os)))
      rw [inv_nat HF.out.1 (by rw [hx]; exact HF.out.2.1 l) (by rw [hx]; exact HN.out.2.2 (by omega))] at h
      rw [show inv = D.pw x (D.q - 2) from by rw [hinv, hx]; rfl]
      exact Calls.regrown_of h
    have HI : Hid (inv = D.iv (a l)) := hinv
    clear hx hinv hcl hrowa
    go_wp2
    refine wp_region_quiet_below (by kernel_rfl) (by kernel_rfl) ?_
    repeat (go_big_quiet_step (first | (go_at_call 28; exact HC0.out _ _)))
    refine wpQuiet_nil ?_
    intro _ hw'
    obtain ⟨⟨dq, osq⟩, hw''⟩ := hw'
    subst hw''
    obtain ⟨w5, hw5⟩ : ∃ w5, w5 = grow (redrawn w1 dq) osq := ⟨_, rfl⟩
    have hb5 : Below w1.heap.size w1 w5 := by rw [hw5]; exact below_regrown w1 dq osq
    have HG5 : Hid (OwnP (w.heap.size + 1) (.slice (some ⟨ga, 0, none⟩) (l + 1) c1) (l + 1) a w5 ∧ Below w.heap.size w w5 ∧ Box w.heap.size D gen (.slice (some ⟨gm, 0, none⟩) (D.m + 1) cm) w5 ∧ w1.heap.size ≤ w5.heap.size) := ⟨HW1.out.1.below hb5 (Nat.le_refl _), bel_up' HW1.out.2.1 hb5, HW1.out.2.2.below hb5 hs1', hb5.size⟩
    rw [← hw5]
    clear hw5 hb5 k0 k1 k2 k3 k4 k5 HC0
    go_wp2
    go_loopw [6] (fun i wr => ∃ j : Nat, j ≤ l + 1 ∧ i = .int .i64 j ∧ OwnP (w.heap.size + 1) (.slice (some ⟨ga, 0, none⟩) (l + 1) c1) (l + 1) (fun k => if k < j then D.mul inv (a k) else a k) wr ∧ Below w.heap.size w wr ∧ Box w.heap.size D gen (.slice (some ⟨gm, 0, none⟩) (D.m + 1) cm) wr ∧ w1.heap.size ≤ wr.heap.size) (fun i _ => l + 1 - (intOf i).toNat)
    case atStart => exact ⟨0, by omega, rfl, HG5.out.1.congr (fun k _ => by rw [if_neg (by omega)]), HG5.out.2⟩
    case round =>
      obtain ⟨j, hj, rfl, hown, hbel, hbox, hsz⟩ := hrel
      have HG : Hid (OwnP (w.heap.size + 1) (.slice (some ⟨ga, 0, none⟩) (l + 1) c1) (l + 1) (fun k => if k < j then D.mul inv (a k) else a k) wr ∧ Below w.heap.size w wr ∧ Box w.heap.size D gen (.slice (some ⟨gm, 0, none⟩) (D.m + 1) cm) wr) := ⟨hown, hbel, hbox⟩
      clear hown hbel hbox HG5
      by_cases hjl : j < l + 1
      · obtain ⟨ga', e2, _, hlt', hrowa⟩ := HG.out.1.row (by omega)
        cases e2
        obtain ⟨y, hy⟩ : ∃ y, y = a j := ⟨_, rfl⟩
        obtain ⟨u, hu⟩ : ∃ u, u = D.mul inv (a j) := ⟨_, rfl⟩
        have hcy : wr.cell? ⟨ga, j, none⟩ = some (.int .i64 (y : Nat)) := by
          have h := hrowa.cell j (by omega)
          rw [if_neg (by omega), ← hy] at h; exact h
        have hjb : (j : Int) < (l : Int) + 1 := by omega
        have hyq : y < D.q := by rw [hy]; exact HF.out.2.1 j
        have hiq : inv < D.q := by rw [HI.out]; exact iv_lt HF.out.1 _
        have k0 := cell_regrown HG.out.2.2.c0
        have k1 := cell_regrown HG.out.2.2.c1
        have k2 := cell_regrown HG.out.2.2.c2
        have k3 := cell_regrown HG.out.2.2.c3
        have k4 := cell_regrown HG.out.2.2.c4
        have k5 := cell_regrown hcy
        have k7 := free_regrown hrowa.lt (hrowa.free j)
        have HC1 : Hid (∀ d os, Calls Try.prog 24 #[.agg #[.int .i64 D.q, .int .i64 D.p, .int .i64 D.m, .int .i64 gen, .slice (some ⟨gm, 0, none⟩) (D.m + 1) cm], .int .i64 (y : Nat), .int .i64 (inv : Nat)] (grow (redrawn wr d) os) fun e w'' => e = .returned (.int .i64 (u : Nat)) ∧ ∃ p : Regrown, w'' = grow (redrawn wr p.d) p.os) := by
          intro d os
          rw [hu, (fld HF.out.1).mul_comm, ← hy]
          exact Calls.regrown_of (rmul_nat HF.out.1 gen HM.out y inv hyq hiq _ (bel_up' HG.out.2.1 (below_regrown wr d os)))
        have HV : Hid (∀ k, k < l + 1 → (if k < j + 1 then D.mul inv (a k) else a k) = if k = j then u else if k < j then D.mul inv (a k) else a k) := by
          intro k _
          by_cases e : k = j
          · rw [if_pos e, if_pos (by omega), hu, e]
          · rw [if_neg e]
            by_cases e2 : k < j
            · rw [if_pos e2, if_pos (by omega)]
            · rw [if_neg e2, if_neg (by omega)]
        clear hy hu hcy hrowa
        go_wp2
        refine below_tail 10 (by kernel_rfl) (by kernel_rfl) ?_
        simp only [List.take_succ_cons, List.take_zero, List.drop_succ_cons, List.drop_zero]
        repeat (go_big_quiet_step (first | (go_at_call 24; exact HC1.out _ _)))
        refine wpQuiet_nil ?_
        intro _ hw'
        obtain ⟨⟨ds, oss⟩, hw''⟩ := hw'
        subst hw''
        have hb7 := below_regrown wr ds oss
        have HG7 : Hid (OwnP (w.heap.size + 1) (.slice (some ⟨ga, 0, none⟩) (l + 1) c1) (l + 1) (fun k => if k < j then D.mul inv (a k) else a k) (grow (redrawn wr ds) oss) ∧ Below w.heap.size w (grow (redrawn wr ds) oss) ∧ Box w.heap.size D gen (.slice (some ⟨gm, 0, none⟩) (D.m + 1) cm) (grow (redrawn wr ds) oss) ∧ wr.heap.size ≤ (grow (redrawn wr ds) oss).heap.size) := ⟨HG.out.1.below hb7 (Nat.le_refl _), bel_up' HG.out.2.1 hb7, HG.out.2.2.below hb7 (by omega), hb7.size⟩
        clear hb7
        go_wp2
        go_roundw
        case rel => exact ⟨j + 1, by omega, by go_num, HG7.out.1.store j u (by omega) HV.out, HG7.out.2.1.setCell (by show w.heap.size ≤ ga; omega) _, HG7.out.2.2.1.setOther _ (by show w.heap.size ≠ ga; omega) _, Nat.le_trans (Nat.le_trans hsz HG7.out.2.2.2) (by simp [World.setCell])⟩
        case measure => simp [intOf]; omega
      · have HE : Hid (OwnP w.heap.size (.slice (some ⟨ga, 0, none⟩) (l + 1) c1) (l + 1) (D.mon a (l + 1)) wr) :=
          (HG.out.1.mono (by omega)).congr (fun k hk => by
            show (if k < j then D.mul inv (a k) else a k) = D.mul (D.iv (a (l + 1 - 1))) (a k)
            rw [if_pos (by omega), HI.out, Nat.add_sub_cancel])
        go_wp2
        go_ret
        exact ⟨_, rfl, HE.out, HG.out.2.1⟩
end Go.Proofs.Ytmnkablobhdbjaa

/- The reference's polynomials: common divisors (PGcd). -/
namespace Go.Proofs.Ytmnkablobhdbjaa
open Go.RowKit Go.Sort

/-- A polynomial's slice as PA tells it, with its bounds. -/
structure PB (D : FD) (ao : Option Addr) (n cap : Nat) (c : Nat → Nat) (w : World) : Prop where
  pa : PA D ao n cap c w
  le : n ≤ cap
  cap : cap ≤ 9223372036854775807
theorem PB.below {D : FD} {ao : Option Addr} {n cap : Nat} {c : Nat → Nat} {w w' : World} (h : PB D ao n cap c w) (hb : Below w.heap.size w w') : PB D ao n cap c w' := ⟨h.pa.below hb, h.le, h.cap⟩
theorem OwnP.pb {D : FD} {base n : Nat} {v : Value} {c : Nat → Nat} {w : World} (h : OwnP base v n c w) (he : El D c) (ht : Trd n c) : ∃ ao cap, v = .slice ao n cap ∧ PB D ao n cap c w := by
  obtain ⟨ao, cap, hv, h1, h2, _, hl, hz, hs⟩ := h.open
  exact ⟨ao, cap, hv, ⟨hs, hl, hz, he, ht⟩, h1, h2⟩

set_option maxHeartbeats 8000000 in
set_option maxRecDepth 100000 in
theorem rgcd_any {D : FD} (hD : D ∈ fieldsL) (gen gm cm : Nat) {ao bo : Option Addr} {n m ca cb : Nat} {a b : Nat → Nat} {w : World} (hn : n ≤ 999) (hm : m ≤ 999) (ha : El D a) (hb : El D b) (hbn : Bd n a) (hbm : Bd m b) (hA : Sl ao n a w) (hB : Sl bo m b w) (hla : LtB ao w.heap.size) (hlb : LtB bo w.heap.size)
    (hna : n ≤ ca) (hca : ca ≤ 9223372036854775807) (hza : ao = none → ca = 0) (hmb : m ≤ cb) (hcb : cb ≤ 9223372036854775807) (hzb : bo = none → cb = 0) (hM : ModAt D (.slice (some ⟨gm, 0, none⟩) (D.m + 1) cm) D.md w) :
    Calls Try.prog 50 #[rf D.q D.p D.m gen (.slice (some ⟨gm, 0, none⟩) (D.m + 1) cm), .slice ao n ca, .slice bo m cb] w fun e w' => ∃ v, e = .returned v ∧
      OwnP w.heap.size v (D.gcd m a (dgn a n) b (dgn b m)).2 (D.mon (D.gcd m a (dgn a n) b (dgn b m)).1 (D.gcd m a (dgn a n) b (dgn b m)).2) w' ∧ Below w.heap.size w w' := by
  have HF : Hid (D ∈ fieldsL ∧ El D a ∧ El D b ∧ Bd n a ∧ Bd m b) := ⟨hD, ha, hb, hbn, hbm⟩
  have HM : Hid (ModAt D (.slice (some ⟨gm, 0, none⟩) (D.m + 1) cm) D.md w) := hM
  have HB0 : Hid (Box w.heap.size D gen (.slice (some ⟨gm, 0, none⟩) (D.m + 1) cm) (w.alloc (.cells #[.int .i64 D.q, .int .i64 D.p, .int .i64 D.m, .int .i64 gen, .slice (some ⟨gm, 0, none⟩) (D.m + 1) cm] 28))) := box_new D gen _ w
  have hbl : Below w.heap.size w (w.alloc (.cells #[.int .i64 D.q, .int .i64 D.p, .int .i64 D.m, .int .i64 gen, .slice (some ⟨gm, 0, none⟩) (D.m + 1) cm] 28)) := (Below.refl _ _).alloc (Nat.le_refl _) _
  have HS : Hid (Sl ao n a (w.alloc (.cells #[.int .i64 D.q, .int .i64 D.p, .int .i64 D.m, .int .i64 gen, .slice (some ⟨gm, 0, none⟩) (D.m + 1) cm] 28)) ∧ Sl bo m b w ∧ LtB ao w.heap.size ∧ LtB bo w.heap.size ∧ (ao = none → ca = 0) ∧ (bo = none → cb = 0) ∧ Below w.heap.size w (w.alloc (.cells #[.int .i64 D.q, .int .i64 D.p, .int .i64 D.m, .int .i64 gen, .slice (some ⟨gm, 0, none⟩) (D.m + 1) cm] 28))) := ⟨hA.below hbl hla, hB, hla, hlb, hza, hzb, hbl⟩
  clear hD ha hb hbn hbm hM hA hB hla hlb hza hzb hbl
  unfold rf
  obtain ⟨G, hG⟩ : ∃ G, G = D.gcd m a (dgn a n) b (dgn b m) := ⟨_, rfl⟩
  rw [← hG]
  have HGG : Hid (G = D.gcd m a (dgn a n) b (dgn b m)) := hG
  clear hG
  go_enter Try.func50, Try.ntmps50
  go_wp2_with fail
  refine (rtrim_any HS.out.1 hna hca HS.out.2.2.2.2.1 (HS.out.2.2.1.mono (by simp)) (by omega)).mono ?_
  rintro e w1 ⟨va, rfl, hoa, hb1⟩
  have hs1 := hb1.size
  have hb1' := bel_up' HS.out.2.2.2.2.2.2 hb1
  have HW1 : Hid (OwnP (w.heap.size + 1) va (dgn a n) a w1 ∧ Below w.heap.size w w1 ∧ Box w.heap.size D gen (.slice (some ⟨gm, 0, none⟩) (D.m + 1) cm) w1 ∧ Sl bo m b w1) :=
    ⟨by have h := hoa; simp at h; exact h, hb1', HB0.out.below hb1 (by simp), HS.out.2.1.below hb1' HS.out.2.2.2.1⟩
  have hs1' : w.heap.size < w1.heap.size := by simp at hs1; omega
  clear hoa hb1 hb1' hs1 HB0
  go_wp2_with fail
  refine (rtrim_any HW1.out.2.2.2 hmb hcb HS.out.2.2.2.2.2.1 (HS.out.2.2.2.1.mono (by omega)) (by omega)).mono ?_
  rintro e w2 ⟨vb, rfl, hob, hb2⟩
  have hs2 := hb2.size
  obtain ⟨a1, c1, hva, hpa⟩ := (HW1.out.1.below hb2 (Nat.le_refl _)).pb HF.out.2.1 (trd_dgn HF.out.2.2.2.1)
  obtain ⟨b1, c2, hvb, hpb⟩ := hob.pb HF.out.2.2.1 (trd_dgn HF.out.2.2.2.2)
  subst hva hvb
  have HW2 : Hid (PB D a1 (dgn a n) c1 a w2 ∧ PB D b1 (dgn b m) c2 b w2 ∧ Below w.heap.size w w2 ∧ Box w.heap.size D gen (.slice (some ⟨gm, 0, none⟩) (D.m + 1) cm) w2) :=
    ⟨hpa, hpb, bel_up' HW1.out.2.1 hb2, HW1.out.2.2.1.below hb2 hs1'⟩
  have d1 := dgn_le a n
  have d2 := dgn_le b m
  clear hob hb2 HW1 HS hpa hpb
  go_wp2
  go_loopw [1, 2] (fun va vb wr => ∃ (k n1 m1 c1 c2 : Nat) (a1 b1 : Option Addr) (p r : Nat → Nat), va = .slice a1 n1 c1 ∧ vb = .slice b1 m1 c2 ∧ n1 ≤ 999 ∧ m1 ≤ 999 ∧ Hid (m1 ≤ k ∧ D.gcd k p n1 r m1 = G) ∧ PB D a1 n1 c1 p wr ∧ PB D b1 m1 c2 r wr ∧ Below w.heap.size w wr ∧ Box w.heap.size D gen (.slice (some ⟨gm, 0, none⟩) (D.m + 1) cm) wr ∧ w.heap.size < wr.heap.size) (fun _ vb _ => slLen vb)
  case atStart => exact ⟨m, dgn a n, dgn b m, c1, c2, a1, b1, a, b, rfl, rfl, by omega, by omega, ⟨d2, HGG.out.symm⟩, HW2.out.1, HW2.out.2.1, HW2.out.2.2.1, HW2.out.2.2.2, by omega⟩
  case round =>
    obtain ⟨k, n1, m1, c1, c2, a1, b1, p, r, rfl, rfl, hn1, hm1, HK, hpa, hpb, hbel, hbox, hsz⟩ := hrel
    obtain ⟨x0, x1, x2, x3, x4⟩ := hbox
    have HG : Hid (PB D a1 n1 c1 p wr ∧ PB D b1 m1 c2 r wr ∧ Below w.heap.size w wr ∧ Box w.heap.size D gen (.slice (some ⟨gm, 0, none⟩) (D.m + 1) cm) wr) := ⟨hpa, hpb, hbel, ⟨x0, x1, x2, x3, x4⟩⟩
    clear hpa hpb hbel
    by_cases hm0 : m1 = 0
    · have hz : ¬ (0 : Int) < (m1 : Int) := by omega
      have HE : Hid (G = (p, n1)) := by
        have h := HK.out.2
        rw [hm0, gcd_nil] at h; exact h.symm
      have HMo : Hid (Calls Try.prog 78 #[.agg #[.int .i64 D.q, .int .i64 D.p, .int .i64 D.m, .int .i64 gen, .slice (some ⟨gm, 0, none⟩) (D.m + 1) cm], .slice a1 n1 c1] wr fun e w' => ∃ v, e = .returned v ∧ OwnP wr.heap.size v n1 (D.mon p n1) w' ∧ Below wr.heap.size wr w') := by
        have h := rmonic_any HF.out.1 gen gm cm (by omega) HG.out.1.pa.el HG.out.1.pa.trd.1 HG.out.1.pa.sl HG.out.1.pa.lt HG.out.1.le HG.out.1.cap HG.out.1.pa.nil (HM.out.below HG.out.2.2.1)
        rw [HG.out.1.pa.trd.dgn (Nat.le_refl _)] at h
        exact h
      clear hm0
      go_wp2_with fail
      refine HMo.out.mono ?_
      rintro e w3 ⟨v, rfl, hown, hb3⟩
      have hs := HG.out.2.2.1.size
      have HR : Hid (OwnP w.heap.size v n1 (D.mon p n1) w3 ∧ Below w.heap.size w w3) := ⟨hown.mono hs, bel_up' HG.out.2.2.1 hb3⟩
      clear hown hb3
      go_wp2
      go_ret
      exact ⟨v, rfl, by rw [HE.out]; exact HR.out.1, HR.out.2⟩
    · obtain ⟨l, rfl⟩ : ∃ l, m1 = l + 1 := ⟨m1 - 1, by omega⟩
      obtain ⟨k', rfl⟩ : ∃ k', k = k' + 1 := ⟨k - 1, by have := HK.out.1; omega⟩
      have HV : Hid (Calls Try.prog 52 #[.agg #[.int .i64 D.q, .int .i64 D.p, .int .i64 D.m, .int .i64 gen, .slice (some ⟨gm, 0, none⟩) (D.m + 1) cm], .slice a1 n1 c1, .slice b1 (l + 1) c2] wr fun e w' =>
          ∃ vq vr, e = .returned (.tuple #[vq, vr]) ∧ OwnP wr.heap.size vr (dgn (D.rem p n1 r (l + 1)) n1) (D.rem p n1 r (l + 1)) w' ∧ Below wr.heap.size wr w') := by
        have h := rpdiv_any HF.out.1 gen gm cm (show n1 ≤ 1000 by omega) (show l + 1 ≤ 1000 by omega) HG.out.1.pa.el HG.out.2.1.pa.el HG.out.1.pa.trd.1 HG.out.2.1.pa.trd.1 HG.out.1.pa.sl HG.out.2.1.pa.sl HG.out.1.pa.lt HG.out.2.1.pa.lt HG.out.1.le HG.out.1.cap HG.out.1.pa.nil HG.out.2.1.le HG.out.2.1.cap HG.out.2.1.pa.nil (HM.out.below HG.out.2.2.1) l (HG.out.2.1.pa.trd.dgn (Nat.le_refl _))
        refine h.mono ?_
        rintro e w' ⟨vq, vr, rfl, _, hor, hb'⟩
        exact ⟨vq, vr, rfl, hor, hb'⟩
      have HL : Hid (dgn (D.rem p n1 r (l + 1)) n1 ≤ l ∧ Trd (dgn (D.rem p n1 r (l + 1)) n1) (D.rem p n1 r (l + 1)) ∧ El D (D.rem p n1 r (l + 1)) ∧ D.gcd k' r (l + 1) (D.rem p n1 r (l + 1)) (dgn (D.rem p n1 r (l + 1)) n1) = G) :=
        ⟨rem_len HF.out.1 HG.out.1.pa.el HG.out.2.1.pa.el HG.out.1.pa.trd.1 HG.out.2.1.pa.trd (by omega), rem_trd HF.out.1 HG.out.1.pa.el HG.out.2.1.pa.el HG.out.1.pa.trd.1 HG.out.2.1.pa.trd (by omega), rem_el HF.out.1 HG.out.1.pa.el, by rw [← gcd_step D p n1 r (l + 1) k' (by omega)]; exact HK.out.2⟩
      have hk' : l + 1 ≤ k' + 1 := HK.out.1
      clear hm0 HK
      go_wp2_with fail
      refine HV.out.mono ?_
      rintro e w3 ⟨vq, vr, rfl, hor, hb3⟩
      have hs3 := hb3.size
      obtain ⟨r1, rc1, rfl, hpa⟩ := hor.pb HL.out.2.2.1 HL.out.2.1
      have HR : Hid (PB D r1 (dgn (D.rem p n1 r (l + 1)) n1) rc1 (D.rem p n1 r (l + 1)) w3 ∧ PB D b1 (l + 1) c2 r w3 ∧ Below w.heap.size w w3 ∧ Box w.heap.size D gen (.slice (some ⟨gm, 0, none⟩) (D.m + 1) cm) w3) := ⟨hpa, HG.out.2.1.below hb3, bel_up' HG.out.2.2.1 hb3, HG.out.2.2.2.below hb3 hsz⟩
      clear hor hpa hb3 HV
      go_wp2
      go_roundw
      case rel => exact ⟨k', l + 1, _, c2, rc1, b1, r1, r, D.rem p n1 r (l + 1), rfl, rfl, by omega, by have := HL.out.1; omega, ⟨by have := HL.out.1; omega, HL.out.2.2.2⟩, HR.out.2.1, HR.out.1, HR.out.2.2.1, HR.out.2.2.2, by omega⟩
      case measure =>
        show dgn (D.rem p n1 r (l + 1)) n1 < l + 1
        have := HL.out.1
        omega
end Go.Proofs.Ytmnkablobhdbjaa
