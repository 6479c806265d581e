/- Texts of ours, one behind the other: V7 V8 N5 N6. -/
import Derived.Test.YthmjdcajaoilgaaZV6
import Derived.Test.YthmjdcajaoilgaaZN1
/- The reference's polynomials: with 1 at the end (Monic); common divisors (PGcd). -/
namespace Go.Proofs.Ythmjdcajaoilgaa
open Go.RowKit Go.Sort

set_option maxHeartbeats 8000000 in
set_option maxRecDepth 100000 in
theorem rmonic_any {D : FD} (hD : D ∈ fieldsL) (gen gm cm : Nat) {ao : Option Addr} {n ca : Nat} {a : Nat → Nat} {w : World} (hn : n ≤ 1000) (ha : El D a) (hbn : Bd n a) (hA : Sl ao n a w) (hla : LtB ao w.heap.size)
    (hna : n ≤ ca) (hca : ca ≤ 9223372036854775807) (hza : ao = none → ca = 0) (hM : ModAt D (.slice (some ⟨gm, 0, none⟩) (D.m + 1) cm) D.md w) :
    Calls Try.prog 84 #[rf D.q D.p D.m gen (.slice (some ⟨gm, 0, none⟩) (D.m + 1) cm), .slice ao n ca] w fun e w' => ∃ v, e = .returned v ∧ OwnP w.heap.size v (dgn a n) (D.mon a (dgn a n)) w' ∧ Below w.heap.size w w' := by
  have HF : Hid (D ∈ fieldsL ∧ El D a ∧ Bd n a) := ⟨hD, ha, hbn⟩
  have HM : Hid (ModAt D (.slice (some ⟨gm, 0, none⟩) (D.m + 1) cm) D.md w) := hM
  have HB0 : Hid (Box w.heap.size D gen (.slice (some ⟨gm, 0, none⟩) (D.m + 1) cm) (w.alloc (.cells #[.int .i64 D.q, .int .i64 D.p, .int .i64 D.m, .int .i64 gen, .slice (some ⟨gm, 0, none⟩) (D.m + 1) cm] 28))) := box_new D gen _ w
  have hbl : Below w.heap.size w (w.alloc (.cells #[.int .i64 D.q, .int .i64 D.p, .int .i64 D.m, .int .i64 gen, .slice (some ⟨gm, 0, none⟩) (D.m + 1) cm] 28)) := (Below.refl _ _).alloc (Nat.le_refl _) _
  have HS : Hid (Sl ao n a (w.alloc (.cells #[.int .i64 D.q, .int .i64 D.p, .int .i64 D.m, .int .i64 gen, .slice (some ⟨gm, 0, none⟩) (D.m + 1) cm] 28)) ∧ LtB ao w.heap.size ∧ (ao = none → ca = 0) ∧ Below w.heap.size w (w.alloc (.cells #[.int .i64 D.q, .int .i64 D.p, .int .i64 D.m, .int .i64 gen, .slice (some ⟨gm, 0, none⟩) (D.m + 1) cm] 28))) := ⟨hA.below hbl hla, hla, hza, hbl⟩
  clear hD ha hbn hM hA hla hza hbl
  unfold rf
  obtain ⟨n', hn'⟩ : ∃ n', n' = dgn a n := ⟨_, rfl⟩
  rw [← hn']
  have hn1 : n' ≤ n := by rw [hn']; exact dgn_le _ _
  have HN : Hid (n' = dgn a n ∧ Trd n' a) := ⟨hn', by rw [hn']; exact trd_dgn HF.out.2.2⟩
  clear hn'
  go_enter Try.func84, Try.ntmps84
  go_wp2_with fail
  refine (rtrim_any HS.out.1 hna hca HS.out.2.2.1 (HS.out.2.1.mono (by simp)) (by omega)).mono ?_
  rintro e w1 ⟨va, rfl, hoa, hb1⟩
  rw [← HN.out.1] at hoa
  have hs1 := hb1.size
  obtain ⟨a1, c1, hva, _, _, _, _, _, _⟩ := hoa.open
  subst hva
  have HW1 : Hid (OwnP (w.heap.size + 1) (.slice a1 n' c1) n' a w1 ∧ Below w.heap.size w w1 ∧ Box w.heap.size D gen (.slice (some ⟨gm, 0, none⟩) (D.m + 1) cm) w1) :=
    ⟨by have h := hoa; simp at h; exact h, bel_up' HS.out.2.2.2 hb1, HB0.out.below hb1 (by simp)⟩
  have hs1' : w.heap.size < w1.heap.size := by simp at hs1; omega
  clear hoa hb1 hs1 HB0 HS
  by_cases h0 : n' = 0
  · have hz : ((n' : Int) == 0) = true := by rw [h0]; rfl
    have HZ : Hid (n' = 0) := h0
    clear h0
    go_wp2
    go_ret
    exact ⟨_, rfl, ⟨none, 0, by rw [HZ.out]; rfl, by have := HZ.out; omega, by omega, fun x hx => (by cases hx), fun x hx => (by cases hx), fun _ => rfl, fun h1 => absurd h1 (by have := HZ.out; omega)⟩, HW1.out.2.1⟩
  · obtain ⟨l, rfl⟩ : ∃ l, n' = l + 1 := ⟨n' - 1, by omega⟩
    clear h0
    obtain ⟨ga, rfl, hga1, hga2, hrowa⟩ := HW1.out.1.row (by omega)
    obtain ⟨x, hx⟩ : ∃ x, x = a l := ⟨_, rfl⟩
    obtain ⟨inv, hinv⟩ : ∃ inv, inv = D.iv (a l) := ⟨_, rfl⟩
    have hcl : w1.cell? ⟨ga, l, none⟩ = some (.int .i64 (x : Nat)) := by rw [hx]; exact hrowa.cell l (by omega)
    have k0 := cell_regrown HW1.out.2.2.c0
    have k1 := cell_regrown HW1.out.2.2.c1
    have k2 := cell_regrown HW1.out.2.2.c2
    have k3 := cell_regrown HW1.out.2.2.c3
    have k4 := cell_regrown HW1.out.2.2.c4
    have k5 := cell_regrown hcl
    have HC0 : Hid (∀ d os, Calls Try.prog 28 #[.agg #[.int .i64 D.q, .int .i64 D.p, .int .i64 D.m, .int .i64 gen, .slice (some ⟨gm, 0, none⟩) (D.m + 1) cm], .int .i64 (x : Nat)] (grow (redrawn w1 d) os) fun e w'' => e = .returned (.int .i64 (inv : Nat)) ∧ ∃ p : Regrown, w'' = grow (redrawn w1 p.d) p.os) := by
      intro d os
      have h := rinv_any HF.out.1 gen (x : Nat) (HM.out.below (bel_up' HW1.out.2.1 (below_regrown w1 d os)))
      rw [inv_nat HF.out.1 (by rw [hx]; exact HF.out.2.1 l) (by rw [hx]; exact HN.out.2.2 (by omega))] at h
      rw [show inv = D.pw x (D.q - 2) from by rw [hinv, hx]; rfl]
      exact Calls.regrown_of h
    have HI : Hid (inv = D.iv (a l)) := hinv
    clear hx hinv hcl hrowa
    go_wp2
    refine wp_region_quiet_below (by kernel_rfl) (by kernel_rfl) ?_
    repeat (go_big_quiet_step (first | (go_at_call 28; exact HC0.out _ _)))
    refine wpQuiet_nil ?_
    intro _ hw'
    obtain ⟨⟨dq, osq⟩, hw''⟩ := hw'
    subst hw''
    obtain ⟨w5, hw5⟩ : ∃ w5, w5 = grow (redrawn w1 dq) osq := ⟨_, rfl⟩
    have hb5 : Below w1.heap.size w1 w5 := by rw [hw5]; exact below_regrown w1 dq osq
    have HG5 : Hid (OwnP (w.heap.size + 1) (.slice (some ⟨ga, 0, none⟩) (l + 1) c1) (l + 1) a w5 ∧ Below w.heap.size w w5 ∧ Box w.heap.size D gen (.slice (some ⟨gm, 0, none⟩) (D.m + 1) cm) w5 ∧ w1.heap.size ≤ w5.heap.size) := ⟨HW1.out.1.below hb5 (Nat.le_refl _), bel_up' HW1.out.2.1 hb5, HW1.out.2.2.below hb5 hs1', hb5.size⟩
    rw [← hw5]
    clear hw5 hb5 k0 k1 k2 k3 k4 k5 HC0
    go_wp2
    go_loopw [6] (fun i wr => ∃ j : Nat, j ≤ l + 1 ∧ i = .int .i64 j ∧ OwnP (w.heap.size + 1) (.slice (some ⟨ga, 0, none⟩) (l + 1) c1) (l + 1) (fun k => if k < j then D.mul inv (a k) else a k) wr ∧ Below w.heap.size w wr ∧ Box w.heap.size D gen (.slice (some ⟨gm, 0, none⟩) (D.m + 1) cm) wr ∧ w1.heap.size ≤ wr.heap.size) (fun i _ => l + 1 - (intOf i).toNat)
    case atStart => exact ⟨0, by omega, rfl, HG5.out.1.congr (fun k _ => by rw [if_neg (by omega)]), HG5.out.2⟩
    case round =>
      obtain ⟨j, hj, rfl, hown, hbel, hbox, hsz⟩ := hrel
      have HG : Hid (OwnP (w.heap.size + 1) (.slice (some ⟨ga, 0, none⟩) (l + 1) c1) (l + 1) (fun k => if k < j then D.mul inv (a k) else a k) wr ∧ Below w.heap.size w wr ∧ Box w.heap.size D gen (.slice (some ⟨gm, 0, none⟩) (D.m + 1) cm) wr) := ⟨hown, hbel, hbox⟩
      clear hown hbel hbox HG5
      by_cases hjl : j < l + 1
      · obtain ⟨ga', e2, _, hlt', hrowa⟩ := HG.out.1.row (by omega)
        cases e2
        obtain ⟨y, hy⟩ : ∃ y, y = a j := ⟨_, rfl⟩
        obtain ⟨u, hu⟩ : ∃ u, u = D.mul inv (a j) := ⟨_, rfl⟩
        have hcy : wr.cell? ⟨ga, j, none⟩ = some (.int .i64 (y : Nat)) := by
          have h := hrowa.cell j (by omega)
          rw [if_neg (by omega), ← hy] at h; exact h
        have hjb : (j : Int) < (l : Int) + 1 := by omega
        have hyq : y < D.q := by rw [hy]; exact HF.out.2.1 j
        have hiq : inv < D.q := by rw [HI.out]; exact iv_lt HF.out.1 _
        have k0 := cell_regrown HG.out.2.2.c0
        have k1 := cell_regrown HG.out.2.2.c1
        have k2 := cell_regrown HG.out.2.2.c2
        have k3 := cell_regrown HG.out.2.2.c3
        have k4 := cell_regrown HG.out.2.2.c4
        have k5 := cell_regrown hcy
        have k7 := free_regrown hrowa.lt (hrowa.free j)
        have HC1 : Hid (∀ d os, Calls Try.prog 24 #[.agg #[.int .i64 D.q, .int .i64 D.p, .int .i64 D.m, .int .i64 gen, .slice (some ⟨gm, 0, none⟩) (D.m + 1) cm], .int .i64 (y : Nat), .int .i64 (inv : Nat)] (grow (redrawn wr d) os) fun e w'' => e = .returned (.int .i64 (u : Nat)) ∧ ∃ p : Regrown, w'' = grow (redrawn wr p.d) p.os) := by
          intro d os
          rw [hu, (fld HF.out.1).mul_comm, ← hy]
          exact Calls.regrown_of (rmul_nat HF.out.1 gen HM.out y inv hyq hiq _ (bel_up' HG.out.2.1 (below_regrown wr d os)))
        have HV : Hid (∀ k, k < l + 1 → (if k < j + 1 then D.mul inv (a k) else a k) = if k = j then u else if k < j then D.mul inv (a k) else a k) := by
          intro k _
          by_cases e : k = j
          · rw [if_pos e, if_pos (by omega), hu, e]
          · rw [if_neg e]
            by_cases e2 : k < j
            · rw [if_pos e2, if_pos (by omega)]
            · rw [if_neg e2, if_neg (by omega)]
        clear hy hu hcy hrowa
        go_wp2
        refine below_tail 10 (by kernel_rfl) (by kernel_rfl) ?_
        simp only [List.take_succ_cons, List.take_zero, List.drop_succ_cons, List.drop_zero]
        repeat (go_big_quiet_step (first | (go_at_call 24; exact HC1.out _ _)))
        refine wpQuiet_nil ?_
        intro _ hw'
        obtain ⟨⟨ds, oss⟩, hw''⟩ := hw'
        subst hw''
        have hb7 := below_regrown wr ds oss
        have HG7 : Hid (OwnP (w.heap.size + 1) (.slice (some ⟨ga, 0, none⟩) (l + 1) c1) (l + 1) (fun k => if k < j then D.mul inv (a k) else a k) (grow (redrawn wr ds) oss) ∧ Below w.heap.size w (grow (redrawn wr ds) oss) ∧ Box w.heap.size D gen (.slice (some ⟨gm, 0, none⟩) (D.m + 1) cm) (grow (redrawn wr ds) oss) ∧ wr.heap.size ≤ (grow (redrawn wr ds) oss).heap.size) := ⟨HG.out.1.below hb7 (Nat.le_refl _), bel_up' HG.out.2.1 hb7, HG.out.2.2.below hb7 (by omega), hb7.size⟩
        clear hb7
        go_wp2
        go_roundw
        case rel => exact ⟨j + 1, by omega, by go_num, HG7.out.1.store j u (by omega) HV.out, HG7.out.2.1.setCell (by show w.heap.size ≤ ga; omega) _, HG7.out.2.2.1.setOther _ (by show w.heap.size ≠ ga; omega) _, Nat.le_trans (Nat.le_trans hsz HG7.out.2.2.2) (by simp [World.setCell])⟩
        case measure => simp [intOf]; omega
      · have HE : Hid (OwnP w.heap.size (.slice (some ⟨ga, 0, none⟩) (l + 1) c1) (l + 1) (D.mon a (l + 1)) wr) :=
          (HG.out.1.mono (by omega)).congr (fun k hk => by
            show (if k < j then D.mul inv (a k) else a k) = D.mul (D.iv (a (l + 1 - 1))) (a k)
            rw [if_pos (by omega), HI.out, Nat.add_sub_cancel])
        go_wp2
        go_ret
        exact ⟨_, rfl, HE.out, HG.out.2.1⟩
end Go.Proofs.Ythmjdcajaoilgaa

/- The reference's polynomials: common divisors (PGcd). -/
namespace Go.Proofs.Ythmjdcajaoilgaa
open Go.RowKit Go.Sort

/-- A polynomial's slice as PA tells it, with its bounds. -/
structure PB (D : FD) (ao : Option Addr) (n cap : Nat) (c : Nat → Nat) (w : World) : Prop where
  pa : PA D ao n cap c w
  le : n ≤ cap
  cap : cap ≤ 9223372036854775807
theorem PB.below {D : FD} {ao : Option Addr} {n cap : Nat} {c : Nat → Nat} {w w' : World} (h : PB D ao n cap c w) (hb : Below w.heap.size w w') : PB D ao n cap c w' := ⟨h.pa.below hb, h.le, h.cap⟩
theorem OwnP.pb {D : FD} {base n : Nat} {v : Value} {c : Nat → Nat} {w : World} (h : OwnP base v n c w) (he : El D c) (ht : Trd n c) : ∃ ao cap, v = .slice ao n cap ∧ PB D ao n cap c w := by
  obtain ⟨ao, cap, hv, h1, h2, _, hl, hz, hs⟩ := h.open
  exact ⟨ao, cap, hv, ⟨hs, hl, hz, he, ht⟩, h1, h2⟩

set_option maxHeartbeats 8000000 in
set_option maxRecDepth 100000 in
theorem rgcd_any {D : FD} (hD : D ∈ fieldsL) (gen gm cm : Nat) {ao bo : Option Addr} {n m ca cb : Nat} {a b : Nat → Nat} {w : World} (hn : n ≤ 999) (hm : m ≤ 999) (ha : El D a) (hb : El D b) (hbn : Bd n a) (hbm : Bd m b) (hA : Sl ao n a w) (hB : Sl bo m b w) (hla : LtB ao w.heap.size) (hlb : LtB bo w.heap.size)
    (hna : n ≤ ca) (hca : ca ≤ 9223372036854775807) (hza : ao = none → ca = 0) (hmb : m ≤ cb) (hcb : cb ≤ 9223372036854775807) (hzb : bo = none → cb = 0) (hM : ModAt D (.slice (some ⟨gm, 0, none⟩) (D.m + 1) cm) D.md w) :
    Calls Try.prog 50 #[rf D.q D.p D.m gen (.slice (some ⟨gm, 0, none⟩) (D.m + 1) cm), .slice ao n ca, .slice bo m cb] w fun e w' => ∃ v, e = .returned v ∧
      OwnP w.heap.size v (D.gcd m a (dgn a n) b (dgn b m)).2 (D.mon (D.gcd m a (dgn a n) b (dgn b m)).1 (D.gcd m a (dgn a n) b (dgn b m)).2) w' ∧ Below w.heap.size w w' := by
  have HF : Hid (D ∈ fieldsL ∧ El D a ∧ El D b ∧ Bd n a ∧ Bd m b) := ⟨hD, ha, hb, hbn, hbm⟩
  have HM : Hid (ModAt D (.slice (some ⟨gm, 0, none⟩) (D.m + 1) cm) D.md w) := hM
  have HB0 : Hid (Box w.heap.size D gen (.slice (some ⟨gm, 0, none⟩) (D.m + 1) cm) (w.alloc (.cells #[.int .i64 D.q, .int .i64 D.p, .int .i64 D.m, .int .i64 gen, .slice (some ⟨gm, 0, none⟩) (D.m + 1) cm] 28))) := box_new D gen _ w
  have hbl : Below w.heap.size w (w.alloc (.cells #[.int .i64 D.q, .int .i64 D.p, .int .i64 D.m, .int .i64 gen, .slice (some ⟨gm, 0, none⟩) (D.m + 1) cm] 28)) := (Below.refl _ _).alloc (Nat.le_refl _) _
  have HS : Hid (Sl ao n a (w.alloc (.cells #[.int .i64 D.q, .int .i64 D.p, .int .i64 D.m, .int .i64 gen, .slice (some ⟨gm, 0, none⟩) (D.m + 1) cm] 28)) ∧ Sl bo m b w ∧ LtB ao w.heap.size ∧ LtB bo w.heap.size ∧ (ao = none → ca = 0) ∧ (bo = none → cb = 0) ∧ Below w.heap.size w (w.alloc (.cells #[.int .i64 D.q, .int .i64 D.p, .int .i64 D.m, .int .i64 gen, .slice (some ⟨gm, 0, none⟩) (D.m + 1) cm] 28))) := ⟨hA.below hbl hla, hB, hla, hlb, hza, hzb, hbl⟩
  clear hD ha hb hbn hbm hM hA hB hla hlb hza hzb hbl
  unfold rf
  obtain ⟨G, hG⟩ : ∃ G, G = D.gcd m a (dgn a n) b (dgn b m) := ⟨_, rfl⟩
  rw [← hG]
  have HGG : Hid (G = D.gcd m a (dgn a n) b (dgn b m)) := hG
  clear hG
  go_enter Try.func50, Try.ntmps50
  go_wp2_with fail
  refine (rtrim_any HS.out.1 hna hca HS.out.2.2.2.2.1 (HS.out.2.2.1.mono (by simp)) (by omega)).mono ?_
  rintro e w1 ⟨va, rfl, hoa, hb1⟩
  have hs1 := hb1.size
  have hb1' := bel_up' HS.out.2.2.2.2.2.2 hb1
  have HW1 : Hid (OwnP (w.heap.size + 1) va (dgn a n) a w1 ∧ Below w.heap.size w w1 ∧ Box w.heap.size D gen (.slice (some ⟨gm, 0, none⟩) (D.m + 1) cm) w1 ∧ Sl bo m b w1) :=
    ⟨by have h := hoa; simp at h; exact h, hb1', HB0.out.below hb1 (by simp), HS.out.2.1.below hb1' HS.out.2.2.2.1⟩
  have hs1' : w.heap.size < w1.heap.size := by simp at hs1; omega
  clear hoa hb1 hb1' hs1 HB0
  go_wp2_with fail
  refine (rtrim_any HW1.out.2.2.2 hmb hcb HS.out.2.2.2.2.2.1 (HS.out.2.2.2.1.mono (by omega)) (by omega)).mono ?_
  rintro e w2 ⟨vb, rfl, hob, hb2⟩
  have hs2 := hb2.size
  obtain ⟨a1, c1, hva, hpa⟩ := (HW1.out.1.below hb2 (Nat.le_refl _)).pb HF.out.2.1 (trd_dgn HF.out.2.2.2.1)
  obtain ⟨b1, c2, hvb, hpb⟩ := hob.pb HF.out.2.2.1 (trd_dgn HF.out.2.2.2.2)
  subst hva hvb
  have HW2 : Hid (PB D a1 (dgn a n) c1 a w2 ∧ PB D b1 (dgn b m) c2 b w2 ∧ Below w.heap.size w w2 ∧ Box w.heap.size D gen (.slice (some ⟨gm, 0, none⟩) (D.m + 1) cm) w2) :=
    ⟨hpa, hpb, bel_up' HW1.out.2.1 hb2, HW1.out.2.2.1.below hb2 hs1'⟩
  have d1 := dgn_le a n
  have d2 := dgn_le b m
  clear hob hb2 HW1 HS hpa hpb
  go_wp2
  go_loopw [1, 2] (fun va vb wr => ∃ (k n1 m1 c1 c2 : Nat) (a1 b1 : Option Addr) (p r : Nat → Nat), va = .slice a1 n1 c1 ∧ vb = .slice b1 m1 c2 ∧ n1 ≤ 999 ∧ m1 ≤ 999 ∧ Hid (m1 ≤ k ∧ D.gcd k p n1 r m1 = G) ∧ PB D a1 n1 c1 p wr ∧ PB D b1 m1 c2 r wr ∧ Below w.heap.size w wr ∧ Box w.heap.size D gen (.slice (some ⟨gm, 0, none⟩) (D.m + 1) cm) wr ∧ w.heap.size < wr.heap.size) (fun _ vb _ => slLen vb)
  case atStart => exact ⟨m, dgn a n, dgn b m, c1, c2, a1, b1, a, b, rfl, rfl, by omega, by omega, ⟨d2, HGG.out.symm⟩, HW2.out.1, HW2.out.2.1, HW2.out.2.2.1, HW2.out.2.2.2, by omega⟩
  case round =>
    obtain ⟨k, n1, m1, c1, c2, a1, b1, p, r, rfl, rfl, hn1, hm1, HK, hpa, hpb, hbel, hbox, hsz⟩ := hrel
    obtain ⟨x0, x1, x2, x3, x4⟩ := hbox
    have HG : Hid (PB D a1 n1 c1 p wr ∧ PB D b1 m1 c2 r wr ∧ Below w.heap.size w wr ∧ Box w.heap.size D gen (.slice (some ⟨gm, 0, none⟩) (D.m + 1) cm) wr) := ⟨hpa, hpb, hbel, ⟨x0, x1, x2, x3, x4⟩⟩
    clear hpa hpb hbel
    by_cases hm0 : m1 = 0
    · have hz : ¬ (0 : Int) < (m1 : Int) := by omega
      have HE : Hid (G = (p, n1)) := by
        have h := HK.out.2
        rw [hm0, gcd_nil] at h; exact h.symm
      have HMo : Hid (Calls Try.prog 84 #[.agg #[.int .i64 D.q, .int .i64 D.p, .int .i64 D.m, .int .i64 gen, .slice (some ⟨gm, 0, none⟩) (D.m + 1) cm], .slice a1 n1 c1] wr fun e w' => ∃ v, e = .returned v ∧ OwnP wr.heap.size v n1 (D.mon p n1) w' ∧ Below wr.heap.size wr w') := by
        have h := rmonic_any HF.out.1 gen gm cm (by omega) HG.out.1.pa.el HG.out.1.pa.trd.1 HG.out.1.pa.sl HG.out.1.pa.lt HG.out.1.le HG.out.1.cap HG.out.1.pa.nil (HM.out.below HG.out.2.2.1)
        rw [HG.out.1.pa.trd.dgn (Nat.le_refl _)] at h
        exact h
      clear hm0
      go_wp2_with fail
      refine HMo.out.mono ?_
      rintro e w3 ⟨v, rfl, hown, hb3⟩
      have hs := HG.out.2.2.1.size
      have HR : Hid (OwnP w.heap.size v n1 (D.mon p n1) w3 ∧ Below w.heap.size w w3) := ⟨hown.mono hs, bel_up' HG.out.2.2.1 hb3⟩
      clear hown hb3
      go_wp2
      go_ret
      exact ⟨v, rfl, by rw [HE.out]; exact HR.out.1, HR.out.2⟩
    · obtain ⟨l, rfl⟩ : ∃ l, m1 = l + 1 := ⟨m1 - 1, by omega⟩
      obtain ⟨k', rfl⟩ : ∃ k', k = k' + 1 := ⟨k - 1, by have := HK.out.1; omega⟩
      have HV : Hid (Calls Try.prog 52 #[.agg #[.int .i64 D.q, .int .i64 D.p, .int .i64 D.m, .int .i64 gen, .slice (some ⟨gm, 0, none⟩) (D.m + 1) cm], .slice a1 n1 c1, .slice b1 (l + 1) c2] wr fun e w' =>
          ∃ vq vr, e = .returned (.tuple #[vq, vr]) ∧ OwnP wr.heap.size vr (dgn (D.rem p n1 r (l + 1)) n1) (D.rem p n1 r (l + 1)) w' ∧ Below wr.heap.size wr w') := by
        have h := rpdiv_any HF.out.1 gen gm cm (show n1 ≤ 1000 by omega) (show l + 1 ≤ 1000 by omega) HG.out.1.pa.el HG.out.2.1.pa.el HG.out.1.pa.trd.1 HG.out.2.1.pa.trd.1 HG.out.1.pa.sl HG.out.2.1.pa.sl HG.out.1.pa.lt HG.out.2.1.pa.lt HG.out.1.le HG.out.1.cap HG.out.1.pa.nil HG.out.2.1.le HG.out.2.1.cap HG.out.2.1.pa.nil (HM.out.below HG.out.2.2.1) l (HG.out.2.1.pa.trd.dgn (Nat.le_refl _))
        refine h.mono ?_
        rintro e w' ⟨vq, vr, rfl, _, hor, hb'⟩
        exact ⟨vq, vr, rfl, hor, hb'⟩
      have HL : Hid (dgn (D.rem p n1 r (l + 1)) n1 ≤ l ∧ Trd (dgn (D.rem p n1 r (l + 1)) n1) (D.rem p n1 r (l + 1)) ∧ El D (D.rem p n1 r (l + 1)) ∧ D.gcd k' r (l + 1) (D.rem p n1 r (l + 1)) (dgn (D.rem p n1 r (l + 1)) n1) = G) :=
        ⟨rem_len HF.out.1 HG.out.1.pa.el HG.out.2.1.pa.el HG.out.1.pa.trd.1 HG.out.2.1.pa.trd (by omega), rem_trd HF.out.1 HG.out.1.pa.el HG.out.2.1.pa.el HG.out.1.pa.trd.1 HG.out.2.1.pa.trd (by omega), rem_el HF.out.1 HG.out.1.pa.el, by rw [← gcd_step D p n1 r (l + 1) k' (by omega)]; exact HK.out.2⟩
      have hk' : l + 1 ≤ k' + 1 := HK.out.1
      clear hm0 HK
      go_wp2_with fail
      refine HV.out.mono ?_
      rintro e w3 ⟨vq, vr, rfl, hor, hb3⟩
      have hs3 := hb3.size
      obtain ⟨r1, rc1, rfl, hpa⟩ := hor.pb HL.out.2.2.1 HL.out.2.1
      have HR : Hid (PB D r1 (dgn (D.rem p n1 r (l + 1)) n1) rc1 (D.rem p n1 r (l + 1)) w3 ∧ PB D b1 (l + 1) c2 r w3 ∧ Below w.heap.size w w3 ∧ Box w.heap.size D gen (.slice (some ⟨gm, 0, none⟩) (D.m + 1) cm) w3) := ⟨hpa, HG.out.2.1.below hb3, bel_up' HG.out.2.2.1 hb3, HG.out.2.2.2.below hb3 hsz⟩
      clear hor hpa hb3 HV
      go_wp2
      go_roundw
      case rel => exact ⟨k', l + 1, _, c2, rc1, b1, r1, r, D.rem p n1 r (l + 1), rfl, rfl, by omega, by have := HL.out.1; omega, ⟨by have := HL.out.1; omega, HL.out.2.2.2⟩, HR.out.2.1, HR.out.1, HR.out.2.2.1, HR.out.2.2.2, by omega⟩
      case measure =>
        show dgn (D.rem p n1 r (l + 1)) n1 < l + 1
        have := HL.out.1
        omega
end Go.Proofs.Ythmjdcajaoilgaa

/- Plain mathematics of polynomials, gone on: through given places, step by step. No Go text here. -/
namespace Go.Proofs.Ythmjdcajaoilgaa

/-- The value of a polynomial of at most 1,000 coefficients. -/
def FD.vl (D : FD) (c : Nat → Nat) (x : Nat) : Nat := D.ev c x 1000
theorem vl_lt {D : FD} (F : Fld D) (c : Nat → Nat) (x : Nat) : D.vl c x < D.q := ev_lt F c x 1000
theorem vl_val {D : FD} (F : Fld D) {c : Nat → Nat} {n x : Nat} (hc : El D c) (hn : Bd n c) (hx : x < D.q) (h : n ≤ 1000) : D.val c n x n = D.vl c x := by
  rw [val_is F x n hc hx]; exact (ev_from F x hn h).symm
theorem vl_add {D : FD} (F : Fld D) {a b : Nat → Nat} (x : Nat) (ha : El D a) (hb : El D b) : D.vl (padd D a b) x = D.ad (D.vl a x) (D.vl b x) := ev_add F x ha hb 1000
theorem vl_scale {D : FD} (F : Fld D) (s x : Nat) (b : Nat → Nat) : D.vl (pscale D s b) x = D.mul s (D.vl b x) := ev_scale F s x b 1000
theorem vl_mul {D : FD} (F : Fld D) {a b : Nat → Nat} {n m : Nat} (x : Nat) (hn : Bd n a) (hm : Bd m b) (hb : El D b) (h : n + m ≤ 1000) : D.vl (pmul D n a b) x = D.mul (D.vl a x) (D.vl b x) := by
  unfold FD.vl
  rw [ev_mul F x hm hb n 1000 h, ev_from F x hn (by omega : n ≤ 1000), ev_from F x hm (by omega : m ≤ 1000)]
theorem vl_nil {D : FD} (F : Fld D) (x : Nat) : D.vl pnil x = 0 := ev_nil F x 1000

/-- x0 + x. -/
def lin (x0 : Nat) : Nat → Nat := fun k => if k = 0 then x0 else if k = 1 then 1 else 0
theorem lin_bd (x0 : Nat) : Bd 2 (lin x0) := fun k hk => by unfold lin; rw [if_neg (by omega), if_neg (by omega)]
theorem lin_el {D : FD} (F : Fld D) {x0 : Nat} (h : x0 < D.q) : El D (lin x0) := fun k => by
  unfold lin
  split
  · exact h
  · split
    · exact one_lt' F
    · exact zero_lt' F
theorem vl_lin {D : FD} (F : Fld D) {x0 y : Nat} (h : x0 < D.q) (hy : y < D.q) : D.vl (lin x0) y = D.ad x0 y := by
  unfold FD.vl
  rw [ev_from F y (lin_bd x0) (by omega : 2 ≤ 1000)]
  show D.ad (D.ad 0 (D.mul x0 1)) (D.mul 1 (D.mul 1 y)) = _
  rw [mul1 F h, zero_ad F h, omul F hy, omul F hy]
theorem vl_one {D : FD} (F : Fld D) (y : Nat) : D.vl pone y = 1 := by
  unfold FD.vl
  rw [ev_from F y (show Bd 1 pone from fun k hk => by unfold pone; rw [if_neg (by omega)]) (by omega : 1 ≤ 1000)]
  show D.ad 0 (D.mul 1 1) = 1
  rw [mul1 F (one_lt' F), zero_ad F (one_lt' F)]

/-- After i places: co has the values so far; cz is 0 just there. -/
structure Thr (D : FD) (xs ys : Nat → Nat) (i lo : Nat) (co cz : Nat → Nat) : Prop where
  elo : El D co
  elz : El D cz
  tro : Trd lo co
  le : lo ≤ i
  trz : Trd (i + 1) cz
  at' : ∀ j, j < i → D.vl co (xs j) = ys j
  zero : ∀ j, j < i → D.vl cz (xs j) = 0
  none : ∀ y, y < D.q → (∀ j, j < i → y ≠ xs j) → D.vl cz y ≠ 0

theorem thr_zero {D : FD} (F : Fld D) (xs ys : Nat → Nat) : Thr D xs ys 0 0 pnil pone :=
  ⟨el_nil F, el_one F, ⟨fun _ _ => rfl, fun h => absurd rfl h⟩, Nat.le_refl _, ⟨fun k hk => by unfold pone; rw [if_neg (by omega)], fun _ => by unfold pone; simp⟩, fun j hj => by omega, fun j hj => by omega, fun y _ _ => by rw [vl_one F]; omega⟩

theorem mul_ne {D : FD} (hD : D ∈ fieldsL) {a b : Nat} (_ha : a < D.q) (hb : b < D.q) (h1 : a ≠ 0) (h2 : b ≠ 0) : D.mul a b ≠ 0 := by
  have F := fld hD
  intro e
  rw [← mul0 F a] at e
  exact h2 (mul_cancel F h1 hb (zero_lt' F) e)

theorem thr_step {D : FD} (hD : D ∈ fieldsL) {xs ys : Nat → Nat} {i lo N : Nat} {co cz : Nat → Nat} (h : Thr D xs ys i lo co cz) (hx : xs i < D.q) (hy : ys i < D.q) (hne : ∀ j, j < i → xs i ≠ xs j) (hxs : ∀ j, j < i → xs j < D.q) (hi : i + 3 ≤ 1000)
    {s : Nat} (hs : s = D.mul (D.sb (ys i) (D.vl co (xs i))) (D.iv (D.vl cz (xs i)))) (hN : lo ≤ N) (hN2 : dgn (pscale D s cz) (i + 1 + 1) ≤ N) (hN3 : N ≤ i + 1) :
    Thr D xs ys (i + 1) (dgn (padd D co (pscale D s cz)) N) (padd D co (pscale D s cz)) (pmul D (i + 1) cz (lin (D.ng (xs i)))) := by
  have F := fld hD
  have hz : D.vl cz (xs i) ≠ 0 := h.none _ hx hne
  have hzl := vl_lt F cz (xs i)
  have hol := vl_lt F co (xs i)
  have hng := ng_lt F hx
  have e1 : El D (pscale D s cz) := el_scale F s cz
  have bd1 : Bd (i + 1) (pscale D s cz) := fun k hk => by unfold pscale; rw [h.trz.1 k hk]; exact mul0 F s
  have bdN : Bd N (padd D co (pscale D s cz)) := fun k hk => by
    unfold padd
    rw [h.tro.1 k (by omega), dgn_bd (bd1.mono (show i + 1 ≤ i + 1 + 1 by omega)) k (by omega)]
    exact ad_zero F (zero_lt' F)
  refine ⟨el_add F h.elo e1, el_mul F _ _ _, trd_dgn bdN, Nat.le_trans (dgn_le _ _) hN3, ⟨?_, fun _ => ?_⟩, fun j hj => ?_, fun j hj => ?_, fun y hyq hyn => ?_⟩
  · have := pmul_bd F (a := cz) (lin_bd (D.ng (xs i))) (i + 1)
    exact this
  · show pmul D (i + 1) cz (lin (D.ng (xs i))) (i + 1 + 1 - 1) ≠ 0
    rw [show i + 1 + 1 - 1 = i + 1 from by omega, pmul_top F (a := cz) (n := i) (m := 1) (lin_bd _)]
    show D.mul (cz i) 1 ≠ 0
    rw [mul1 F (h.elz i)]
    exact h.trz.2 (by omega)
  · rw [vl_add F _ h.elo e1, vl_scale F]
    by_cases e : j = i
    · subst e
      have h1 : D.mul s (D.vl cz (xs j)) = D.sb (ys j) (D.vl co (xs j)) := by
        rw [hs, F.mul_assoc, F.mul_comm (D.iv _), iv_is hD hzl hz, mul1 F (sb_lt F hy hol)]
      rw [h1]
      exact ad_sb F hy hol
    · rw [h.at' j (by omega), h.zero j (by omega), mul0 F]
      exact ad_zero F (by rw [← h.at' j (by omega)]; exact vl_lt F _ _)
  · rw [vl_mul F _ h.trz.1 (lin_bd _) (lin_el F hng) (by omega)]
    by_cases e : j = i
    · subst e
      rw [vl_lin F hng hx, ad_comm F, ad_ng F hx, mul0 F]
    · rw [h.zero j (by omega), zmul F]
  · rw [vl_mul F _ h.trz.1 (lin_bd _) (lin_el F hng) (by omega), vl_lin F hng hyq]
    refine mul_ne hD (vl_lt F _ _) (ad_lt F hng hyq) (h.none y hyq (fun j hj => hyn j (by omega))) (fun e => ?_)
    rw [ad_comm F] at e
    exact hyn i (by omega) (sb_eq_zero F hyq hx e)
end Go.Proofs.Ythmjdcajaoilgaa

/- Plain mathematics of polynomials, gone on: those that end with 1, in order; the least one that divides; parting by it, again and again. No Go text here. -/
namespace Go.Proofs.Ythmjdcajaoilgaa

/-- A polynomial of degree d that ends with 1. -/
structure Mn (D : FD) (d : Nat) (c : Nat → Nat) : Prop where
  el : El D c
  bd : Bd (d + 1) c
  top : c d = 1
theorem Mn.trd {D : FD} {d : Nat} {c : Nat → Nat} (h : Mn D d c) : Trd (d + 1) c := ⟨h.bd, fun _ => by rw [Nat.add_sub_cancel, h.top]; omega⟩

/-- The first d coefficients as one number to the base q, the first one the greatest. -/
def dnum (q : Nat) (c : Nat → Nat) : Nat → Nat
  | 0 => 0
  | i + 1 => dnum q c i * q + c i
theorem dnum_lt {q : Nat} {c : Nat → Nat} : ∀ d, (∀ i, i < d → c i < q) → dnum q c d < q ^ d
  | 0, _ => by simp [dnum]
  | i + 1, h => by
    have h1 := dnum_lt i (fun j hj => h j (by omega))
    have h2 := h i (by omega)
    have h3 : (dnum q c i + 1) * q ≤ q ^ i * q := Nat.mul_le_mul_right q h1
    rw [Nat.add_mul, Nat.one_mul] at h3
    rw [dnum, Nat.pow_succ]
    omega
theorem dnum_congr {q : Nat} {c e : Nat → Nat} : ∀ d, (∀ i, i < d → c i = e i) → dnum q c d = dnum q e d
  | 0, _ => rfl
  | i + 1, h => by rw [dnum, dnum, dnum_congr i (fun j hj => h j (by omega)), h i (by omega)]
theorem dnum_inj {q : Nat} {c e : Nat → Nat} : ∀ d, (∀ i, i < d → c i < q) → (∀ i, i < d → e i < q) → dnum q c d = dnum q e d → ∀ i, i < d → c i = e i
  | 0, _, _, _, i, hi => by omega
  | n + 1, hc, he, h, i, hi => by
    have h1 := hc n (by omega)
    have h2 := he n (by omega)
    rw [dnum, dnum] at h
    have h3 : c n = e n := by
      have := congrArg (· % q) h
      simp only [Nat.mul_add_mod'] at this
      rwa [Nat.mod_eq_of_lt h1, Nat.mod_eq_of_lt h2] at this
    by_cases hin : i = n
    · rw [hin]; exact h3
    · refine dnum_inj n (fun j hj => hc j (by omega)) (fun j hj => he j (by omega)) ?_ i (by omega)
      exact Nat.eq_of_mul_eq_mul_right (show 0 < q by omega) (by omega)
theorem dnum_step {q : Nat} {c e : Nat → Nat} {k : Nat} (hc : c k < q) (h : dnum q c k < dnum q e k) : dnum q c (k + 1) < dnum q e (k + 1) := by
  have h3 : (dnum q c k + 1) * q ≤ dnum q e k * q := Nat.mul_le_mul_right q h
  rw [Nat.add_mul, Nat.one_mul] at h3
  rw [dnum, dnum]
  omega
/-- Lists are compared from the first place on. -/
theorem dnum_lex {q : Nat} {c e : Nat → Nat} {j : Nat} (he : ∀ i, i < j → c i = e i) (hj : c j < e j) : ∀ k, (∀ i, i < j + 1 + k → c i < q) → dnum q c (j + 1 + k) < dnum q e (j + 1 + k)
  | 0, _ => by
    show dnum q c j * q + c j < dnum q e j * q + e j
    rw [dnum_congr j he]; omega
  | k + 1, hc => dnum_step (k := j + 1 + k) (hc (j + 1 + k) (by omega)) (dnum_lex he hj k (fun i hi => hc i (by omega)))
/-- One counted up: nines behind place i turn to noughts. -/
theorem dnum_up {q : Nat} {c e : Nat → Nat} {i : Nat} (hq : 1 ≤ q) (he : ∀ j, j < i → e j = c j) (hi : e i = c i + 1) : ∀ k, (∀ j, i < j → j < i + 1 + k → c j = q - 1 ∧ e j = 0) → dnum q e (i + 1 + k) = dnum q c (i + 1 + k) + 1
  | 0, _ => by
    show dnum q e i * q + e i = dnum q c i * q + c i + 1
    rw [dnum_congr i he, hi]; omega
  | k + 1, h => by
    have h1 := dnum_up hq he hi k (fun j h1 h2 => h j h1 (by omega))
    have h2 := h (i + 1 + k) (by omega) (by omega)
    show dnum q e (i + 1 + k) * q + e (i + 1 + k) = dnum q c (i + 1 + k) * q + c (i + 1 + k) + 1
    rw [h1, h2.1, h2.2, Nat.add_mul, Nat.one_mul]; omega
theorem dnum_nines {q : Nat} {c : Nat → Nat} (hq : 1 ≤ q) : ∀ d, (∀ j, j < d → c j = q - 1) → dnum q c d + 1 = q ^ d
  | 0, _ => by simp [dnum]
  | d + 1, h => by
    have h1 := dnum_nines hq d (fun j hj => h j (by omega))
    rw [dnum, h d (by omega), Nat.pow_succ, ← h1, Nat.add_mul, Nat.one_mul]; omega
theorem dnum_zero (q : Nat) {c : Nat → Nat} : ∀ d, (∀ j, j < d → c j = 0) → dnum q c d = 0
  | 0, _ => rfl
  | d + 1, h => by rw [dnum, dnum_zero q d (fun j hj => h j (by omega)), h d (by omega)]; omega

theorem mn_ext {D : FD} {d : Nat} {x y : Nat → Nat} (hx : Mn D d x) (hy : Mn D d y) (h : dnum D.q x d = dnum D.q y d) : x = y := by
  funext k
  rcases Nat.lt_trichotomy k d with h1 | h1 | h1
  · exact dnum_inj d (fun i _ => hx.el i) (fun i _ => hy.el i) h k h1
  · rw [h1, hx.top, hy.top]
  · rw [hx.bd k (by omega), hy.bd k (by omega)]

/-- y (of degree e) is ahead of x (of degree d). -/
def Bef (D : FD) (e : Nat) (y : Nat → Nat) (d : Nat) (x : Nat → Nat) : Prop := e < d ∨ (e = d ∧ dnum D.q y e < dnum D.q x d)
/-- x' comes next behind x. -/
def Aft (D : FD) (d : Nat) (x : Nat → Nat) (d' : Nat) (x' : Nat → Nat) : Prop := (d' = d ∧ dnum D.q x' d' = dnum D.q x d + 1) ∨ (d' = d + 1 ∧ dnum D.q x d + 1 = D.q ^ d ∧ dnum D.q x' d' = 0)
theorem bef_irr {D : FD} {d : Nat} {x : Nat → Nat} : ¬ Bef D d x d x := by rintro (h | ⟨_, h⟩) <;> omega
theorem bef_aft {D : FD} {d d' e : Nat} {x x' y : Nat → Nat} (h : Aft D d x d' x') (hx : Mn D d x) (hy : Mn D e y) (hb : Bef D e y d' x') : Bef D e y d x ∨ (e = d ∧ y = x) := by
  have key : e = d → dnum D.q y e < dnum D.q x d + 1 → Bef D e y d x ∨ (e = d ∧ y = x) := by
    intro he hl
    by_cases h1 : dnum D.q y e = dnum D.q x d
    · subst he; exact Or.inr ⟨rfl, mn_ext hy hx h1⟩
    · exact Or.inl (Or.inr ⟨he, by omega⟩)
  rcases h with ⟨rfl, h2⟩ | ⟨rfl, h2, h3⟩
  · rcases hb with hb | ⟨he, hb⟩
    · exact Or.inl (Or.inl hb)
    · exact key he (by omega)
  · rcases hb with hb | ⟨he, hb⟩
    · by_cases he : e = d
      · refine key he ?_
        have := dnum_lt (q := D.q) (c := y) e (fun i _ => hy.el i)
        rw [h2, ← he]; exact this
      · exact Or.inl (Or.inl (by omega))
    · omega
theorem bef_tri {D : FD} {d e : Nat} {x y : Nat → Nat} (hx : Mn D d x) (hy : Mn D e y) (h1 : ¬ Bef D e y d x) (h2 : ¬ Bef D d x e y) : d = e ∧ x = y := by
  have hde : d = e := by
    rcases Nat.lt_trichotomy d e with h | h | h
    · exact absurd (Or.inl h) h2
    · exact h
    · exact absurd (Or.inl h) h1
  subst hde
  refine ⟨rfl, mn_ext hx hy ?_⟩
  rcases Nat.lt_trichotomy (dnum D.q x d) (dnum D.q y d) with h | h | h
  · exact absurd (Or.inr ⟨rfl, h⟩) h2
  · exact h
  · exact absurd (Or.inr ⟨rfl, h⟩) h1

theorem pone_bd : Bd 1 pone := fun k hk => by unfold pone; rw [if_neg (by omega)]
theorem mn_zero {D : FD} {c : Nat → Nat} (h : Mn D 0 c) : c = pone := by
  funext k
  unfold pone
  by_cases e : k = 0
  · rw [if_pos e, e, h.top]
  · rw [if_neg e, h.bd k (by omega)]
/-- A factor of one that ends with 1, by another that ends with 1, ends with 1. -/
theorem mn_quot {D : FD} (hD : D ∈ fieldsL) {da dx m : Nat} {a x b : Nat → Nat} (ha : Mn D da a) (hx : Mn D dx x) (hb : El D b) (hm : Bd m b) (h : a = pmul D m b x) : ∃ db, Mn D db b ∧ da = db + dx := by
  have F := fld hD
  by_cases h0 : dgn b m = 0
  · have hb0 : Bd 0 b := by have := dgn_bd hm; rwa [h0] at this
    have e : a da = 0 := by rw [h, pmul_zeros F x hb0]; rfl
    rw [ha.top] at e; cases e
  · obtain ⟨db, hdb⟩ : ∃ db, dgn b m = db + 1 := ⟨dgn b m - 1, by omega⟩
    have hbd : Bd (db + 1) b := by have := dgn_bd hm; rwa [hdb] at this
    have htop : b db ≠ 0 := by have := dgn_top b m h0; rwa [hdb, Nat.add_sub_cancel] at this
    have e1 : a = pmul D (db + 1) b x := by
      rw [h]
      have := dgn_le b m
      exact pmul_to F x hbd (by omega)
    have e2 : a (db + dx) = b db := by rw [e1, pmul_top F (a := b) hx.bd, hx.top, mul1 F (hb db)]
    have e3 : Bd (db + dx + 1) a := by
      rw [e1]
      have := pmul_bd F (a := b) hx.bd (db + 1)
      exact this.mono (by omega)
    have e4 : da ≤ db + dx := Nat.le_of_not_lt fun hl => by
      have := e3 da (by omega)
      rw [ha.top] at this; cases this
    have e5 : db + dx ≤ da := Nat.le_of_not_lt fun hl => htop (by rw [← e2]; exact ha.bd _ (by omega))
    have e6 : da = db + dx := by omega
    exact ⟨db, ⟨hb, hbd, by rw [← e2, ← e6, ha.top]⟩, e6⟩
theorem pd_other {D : FD} (F : Fld D) {m d : Nat} {a b x : Nat → Nat} (hb : El D b) (hm : Bd m b) (hx : El D x) (hd : Bd d x) (h : a = pmul D m b x) : PD D b a :=
  ⟨d, x, hx, hd, by rw [h]; exact pmul_comm F hb hx hm hd⟩

/-- x, of degree d, is the first of all that divide a, but for 1. -/
structure Lst (D : FD) (a : Nat → Nat) (d : Nat) (x : Nat → Nat) : Prop where
  mn : Mn D d x
  pos : 1 ≤ d
  dv : PD D x a
  least : ∀ e y, 1 ≤ e → Mn D e y → PD D y a → ¬ Bef D e y d x
theorem lst_uniq {D : FD} {a : Nat → Nat} {d e : Nat} {x y : Nat → Nat} (h1 : Lst D a d x) (h2 : Lst D a e y) : d = e ∧ x = y :=
  bef_tri h1.mn h2.mn (h1.least e y h2.pos h2.mn h2.dv) (h2.least d x h1.pos h1.mn h1.dv)
/-- What none of half its degree divides can't be parted. -/
theorem lst_last {D : FD} (hD : D ∈ fieldsL) {da : Nat} {a : Nat → Nat} (ha : Mn D da a) (h1 : 1 ≤ da) (h : ∀ e y, 1 ≤ e → Mn D e y → 2 * e ≤ da → ¬ PD D y a) : Lst D a da a := by
  have F := fld hD
  refine ⟨ha, h1, PD.refl F ha.el, fun e y he hy hd hb => ?_⟩
  by_cases h2 : 2 * e ≤ da
  · exact h e y he hy h2 hd
  · obtain ⟨m, b, eb, hm, e1⟩ := hd
    obtain ⟨db, hdb, e2⟩ := mn_quot hD ha hy eb hm e1
    by_cases h3 : 1 ≤ db
    · exact h db b h3 hdb (by omega) (pd_other F eb hm hy.el hy.bd e1)
    · have e3 : db = 0 := by omega
      subst e3
      have e4 := mn_zero hdb
      subst e4
      have e5 : a = y := by
        rw [e1, pmul_comm F eb hy.el hm hy.bd, pmul_one F hy.el hy.bd]
      subst e5
      rw [show e = da from by omega] at hb
      exact bef_irr hb

/-- The parts of a0 found so far, each the first that divides what was left; what is left now. -/
def Pre (D : FD) : List (Nat × (Nat → Nat)) → (Nat → Nat) → (Nat → Nat) → Prop
  | [], a0, a => a0 = a
  | p :: L, a0, a => Lst D a0 p.1 p.2 ∧ ∃ m b, El D b ∧ Bd m b ∧ a0 = pmul D m b p.2 ∧ Pre D L b a
theorem pre_snoc {D : FD} {a b x : Nat → Nat} {d m : Nat} (hl : Lst D a d x) (hb : El D b) (hm : Bd m b) (h : a = pmul D m b x) : ∀ L a0, Pre D L a0 a → Pre D (L ++ [(d, x)]) a0 b
  | [], a0, e => by
    have e : a0 = a := e
    subst e
    exact ⟨hl, m, b, hb, hm, h, rfl⟩
  | p :: L, a0, ⟨h1, m', b', h2, h3, h4, h5⟩ => ⟨h1, m', b', h2, h3, h4, pre_snoc hl hb hm h L b' h5⟩
theorem pre_whole {D : FD} (F : Fld D) {a : Nat → Nat} {d : Nat} (hl : Lst D a d a) {L : List (Nat × (Nat → Nat))} {a0 : Nat → Nat} (h : Pre D L a0 a) : Pre D (L ++ [(d, a)]) a0 pone := by
  refine pre_snoc hl (el_one F) pone_bd ?_ L a0 h
  rw [pmul_comm F (el_one F) hl.mn.el pone_bd hl.mn.bd, pmul_one F hl.mn.el hl.mn.bd]
theorem not_pd_one {D : FD} (F : Fld D) {d : Nat} {x : Nat → Nat} (hx : Mn D d x) (h : 1 ≤ d) : ¬ PD D x pone := by
  rintro ⟨m, b, eb, hm, e⟩
  have h1 : b = pnil := pmul_zero_of F hx.bd (by rw [hx.top]; omega) m hm (by rw [← e]; exact pone_bd.mono h)
  have h2 : pone 0 = 0 := by
    rw [e, h1, pmul_zeros F (a := pnil) x (fun _ _ => rfl)]; rfl
  cases h2
theorem pre_uniq {D : FD} (F : Fld D) : ∀ (L L' : List (Nat × (Nat → Nat))) (a0 : Nat → Nat), Pre D L a0 pone → Pre D L' a0 pone → L = L'
  | [], [], _, _, _ => rfl
  | [], p :: L', a0, h, h' => by
    have e : a0 = pone := h
    subst e
    exact absurd h'.1.dv (not_pd_one F h'.1.mn h'.1.pos)
  | p :: L, [], a0, h, h' => by
    have e : a0 = pone := h'
    subst e
    exact absurd h.1.dv (not_pd_one F h.1.mn h.1.pos)
  | p :: L, p' :: L', a0, ⟨h1, m, b, h2, h3, h4, h5⟩, ⟨k1, m', b', k2, k3, k4, k5⟩ => by
    obtain ⟨e1, e2⟩ := lst_uniq h1 k1
    have ep : p = p' := Prod.ext e1 e2
    subst ep
    have eb : b = b' := by
      have hN : pmul D (m + m') b p.2 = pmul D (m + m') b' p.2 := by rw [pmul_to F p.2 h3 (by omega), pmul_to F p.2 k3 (by omega), ← h4, ← k4]
      have := div_uniq F h1.mn.bd (by rw [h1.mn.top]; omega) h2 k2 (el_nil F) (el_nil F) (h3.mono (by omega : m ≤ m + m')) (k3.mono (by omega : m' ≤ m + m')) (fun _ _ => rfl) (fun _ _ => rfl) (by rw [hN])
      exact this.1
    subst eb
    rw [pre_uniq F L L' b h5 k5]
theorem pre_sorted {D : FD} (F : Fld D) : ∀ (L : List (Nat × (Nat → Nat))) (a0 a : Nat → Nat), Pre D L a0 a → ∀ i (p p' : Nat × (Nat → Nat)), L[i]? = some p → L[i + 1]? = some p' → ¬ Bef D p'.1 p'.2 p.1 p.2
  | [], _, _, _, i, p, p', h, _ => by simp at h
  | r :: L, a0, a, ⟨h1, m, b, h2, h3, h4, h5⟩, i, p, p', hp, hp' => by
    cases i with
    | succ i => exact pre_sorted F L b a h5 i p p' (by simpa using hp) (by simpa using hp')
    | zero =>
      cases L with
      | nil => simp at hp'
      | cons s L =>
        simp at hp hp'
        subst hp; subst hp'
        obtain ⟨k1, _⟩ := h5
        exact h1.least _ _ k1.pos k1.mn (PD.trans F (pd_other F h2 h3 h1.mn.el h1.mn.bd h4) k1.dv)
/-- All parts end with 1, and are no numbers. -/
theorem pre_mn {D : FD} : ∀ (L : List (Nat × (Nat → Nat))) (a0 a : Nat → Nat), Pre D L a0 a → ∀ p, p ∈ L → Mn D p.1 p.2 ∧ 1 ≤ p.1
  | [], _, _, _, p, h => by simp at h
  | r :: L, a0, a, ⟨h1, m, b, h2, h3, h4, h5⟩, p, hp => by
    rcases List.mem_cons.1 hp with rfl | hp
    · exact ⟨h1.mn, h1.pos⟩
    · exact pre_mn L b a h5 p hp
end Go.Proofs.Ythmjdcajaoilgaa
