/- Texts of ours, one behind the other: L5 L6 L7 W8 L8. -/
import Derived.Test.YthmjdcajaoilgaaZL1
/- PolySays: a polynomial through points (polyThrough). -/
namespace Go.Proofs.Ythmjdcajaoilgaa
open Go.RowKit Go.Sort

theorem has_of_lt {D : FD} {x : Nat} (h : x < D.q) : D.has (x : Int) = true := by
  unfold FD.has; simp; omega

set_option maxHeartbeats 4000000 in
set_option maxRecDepth 100000 in
theorem relements_ok {D : FD} (gen : Nat) (v : Value) {ao : Option Addr} {n ca : Nat} {c : Nat → Nat} {w : World} (hn : n ≤ 1000000) (hc : El D c) (hA : Sl ao n c w) (hl : LtB ao w.heap.size) :
    Calls Try.prog 102 #[rf D.q D.p D.m gen v, .slice ao n ca] w fun e w' => e = .returned (.bool true) ∧ Below w.heap.size w w' := by
  have hbl : Below w.heap.size w (w.alloc (.cells #[.int .i64 D.q, .int .i64 D.p, .int .i64 D.m, .int .i64 gen, v] 28)) := (Below.refl _ _).alloc (Nat.le_refl _) _
  have HS : Hid (Sl ao n c w ∧ LtB ao w.heap.size ∧ El D c ∧ Box w.heap.size D gen v (w.alloc (.cells #[.int .i64 D.q, .int .i64 D.p, .int .i64 D.m, .int .i64 gen, v] 28)) ∧ Below w.heap.size w (w.alloc (.cells #[.int .i64 D.q, .int .i64 D.p, .int .i64 D.m, .int .i64 gen, v] 28))) := ⟨hA, hl, hc, box_new D gen _ w, hbl⟩
  clear hA hl hc hbl
  unfold rf
  go_enter Try.func102, Try.ntmps102
  go_wp2
  go_loopw [5] (fun i wr => ∃ r : Nat, r ≤ n ∧ i = .int .i64 r ∧ Hid (Box w.heap.size D gen v wr ∧ Below w.heap.size w wr) ∧ w.heap.size < wr.heap.size) (fun i _ => n - (intOf i).toNat)
  case atStart => exact ⟨0, by omega, rfl, ⟨HS.out.2.2.2.1, HS.out.2.2.2.2⟩, by simp⟩
  case round =>
    obtain ⟨r, hr, rfl, HG, hsz⟩ := hrel
    by_cases hlt : r < n
    · obtain ⟨b, off, rfl, hcl⟩ := (HS.out.1.below HG.out.2 HS.out.2.1) r hlt
      obtain ⟨x, hx⟩ : ∃ x, x = c r := ⟨_, rfl⟩
      rw [← hx] at hcl
      have hxx : D.has (x : Int) = true := by rw [hx]; exact has_of_lt (HS.out.2.2.1 r)
      have z1 : (0 : Int) ≤ (r : Int) := by omega
      have z2 : (r : Int) < (n : Int) := by omega
      have k0 := cell_regrown HG.out.1.c0
      have k1 := cell_regrown HG.out.1.c1
      have k2 := cell_regrown HG.out.1.c2
      have k3 := cell_regrown HG.out.1.c3
      have k4 := cell_regrown HG.out.1.c4
      have k5 := cell_regrown hcl
      have HC : Hid (∀ d os, Calls Try.prog 18 #[.agg #[.int .i64 D.q, .int .i64 D.p, .int .i64 D.m, .int .i64 gen, v], .int .i64 (x : Nat)] (grow (redrawn wr d) os) fun e w'' => e = .returned (.bool true) ∧ ∃ p : Regrown, w'' = grow (redrawn wr p.d) p.os) := fun d os => by
        have h := rhas_any D gen v (x : Int) (grow (redrawn wr d) os)
        rw [hxx] at h
        exact Calls.regrown_of h
      clear hx hcl hxx
      go_wp2
      refine wp_region_quiet_below (by kernel_rfl) (by kernel_rfl) ?_
      repeat (go_big_quiet_step (first | (go_at_call 18; exact HC.out _ _)))
      refine wpQuiet_nil ?_
      intro _ hw'
      obtain ⟨⟨dq, osq⟩, hw''⟩ := hw'
      subst hw''
      have hb := below_regrown wr dq osq
      have HR : Hid (Box w.heap.size D gen v (grow (redrawn wr dq) osq) ∧ Below w.heap.size w (grow (redrawn wr dq) osq)) := ⟨HG.out.1.below hb hsz, bel_up HG.out.2 hb⟩
      have hs := hb.size
      clear hb k0 k1 k2 k3 k4 k5 HC
      go_wp2
      go_roundw
      case rel => exact ⟨r + 1, by omega, by go_num, HR.out, by omega⟩
      case measure => simp [intOf]; omega
    · go_wp2
      go_ret
      exact ⟨rfl, HG.out.2⟩

set_option maxHeartbeats 2000000 in
set_option maxRecDepth 100000 in
theorem polyThrough_err (q e : Int) (he : e ≠ 0) {ao bo : Option Addr} {n m ca cb : Nat} {w : World}
    (h1 : Calls Try.prog 100 #[.int .i64 q, .slice ao n ca, .slice bo m cb] w fun r w' => r = .returned (.tuple #[.slice none 0 0, .int .i64 e]) ∧ Below w.heap.size w w') :
    Calls Try.prog 59 #[.int .i64 q, .slice ao n ca, .slice bo m cb, .int .i64 e] w fun r w' => r = .returned (.bool true) ∧ Below w.heap.size w w' := by
  have H1 : Hid (Calls Try.prog 100 #[.int .i64 q, .slice ao n ca, .slice bo m cb] w fun r w' => r = .returned (.tuple #[.slice none 0 0, .int .i64 e]) ∧ Below w.heap.size w w') := h1
  have hz : (e == 0) = false := beq_eq_false_iff_ne.2 he
  have hz2 : (e != 0) = true := bne_iff_ne.2 he
  clear h1
  go_enter Try.func59, Try.ntmps59
  go_wp2_with fail
  refine H1.out.mono ?_
  rintro r w1 ⟨rfl, hb1⟩
  have HB1 : Hid (Below w.heap.size w w1) := hb1
  clear hb1
  go_wp2_with fail
  refine wp_loop_rounds 1 ?_
  rw [rounds_succ]
  by_cases hn : (0 : Int) < (n : Int)
  · go_wp2
    go_ret
    exact ⟨by first | rfl | simp, HB1.out⟩
  · go_wp2
    go_ret
    exact ⟨by first | rfl | simp, HB1.out⟩

theorem arg_sliceI {ao : Option Addr} {n ca : Nat} {z : Nat → Int} {w : World} (h : Arg ao n ca z w) {r : Nat} (hr : r ≤ n) : SliceI (.slice ao r ca) (zl r z) w := by
  by_cases h0 : r = 0
  · subst h0
    exact Or.inl ⟨rfl, ao, ca, rfl⟩
  · obtain ⟨b, off, rfl, _⟩ := h.sl 0 (by omega)
    refine Or.inr ⟨fun e => ?_, by rw [zl_len]; have := h.few; omega, b, off, ca, by rw [zl_len], fun j hj => ?_⟩
    · have := congrArg List.length e
      rw [zl_len] at this
      exact h0 this
    · rw [zl_len] at hj
      obtain ⟨b', off', e, hc⟩ := h.sl j (by omega)
      cases e
      rw [zl_getD r z j hj]; exact hc
theorem zl_mem {n : Nat} {z : Nat → Int} {x : Int} : x ∈ zl n z ↔ ∃ j, j < n ∧ z j = x := by
  unfold zl
  rw [List.mem_map]
  constructor
  · rintro ⟨j, hj, e⟩
    exact ⟨j, List.mem_range.1 hj, e⟩
  · rintro ⟨j, hj, e⟩
    exact ⟨j, List.mem_range.2 hj, e⟩
theorem zc_inj {D : FD} {n : Nat} {z : Nat → Int} (h : D.chk n z = 0) {i j : Nat} (hi : i < n) (hj : j < n) : zc n z i = zc n z j ↔ z i = z j := by
  obtain ⟨x, hx, _⟩ := has_nat ((chk_zero h).2 i hi)
  obtain ⟨y, hy, _⟩ := has_nat ((chk_zero h).2 j hj)
  unfold zc
  rw [if_pos hi, if_pos hj, hx, hy]
  omega

set_option maxHeartbeats 4000000 in
set_option maxRecDepth 100000 in
/-- Where places and values are not as many, or a place stands twice. -/
theorem polyThrough_bad {D : FD} {ao bo : Option Addr} {n m ca cb : Nat} {z : Nat → Int} {w : World} (ha : Arg ao n ca z w) (h0 : D.chk n z = 0) (e : Int) (hcase : (n ≠ m ∧ e = 6) ∨ (n = m ∧ Twice (zc n z) n ∧ e = 7))
    (h1 : Calls Try.prog 100 #[.int .i64 D.q, .slice ao n ca, .slice bo m cb] w fun r w' => r = .returned (.tuple #[.slice none 0 0, .int .i64 e]) ∧ Below w.heap.size w w') :
    Calls Try.prog 59 #[.int .i64 D.q, .slice ao n ca, .slice bo m cb, .int .i64 0] w fun r w' => r = .returned (.bool true) ∧ Below w.heap.size w w' := by
  have H1 : Hid (Calls Try.prog 100 #[.int .i64 D.q, .slice ao n ca, .slice bo m cb] w fun r w' => r = .returned (.tuple #[.slice none 0 0, .int .i64 e]) ∧ Below w.heap.size w w') := h1
  have HA : Hid (Arg ao n ca z w ∧ D.chk n z = 0) := ⟨ha, h0⟩
  have hn128 := (chk_zero h0).1
  have hle := ha.le
  have hcap := ha.cap
  clear h1 ha h0
  rcases hcase with ⟨hnm, rfl⟩ | ⟨hnm, htw, rfl⟩
  · have hz : ((n : Int) != (m : Int)) = true := by rw [bne_iff_ne]; omega
    go_enter Try.func59, Try.ntmps59
    go_wp2_with fail
    refine H1.out.mono ?_
    rintro r w1 ⟨rfl, hb1⟩
    have HB1 : Hid (Below w.heap.size w w1) := hb1
    clear hb1 hnm
    go_wp2_with fail
    refine wp_loop_rounds 1 ?_
    rw [rounds_succ]
    by_cases hn : (0 : Int) < (n : Int)
    · go_wp2
      go_ret
      exact ⟨by first | rfl | simp, HB1.out⟩
    · go_wp2
      go_ret
      exact ⟨by first | rfl | simp, HB1.out⟩
  · have hz : ((n : Int) != (m : Int)) = false := by rw [hnm]; simp
    have HT : Hid (Twice (zc n z) n) := htw
    clear htw hnm
    go_enter Try.func59, Try.ntmps59
    go_wp2_with fail
    refine H1.out.mono ?_
    rintro r w1 ⟨rfl, hb1⟩
    have HB1 : Hid (Below w.heap.size w w1 ∧ Arg ao n ca z w1) := ⟨hb1, HA.out.1.below hb1⟩
    clear hb1
    go_wp2_with fail
    go_loopw [3, 11] (fun ve i wr => ∃ r : Nat, r ≤ n ∧ i = .int .i64 r ∧ ((ve = .int .i64 0 ∧ Hid (¬ Twice (zc n z) r)) ∨ ve = .int .i64 7) ∧ ∃ k, wr = w1.drewN k) (fun _ i _ => n - (intOf i).toNat)
    case atStart => exact ⟨0, by omega, rfl, Or.inl ⟨rfl, fun ⟨i, j, h1, h2, _⟩ => by omega⟩, 0, rfl⟩
    case round =>
      obtain ⟨r, hr, rfl, hve, k, rfl⟩ := hrel
      rcases hve with ⟨rfl, HNT⟩ | rfl
      · by_cases hlt : r < n
        · obtain ⟨b, off, rfl, hc⟩ := HB1.out.2.sl r hlt
          obtain ⟨x, hx⟩ : ∃ x, x = z r := ⟨_, rfl⟩
          rw [← hx] at hc
          have hi1 : (r : Int) < (n : Int) := by omega
          have hi0 : (0 : Int) ≤ (r : Int) := by omega
          have hi2 : (r : Int) ≤ (ca : Int) := by omega
          have HI : Hid (∀ d, Calls Try.prog 101 #[.int .i64 x, .slice (some ⟨b, off, none⟩) r ca] (w1.drewN (k + d)) fun e w' => e = .returned (.bool (decide (x ∈ zl r z))) ∧ ∃ m, w' = w1.drewN (k + m)) := fun d => by
            refine (in_any (w := w1.drewN (k + d)) x ((arg_sliceI HB1.out.2 hr).drewN _)).mono ?_
            rintro e w' ⟨rfl, m, rfl⟩
            exact ⟨rfl, d + m, by rw [World.drewN_drewN, Nat.add_assoc]⟩
          by_cases hin : x ∈ zl r z
          · rw [decide_eq_true hin] at HI
            clear hin hx
            go_wp2
            go_big_quiet (first | (go_at_call 101; exact HI.out _))
            go_wp2
            go_roundw
            case rel => exact ⟨r + 1, by omega, by go_num, Or.inr rfl, _, by first | rfl | rw [World.drewN_drewN]⟩
            case measure => simp [intOf]; omega
          · rw [decide_eq_false hin] at HI
            have HN2 : Hid (¬ Twice (zc n z) (r + 1)) := fun ⟨i, j, h1, h2, h3⟩ => by
              by_cases e : j = r
              · subst e
                exact hin (zl_mem.2 ⟨i, h1, by rw [hx]; exact (zc_inj HA.out.2 (by omega) hlt).1 h3⟩)
              · exact HNT.out ⟨i, j, h1, by omega, h3⟩
            clear hin hx
            go_wp2
            go_big_quiet (first | (go_at_call 101; exact HI.out _))
            go_wp2
            go_roundw
            case rel => exact ⟨r + 1, by omega, by go_num, Or.inl ⟨rfl, HN2.out⟩, _, by first | rfl | rw [World.drewN_drewN]⟩
            case measure => simp [intOf]; omega
        · exact absurd HT.out (by rw [show n = r from by omega]; exact (show r = n from by omega) ▸ HNT.out)
      · by_cases hlt : (r : Int) < (n : Int)
        · go_wp2
          go_ret
          exact ⟨by first | rfl | simp, below_drewN2 HB1.out.1 _⟩
        · go_wp2
          go_ret
          exact ⟨by first | rfl | simp, below_drewN2 HB1.out.1 _⟩
end Go.Proofs.Ythmjdcajaoilgaa

/- PolySays: a polynomial through points (polyThrough), where there is one. -/
namespace Go.Proofs.Ythmjdcajaoilgaa
open Go.RowKit Go.Sort

set_option maxHeartbeats 8000000 in
set_option maxRecDepth 100000 in
theorem polyThrough_ok {D : FD} (hD : D ∈ fieldsL) {ao bo : Option Addr} {n ca cb : Nat} {z y : Nat → Int} {w : World} (ha : Arg ao n ca z w) (hb : Arg bo n cb y w) (h0 : D.chk n z = 0) (h0' : D.chk n y = 0) (hnt : ¬ Twice (zc n z) n)
    (h1 : Calls Try.prog 100 #[.int .i64 D.q, .slice ao n ca, .slice bo n cb] w fun r w' => ∃ v lo co, r = .returned (.tuple #[v, .int .i64 0]) ∧ OwnP w.heap.size v lo co w' ∧ lo ≤ n ∧ El D co ∧ Trd lo co ∧ (∀ j, j < n → D.vl co (zc n z j) = zc n y j) ∧ Below w.heap.size w w') :
    Calls Try.prog 59 #[.int .i64 D.q, .slice ao n ca, .slice bo n cb, .int .i64 0] w fun r w' => r = .returned (.bool true) ∧ Below w.heap.size w w' := by
  have H1 : Hid (Calls Try.prog 100 #[.int .i64 D.q, .slice ao n ca, .slice bo n cb] w fun r w' => ∃ v lo co, r = .returned (.tuple #[v, .int .i64 0]) ∧ OwnP w.heap.size v lo co w' ∧ lo ≤ n ∧ El D co ∧ Trd lo co ∧ (∀ j, j < n → D.vl co (zc n z j) = zc n y j) ∧ Below w.heap.size w w') := h1
  have HA : Hid (D ∈ fieldsL ∧ Arg ao n ca z w ∧ Arg bo n cb y w ∧ D.chk n z = 0 ∧ D.chk n y = 0 ∧ ¬ Twice (zc n z) n) := ⟨hD, ha, hb, h0, h0', hnt⟩
  have hn128 := (chk_zero h0).1
  have hle := ha.le
  have hcap := ha.cap
  clear h1 ha hb h0 h0' hD hnt
  have hz : ((n : Int) != (n : Int)) = false := by simp
  go_enter Try.func59, Try.ntmps59
  go_wp2_with fail
  refine H1.out.mono ?_
  rintro r w1 ⟨v, lo, co, rfl, hown, hlo, hel, htr, hvl, hb1⟩
  obtain ⟨vo, vc, rfl, hvc1, hvc2, _, hvl1, hvn, hvs⟩ := hown.open
  have HB1 : Hid (Below w.heap.size w w1 ∧ Arg ao n ca z w1 ∧ Arg bo n cb y w1) := ⟨hb1, HA.out.2.1.below hb1, HA.out.2.2.1.below hb1⟩
  have HV : Hid (El D co ∧ Trd lo co ∧ (∀ j, j < n → D.vl co (zc n z j) = zc n y j) ∧ Sl vo lo co w1 ∧ LtB vo w1.heap.size ∧ (vo = none → vc = 0) ∧ OwnP w.heap.size (.slice vo lo vc) lo co w1) := ⟨hel, htr, hvl, hvs, hvl1, hvn, hown⟩
  clear hb1 hown hel htr hvl hvl1 hvn hvs H1
  go_wp2_with fail
  go_loopw [3, 11] (fun ve i wr => ∃ r : Nat, r ≤ n ∧ i = .int .i64 r ∧ ve = .int .i64 0 ∧ ∃ k, wr = w1.drewN k) (fun _ i _ => n - (intOf i).toNat)
  case atStart => exact ⟨0, by omega, rfl, rfl, 0, rfl⟩
  case round =>
    obtain ⟨r, hr, rfl, rfl, k, rfl⟩ := hrel
    by_cases hlt : r < n
    · obtain ⟨b, off, rfl, hc⟩ := HB1.out.2.1.sl r hlt
      obtain ⟨x, hx⟩ : ∃ x, x = z r := ⟨_, rfl⟩
      rw [← hx] at hc
      have hi1 : (r : Int) < (n : Int) := by omega
      have hi0 : (0 : Int) ≤ (r : Int) := by omega
      have hi2 : (r : Int) ≤ (ca : Int) := by omega
      have HI : Hid (∀ d, Calls Try.prog 101 #[.int .i64 x, .slice (some ⟨b, off, none⟩) r ca] (w1.drewN (k + d)) fun e w' => e = .returned (.bool false) ∧ ∃ m, w' = w1.drewN (k + m)) := fun d => by
        refine (in_any (w := w1.drewN (k + d)) x ((arg_sliceI HB1.out.2.1 hr).drewN _)).mono ?_
        rintro e w' ⟨rfl, m, rfl⟩
        refine ⟨?_, d + m, by rw [World.drewN_drewN, Nat.add_assoc]⟩
        rw [decide_eq_false]
        intro hin
        obtain ⟨j, hj, e⟩ := zl_mem.1 hin
        exact HA.out.2.2.2.2.2 ⟨j, r, hj, hlt, (zc_inj HA.out.2.2.2.1 (by omega) hlt).2 (by rw [e, hx])⟩
      clear hx
      go_wp2
      go_big_quiet (first | (go_at_call 101; exact HI.out _))
      go_wp2
      go_roundw
      case rel => exact ⟨r + 1, by omega, by go_num, rfl, _, by first | rfl | rw [World.drewN_drewN]⟩
      case measure => simp [intOf]; omega
    · have hi1 : ¬ (r : Int) < (n : Int) := by omega
      go_wp2_with fail
      refine (rfield_sl HA.out.1 _).mono ?_
      rintro e w2 ⟨gm, cm, rfl, hmod, hb2⟩
      have hb12 : Below w1.heap.size w1 w2 := (below_drewN2 (Below.refl _ _) k).trans hb2
      have HM : Hid (ModAt D (.slice (some ⟨gm, 0, none⟩) (D.m + 1) cm) D.md w2 ∧ Below w1.heap.size w1 w2) := ⟨hmod, hb12⟩
      clear hmod hb2 hb12
      unfold rf
      have HB0 : Hid (Box w2.heap.size D D.gen (.slice (some ⟨gm, 0, none⟩) (D.m + 1) cm) (w2.alloc (.cells #[.int .i64 D.q, .int .i64 D.p, .int .i64 D.m, .int .i64 D.gen, .slice (some ⟨gm, 0, none⟩) (D.m + 1) cm] 28))) := box_new D D.gen _ w2
      go_wp2_with fail
      go_loopw [14] (fun i wr => ∃ r : Nat, r ≤ n ∧ i = .int .i64 r ∧ Hid (Below w2.heap.size w2 wr ∧ Box w2.heap.size D D.gen (.slice (some ⟨gm, 0, none⟩) (D.m + 1) cm) wr) ∧ w2.heap.size < wr.heap.size) (fun i _ => n - (intOf i).toNat)
      case atStart => exact ⟨0, by omega, rfl, ⟨(Below.refl _ _).alloc (Nat.le_refl _) _, HB0.out⟩, by simp⟩
      case round =>
        clear HB0
        obtain ⟨r, hr, rfl, HG, hsz⟩ := hrel
        have hs12 := HM.out.2.size
        by_cases hlt : r < n
        · have hA := HB1.out.2.1.below (bel_up HM.out.2 HG.out.1)
          have hB := HB1.out.2.2.below (bel_up HM.out.2 HG.out.1)
          obtain ⟨b, off, rfl, hc⟩ := hA.sl r hlt
          obtain ⟨b', off', rfl, hc'⟩ := hB.sl r hlt
          obtain ⟨x, hx, hxq⟩ := has_nat ((chk_zero HA.out.2.2.2.1).2 r hlt)
          obtain ⟨u, hu, huq⟩ := has_nat ((chk_zero HA.out.2.2.2.2.1).2 r hlt)
          rw [hx] at hc
          rw [hu] at hc'
          have hi1 : (r : Int) < (n : Int) := by omega
          have hi0 : (0 : Int) ≤ (r : Int) := by omega
          have k0 := cell_regrown HG.out.2.c0
          have k1 := cell_regrown HG.out.2.c1
          have k2 := cell_regrown HG.out.2.c2
          have k3 := cell_regrown HG.out.2.c3
          have k4 := cell_regrown HG.out.2.c4
          have k5 := cell_regrown hc
          have k6 := cell_regrown hc'
          have HC : Hid (∀ d os, Calls Try.prog 92 #[.agg #[.int .i64 D.q, .int .i64 D.p, .int .i64 D.m, .int .i64 D.gen, .slice (some ⟨gm, 0, none⟩) (D.m + 1) cm], .slice vo lo vc, .int .i64 x] (grow (redrawn wr d) os) fun e w'' => e = .returned (.int .i64 (u : Nat)) ∧ ∃ p : Regrown, w'' = grow (redrawn wr p.d) p.os) := fun d os => by
            have hbb := bel_up (bel_up HM.out.2 HG.out.1) (below_regrown wr d os)
            have h := rpat_any (w := grow (redrawn wr d) os) (cap := vc) HA.out.1 D.gen gm cm hxq (show lo ≤ 1000 by omega) HV.out.1 (HV.out.2.2.2.2.1.mono hbb.size) (HV.out.2.2.2.1.below hbb HV.out.2.2.2.2.1) (HM.out.1.below (bel_up HG.out.1 (below_regrown wr d os)))
            have hv : D.val co lo x lo = u := by
              have h2 := HV.out.2.2.1 r hlt
              rw [show zc n z r = x from by unfold zc; rw [if_pos hlt, hx, Int.toNat_natCast], show zc n y r = u from by unfold zc; rw [if_pos hlt, hu, Int.toNat_natCast]] at h2
              rw [← h2]
              exact vl_val (fld HA.out.1) HV.out.1 HV.out.2.1.1 hxq (show lo ≤ 1000 by omega)
            rw [hv] at h
            exact Calls.regrown_of h
          have hbe : ((u : Int) != (u : Int)) = false := by simp
          clear hA hB hc hc' hx hu hxq huq
          go_wp2
          refine wp_region_quiet_below (by kernel_rfl) (by kernel_rfl) ?_
          repeat (go_big_quiet_step (first | (go_at_call 92; exact HC.out _ _)))
          refine wpQuiet_nil ?_
          intro _ hw'
          obtain ⟨⟨dq, osq⟩, hw''⟩ := hw'
          subst hw''
          have hb := below_regrown wr dq osq
          have HR : Hid (Below w2.heap.size w2 (grow (redrawn wr dq) osq) ∧ Box w2.heap.size D D.gen (.slice (some ⟨gm, 0, none⟩) (D.m + 1) cm) (grow (redrawn wr dq) osq)) := ⟨bel_up HG.out.1 hb, HG.out.2.below hb hsz⟩
          have hs := hb.size
          clear hb k0 k1 k2 k3 k4 k5 k6 HC
          go_wp2
          go_roundw
          case rel => exact ⟨r + 1, by omega, by go_num, HR.out, by omega⟩
          case measure => simp [intOf]; omega
        · have hi1 : ¬ (r : Int) < (n : Int) := by omega
          have hi2 : (lo : Int) ≤ (n : Int) := by omega
          obtain ⟨k0, k1, k2, k3, k4⟩ := HG.out.2
          have hbr := bel_up HM.out.2 HG.out.1
          have HE : Hid (Calls Try.prog 102 #[.agg #[.int .i64 D.q, .int .i64 D.p, .int .i64 D.m, .int .i64 D.gen, .slice (some ⟨gm, 0, none⟩) (D.m + 1) cm], .slice vo lo vc] wr fun e w' => e = .returned (.bool true) ∧ Below wr.heap.size wr w') :=
            relements_ok D.gen _ (by omega) HV.out.1 (HV.out.2.2.2.1.below hbr HV.out.2.2.2.2.1) (HV.out.2.2.2.2.1.mono hbr.size)
          have HBr : Hid (Below w1.heap.size w1 wr) := hbr
          clear hbr
          go_wp2_with fail
          refine HE.out.mono ?_
          rintro e w3 ⟨rfl, hb3⟩
          have HB3 : Hid (Below w1.heap.size w1 w3) := bel_up HBr.out hb3
          clear hb3 HE k0 k1 k2 k3 k4
          have HT : Hid (Calls Try.prog 51 #[.slice vo lo vc] w3 fun e w' => ∃ v, e = .returned v ∧ SliceI v (zl lo fun j => (co j : Nat)) w' ∧ SliceI (.slice vo lo vc) (zl lo fun j => (co j : Nat)) w' ∧ Below w3.heap.size w3 w') := by
            refine (rtrim_any (HV.out.2.2.2.1.below HB3.out HV.out.2.2.2.2.1) hvc1 hvc2 HV.out.2.2.2.2.2.1 (HV.out.2.2.2.2.1.mono HB3.out.size) (by omega)).mono ?_
            rintro e w' ⟨v, rfl, ho, hb⟩
            rw [HV.out.2.1.dgn (Nat.le_refl _)] at ho
            exact ⟨v, rfl, ho.sliceI (by omega), (HV.out.2.2.2.2.2.2.below (bel_up HB3.out hb) (Nat.le_refl _)).sliceI (by omega), hb⟩
          go_wp2_with fail
          refine HT.out.mono ?_
          rintro e w4 ⟨v4, rfl, hs1, hs2, hb4⟩
          have HB4 : Hid (SliceI v4 (zl lo fun j => (co j : Nat)) w4 ∧ SliceI (.slice vo lo vc) (zl lo fun j => (co j : Nat)) w4 ∧ Below w.heap.size w w4) := ⟨hs1, hs2, bel_up HB1.out.1 (bel_up HB3.out hb4)⟩
          clear hs1 hs2 hb4 HT
          go_wp2_with fail
          refine (same_any HB4.out.2.1 HB4.out.1).mono ?_
          rintro e w5 ⟨rfl, m5, rfl⟩
          rw [decide_eq_true rfl]
          go_wp2
          go_ret
          exact ⟨by first | rfl | simp, below_drewN2 HB4.out.2.2 _⟩
end Go.Proofs.Ythmjdcajaoilgaa

/- PolySays: its parts put together; where an argument may not be. -/
namespace Go.Proofs.Ythmjdcajaoilgaa
open Go.RowKit Go.Sort

theorem polyThrough_all {D : FD} (hD : D ∈ fieldsL) {ao bo : Option Addr} {n m ca cb : Nat} {z y : Nat → Int} {w : World} (ha : Arg ao n ca z w) (hb : Arg bo m cb y w) :
    Calls Try.prog 59 #[.int .i64 D.q, .slice ao n ca, .slice bo m cb, .int .i64 (D.chk2 n z m y)] w fun r w' => r = .returned (.bool true) ∧ Below w.heap.size w w' := by
  have ht := through_all hD ha hb
  by_cases h0 : D.chk2 n z m y = 0
  · have hc := chk2_zero h0
    by_cases hnm : n = m
    · subst hnm
      by_cases htw : Twice (zc n z) n
      · rw [h0]
        refine polyThrough_bad ha hc.1 7 (Or.inr ⟨rfl, htw, rfl⟩) (ht.mono ?_)
        rintro e w' ⟨hb, h⟩
        rcases h with ⟨_, _, h, _⟩ | ⟨_, _, _, rfl⟩ | ⟨_, h, _⟩ | ⟨h, _⟩
        · exact absurd htw h
        · exact ⟨rfl, hb⟩
        · exact absurd rfl h
        · exact absurd h0 h
      · rw [h0]
        refine polyThrough_ok hD ha hb hc.1 hc.2 htw (ht.mono ?_)
        rintro e w' ⟨hb, h⟩
        rcases h with ⟨_, _, _, v, lo, co, rfl, h1, h2, h3, h4, h5⟩ | ⟨_, _, h, _⟩ | ⟨_, h, _⟩ | ⟨h, _⟩
        · exact ⟨v, lo, co, rfl, h1, h2, h3, h4, h5, hb⟩
        · exact absurd h htw
        · exact absurd rfl h
        · exact absurd h0 h
    · rw [h0]
      refine polyThrough_bad ha hc.1 6 (Or.inl ⟨hnm, rfl⟩) (ht.mono ?_)
      rintro e w' ⟨hb, h⟩
      rcases h with ⟨_, h, _⟩ | ⟨_, h, _⟩ | ⟨_, _, rfl⟩ | ⟨h, _⟩
      · exact absurd h hnm
      · exact absurd h hnm
      · exact ⟨rfl, hb⟩
      · exact absurd h0 h
  · refine polyThrough_err _ _ h0 (ht.mono ?_)
    rintro e w' ⟨hb, h⟩
    rcases h with ⟨h, _⟩ | ⟨h, _⟩ | ⟨h, _⟩ | ⟨_, rfl⟩
    · exact absurd h h0
    · exact absurd h h0
    · exact absurd h h0
    · exact ⟨rfl, hb⟩

theorem polyRoots_all {D : FD} (hD : D ∈ fieldsL) {ao : Option Addr} {n ca : Nat} {z : Nat → Int} {w : World} (ha : Arg ao n ca z w) :
    Calls Try.prog 58 #[.int .i64 D.q, .slice ao n ca, .int .i64 (D.chk n z)] w fun r w' => r = .returned (.bool true) ∧ Below w.heap.size w w' := by
  have hF := fld hD
  by_cases h0 : D.chk n z = 0
  · rw [h0]
    by_cases hn0 : dgn (zc n z) n = 0
    · refine polyRoots_zero hD ha h0 hn0 (fun w1 hb1 => ?_) (fun w1 hb1 => ?_) (fun w1 hb1 => ?_)
      · refine (roots_any hD (ha.below hb1)).mono ?_
        rintro e w' ⟨hb, h⟩
        rcases h with ⟨_, h, _⟩ | ⟨_, _, rfl⟩ | ⟨h, _⟩
        · exact absurd hn0 h
        · exact ⟨rfl, hb⟩
        · exact absurd h0 h
      · refine (factors_any hD (ha.below hb1)).mono ?_
        rintro e w' ⟨v, er, L, rfl, hb, hl, hs⟩
        obtain ⟨rfl, rfl⟩ := facSpec_uniq hF hs (Or.inr (Or.inr (Or.inl ⟨h0, hn0, rfl, rfl⟩)))
        obtain ⟨lo, lc, rfl⟩ := hl.slice
        exact ⟨lo, lc, rfl, hb⟩
      · refine (irred_any hD (ha.below hb1)).mono ?_
        rintro e w' ⟨er, L, rfl, hb, hs⟩
        obtain ⟨rfl, rfl⟩ := facSpec_uniq hF hs (Or.inr (Or.inr (Or.inl ⟨h0, hn0, rfl, rfl⟩)))
        exact ⟨rfl, hb⟩
    · exact polyRoots_ok hD ha h0 (l := dgn (zc n z) n - 1) (by omega)
  · refine polyRoots_err _ _ h0 (fun w1 hb1 => ?_) (fun w1 hb1 => ?_) (fun w1 hb1 => ?_)
    · refine (roots_any hD (ha.below hb1)).mono ?_
      rintro e w' ⟨hb, h⟩
      rcases h with ⟨h, _⟩ | ⟨h, _⟩ | ⟨_, rfl⟩
      · exact absurd h h0
      · exact absurd h h0
      · exact ⟨rfl, hb⟩
    · refine (factors_any hD (ha.below hb1)).mono ?_
      rintro e w' ⟨v, er, L, rfl, hb, hl, hs⟩
      obtain ⟨rfl, rfl⟩ := facSpec_uniq hF hs (Or.inr (Or.inr (Or.inr ⟨h0, rfl, rfl⟩)))
      obtain ⟨lo, lc, rfl⟩ := hl.slice
      exact ⟨lo, lc, rfl, hb⟩
    · refine (irred_any hD (ha.below hb1)).mono ?_
      rintro e w' ⟨er, L, rfl, hb, hs⟩
      obtain ⟨rfl, rfl⟩ := facSpec_uniq hF hs (Or.inr (Or.inr (Or.inr ⟨h0, rfl, rfl⟩)))
      exact ⟨rfl, hb⟩
end Go.Proofs.Ythmjdcajaoilgaa

/- Lists that were made and lie in memory that is there: kept while more is made. What two answers with lists are held together by, whatever the error. -/
namespace Go.Proofs.Ythmjdcajaoilgaa
open Go.RowKit

/-- The list v reads as l, in memory that is there. -/
def KI (v : Value) (l : List Int) (w : World) : Prop := SliceI v l w ∧ ∀ k, v.ownBlock = some k → k < w.heap.size
theorem KI.below {v : Value} {l : List Int} {w w' : World} (h : KI v l w) (hb : Below w.heap.size w w') : KI v l w' := ⟨h.1.below hb h.2, fun k hk => Nat.lt_of_lt_of_le (h.2 k hk) hb.size⟩
theorem KI.drewN {v : Value} {l : List Int} {w : World} (h : KI v l w) (n : Nat) : KI v l (w.drewN n) := ⟨h.1.drewN n, h.2⟩
theorem OwnI.ki {base : Nat} {v : Value} {l : List Int} {w : World} (h : OwnI base v l w) (hl : l.length ≤ 1000000) : KI v l w := ⟨h.slice hl, fun k hk => (h.lt k hk).2⟩
theorem OwnP.ki {base n : Nat} {v : Value} {c : Nat → Nat} {w : World} (h : OwnP base v n c w) (hn : n ≤ 1000000) : KI v (zl n fun j => (c j : Nat)) w := by
  refine ⟨h.sliceI hn, ?_⟩
  obtain ⟨ao, cap, rfl, _, _, _, hl, _⟩ := h
  intro k hk
  cases ao with
  | none => cases hk
  | some x =>
    have hk : some x.block = some k := hk
    cases hk
    exact hl x rfl

theorem list_gen {va vb : Value} {e : Int} {w : World} (h : (e ≠ 0 ∧ ∃ ao ca, va = .slice ao 0 ca) ∨ (e = 0 ∧ ∃ l, SliceI va l w ∧ SliceI vb l w)) :
    Calls Try.prog 45 #[va, .int .i64 e, vb, .int .i64 e] w fun r w' => r = .returned (.bool true) ∧ ∃ n, w' = w.drewN n := by
  rcases h with ⟨he, ao, ca, rfl⟩ | ⟨rfl, l, h1, h2⟩
  · refine (list_err2 e he ao ca vb w).mono ?_
    rintro r w' ⟨rfl, rfl⟩
    exact ⟨rfl, 0, rfl⟩
  · exact list_same h1 h2
end Go.Proofs.Ythmjdcajaoilgaa

/- PolySays: where an argument may not be. -/
namespace Go.Proofs.Ythmjdcajaoilgaa
open Go.RowKit Go.Sort

set_option maxHeartbeats 4000000 in
set_option maxRecDepth 100000 in
theorem polySays_err (q e1 e2 : Int) (he : e2 ≠ 0) {ao bo : Option Addr} {n m ca cb : Nat} (x : Int) {w : World} (hnm : n + m ≤ 300) (hcase : e1 = 0 ∨ e1 = e2)
    (hMa : ∀ w1, Below w.heap.size w w1 → Calls Try.prog 46 #[.int .i64 q, .slice ao n ca] w1 fun r w' => r = .returned (.int .i64 e1) ∧ Below w1.heap.size w1 w')
    (hCk : ∀ w1, Below w.heap.size w w1 → Calls Try.prog 47 #[.int .i64 q, .slice ao n ca] w1 fun r w' => r = .returned (.int .i64 e1) ∧ Below w1.heap.size w1 w')
    (hFi : ∀ w1, Below w.heap.size w w1 → Calls Try.prog 10 #[.int .i64 q] w1 fun r w' => ∃ x0 x1 x2 x3 x4 x5 x6 e0, r = .returned (.tuple #[.agg #[.int .i64 x0, .int .i64 x1, .int .i64 x2, .int .i64 x3, .slice x4 x5 x6], .int .i64 e0]) ∧ Below w1.heap.size w1 w')
    (hAd : ∀ w1, Below w.heap.size w w1 → Calls Try.prog 53 #[.int .i64 q, .slice ao n ca, .slice bo m cb] w1 fun r w' => r = .returned (.tuple #[.slice none 0 0, .int .i64 e2]) ∧ Below w1.heap.size w1 w')
    (hMu : ∀ w1, Below w.heap.size w w1 → Calls Try.prog 54 #[.int .i64 q, .slice ao n ca, .slice bo m cb] w1 fun r w' => r = .returned (.tuple #[.slice none 0 0, .int .i64 e2]) ∧ Below w1.heap.size w1 w')
    (hGc : ∀ w1, Below w.heap.size w w1 → Calls Try.prog 55 #[.int .i64 q, .slice ao n ca, .slice bo m cb] w1 fun r w' => r = .returned (.tuple #[.slice none 0 0, .int .i64 e2]) ∧ Below w1.heap.size w1 w')
    (hDi : ∀ w1, Below w.heap.size w w1 → Calls Try.prog 56 #[.int .i64 q, .slice ao n ca, .slice bo m cb] w1 fun r w' => r = .returned (.tuple #[.slice none 0 0, .slice none 0 0, .int .i64 e2]) ∧ Below w1.heap.size w1 w')
    (hAt : ∀ w1, Below w.heap.size w w1 → Calls Try.prog 57 #[.int .i64 q, .slice ao n ca, .int .i64 x, .int .i64 e1] w1 fun r w' => r = .returned (.bool true) ∧ Below w1.heap.size w1 w')
    (hRo : ∀ w1, Below w.heap.size w w1 → Calls Try.prog 58 #[.int .i64 q, .slice ao n ca, .int .i64 e1] w1 fun r w' => r = .returned (.bool true) ∧ Below w1.heap.size w1 w')
    (hTh : ∀ w1, Below w.heap.size w w1 → Calls Try.prog 59 #[.int .i64 q, .slice ao n ca, .slice bo m cb, .int .i64 e2] w1 fun r w' => r = .returned (.bool true) ∧ Below w1.heap.size w1 w')
    (hMb : e1 = 0 → ∀ w1, Below w.heap.size w w1 → Calls Try.prog 46 #[.int .i64 q, .slice bo m cb] w1 fun r w' => r = .returned (.int .i64 e2) ∧ Below w1.heap.size w1 w') :
    Calls Try.prog 6 #[.int .i64 q, .slice ao n ca, .slice bo m cb, .int .i64 x] w fun r w' => r = .returned (.bool true) ∧ Below w.heap.size w w' := by
  have HMa : Hid (∀ w1, Below w.heap.size w w1 → Calls Try.prog 46 #[.int .i64 q, .slice ao n ca] w1 fun r w' => r = .returned (.int .i64 e1) ∧ Below w1.heap.size w1 w') := hMa
  have HCk : Hid (∀ w1, Below w.heap.size w w1 → Calls Try.prog 47 #[.int .i64 q, .slice ao n ca] w1 fun r w' => r = .returned (.int .i64 e1) ∧ Below w1.heap.size w1 w') := hCk
  have HFi : Hid (∀ w1, Below w.heap.size w w1 → Calls Try.prog 10 #[.int .i64 q] w1 fun r w' => ∃ x0 x1 x2 x3 x4 x5 x6 e0, r = .returned (.tuple #[.agg #[.int .i64 x0, .int .i64 x1, .int .i64 x2, .int .i64 x3, .slice x4 x5 x6], .int .i64 e0]) ∧ Below w1.heap.size w1 w') := hFi
  have HAd : Hid (∀ w1, Below w.heap.size w w1 → Calls Try.prog 53 #[.int .i64 q, .slice ao n ca, .slice bo m cb] w1 fun r w' => r = .returned (.tuple #[.slice none 0 0, .int .i64 e2]) ∧ Below w1.heap.size w1 w') := hAd
  have HMu : Hid (∀ w1, Below w.heap.size w w1 → Calls Try.prog 54 #[.int .i64 q, .slice ao n ca, .slice bo m cb] w1 fun r w' => r = .returned (.tuple #[.slice none 0 0, .int .i64 e2]) ∧ Below w1.heap.size w1 w') := hMu
  have HGc : Hid (∀ w1, Below w.heap.size w w1 → Calls Try.prog 55 #[.int .i64 q, .slice ao n ca, .slice bo m cb] w1 fun r w' => r = .returned (.tuple #[.slice none 0 0, .int .i64 e2]) ∧ Below w1.heap.size w1 w') := hGc
  have HDi : Hid (∀ w1, Below w.heap.size w w1 → Calls Try.prog 56 #[.int .i64 q, .slice ao n ca, .slice bo m cb] w1 fun r w' => r = .returned (.tuple #[.slice none 0 0, .slice none 0 0, .int .i64 e2]) ∧ Below w1.heap.size w1 w') := hDi
  have HAt : Hid (∀ w1, Below w.heap.size w w1 → Calls Try.prog 57 #[.int .i64 q, .slice ao n ca, .int .i64 x, .int .i64 e1] w1 fun r w' => r = .returned (.bool true) ∧ Below w1.heap.size w1 w') := hAt
  have HRo : Hid (∀ w1, Below w.heap.size w w1 → Calls Try.prog 58 #[.int .i64 q, .slice ao n ca, .int .i64 e1] w1 fun r w' => r = .returned (.bool true) ∧ Below w1.heap.size w1 w') := hRo
  have HTh : Hid (∀ w1, Below w.heap.size w w1 → Calls Try.prog 59 #[.int .i64 q, .slice ao n ca, .slice bo m cb, .int .i64 e2] w1 fun r w' => r = .returned (.bool true) ∧ Below w1.heap.size w1 w') := hTh
  have HMb : Hid (e1 = 0 → ∀ w1, Below w.heap.size w w1 → Calls Try.prog 46 #[.int .i64 q, .slice bo m cb] w1 fun r w' => r = .returned (.int .i64 e2) ∧ Below w1.heap.size w1 w') := hMb
  clear hMb hMa hCk hFi hAd hMu hGc hDi hAt hRo hTh
  have hz2 : (e2 == 0) = false := beq_eq_false_iff_ne.2 he
  have hz1 : (e1 != e1) = false := by simp
  have HB : Hid (Below w.heap.size w w) := Below.refl _ _
  go_enter Try.func6, Try.ntmps6
  go_wp2_with fail
  refine (HMa.out _ HB.out).mono ?_
  rintro r w1 ⟨rfl, hb'⟩
  replace HB : Hid (Below w.heap.size w w1) := bel_up HB.out hb'
  clear hb'
  by_cases h1 : e1 = 0
  · subst h1
    have HMb2 : Hid (∀ w1, Below w.heap.size w w1 → Calls Try.prog 46 #[.int .i64 q, .slice bo m cb] w1 fun r w' => r = .returned (.int .i64 e2) ∧ Below w1.heap.size w1 w') := HMb.out rfl
    clear HMb
    go_wp2_with fail
    refine (HMb2.out _ HB.out).mono ?_
    rintro r w2 ⟨rfl, hb'⟩
    replace HB : Hid (Below w.heap.size w w2) := bel_up HB.out hb'
    clear hb'
    go_wp2_with fail
    refine (HCk.out _ HB.out).mono ?_
    rintro r w3 ⟨rfl, hb'⟩
    replace HB : Hid (Below w.heap.size w w3) := bel_up HB.out hb'
    clear hb'
    go_wp2_with fail
    refine (HFi.out _ HB.out).mono ?_
    rintro r w4 ⟨x0, x1, x2, x3, x4, x5, x6, e0, rfl, hb'⟩
    replace HB : Hid (Below w.heap.size w w4) := bel_up HB.out hb'
    clear hb'
    replace HB : Hid (Below w.heap.size w (w4.alloc (.cells #[.int .i64 x0, .int .i64 x1, .int .i64 x2, .int .i64 x3, .slice x4 x5 x6] 28))) := HB.out.alloc HB.out.size _
    go_wp2_with fail
    refine (HAd.out _ HB.out).mono ?_
    rintro r w5 ⟨rfl, hb'⟩
    replace HB : Hid (Below w.heap.size w w5) := bel_up HB.out hb'
    clear hb'
    go_wp2_with fail
    refine (HMu.out _ HB.out).mono ?_
    rintro r w6 ⟨rfl, hb'⟩
    replace HB : Hid (Below w.heap.size w w6) := bel_up HB.out hb'
    clear hb'
    go_wp2_with fail
    refine (HGc.out _ HB.out).mono ?_
    rintro r w7 ⟨rfl, hb'⟩
    replace HB : Hid (Below w.heap.size w w7) := bel_up HB.out hb'
    clear hb'
    go_wp2_with (go_at_call 45; refine (list_err2 e2 he _ _ _ _).mono ?_; rintro r wd ⟨rfl, hw⟩; have hw := hw.symm; subst hw)
    refine (HDi.out _ HB.out).mono ?_
    rintro r w8 ⟨rfl, hb'⟩
    replace HB : Hid (Below w.heap.size w w8) := bel_up HB.out hb'
    clear hb'
    go_wp2_with (go_at_call 45; refine (list_err2 e2 he _ _ _ _).mono ?_; rintro r wd ⟨rfl, hw⟩; have hw := hw.symm; subst hw)
    refine (HAt.out _ HB.out).mono ?_
    rintro r w9 ⟨rfl, hb'⟩
    replace HB : Hid (Below w.heap.size w w9) := bel_up HB.out hb'
    clear hb'
    go_wp2_with fail
    refine (HRo.out _ HB.out).mono ?_
    rintro r w10 ⟨rfl, hb'⟩
    replace HB : Hid (Below w.heap.size w w10) := bel_up HB.out hb'
    clear hb'
    go_wp2_with fail
    refine (HTh.out _ HB.out).mono ?_
    rintro r w11 ⟨rfl, hb'⟩
    replace HB : Hid (Below w.heap.size w w11) := bel_up HB.out hb'
    clear hb'
    go_wp2
    go_ret
    exact ⟨by first | rfl | simp, HB.out⟩
  · have h12 : e2 = e1 := by rcases hcase with h | h; exact absurd h h1; exact h.symm
    subst h12
    go_wp2_with fail
    refine (HCk.out _ HB.out).mono ?_
    rintro r w3 ⟨rfl, hb'⟩
    replace HB : Hid (Below w.heap.size w w3) := bel_up HB.out hb'
    clear hb'
    go_wp2_with fail
    refine (HFi.out _ HB.out).mono ?_
    rintro r w4 ⟨x0, x1, x2, x3, x4, x5, x6, e0, rfl, hb'⟩
    replace HB : Hid (Below w.heap.size w w4) := bel_up HB.out hb'
    clear hb'
    replace HB : Hid (Below w.heap.size w (w4.alloc (.cells #[.int .i64 x0, .int .i64 x1, .int .i64 x2, .int .i64 x3, .slice x4 x5 x6] 28))) := HB.out.alloc HB.out.size _
    go_wp2_with fail
    refine (HAd.out _ HB.out).mono ?_
    rintro r w5 ⟨rfl, hb'⟩
    replace HB : Hid (Below w.heap.size w w5) := bel_up HB.out hb'
    clear hb'
    go_wp2_with fail
    refine (HMu.out _ HB.out).mono ?_
    rintro r w6 ⟨rfl, hb'⟩
    replace HB : Hid (Below w.heap.size w w6) := bel_up HB.out hb'
    clear hb'
    go_wp2_with fail
    refine (HGc.out _ HB.out).mono ?_
    rintro r w7 ⟨rfl, hb'⟩
    replace HB : Hid (Below w.heap.size w w7) := bel_up HB.out hb'
    clear hb'
    go_wp2_with (go_at_call 45; refine (list_err2 e2 he _ _ _ _).mono ?_; rintro r wd ⟨rfl, hw⟩; have hw := hw.symm; subst hw)
    refine (HDi.out _ HB.out).mono ?_
    rintro r w8 ⟨rfl, hb'⟩
    replace HB : Hid (Below w.heap.size w w8) := bel_up HB.out hb'
    clear hb'
    go_wp2_with (go_at_call 45; refine (list_err2 e2 he _ _ _ _).mono ?_; rintro r wd ⟨rfl, hw⟩; have hw := hw.symm; subst hw)
    refine (HAt.out _ HB.out).mono ?_
    rintro r w9 ⟨rfl, hb'⟩
    replace HB : Hid (Below w.heap.size w w9) := bel_up HB.out hb'
    clear hb'
    go_wp2_with fail
    refine (HRo.out _ HB.out).mono ?_
    rintro r w10 ⟨rfl, hb'⟩
    replace HB : Hid (Below w.heap.size w w10) := bel_up HB.out hb'
    clear hb'
    go_wp2_with fail
    refine (HTh.out _ HB.out).mono ?_
    rintro r w11 ⟨rfl, hb'⟩
    replace HB : Hid (Below w.heap.size w w11) := bel_up HB.out hb'
    clear hb'
    go_wp2
    go_ret
    exact ⟨by first | rfl | simp, HB.out⟩
end Go.Proofs.Ythmjdcajaoilgaa
