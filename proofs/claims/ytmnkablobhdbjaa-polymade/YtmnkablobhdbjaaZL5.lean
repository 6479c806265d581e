/- PolySays: a polynomial through points (polyThrough). -/
import Derived.Test.YtmnkablobhdbjaaZL4
namespace Go.Proofs.Ytmnkablobhdbjaa
open Go.RowKit Go.Sort

theorem has_of_lt {D : FD} {x : Nat} (h : x < D.q) : D.has (x : Int) = true := by
  unfold FD.has; simp; omega

set_option maxHeartbeats 4000000 in
set_option maxRecDepth 100000 in
theorem relements_ok {D : FD} (gen : Nat) (v : Value) {ao : Option Addr} {n ca : Nat} {c : Nat → Nat} {w : World} (hn : n ≤ 1000000) (hc : El D c) (hA : Sl ao n c w) (hl : LtB ao w.heap.size) :
    Calls Try.prog 97 #[rf D.q D.p D.m gen v, .slice ao n ca] w fun e w' => e = .returned (.bool true) ∧ Below w.heap.size w w' := by
  have hbl : Below w.heap.size w (w.alloc (.cells #[.int .i64 D.q, .int .i64 D.p, .int .i64 D.m, .int .i64 gen, v] 28)) := (Below.refl _ _).alloc (Nat.le_refl _) _
  have HS : Hid (Sl ao n c w ∧ LtB ao w.heap.size ∧ El D c ∧ Box w.heap.size D gen v (w.alloc (.cells #[.int .i64 D.q, .int .i64 D.p, .int .i64 D.m, .int .i64 gen, v] 28)) ∧ Below w.heap.size w (w.alloc (.cells #[.int .i64 D.q, .int .i64 D.p, .int .i64 D.m, .int .i64 gen, v] 28))) := ⟨hA, hl, hc, box_new D gen _ w, hbl⟩
  clear hA hl hc hbl
  unfold rf
  go_enter Try.func97, Try.ntmps97
  go_wp2
  go_loopw [5] (fun i wr => ∃ r : Nat, r ≤ n ∧ i = .int .i64 r ∧ Hid (Box w.heap.size D gen v wr ∧ Below w.heap.size w wr) ∧ w.heap.size < wr.heap.size) (fun i _ => n - (intOf i).toNat)
  case atStart => exact ⟨0, by omega, rfl, ⟨HS.out.2.2.2.1, HS.out.2.2.2.2⟩, by simp⟩
  case round =>
    obtain ⟨r, hr, rfl, HG, hsz⟩ := hrel
    by_cases hlt : r < n
    · obtain ⟨b, off, rfl, hcl⟩ := (HS.out.1.below HG.out.2 HS.out.2.1) r hlt
      obtain ⟨x, hx⟩ : ∃ x, x = c r := ⟨_, rfl⟩
      rw [← hx] at hcl
      have hxx : D.has (x : Int) = true := by rw [hx]; exact has_of_lt (HS.out.2.2.1 r)
      have z1 : (0 : Int) ≤ (r : Int) := by omega
      have z2 : (r : Int) < (n : Int) := by omega
      have k0 := cell_regrown HG.out.1.c0
      have k1 := cell_regrown HG.out.1.c1
      have k2 := cell_regrown HG.out.1.c2
      have k3 := cell_regrown HG.out.1.c3
      have k4 := cell_regrown HG.out.1.c4
      have k5 := cell_regrown hcl
      have HC : Hid (∀ d os, Calls Try.prog 18 #[.agg #[.int .i64 D.q, .int .i64 D.p, .int .i64 D.m, .int .i64 gen, v], .int .i64 (x : Nat)] (grow (redrawn wr d) os) fun e w'' => e = .returned (.bool true) ∧ ∃ p : Regrown, w'' = grow (redrawn wr p.d) p.os) := fun d os => by
        have h := rhas_any D gen v (x : Int) (grow (redrawn wr d) os)
        rw [hxx] at h
        exact Calls.regrown_of h
      clear hx hcl hxx
      go_wp2
      refine wp_region_quiet_below (by kernel_rfl) (by kernel_rfl) ?_
      repeat (go_big_quiet_step (first | (go_at_call 18; exact HC.out _ _)))
      refine wpQuiet_nil ?_
      intro _ hw'
      obtain ⟨⟨dq, osq⟩, hw''⟩ := hw'
      subst hw''
      have hb := below_regrown wr dq osq
      have HR : Hid (Box w.heap.size D gen v (grow (redrawn wr dq) osq) ∧ Below w.heap.size w (grow (redrawn wr dq) osq)) := ⟨HG.out.1.below hb hsz, bel_up HG.out.2 hb⟩
      have hs := hb.size
      clear hb k0 k1 k2 k3 k4 k5 HC
      go_wp2
      go_roundw
      case rel => exact ⟨r + 1, by omega, by go_num, HR.out, by omega⟩
      case measure => simp [intOf]; omega
    · go_wp2
      go_ret
      exact ⟨rfl, HG.out.2⟩

set_option maxHeartbeats 2000000 in
set_option maxRecDepth 100000 in
theorem polyThrough_err (q e : Int) (he : e ≠ 0) {ao bo : Option Addr} {n m ca cb : Nat} {w : World}
    (h1 : Calls Try.prog 95 #[.int .i64 q, .slice ao n ca, .slice bo m cb] w fun r w' => r = .returned (.tuple #[.slice none 0 0, .int .i64 e]) ∧ Below w.heap.size w w') :
    Calls Try.prog 59 #[.int .i64 q, .slice ao n ca, .slice bo m cb, .int .i64 e] w fun r w' => r = .returned (.bool true) ∧ Below w.heap.size w w' := by
  have H1 : Hid (Calls Try.prog 95 #[.int .i64 q, .slice ao n ca, .slice bo m cb] w fun r w' => r = .returned (.tuple #[.slice none 0 0, .int .i64 e]) ∧ Below w.heap.size w w') := h1
  have hz : (e == 0) = false := beq_eq_false_iff_ne.2 he
  have hz2 : (e != 0) = true := bne_iff_ne.2 he
  clear h1
  go_enter Try.func59, Try.ntmps59
  go_wp2_with fail
  refine H1.out.mono ?_
  rintro r w1 ⟨rfl, hb1⟩
  have HB1 : Hid (Below w.heap.size w w1) := hb1
  clear hb1
  go_wp2_with fail
  refine wp_loop_rounds 1 ?_
  rw [rounds_succ]
  by_cases hn : (0 : Int) < (n : Int)
  · go_wp2
    go_ret
    exact ⟨by first | rfl | simp, HB1.out⟩
  · go_wp2
    go_ret
    exact ⟨by first | rfl | simp, HB1.out⟩

theorem arg_sliceI {ao : Option Addr} {n ca : Nat} {z : Nat → Int} {w : World} (h : Arg ao n ca z w) {r : Nat} (hr : r ≤ n) : SliceI (.slice ao r ca) (zl r z) w := by
  by_cases h0 : r = 0
  · subst h0
    exact Or.inl ⟨rfl, ao, ca, rfl⟩
  · obtain ⟨b, off, rfl, _⟩ := h.sl 0 (by omega)
    refine Or.inr ⟨fun e => ?_, by rw [zl_len]; have := h.few; omega, b, off, ca, by rw [zl_len], fun j hj => ?_⟩
    · have := congrArg List.length e
      rw [zl_len] at this
      exact h0 this
    · rw [zl_len] at hj
      obtain ⟨b', off', e, hc⟩ := h.sl j (by omega)
      cases e
      rw [zl_getD r z j hj]; exact hc
theorem zl_mem {n : Nat} {z : Nat → Int} {x : Int} : x ∈ zl n z ↔ ∃ j, j < n ∧ z j = x := by
  unfold zl
  rw [List.mem_map]
  constructor
  · rintro ⟨j, hj, e⟩
    exact ⟨j, List.mem_range.1 hj, e⟩
  · rintro ⟨j, hj, e⟩
    exact ⟨j, List.mem_range.2 hj, e⟩
theorem zc_inj {D : FD} {n : Nat} {z : Nat → Int} (h : D.chk n z = 0) {i j : Nat} (hi : i < n) (hj : j < n) : zc n z i = zc n z j ↔ z i = z j := by
  obtain ⟨x, hx, _⟩ := has_nat ((chk_zero h).2 i hi)
  obtain ⟨y, hy, _⟩ := has_nat ((chk_zero h).2 j hj)
  unfold zc
  rw [if_pos hi, if_pos hj, hx, hy]
  omega

set_option maxHeartbeats 4000000 in
set_option maxRecDepth 100000 in
/-- Where places and values are not as many, or a place stands twice. -/
theorem polyThrough_bad {D : FD} {ao bo : Option Addr} {n m ca cb : Nat} {z : Nat → Int} {w : World} (ha : Arg ao n ca z w) (h0 : D.chk n z = 0) (e : Int) (hcase : (n ≠ m ∧ e = 6) ∨ (n = m ∧ Twice (zc n z) n ∧ e = 7))
    (h1 : Calls Try.prog 95 #[.int .i64 D.q, .slice ao n ca, .slice bo m cb] w fun r w' => r = .returned (.tuple #[.slice none 0 0, .int .i64 e]) ∧ Below w.heap.size w w') :
    Calls Try.prog 59 #[.int .i64 D.q, .slice ao n ca, .slice bo m cb, .int .i64 0] w fun r w' => r = .returned (.bool true) ∧ Below w.heap.size w w' := by
  have H1 : Hid (Calls Try.prog 95 #[.int .i64 D.q, .slice ao n ca, .slice bo m cb] w fun r w' => r = .returned (.tuple #[.slice none 0 0, .int .i64 e]) ∧ Below w.heap.size w w') := h1
  have HA : Hid (Arg ao n ca z w ∧ D.chk n z = 0) := ⟨ha, h0⟩
  have hn128 := (chk_zero h0).1
  have hle := ha.le
  have hcap := ha.cap
  clear h1 ha h0
  rcases hcase with ⟨hnm, rfl⟩ | ⟨hnm, htw, rfl⟩
  · have hz : ((n : Int) != (m : Int)) = true := by rw [bne_iff_ne]; omega
    go_enter Try.func59, Try.ntmps59
    go_wp2_with fail
    refine H1.out.mono ?_
    rintro r w1 ⟨rfl, hb1⟩
    have HB1 : Hid (Below w.heap.size w w1) := hb1
    clear hb1 hnm
    go_wp2_with fail
    refine wp_loop_rounds 1 ?_
    rw [rounds_succ]
    by_cases hn : (0 : Int) < (n : Int)
    · go_wp2
      go_ret
      exact ⟨by first | rfl | simp, HB1.out⟩
    · go_wp2
      go_ret
      exact ⟨by first | rfl | simp, HB1.out⟩
  · have hz : ((n : Int) != (m : Int)) = false := by rw [hnm]; simp
    have HT : Hid (Twice (zc n z) n) := htw
    clear htw hnm
    go_enter Try.func59, Try.ntmps59
    go_wp2_with fail
    refine H1.out.mono ?_
    rintro r w1 ⟨rfl, hb1⟩
    have HB1 : Hid (Below w.heap.size w w1 ∧ Arg ao n ca z w1) := ⟨hb1, HA.out.1.below hb1⟩
    clear hb1
    go_wp2_with fail
    go_loopw [3, 11] (fun ve i wr => ∃ r : Nat, r ≤ n ∧ i = .int .i64 r ∧ ((ve = .int .i64 0 ∧ Hid (¬ Twice (zc n z) r)) ∨ ve = .int .i64 7) ∧ ∃ k, wr = w1.drewN k) (fun _ i _ => n - (intOf i).toNat)
    case atStart => exact ⟨0, by omega, rfl, Or.inl ⟨rfl, fun ⟨i, j, h1, h2, _⟩ => by omega⟩, 0, rfl⟩
    case round =>
      obtain ⟨r, hr, rfl, hve, k, rfl⟩ := hrel
      rcases hve with ⟨rfl, HNT⟩ | rfl
      · by_cases hlt : r < n
        · obtain ⟨b, off, rfl, hc⟩ := HB1.out.2.sl r hlt
          obtain ⟨x, hx⟩ : ∃ x, x = z r := ⟨_, rfl⟩
          rw [← hx] at hc
          have hi1 : (r : Int) < (n : Int) := by omega
          have hi0 : (0 : Int) ≤ (r : Int) := by omega
          have hi2 : (r : Int) ≤ (ca : Int) := by omega
          have HI : Hid (∀ d, Calls Try.prog 96 #[.int .i64 x, .slice (some ⟨b, off, none⟩) r ca] (w1.drewN (k + d)) fun e w' => e = .returned (.bool (decide (x ∈ zl r z))) ∧ ∃ m, w' = w1.drewN (k + m)) := fun d => by
            refine (in_any (w := w1.drewN (k + d)) x ((arg_sliceI HB1.out.2 hr).drewN _)).mono ?_
            rintro e w' ⟨rfl, m, rfl⟩
            exact ⟨rfl, d + m, by rw [World.drewN_drewN, Nat.add_assoc]⟩
          by_cases hin : x ∈ zl r z
          · rw [decide_eq_true hin] at HI
            clear hin hx
            go_wp2
            go_big_quiet (first | (go_at_call 96; exact HI.out _))
            go_wp2
            go_roundw
            case rel => exact ⟨r + 1, by omega, by go_num, Or.inr rfl, _, by first | rfl | rw [World.drewN_drewN]⟩
            case measure => simp [intOf]; omega
          · rw [decide_eq_false hin] at HI
            have HN2 : Hid (¬ Twice (zc n z) (r + 1)) := fun ⟨i, j, h1, h2, h3⟩ => by
              by_cases e : j = r
              · subst e
                exact hin (zl_mem.2 ⟨i, h1, by rw [hx]; exact (zc_inj HA.out.2 (by omega) hlt).1 h3⟩)
              · exact HNT.out ⟨i, j, h1, by omega, h3⟩
            clear hin hx
            go_wp2
            go_big_quiet (first | (go_at_call 96; exact HI.out _))
            go_wp2
            go_roundw
            case rel => exact ⟨r + 1, by omega, by go_num, Or.inl ⟨rfl, HN2.out⟩, _, by first | rfl | rw [World.drewN_drewN]⟩
            case measure => simp [intOf]; omega
        · exact absurd HT.out (by rw [show n = r from by omega]; exact (show r = n from by omega) ▸ HNT.out)
      · by_cases hlt : (r : Int) < (n : Int)
        · go_wp2
          go_ret
          exact ⟨by first | rfl | simp, below_drewN2 HB1.out.1 _⟩
        · go_wp2
          go_ret
          exact ⟨by first | rfl | simp, below_drewN2 HB1.out.1 _⟩
end Go.Proofs.Ytmnkablobhdbjaa
