/- Texts of ours, one behind the other: Z5 Z6 Z7. -/
import Derived.Test.YtjkncdmbcckcdaaZZ2
/- A word that came: the reference's ReedWord. -/
namespace Go.Proofs.Ytjkncdmbcckcdaa
open Go.RowKit Go.Sort

set_option maxHeartbeats 8000000 in
set_option maxRecDepth 100000 in
theorem reedWord_any {D : FD} (hD : D ∈ fieldsL) {xo yo : Option Addr} {n cx m cy : Nat} {z y : Nat → Int} (k : Int) {w : World} (hX : Arg xo n cx z w) (hY : Arg yo m cy y w) :
    Calls Try.prog 40 #[.int .i64 D.q, .slice xo n cx, .int .i64 k, .slice yo m cy] w fun e w' => e = .returned (.int .i64 (D.wchk n z k m y)) ∧ Below w.heap.size w w' := by
  have HF : Hid (D ∈ fieldsL ∧ Arg xo n cx z w ∧ Arg yo m cy y w) := ⟨hD, hX, hY⟩
  obtain ⟨e0, he0⟩ : ∃ e0, e0 = D.rchk n z k := ⟨_, rfl⟩
  have HC : Hid (Calls Try.prog 83 #[.int .i64 D.q, .slice xo n cx, .int .i64 k] w fun e w' => e = .returned (.int .i64 e0) ∧ Below w.heap.size w w') := by rw [he0]; exact reedMay_any hD k hX
  have hn6 := hX.few
  have hm6 := hY.few
  have HE : Hid (D.wchk n z k m y = if e0 ≠ 0 then e0 else if m ≠ n then 6 else if D.allW y m = true then 0 else 2) := by show _ = _; rw [he0]; rfl
  clear hD hX hY he0
  by_cases h0 : e0 = 0
  · subst h0
    go_enter Try.func40, Try.ntmps40
    go_wp2_with fail
    refine HC.out.mono ?_
    rintro e w1 ⟨rfl, hb1⟩
    have H1 : Hid (Below w.heap.size w w1) := hb1
    clear hb1
    go_wp2_with fail
    refine (rfield_sl HF.out.1 w1).mono ?_
    rintro e w2 ⟨gm, cm, rfl, hmod, hb2⟩
    unfold rf
    obtain ⟨wa, hwa⟩ : ∃ wa, wa = w2.alloc (.cells #[.int .i64 D.q, .int .i64 D.p, .int .i64 D.m, .int .i64 D.gen, .slice (some ⟨gm, 0, none⟩) (D.m + 1) cm] 27) := ⟨_, rfl⟩
    have HA : Hid (Box w2.heap.size D D.gen (.slice (some ⟨gm, 0, none⟩) (D.m + 1) cm) wa ∧ wa.heap.size = w2.heap.size + 1 ∧ Below w.heap.size w wa) := by
      have hb : Below w2.heap.size w2 wa := by rw [hwa]; exact (Below.refl _ _).alloc (Nat.le_refl _) _
      exact ⟨by rw [hwa]; exact box_new D D.gen _ w2, by rw [hwa]; simp, bel_up' (bel_up' H1.out hb2) hb⟩
    clear hmod hb2
    by_cases hmn : m = n
    · subst hmn
      have HV : Hid (D.wchk m z k m y = if anyB (fun j => !D.wok (y j)) m = true then 2 else 0) := by
        show _ = _
        rw [HE.out, if_neg (by simp), if_neg (by simp)]
        show (if (!anyB (fun j => !D.wok (y j)) m) = true then (0 : Int) else 2) = _
        cases anyB (fun j => !D.wok (y j)) m <;> rfl
      go_wp2
      rw [← hwa]
      clear hwa
      go_loopw [12] (fun i wr => ∃ r : Nat, r ≤ m ∧ i = .int .i64 r ∧ Hid (anyB (fun j => !D.wok (y j)) r = false ∧ Below wa.heap.size wa wr)) (fun i _ => m - (intOf i).toNat)
      case atStart => exact ⟨0, by omega, rfl, rfl, Below.refl _ _⟩
      case round =>
        obtain ⟨r, hr, rfl, HP⟩ := hrel
        rename World => wr
        by_cases hlt : r < m
        · have hib : (r : Int) < (m : Int) := by omega
          have hib0 : (0 : Int) ≤ (r : Int) := by omega
          have hArg := HF.out.2.2.below (bel_up' HA.out.2.2 HP.out.2)
          obtain ⟨bx, ox, hxo, hcx⟩ := hArg.sl r hlt
          subst hxo
          obtain ⟨x, hx⟩ : ∃ x, x = y r := ⟨_, rfl⟩
          rw [← hx] at hcx
          obtain ⟨hb0, hh0⟩ : ∃ hb0, hb0 = D.has x := ⟨_, rfl⟩
          have HC1 : Hid (∀ d os, Calls Try.prog 84 #[.agg #[.int .i64 D.q, .int .i64 D.p, .int .i64 D.m, .int .i64 D.gen, .slice (some ⟨gm, 0, none⟩) (D.m + 1) cm], .int .i64 x] (grow (redrawn wr d) os) fun e w'' => e = .returned (.bool hb0) ∧ ∃ p : Regrown, w'' = grow (redrawn wr p.d) p.os) := fun d os => by
            rw [hh0]
            exact Calls.regrown_of (rhas_any D D.gen _ x _)
          have HN : Hid (anyB (fun j => !D.wok (y j)) (r + 1) = !(decide (x = -1) || hb0)) := by
            show (anyB (fun j => !D.wok (y j)) r || !D.wok (y r)) = _
            rw [HP.out.1, Bool.false_or, hh0, hx]; rfl
          have hbx := HA.out.1.below (B := wa.heap.size) HP.out.2 (by have := HA.out.2.1; omega)
          have k0 := cell_regrown hbx.c0
          have k1 := cell_regrown hbx.c1
          have k2 := cell_regrown hbx.c2
          have k3 := cell_regrown hbx.c3
          have k4 := cell_regrown hbx.c4
          have k5 := cell_regrown hcx
          have HB2 : Hid (Below w.heap.size w wr ∧ Below wa.heap.size wa wr) := ⟨bel_up' HA.out.2.2 HP.out.2, HP.out.2⟩
          clear hx hh0 hArg hbx hcx
          by_cases hx1 : x = -1
          · have hz : (x != -1) = false := by rw [hx1]; rfl
            have HN2 : Hid (anyB (fun j => !D.wok (y j)) (r + 1) = false) := by show _ = _; rw [HN.out, decide_eq_true hx1]; rfl
            clear hx1
            go_wp2
            refine wp_region_quiet_below (by kernel_rfl) (by kernel_rfl) ?_
            repeat (go_big_quiet_step (first | (go_at_call 84; exact HC1.out _ _)))
            refine wpQuiet_nil ?_
            intro _ hw'
            obtain ⟨⟨dr, osr⟩, hw''⟩ := hw'
            subst hw''
            go_wp2
            go_roundw
            case rel => exact ⟨r + 1, by omega, by go_num, HN2.out, bel_up' HB2.out.2 (below_regrown wr dr osr)⟩
            case measure => simp [intOf]; omega
          · have hz : (x != -1) = true := by rw [bne_iff_ne]; exact hx1
            have HN2 : Hid (anyB (fun j => !D.wok (y j)) (r + 1) = !hb0) := by show _ = _; rw [HN.out, decide_eq_false hx1]; rfl
            clear hx1
            cases hb0 with
            | true =>
              go_wp2
              refine wp_region_quiet_below (by kernel_rfl) (by kernel_rfl) ?_
              repeat (go_big_quiet_step (first | (go_at_call 84; exact HC1.out _ _)))
              refine wpQuiet_nil ?_
              intro _ hw'
              obtain ⟨⟨dr, osr⟩, hw''⟩ := hw'
              subst hw''
              go_wp2
              go_roundw
              case rel => exact ⟨r + 1, by omega, by go_num, HN2.out, bel_up' HB2.out.2 (below_regrown wr dr osr)⟩
              case measure => simp [intOf]; omega
            | false =>
              have HV2 : Hid (D.wchk m z k m y = 2) := by
                show _ = _
                have h2 : anyB (fun j => !D.wok (y j)) (r + 1) = true := HN2.out
                have h3 : (fun j => !D.wok (y j)) r = true := by
                  have h4 : (anyB (fun j => !D.wok (y j)) r || !D.wok (y r)) = true := h2
                  rw [HP.out.1, Bool.false_or] at h4; exact h4
                rw [HV.out, anyB_yes h3 m hlt]; rfl
              go_wp2
              refine wp_region_quiet_below (by kernel_rfl) (by kernel_rfl) ?_
              repeat (go_big_quiet_step (first | (go_at_call 84; exact HC1.out _ _)))
              refine wpQuiet_nil ?_
              intro _ hw'
              obtain ⟨⟨dr, osr⟩, hw''⟩ := hw'
              subst hw''
              go_wp2
              go_ret
              exact ⟨ret_int (by rw [HV2.out]), bel_up' HB2.out.1 (below_regrown wr dr osr)⟩
        · have hib : ¬ (r : Int) < (m : Int) := by omega
          have hre : m = r := by omega
          subst hre
          have HV2 : Hid (D.wchk m z k m y = 0) := by show _ = _; rw [HV.out, HP.out.1]; rfl
          have H3 : Hid (Below w.heap.size w wr) := bel_up' HA.out.2.2 HP.out.2
          go_wp2
          go_ret
          exact ⟨ret_int (by rw [HV2.out]), H3.out⟩
    · have HV : Hid (D.wchk n z k m y = 6) := by show _ = _; rw [HE.out, if_neg (by simp), if_pos hmn]
      have hz : (((m : Nat) : Int) != ((n : Nat) : Int)) = true := by rw [bne_iff_ne]; omega
      go_wp2
      go_ret
      rw [← hwa]
      exact ⟨ret_int (by rw [HV.out]), HA.out.2.2⟩
  · have HV : Hid (D.wchk n z k m y = e0) := by show _ = _; rw [HE.out, if_pos h0]
    have hz : (e0 != 0) = true := by rw [bne_iff_ne]; exact h0
    clear h0
    go_enter Try.func40, Try.ntmps40
    go_wp2_with fail
    refine HC.out.mono ?_
    rintro e w1 ⟨rfl, hb1⟩
    have H1 : Hid (Below w.heap.size w w1) := hb1
    clear hb1
    go_wp2
    go_ret
    exact ⟨ret_int (by rw [HV.out]), H1.out⟩
end Go.Proofs.Ytjkncdmbcckcdaa

/- Whole words, and how many messages there are: the program's checkWhole, messages, digits; the law's wholeWord; the reference's Few. -/
namespace Go.Proofs.Ytjkncdmbcckcdaa
open Go.RowKit Go.Sort

def FD.hchk (D : FD) (n : Nat) (z : Nat → Int) (k : Int) (m : Nat) (y : Nat → Int) : Int := if D.wchk n z k m y ≠ 0 then D.wchk n z k m y else if (-1 : Int) ∈ zl m y then 2 else 0
theorem wchk_ok {D : FD} {n m : Nat} {z y : Nat → Int} {k : Int} (h : D.wchk n z k m y = 0) : D.rchk n z k = 0 ∧ m = n ∧ ∀ j, j < m → D.wok (y j) = true := by
  unfold FD.wchk at h
  by_cases h1 : D.rchk n z k = 0
  · rw [if_neg (fun x => x h1)] at h
    by_cases h2 : m = n
    · rw [if_neg (fun x => x h2)] at h
      refine ⟨h1, h2, fun j hj => ?_⟩
      by_cases h3 : D.allW y m = true
      · unfold FD.allW at h3
        cases e : D.wok (y j) with
        | true => rfl
        | false =>
          rw [anyB_yes (p := fun j => !D.wok (y j)) (i := j) (by show (!D.wok (y j)) = true; rw [e]; rfl) m hj] at h3
          cases h3
      · rw [if_neg h3] at h; cases h
    · rw [if_pos h2] at h; cases h
  · rw [if_pos h1] at h; exact absurd h h1
theorem neg_in {D : FD} {m : Nat} {y : Nat → Int} (h : ∀ j, j < m → D.wok (y j) = true) : anyB (fun j => decide (y j < 0)) m = decide ((-1 : Int) ∈ zl m y) := by
  by_cases hm : (-1 : Int) ∈ zl m y
  · rw [decide_eq_true hm]
    unfold zl at hm
    obtain ⟨j, hj, e⟩ := List.mem_map.1 hm
    exact anyB_yes (i := j) (decide_eq_true (by rw [e]; omega)) m (List.mem_range.1 hj)
  · rw [decide_eq_false hm]
    refine anyB_no m (fun j hj => decide_eq_false (fun hneg => hm ?_))
    have h1 := h j hj
    unfold FD.wok at h1
    rcases Bool.or_eq_true _ _ ▸ h1 with h2 | h2
    · unfold zl
      exact List.mem_map.2 ⟨j, List.mem_range.2 hj, of_decide_eq_true h2⟩
    · obtain ⟨t, e, _⟩ := has_nat h2
      omega
theorem enters_whole : ∀ args w, (callFunc 88 args).run Try.prog w = .ok (.enter 88 args) w :=
  enters_of Try.func88 (by kernel_rfl) rfl
set_option maxHeartbeats 2000000 in
theorem whole1_any (x : Int) (w : World) : Calls Try.prog 88 #[.int .i64 x] w fun e w' => e = .returned (.bool (decide (x < 0))) ∧ w' = w := by
  go_enter Try.func88, Try.ntmps88
  go_wp2
  go_ret
  exact ⟨rfl, rfl⟩

set_option maxHeartbeats 4000000 in
set_option maxRecDepth 100000 in
theorem checkWhole_any {D : FD} (hD : D ∈ fieldsL) {xo yo : Option Addr} {n cx m cy : Nat} {z y : Nat → Int} (k : Int) {w : World} (hX : Arg xo n cx z w) (hY : Arg yo m cy y w) :
    Calls Try.prog 48 #[.int .i64 D.q, .slice xo n cx, .int .i64 k, .slice yo m cy] w fun e w' => e = .returned (.int .i64 (D.hchk n z k m y)) ∧ Below w.heap.size w w' := by
  obtain ⟨e0, he0⟩ : ∃ e0, e0 = D.wchk n z k m y := ⟨_, rfl⟩
  have HC : Hid (Calls Try.prog 86 #[.int .i64 D.q, .slice xo n cx, .int .i64 k, .slice yo m cy] w fun e w' => e = .returned (.int .i64 e0) ∧ Below w.heap.size w w') := by rw [he0]; exact word_any hD k hX hY
  have HY : Hid (Arg yo m cy y w) := hY
  by_cases h0 : e0 = 0
  · obtain ⟨ab, hab⟩ : ∃ ab, ab = decide ((-1 : Int) ∈ zl m y) := ⟨_, rfl⟩
    have HV : Hid (D.hchk n z k m y = if ab = true then 2 else 0) := by
      show _ = _
      unfold FD.hchk
      rw [← he0, if_neg (fun x => x h0), hab]
      by_cases e : (-1 : Int) ∈ zl m y
      · rw [if_pos e, decide_eq_true e]; rfl
      · rw [if_neg e, decide_eq_false e]; rfl
    have HCf : Hid (∀ wx cap, Below w.heap.size w wx → Calls Try.prog 87 #[.slice yo m cap, .func (.func 88) #[] #[]] wx fun e w' => e = .returned (.bool ab) ∧ w' = wx) := fun wx cap hx => by
      rw [hab, ← neg_in (wchk_ok (he0.symm.trans h0)).2.2]
      exact containsFn_any enters_whole (HY.out.below hx).sl hY.few (fun j _ => whole1_any (y j) wx)
    subst h0
    clear hD hX hY he0 hab
    go_enter Try.func48, Try.ntmps48
    go_wp2_with fail
    refine HC.out.mono ?_
    rintro e w1 ⟨rfl, hb1⟩
    have H1 : Hid (Below w.heap.size w w1) := hb1
    clear hb1
    cases ab
    · go_wp2_with (go_at_call 87; refine (HCf.out _ _ H1.out).mono ?_; rintro e w' ⟨rfl, hw⟩; have hw := hw.symm; subst hw)
      go_ret
      exact ⟨ret_int (by rw [HV.out]; rfl), H1.out⟩
    · go_wp2_with (go_at_call 87; refine (HCf.out _ _ H1.out).mono ?_; rintro e w' ⟨rfl, hw⟩; have hw := hw.symm; subst hw)
      go_ret
      exact ⟨ret_int (by rw [HV.out]; rfl), H1.out⟩
  · have HV : Hid (D.hchk n z k m y = e0) := by show _ = _; unfold FD.hchk; rw [← he0, if_pos h0]
    have hz : (e0 != 0) = true := by rw [bne_iff_ne]; exact h0
    clear h0 hD hX hY he0
    go_enter Try.func48, Try.ntmps48
    go_wp2_with fail
    refine HC.out.mono ?_
    rintro e w1 ⟨rfl, hb1⟩
    have H1 : Hid (Below w.heap.size w w1) := hb1
    clear hb1
    go_wp2
    go_ret
    exact ⟨ret_int (by rw [HV.out]), H1.out⟩

set_option maxHeartbeats 4000000 in
set_option maxRecDepth 100000 in
theorem wholeWord_any {D : FD} (hD : D ∈ fieldsL) {xo yo : Option Addr} {n cx m cy : Nat} {z y : Nat → Int} (k : Int) {w : World} (hX : Arg xo n cx z w) (hY : Arg yo m cy y w) :
    Calls Try.prog 9 #[.int .i64 D.q, .slice xo n cx, .int .i64 k, .slice yo m cy] w fun e w' => e = .returned (.int .i64 (D.hchk n z k m y)) ∧ Below w.heap.size w w' := by
  obtain ⟨e0, he0⟩ : ∃ e0, e0 = D.wchk n z k m y := ⟨_, rfl⟩
  have HC : Hid (Calls Try.prog 40 #[.int .i64 D.q, .slice xo n cx, .int .i64 k, .slice yo m cy] w fun e w' => e = .returned (.int .i64 e0) ∧ Below w.heap.size w w') := by rw [he0]; exact reedWord_any hD k hX hY
  have HY : Hid (Arg yo m cy y w) := hY
  by_cases h0 : e0 = 0
  · obtain ⟨ab, hab⟩ : ∃ ab, ab = decide ((-1 : Int) ∈ zl m y) := ⟨_, rfl⟩
    have HV : Hid (D.hchk n z k m y = if ab = true then 2 else 0) := by
      show _ = _
      unfold FD.hchk
      rw [← he0, if_neg (fun x => x h0), hab]
      by_cases e : (-1 : Int) ∈ zl m y
      · rw [if_pos e, decide_eq_true e]; rfl
      · rw [if_neg e, decide_eq_false e]; rfl
    have HCf : Hid (∀ wx, Below w.heap.size w wx → Calls Try.prog 41 #[.int .i64 (-1), .slice yo m cy] wx fun e w' => e = .returned (.bool ab) ∧ ∃ k, w' = wx.drewN k) := fun wx hx => by
      rw [hab]
      exact in_any (-1) (arg_sliceI (HY.out.below hx) (Nat.le_refl _))
    subst h0
    clear hD hX hY he0 hab
    go_enter Try.func9, Try.ntmps9
    go_wp2_with fail
    refine HC.out.mono ?_
    rintro e w1 ⟨rfl, hb1⟩
    have H1 : Hid (Below w.heap.size w w1) := hb1
    clear hb1
    cases ab
    · go_wp2_with (go_at_call 41; refine (HCf.out _ H1.out).mono ?_; rintro e w' ⟨rfl, kd, rfl⟩)
      go_ret
      exact ⟨ret_int (by rw [HV.out]; rfl), below_drewN2 H1.out _⟩
    · go_wp2_with (go_at_call 41; refine (HCf.out _ H1.out).mono ?_; rintro e w' ⟨rfl, kd, rfl⟩)
      go_ret
      exact ⟨ret_int (by rw [HV.out]; rfl), below_drewN2 H1.out _⟩
  · have HV : Hid (D.hchk n z k m y = e0) := by show _ = _; unfold FD.hchk; rw [← he0, if_pos h0]
    have hz : (e0 == 0) = false := by rw [beq_eq_false_iff_ne]; exact h0
    clear h0 hD hX hY he0
    go_enter Try.func9, Try.ntmps9
    go_wp2_with fail
    refine HC.out.mono ?_
    rintro e w1 ⟨rfl, hb1⟩
    have H1 : Hid (Below w.heap.size w w1) := hb1
    clear hb1
    go_wp2
    go_ret
    exact ⟨ret_int (by rw [HV.out]), H1.out⟩
end Go.Proofs.Ytjkncdmbcckcdaa

/- How many messages there are, and each by its number: the reference's Few, the program's messages, digits. -/
namespace Go.Proofs.Ytjkncdmbcckcdaa
open Go.RowKit Go.Sort

theorem pow_more {q i k : Nat} (hq : 2 ≤ q) (hi : i ≤ k) (h : 4096 < q ^ i) : 4096 < q ^ k := Nat.lt_of_lt_of_le h (Nat.pow_le_pow_right (by omega) hi)

set_option maxHeartbeats 2000000 in
theorem few_any {q k : Nat} (hq : 2 ≤ q) (hq2 : q ≤ 64) (hk : k ≤ 1000) (w : World) :
    Calls Try.prog 10 #[.int .i64 q, .int .i64 k] w fun e w' => e = .returned (.bool (decide (q ^ k ≤ 4096))) ∧ w' = w := by
  obtain ⟨ab, hab⟩ : ∃ ab, ab = decide (q ^ k ≤ 4096) := ⟨_, rfl⟩
  have HA : Hid (ab = decide (q ^ k ≤ 4096)) := hab
  rw [← hab]
  clear hab
  go_enter Try.func10, Try.ntmps10
  go_wp2
  go_loopw [5, 6] (fun vn vi wr => ∃ (i p : Nat), i ≤ k ∧ p ≤ 4096 ∧ vn = .int .i64 (p : Nat) ∧ vi = .int .i64 i ∧ Hid (p = q ^ i) ∧ wr = w) (fun _ vi _ => k - (intOf vi).toNat)
  case atStart => exact ⟨0, 1, by omega, by omega, rfl, rfl, rfl, rfl⟩
  case round =>
    obtain ⟨i, p, hi, hp, rfl, rfl, HP, hw⟩ := hrel
    have hw := hw.symm
    subst hw
    by_cases hlt : i < k
    · have hib : (i : Int) < (k : Int) := by omega
      obtain ⟨r, hr⟩ : ∃ r, r = p * q := ⟨_, rfl⟩
      have hr2 : r ≤ 262144 := by rw [hr]; exact Nat.mul_le_mul hp hq2
      have hw1 : IntKind.i64.wrap ((p : Int) * (q : Int)) = (r : Int) := wrap_to (by rw [hr]; simp) (by omega)
      have hw2 : (p : Int) * (q : Int) = (r : Int) := by rw [hr]; simp
      have HR : Hid (r = q ^ (i + 1)) := by show r = _; rw [hr, HP.out, Nat.pow_succ]
      clear hr
      by_cases h4 : 4096 < r
      · have hz : (4096 : Int) < (r : Int) := by omega
        have HV : Hid (ab = false) := by
          show ab = false
          rw [HA.out, decide_eq_false]
          have := pow_more (q := q) (i := i + 1) (k := k) hq (by omega) (by rw [← HR.out]; exact h4)
          omega
        go_wp2
        go_ret
        exact ⟨by rw [HV.out]; rfl, rfl⟩
      · have hz : ¬ (4096 : Int) < (r : Int) := by omega
        go_wp2
        go_roundw
        case rel => exact ⟨i + 1, r, by omega, by omega, by first | rfl | go_num, by go_num, HR.out, by first | rfl | trivial⟩
        case measure => simp [intOf]; omega
    · have hib : ¬ (i : Int) < (k : Int) := by omega
      have hie : k = i := by omega
      subst hie
      have HV : Hid (ab = true) := by show ab = true; rw [HA.out, ← HP.out, decide_eq_true hp]
      go_wp2
      go_ret
      exact ⟨by rw [HV.out]; rfl, rfl⟩

set_option maxHeartbeats 2000000 in
theorem messages_any {q k N : Nat} (hN : N = q ^ k) (hq : 2 ≤ q) (hq2 : q ≤ 64) (hk : k ≤ 1000) (w : World) :
    Calls Try.prog 49 #[.int .i64 q, .int .i64 k] w fun e w' => w' = w ∧ ((N ≤ 4096 ∧ e = .returned (.tuple #[.int .i64 (N : Nat), .int .i64 0])) ∨ (4096 < N ∧ e = .returned (.tuple #[.int .i64 0, .int .i64 4]))) := by
  have HN : Hid (N = q ^ k) := hN
  clear hN
  go_enter Try.func49, Try.ntmps49
  go_wp2
  go_loopw [6, 8] (fun vn vi wr => ∃ (i p : Nat), i ≤ k ∧ p ≤ 4096 ∧ vn = .int .i64 (p : Nat) ∧ vi = .int .i64 i ∧ Hid (p = q ^ i) ∧ wr = w) (fun _ vi _ => k - (intOf vi).toNat)
  case atStart => exact ⟨0, 1, by omega, by omega, rfl, rfl, rfl, rfl⟩
  case round =>
    obtain ⟨i, p, hi, hp, rfl, rfl, HP, hw⟩ := hrel
    have hw := hw.symm
    subst hw
    by_cases hlt : i < k
    · have hib : (i : Int) < (k : Int) := by omega
      obtain ⟨r, hr⟩ : ∃ r, r = p * q := ⟨_, rfl⟩
      have hr2 : r ≤ 262144 := by rw [hr]; exact Nat.mul_le_mul hp hq2
      have hw1 : IntKind.i64.wrap ((p : Int) * (q : Int)) = (r : Int) := wrap_to (by rw [hr]; simp) (by omega)
      have hw2 : (p : Int) * (q : Int) = (r : Int) := by rw [hr]; simp
      have HR : Hid (r = q ^ (i + 1)) := by show r = _; rw [hr, HP.out, Nat.pow_succ]
      clear hr
      by_cases h4 : 4096 < r
      · have hz : (4096 : Int) < (r : Int) := by omega
        have HV : Hid (4096 < N) := by
          show 4096 < N
          rw [HN.out]
          exact pow_more (q := q) (i := i + 1) (k := k) hq (by omega) (by rw [← HR.out]; exact h4)
        go_wp2
        go_ret2
        exact ⟨rfl, Or.inr ⟨HV.out, rfl⟩⟩
      · have hz : ¬ (4096 : Int) < (r : Int) := by omega
        go_wp2
        go_roundw
        case rel => exact ⟨i + 1, r, by omega, by omega, by first | rfl | go_num, by go_num, HR.out, by first | rfl | trivial⟩
        case measure => simp [intOf]; omega
    · have hib : ¬ (i : Int) < (k : Int) := by omega
      have hie : k = i := by omega
      subst hie
      go_wp2
      go_ret2
      exact ⟨rfl, Or.inl ⟨by rw [HN.out, ← HP.out]; exact hp, by rw [HN.out, ← HP.out]; rfl⟩⟩

/-- The digits of a number, the greatest first. -/
def dgs (q k a : Nat) : Nat → Nat := fun j => if j < k then a / q ^ (k - 1 - j) % q else 0
set_option maxHeartbeats 4000000 in
set_option maxRecDepth 100000 in
theorem ldigits_any {q k a : Nat} (hq : 2 ≤ q) (hq2 : q ≤ 64) (hk : k ≤ 1000) (ha : a ≤ 1000000) (w : World) :
    Calls Try.prog 50 #[.int .i64 q, .int .i64 k, .int .i64 a] w fun e w' => e = .returned (.slice (some ⟨w.heap.size, 0, none⟩) k k) ∧ Row w.heap.size k (dgs q k a) w' ∧ Below w.heap.size w w' := by
  go_enter Try.func50, Try.ntmps50
  go_wp2_with (at_make; refine make_int rfl _ _ rfl _ k rfl rfl (by omega) (by omega) ?_; intro w1 hown1 hgrow1)
  have HB1 : Hid (Below w.heap.size w w1 ∧ Row w.heap.size k pnil w1) := ⟨below_grown hgrow1 (Nat.le_refl _) (fun k hk => by simp at hk), row_zeros hown1⟩
  clear hown1 hgrow1
  obtain ⟨gr, hg⟩ : ∃ g, g = w.heap.size := ⟨_, rfl⟩
  have HB2 : Hid (Below w.heap.size w w1 ∧ Row gr k pnil w1 ∧ gr = w.heap.size) := by rw [hg]; exact ⟨HB1.out.1, HB1.out.2, rfl⟩
  rw [← hg]
  have hgD : w.heap.size ≤ gr := by omega
  clear HB1 hg
  go_loopw [2, 8] (fun va vi wr => ∃ (t b : Nat), t ≤ k ∧ b ≤ 1000000 ∧ va = .int .i64 (b : Nat) ∧ vi = .int .i64 ((t : Int) - 1) ∧ Hid (b = a / q ^ (k - t) ∧ Row gr k (fun j => if t ≤ j then dgs q k a j else 0) wr ∧ Below w.heap.size w wr)) (fun _ vi _ => (intOf vi + 1).toNat)
  case atStart => exact ⟨k, a, Nat.le_refl _, ha, rfl, by first | rfl | go_num, by rw [Nat.sub_self]; simp, HB2.out.2.1.congr (fun j hj => by rw [if_neg (by omega)]; rfl), HB2.out.1⟩
  case round =>
    obtain ⟨t, b, ht, hb, rfl, hvi, HK⟩ := hrel
    rename World => wr
    cases t with
    | succ s =>
      have hi' : u8 = .int .i64 (s : Int) := by rw [hvi]; go_num
      clear hvi
      subst hi'
      obtain ⟨r, hr⟩ : ∃ r, r = b % q := ⟨_, rfl⟩
      obtain ⟨d, hd⟩ : ∃ d, d = b / q := ⟨_, rfl⟩
      have hdb : d ≤ 1000000 := by rw [hd]; exact Nat.le_trans (Nat.div_le_self _ _) hb
      have hr1 : Int.tmod (b : Int) (q : Int) = (r : Int) := by rw [hr]; rfl
      have hd1 : Int.tdiv (b : Int) (q : Int) = (d : Int) := by rw [hd]; rfl
      have hrb : r < 64 := by rw [hr]; exact Nat.lt_of_lt_of_le (Nat.mod_lt _ (by omega)) hq2
      have hw1 : IntKind.i64.wrap (r : Int) = (r : Int) := wrap_to rfl (by omega)
      have hw2 : IntKind.i64.wrap (d : Int) = (d : Int) := wrap_to rfl (by omega)
      have hq0 : ((q : Int) == 0) = false := by rw [beq_eq_false_iff_ne]; omega
      have hq1 : ((q : Int) == -1) = false := by rw [beq_eq_false_iff_ne]; omega
      obtain ⟨xv, hxv⟩ : ∃ v, wr.cell? ⟨gr, s, none⟩ = some v := ⟨_, HK.out.2.1.cell s (by omega)⟩
      have hfo := HK.out.2.1.free s
      have hsb : (s : Int) < (k : Int) := by omega
      have hs0 : (0 : Int) ≤ (s : Int) := by omega
      have HV : Hid ((∀ j, j < k → (if s ≤ j then dgs q k a j else 0) = if j = s then r else if s + 1 ≤ j then dgs q k a j else 0) ∧ d = a / q ^ (k - s)) := by
        refine ⟨fun j hj => ?_, ?_⟩
        · by_cases e : j = s
          · rw [if_pos e, if_pos (by omega), hr, HK.out.1, e]
            unfold dgs
            rw [if_pos (by omega), show k - 1 - s = k - (s + 1) from by omega]
          · rw [if_neg e]
            by_cases e2 : s + 1 ≤ j
            · rw [if_pos e2, if_pos (by omega)]
            · rw [if_neg e2, if_neg (by omega)]
        · rw [hd, HK.out.1, Nat.div_div_eq_div_mul, ← Nat.pow_succ, show (k - (s + 1)).succ = k - s from by omega]
      clear hr hd
      go_wp2
      go_roundw
      case rel => exact ⟨s, d, by omega, hdb, by first | rfl | go_num, by go_num, HV.out.2, HK.out.2.1.store s r HV.out.1, HK.out.2.2.setCell hgD _⟩
      case measure => simp [intOf]
    | zero =>
      have hi' : u8 = .int .i64 (-1) := by rw [hvi]; rfl
      clear hvi
      subst hi'
      have HE : Hid (Row gr k (dgs q k a) wr) := HK.out.2.1.congr (fun j _ => by rw [if_pos (by omega)])
      go_wp2
      go_ret
      exact ⟨by rw [← HB2.out.2.2]; rfl, by rw [← HB2.out.2.2]; exact HE.out, HK.out.2.2⟩
end Go.Proofs.Ytjkncdmbcckcdaa
