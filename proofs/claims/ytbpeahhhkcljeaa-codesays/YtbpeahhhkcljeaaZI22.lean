/- Texts of ours, one behind the other: I22 I23 S12 I24. -/
import Derived.Test.YtbpeahhhkcljeaaZI19
import Derived.Test.YtbpeahhhkcljeaaZS4
/- Encoded: the reference's sum of rows. -/
namespace Go.Proofs.Ytbpeahhhkcljeaa
open Go.RowKit Go.Sort

theorem enw_zero {D : FD} (F : Fld D) {R : Nat → Nat → Nat} {z : Nat → Nat} {k : Nat} (h : z k = 0) : enw D R z (k + 1) = enw D R z k := by
  funext c
  show D.ad (enw D R z k c) (D.mul (z k) (R k c)) = _
  rw [h, zero_mul' D, ad_zero F (enw_el F k c)]

set_option maxHeartbeats 16000000 in
set_option maxRecDepth 100000 in
theorem rencoded_any {D : FD} (hD : D ∈ fieldsL) (gen gm cm : Nat) {ro yo : Option Addr} {k n rc cy : Nat} {R : Nat → Nat → Nat} {z : Nat → Nat} {w : World} (hn : n ≤ 64) (hk : k ≤ 64) (hR : ∀ i, i < k → El D (R i)) (hz : ∀ i, i < k → z i < D.q) (hL : RL (.slice ro k rc) k n R w) (hY : Sl yo k z w) (hly : LtB yo w.heap.size) (hM : ModAt D (.slice (some ⟨gm, 0, none⟩) (D.m + 1) cm) D.md w) :
    Calls Try.prog 70 #[.agg #[.int .i64 D.q, .int .i64 D.p, .int .i64 D.m, .int .i64 gen, .slice (some ⟨gm, 0, none⟩) (D.m + 1) cm], .agg #[.int .i64 D.q, .int .i64 (n : Nat), .slice ro k rc], .slice yo k cy] w fun e w' => e = .returned (.slice (some ⟨w.heap.size + 1 + 1, 0, none⟩) n n) ∧ Row (w.heap.size + 1 + 1) n (enw D R z k) w' ∧ Below w.heap.size w w' := by
  obtain ⟨w0, hw0⟩ : ∃ w0, w0 = (w.alloc (.cells #[.int .i64 D.q, .int .i64 D.p, .int .i64 D.m, .int .i64 gen, .slice (some ⟨gm, 0, none⟩) (D.m + 1) cm] 28)).alloc (.cells #[.int .i64 D.q, .int .i64 (n : Nat), .slice ro k rc] 43) := ⟨_, rfl⟩
  have HW : Hid (Below w.heap.size w w0 ∧ Box w.heap.size D gen (.slice (some ⟨gm, 0, none⟩) (D.m + 1) cm) w0 ∧ CB (w.heap.size + 1) D.q n (.slice ro k rc) w0) ∧ w0.heap.size = w.heap.size + 1 + 1 := by
    have h1 : Below w.heap.size w (w.alloc (.cells #[.int .i64 D.q, .int .i64 D.p, .int .i64 D.m, .int .i64 gen, .slice (some ⟨gm, 0, none⟩) (D.m + 1) cm] 28)) := (Below.refl _ _).alloc (Nat.le_refl _) _
    have h2 := CB.new D.q n (.slice ro k rc) (w.alloc (.cells #[.int .i64 D.q, .int .i64 D.p, .int .i64 D.m, .int .i64 gen, .slice (some ⟨gm, 0, none⟩) (D.m + 1) cm] 28))
    rw [show (w.alloc (.cells #[.int .i64 D.q, .int .i64 D.p, .int .i64 D.m, .int .i64 gen, .slice (some ⟨gm, 0, none⟩) (D.m + 1) cm] 28)).heap.size = w.heap.size + 1 by simp] at h2
    have h3 : Below (w.alloc (.cells #[.int .i64 D.q, .int .i64 D.p, .int .i64 D.m, .int .i64 gen, .slice (some ⟨gm, 0, none⟩) (D.m + 1) cm] 28)).heap.size (w.alloc (.cells #[.int .i64 D.q, .int .i64 D.p, .int .i64 D.m, .int .i64 gen, .slice (some ⟨gm, 0, none⟩) (D.m + 1) cm] 28)) w0 := by rw [hw0]; exact (Below.refl _ _).alloc (Nat.le_refl _) _
    refine ⟨⟨bel_up' h1 h3, (box_new D gen _ w).below h3 (by simp), ?_⟩, by rw [hw0]; simp⟩
    rw [hw0]; exact h2
  obtain ⟨HW, hw0s⟩ := HW
  have HF : Hid (D ∈ fieldsL ∧ (∀ i, i < k → El D (R i)) ∧ (∀ i, i < k → z i < D.q) ∧ RL (.slice ro k rc) k n R w0 ∧ Sl yo k z w0 ∧ LtB yo w0.heap.size ∧ ModAt D (.slice (some ⟨gm, 0, none⟩) (D.m + 1) cm) D.md w) := ⟨hD, hR, hz, hL.below HW.out.1, hY.below HW.out.1 hly, fun x hx => Nat.lt_of_lt_of_le (hly x hx) HW.out.1.size, hM⟩
  clear hD hR hz hL hY hly hM
  go_enter Try.func70, Try.ntmps70
  obtain ⟨p0, p1, p2⟩ := HW.out.2.2
  rw [hw0] at p0 p1 p2
  go_wp2_with (at_make; refine make_int rfl _ _ rfl _ n rfl rfl (by omega) (by omega) ?_; intro w1 hown1 hgrow1)
  have H1 : Hid (Row (w.heap.size + 1 + 1) n pnil w1 ∧ Below w0.heap.size w0 w1) := by
    rw [← hw0s, hw0]
    exact ⟨row_zeros hown1, below_grown hgrow1 (Nat.le_refl _) (fun k hk => by simp at hk)⟩
  clear hown1 hgrow1 hw0 p0 p1 p2
  obtain ⟨G, hG⟩ : ∃ G, G = w.heap.size + 1 + 1 := ⟨_, rfl⟩
  rw [← hG] at H1 hw0s
  first | rw [← hG] | skip
  have HG0 : Hid (G = w.heap.size + 1 + 1) := hG
  have hGw : w.heap.size + 1 < G := by omega
  have hG0 : w0.heap.size ≤ G := by omega
  have hW0 : w.heap.size < w0.heap.size := by omega
  clear hG hw0s
  go_wp2_with fail
  go_loopw [8] (fun vi wr => ∃ i : Nat, i ≤ k ∧ vi = .int .i64 i ∧ Hid (Row G n (enw D R z i) wr ∧ Below w0.heap.size w0 wr)) (fun vi _ => k - (intOf vi).toNat)
  case atStart => exact ⟨0, by omega, rfl, H1.out⟩
  case round =>
    clear H1
    obtain ⟨i, hi, rfl, HG⟩ := hrel
    rename World => wA
    by_cases hlt : i < k
    · have hib : (i : Int) < (k : Int) := by omega
      have hib0 : (0 : Int) ≤ (i : Int) := by omega
      obtain ⟨x, hx⟩ : ∃ x, x = z i := ⟨_, rfl⟩
      have HX : Hid (x = z i ∧ x < D.q) := ⟨hx, by rw [hx]; exact HF.out.2.2.1 i hlt⟩
      clear hx
      go_wp2_with fail
      go_loopw [9] (fun vj wi => ∃ j : Nat, j ≤ n ∧ vj = .int .i64 j ∧ Hid (Row G n (fun c => if c < j then enw D R z (i + 1) c else enw D R z i c) wi ∧ Below w0.heap.size w0 wi)) (fun vj _ => n - (intOf vj).toNat)
      case atStart => exact ⟨0, by omega, rfl, HG.out.1.congr (fun c _ => by rw [if_neg (by omega)]), HG.out.2⟩
      case round =>
        clear HG
        obtain ⟨j, hj, rfl, HJ⟩ := hrel
        rename World => wC
        have hb := HJ.out.2
        obtain ⟨p0, p1, p2⟩ := HW.out.2.2.keep hb
        by_cases hjn : j < n
        · have hjb : (j : Int) < (n : Int) := by omega
          have hjb0 : (0 : Int) ≤ (j : Int) := by omega
          obtain ⟨bY, oY, hyo, hcy⟩ := (HF.out.2.2.2.2.1.below hb HF.out.2.2.2.2.2.1) i hlt
          subst hyo
          rw [← HX.out.1] at hcy
          by_cases hx0 : x = 0
          · have hxz : (((x : Nat) : Int) != 0) = false := by rw [hx0]; rfl
            have HK2 : Hid (Row G n (enw D R z (i + 1)) wC) := HJ.out.1.congr (fun c _ => by
              have e := enw_zero (fld HF.out.1) (R := R) (z := z) (k := i) (by rw [← HX.out.1]; exact hx0)
              rw [e]; split <;> rfl)
            clear hx0 hb
            go_wp2
            go_roundw
            case rel => exact ⟨i + 1, by omega, by go_num, HK2.out, HJ.out.2⟩
            case measure => simp [intOf]; omega
          · have hxz : (((x : Nat) : Int) != 0) = true := by rw [bne_iff_ne]; omega
            clear hx0
            obtain ⟨ro', rc', ev, hrl⟩ := HF.out.2.2.2.1.below hb
            cases ev
            obtain ⟨bR, oR, xr, cx, hro, hcr, hsr⟩ := hrl i hlt
            subst hro
            obtain ⟨bx, ox, hxr, hcx⟩ := hsr j hjn
            subst hxr
            obtain ⟨y, hy⟩ : ∃ y, y = R i j := ⟨_, rfl⟩
            rw [← hy] at hcx
            obtain ⟨t, ht⟩ : ∃ t, t = enw D R z i j := ⟨_, rfl⟩
            obtain ⟨p, hp⟩ : ∃ p, p = D.mul x y := ⟨_, rfl⟩
            obtain ⟨u, hu⟩ : ∃ u, u = D.ad t p := ⟨_, rfl⟩
            have hct : wC.cell? ⟨G, j, none⟩ = some (.int .i64 (t : Nat)) := by
              have h := HJ.out.1.cell j hjn
              rw [if_neg (by omega), ← ht] at h; exact h
            have F := fld HF.out.1
            have hyq : y < D.q := by rw [hy]; exact HF.out.2.1 i hlt j
            have htq : t < D.q := by rw [ht]; exact enw_el F _ _
            have hpq : p < D.q := by rw [hp]; exact F.mul_lt _ _
            have hxq := HX.out.2
            have hbx := HW.out.2.1.below hb (by omega)
            have k0 := cell_regrown hbx.c0
            have k1 := cell_regrown hbx.c1
            have k2 := cell_regrown hbx.c2
            have k3 := cell_regrown hbx.c3
            have k4 := cell_regrown hbx.c4
            have k5 := cell_regrown hct
            have k6 := cell_regrown hcy
            have k7 := cell_regrown p2
            have k8 := cell_regrown hcr
            have k9 := cell_regrown hcx
            have k10 := free_regrown HJ.out.1.lt (HJ.out.1.free j)
            have hbw : Below w.heap.size w wC := bel_up' HW.out.1 hb
            have HC1 : Hid (∀ d os, Calls Try.prog 50 #[.agg #[.int .i64 D.q, .int .i64 D.p, .int .i64 D.m, .int .i64 gen, .slice (some ⟨gm, 0, none⟩) (D.m + 1) cm], .int .i64 (x : Nat), .int .i64 (y : Nat)] (grow (redrawn wC d) os) fun e w'' => e = .returned (.int .i64 (p : Nat)) ∧ ∃ p : Regrown, w'' = grow (redrawn wC p.d) p.os) := fun d os => by
              rw [hp]
              exact Calls.regrown_of (rmul_nat HF.out.1 gen HF.out.2.2.2.2.2.2 x y hxq hyq _ (bel_up' hbw (below_regrown wC d os)))
            have HC2 : Hid (∀ d os, Calls Try.prog 49 #[.agg #[.int .i64 D.q, .int .i64 D.p, .int .i64 D.m, .int .i64 gen, .slice (some ⟨gm, 0, none⟩) (D.m + 1) cm], .int .i64 (t : Nat), .int .i64 (p : Nat)] (grow (redrawn wC d) os) fun e w'' => e = .returned (.int .i64 (u : Nat)) ∧ ∃ p : Regrown, w'' = grow (redrawn wC p.d) p.os) := fun d os => by
              have h := radd_nat HF.out.1 gen (.slice (some ⟨gm, 0, none⟩) (D.m + 1) cm) t p htq hpq (grow (redrawn wC d) os)
              rw [hu]
              exact Calls.regrown_of h
            have HV : Hid (∀ c, c < n → (if c < j + 1 then enw D R z (i + 1) c else enw D R z i c) = if c = j then u else if c < j then enw D R z (i + 1) c else enw D R z i c) := fun c _ => by
              by_cases e : c = j
              · rw [if_pos e, if_pos (by omega), hu, e, ht, hp, hy, HX.out.1]; rfl
              · rw [if_neg e]
                by_cases e2 : c < j
                · rw [if_pos e2, if_pos (by omega)]
                · rw [if_neg e2, if_neg (by omega)]
            clear hy ht hp hu hct hrl hsr hbx hbw F hb
            go_wp2
            refine below_tail 23 (by kernel_rfl) (by kernel_rfl) ?_
            simp only [List.take_succ_cons, List.take_zero, List.drop_succ_cons, List.drop_zero]
            repeat (go_big_quiet_step (first | (go_at_call 50; exact HC1.out _ _) | (go_at_call 49; exact HC2.out _ _)))
            refine wpQuiet_nil ?_
            intro _ hw'
            obtain ⟨⟨ds, oss⟩, hw''⟩ := hw'
            subst hw''
            have hb7 := below_regrown wC ds oss
            have H7 : Hid (Row G n (fun c => if c < j then enw D R z (i + 1) c else enw D R z i c) (grow (redrawn wC ds) oss) ∧ Below w0.heap.size w0 (grow (redrawn wC ds) oss)) := ⟨HJ.out.1.below hb7 HJ.out.1.lt, bel_up' HJ.out.2 hb7⟩
            clear hb7
            go_wp2
            go_roundw
            case rel => exact ⟨j + 1, by omega, by go_num, H7.out.1.store j u HV.out, H7.out.2.setCell (show w0.heap.size ≤ G from hG0) _⟩
            case measure => simp [intOf]; omega
        · have hjb : ¬ (j : Int) < (n : Int) := by omega
          have HK2 : Hid (Row G n (enw D R z (i + 1)) wC) := HJ.out.1.congr (fun c hc => by rw [if_pos (by omega)])
          clear hb
          go_wp2
          go_roundw
          case rel => exact ⟨i + 1, by omega, by go_num, HK2.out, HJ.out.2⟩
          case measure => simp [intOf]; omega
    · have hib : ¬ (i : Int) < (k : Int) := by omega
      have hie : k = i := by omega
      subst hie
      have HZ : Hid (Below w.heap.size w wA) := bel_up' HW.out.1 HG.out.2
      go_wp2
      go_ret
      exact ⟨by rw [← HG0.out]; rfl, by rw [← HG0.out]; exact HG.out.1, HZ.out⟩
end Go.Proofs.Ytbpeahhhkcljeaa

/- Encode: where there is nothing to tell. -/
namespace Go.Proofs.Ytbpeahhhkcljeaa
open Go.RowKit Go.Sort

set_option maxHeartbeats 8000000 in
set_option maxRecDepth 100000 in
theorem cEncode_bad {D : FD} (hD : D ∈ fieldsL) {ao yo : Option Addr} {m n ca my cy k : Nat} {A : Nat → Option Addr} {N C : Nat → Nat} {Z : Nat → Nat → Int} {R : Nat → Nat → Nat} {y : Nat → Int} {w : World} (ha : CdZ D ao m n A N C Z w) (hY : Arg yo my cy y w) (hR : Red D n m (mzc N Z) k R) (hk : D.nchk my y k ≠ 0)
    (hC : ∀ wx, Below w.heap.size w wx → Calls Try.prog 26 #[.agg #[.int .i64 D.q, .int .i64 (n : Nat), .slice ao m ca]] wx fun x w' => x = .returned (.int .i64 0) ∧ Below wx.heap.size wx w') :
    Calls Try.prog 42 #[.agg #[.int .i64 D.q, .int .i64 (n : Nat), .slice ao m ca], .slice yo my cy] w fun x w' => x = .returned (.tuple #[.slice none 0 0, .int .i64 (D.nchk my y k)]) ∧ Below w.heap.size w w' := by
  obtain ⟨w0, hw0⟩ : ∃ w0, w0 = w.alloc (.cells #[.int .i64 D.q, .int .i64 (n : Nat), .slice ao m ca] 43) := ⟨_, rfl⟩
  have HW : Hid (Below w.heap.size w w0 ∧ CB w.heap.size D.q n (.slice ao m ca) w0 ∧ RBt w.heap.size w0 ∧ w0.heap.size = w.heap.size + 1) := by
    rw [hw0]; exact ⟨(Below.refl _ _).alloc (Nat.le_refl _) _, CB.new _ _ _ _, RBt.new _ _, by simp⟩
  have HA : Hid (D ∈ fieldsL ∧ CdZ D ao m n A N C Z w ∧ Arg yo my cy y w ∧ Red D n m (mzc N Z) k R ∧ D.nchk my y k ≠ 0) := ⟨hD, ha, hY, hR, hk⟩
  have HC : Hid _ := hC
  have hn1 := ha.n1
  have hn := ha.n64
  have hkn := hR.le
  clear hD ha hY hR hk hC
  go_enter Try.func42, Try.ntmps42
  go_wp2_with fail
  rw [← hw0]
  clear hw0
  refine (cMake_ok HA.out.1 (HA.out.2.1.below HW.out.1) (fun wx hx => HC.out _ (bel_up' HW.out.1 hx))).mono ?_
  rintro x w1 ⟨k', R', ro, rc, rfl, hmv, hred, hb1⟩
  have hu := Red.uniq (fld HA.out.1) HA.out.2.2.2.1 hred (fun v => Iff.rfl)
  obtain ⟨hu1, hu2⟩ := hu
  subst hu1
  obtain ⟨w2, hw2⟩ : ∃ w2, w2 = laid w1 w.heap.size D.q n (.slice ro k rc) := ⟨_, rfl⟩
  have hrb := RB.of (HW.out.2.1.keep hb1) (HW.out.2.2.1.keep hb1)
  have H2 : Hid (Below w.heap.size w w2 ∧ CB w.heap.size D.q n (.slice ro k rc) w2 ∧ RL (.slice ro k rc) k n R w2) := by
    rw [hw2]
    exact ⟨laid_below (bel_up' HW.out.1 hb1) (Nat.le_refl _) _ _ _, laid_cb hrb _ _ _, (laid_mv hmv (by have := HW.out.2.2.2; omega) _ _ _).rl.congr (fun i hi => (hu2 i hi).symm)⟩
  clear hmv hred hu2 hb1
  obtain ⟨⟨x0, c0⟩, ⟨x1, c1⟩, ⟨x2, c2⟩, f0, f1, f2⟩ := hrb
  unfold laid at hw2
  have hq := H2.out.2.1
  rw [hw2] at hq
  obtain ⟨p0, p1, p2⟩ := hq
  go_wp2_with fail
  rw [← hw2]
  clear hw2 p0 p1 p2 c0 c1 c2 f0 f1 f2
  obtain ⟨e, he⟩ : ∃ e, e = D.nchk my y k := ⟨_, rfl⟩
  have hz : (e != 0) = true := by rw [bne_iff_ne, he]; exact HA.out.2.2.2.2
  refine (cnum_err HA.out.1 (HA.out.2.2.1.below H2.out.1) HA.out.2.2.2.2).mono ?_
  rintro x w3 ⟨rfl, hb3⟩
  have H3 : Hid (Below w.heap.size w w3) := bel_up' H2.out.1 hb3
  rw [← he]
  have HQ : Hid (e = D.nchk my y k) := he
  clear hb3 he
  go_wp2
  go_ret2
  exact ⟨by rw [← HQ.out]; simp [go_sem], H3.out⟩
set_option maxHeartbeats 4000000 in
set_option maxRecDepth 100000 in
theorem cEncode_err (e : Int) (he : e ≠ 0) (q n : Int) {ao yo : Option Addr} {m ca my cy : Nat} {w : World}
    (hC : ∀ wx, Below w.heap.size w wx → Calls Try.prog 26 #[.agg #[.int .i64 q, .int .i64 n, .slice ao m ca]] wx fun x w' => x = .returned (.int .i64 e) ∧ Below wx.heap.size wx w') :
    Calls Try.prog 42 #[.agg #[.int .i64 q, .int .i64 n, .slice ao m ca], .slice yo my cy] w fun x w' => x = .returned (.tuple #[.slice none 0 0, .int .i64 e]) ∧ Below w.heap.size w w' := by
  obtain ⟨w0, hw0⟩ : ∃ w0, w0 = w.alloc (.cells #[.int .i64 q, .int .i64 n, .slice ao m ca] 43) := ⟨_, rfl⟩
  have HW : Hid (Below w.heap.size w w0 ∧ CB w.heap.size q n (.slice ao m ca) w0 ∧ RBt w.heap.size w0) := by
    rw [hw0]; exact ⟨(Below.refl _ _).alloc (Nat.le_refl _) _, CB.new _ _ _ _, RBt.new _ _⟩
  have HC : Hid _ := hC
  have HE : Hid (e ≠ 0) := he
  have hz : (e != 0) = true := by rw [bne_iff_ne]; exact he
  clear he hC
  go_enter Try.func42, Try.ntmps42
  go_wp2_with fail
  rw [← hw0]
  clear hw0
  refine (cMake_err e HE.out q n (fun wx hx => HC.out _ (bel_up' HW.out.1 hx))).mono ?_
  rintro x w1 ⟨rfl, hb1⟩
  obtain ⟨w2, hw2⟩ : ∃ w2, w2 = laid w1 w.heap.size 0 0 (.slice none 0 0) := ⟨_, rfl⟩
  have hrb := RB.of (HW.out.2.1.keep hb1) (HW.out.2.2.keep hb1)
  have H2 : Hid (Below w.heap.size w w2) := by
    rw [hw2]; exact laid_below (bel_up' HW.out.1 hb1) (Nat.le_refl _) _ _ _
  clear hb1
  obtain ⟨⟨x0, c0⟩, ⟨x1, c1⟩, ⟨x2, c2⟩, f0, f1, f2⟩ := hrb
  unfold laid at hw2
  go_wp2
  rw [← hw2]
  go_ret2
  exact ⟨by simp [go_sem], H2.out⟩
end Go.Proofs.Ytbpeahhhkcljeaa

/- Plain mathematics: products of rows; what makes rows 0. No Go text here. -/
namespace Go.Proofs.Ytbpeahhhkcljeaa

/-- The sum of the products of the first numbers of two lists. -/
def dot (D : FD) (a b : Nat → Nat) : Nat → Nat
  | 0 => 0
  | j + 1 => D.ad (dot D a b j) (D.mul (a j) (b j))
theorem dot_lt {D : FD} (F : Fld D) (a b : Nat → Nat) : ∀ j, dot D a b j < D.q
  | 0 => zero_lt' F
  | j + 1 => ad_lt F (dot_lt F a b j) (F.mul_lt _ _)
theorem dot_comm {D : FD} (F : Fld D) (a b : Nat → Nat) : ∀ n, dot D a b n = dot D b a n
  | 0 => rfl
  | n + 1 => by
    show D.ad (dot D a b n) (D.mul (a n) (b n)) = D.ad (dot D b a n) (D.mul (b n) (a n))
    rw [dot_comm F a b n, F.mul_comm (a n)]
theorem dot_nil {D : FD} (F : Fld D) (v : Nat → Nat) : ∀ n, dot D pnil v n = 0
  | 0 => rfl
  | n + 1 => by
    show D.ad (dot D pnil v n) (D.mul 0 (v n)) = 0
    rw [dot_nil F v n, zmul F, ad_zero F (zero_lt' F)]
theorem dot_add {D : FD} (F : Fld D) {a b : Nat → Nat} (ha : El D a) (hb : El D b) (v : Nat → Nat) : ∀ n, dot D (padd D a b) v n = D.ad (dot D a v n) (dot D b v n)
  | 0 => (ad_zero F (zero_lt' F)).symm
  | n + 1 => by
    show D.ad (dot D (padd D a b) v n) (D.mul (D.ad (a n) (b n)) (v n)) = D.ad (D.ad (dot D a v n) (D.mul (a n) (v n))) (D.ad (dot D b v n) (D.mul (b n) (v n)))
    rw [dot_add F ha hb v n, ad_mul F (ha n) (hb n), ad4 F (dot_lt F _ _ _) (dot_lt F _ _ _) (F.mul_lt _ _) (F.mul_lt _ _)]
theorem dot_scale {D : FD} (F : Fld D) (s : Nat) (a v : Nat → Nat) : ∀ n, dot D (pscale D s a) v n = D.mul s (dot D a v n)
  | 0 => (mul0 F s).symm
  | n + 1 => by
    show D.ad (dot D (pscale D s a) v n) (D.mul (D.mul s (a n)) (v n)) = D.mul s (D.ad (dot D a v n) (D.mul (a n) (v n)))
    rw [dot_scale F s a v n, mul_ad F (dot_lt F _ _ _) (F.mul_lt _ _), F.mul_assoc]
/-- What makes rows 0 makes all 0 that they span. -/
theorem dot_spn {D : FD} (F : Fld D) {P : (Nat → Nat) → Prop} {u x : Nat → Nat} {n : Nat} (h : Spn D P u) (hP : ∀ v, P v → dot D v x n = 0) : dot D u x n = 0 := by
  obtain ⟨l, hl, rfl⟩ := h
  induction l with
  | nil => exact dot_nil F x n
  | cons y l ih =>
    show dot D (padd D (pscale D y.1 y.2) (lsum D l)) x n = 0
    rw [dot_add F (el_scale F _ _) (lsum_el F l), dot_scale F, hP _ (hl y (List.mem_cons_self ..)), mul0 F, ih (fun z hz => hl z (List.mem_cons_of_mem _ hz)), ad_zero F (zero_lt' F)]
theorem dot_congr {D : FD} {a a' b b' : Nat → Nat} : ∀ n, (∀ j, j < n → a j = a' j ∧ b j = b' j) → dot D a b n = dot D a' b' n
  | 0, _ => rfl
  | n + 1, h => by
    show D.ad (dot D a b n) (D.mul (a n) (b n)) = D.ad (dot D a' b' n) (D.mul (a' n) (b' n))
    rw [dot_congr n (fun j hj => h j (by omega)), (h n (by omega)).1, (h n (by omega)).2]
/-- A number put where 0 was. -/
theorem dot_put {D : FD} (F : Fld D) {a b : Nat → Nat} {j v : Nat} (hb : b j = 0) : ∀ n, j < n → dot D a (fun t => if t = j then v else b t) n = D.ad (dot D a b n) (D.mul (a j) v)
  | 0, h => absurd h (by omega)
  | n + 1, h => by
    show D.ad (dot D a (fun t => if t = j then v else b t) n) (D.mul (a n) (if n = j then v else b n)) = D.ad (D.ad (dot D a b n) (D.mul (a n) (b n))) (D.mul (a j) v)
    by_cases e : n = j
    · subst e
      rw [if_pos rfl, hb, mul0 F, ad_zero F (dot_lt F _ _ _), dot_congr (a' := a) (b' := b) n (fun t ht => ⟨rfl, if_neg (by omega)⟩)]
    · rw [if_neg e, dot_put F hb n (by omega), ad_assoc F (dot_lt F _ _ _) (F.mul_lt _ _) (F.mul_lt _ _), ad_comm F (D.mul (a j) v), ← ad_assoc F (dot_lt F _ _ _) (F.mul_lt _ _) (F.mul_lt _ _)]
theorem dot_unit {D : FD} (F : Fld D) {a : Nat → Nat} {c n : Nat} (ha : a c < D.q) (hc : c < n) : dot D a (fun t => if t = c then 1 else 0) n = a c := by
  have h := dot_put F (a := a) (b := pnil) (j := c) (v := 1) rfl n hc
  rw [mul1 F ha, dot_comm F a pnil, dot_nil F, zero_ad F ha] at h
  exact h
end Go.Proofs.Ytbpeahhhkcljeaa

/- WordMay and Dot of the reference. -/
namespace Go.Proofs.Ytbpeahhhkcljeaa
open Go.RowKit Go.Sort

set_option maxHeartbeats 8000000 in
set_option maxRecDepth 100000 in
theorem wordMay_any {D : FD} (hD : D ∈ fieldsL) {ro yo : Option Addr} {m my rc cy : Nat} {y : Nat → Int} (n : Int) {w : World} (hY : Arg yo my cy y w) :
    Calls Try.prog 71 #[.agg #[.int .i64 D.q, .int .i64 n, .slice ro m rc], .slice yo my cy] w fun e w' => e = .returned (.int .i64 (D.nchk my y n)) ∧ Below w.heap.size w w' := by
  obtain ⟨w0, hw0⟩ : ∃ w0, w0 = w.alloc (.cells #[.int .i64 D.q, .int .i64 n, .slice ro m rc] 43) := ⟨_, rfl⟩
  have HW : Hid (Below w.heap.size w w0 ∧ CB w.heap.size D.q n (.slice ro m rc) w0) := by
    rw [hw0]; exact ⟨(Below.refl _ _).alloc (Nat.le_refl _) _, CB.new _ _ _ _⟩
  have HF : Hid (D ∈ fieldsL ∧ Arg yo my cy y w) := ⟨hD, hY⟩
  have hm6 := hY.few
  clear hD hY
  go_enter Try.func71, Try.ntmps71
  go_wp2_with fail
  rw [← hw0]
  clear hw0
  refine (rfield_sl HF.out.1 w0).mono ?_
  rintro e w2 ⟨gm, cm, rfl, hmod, hb2⟩
  unfold rf
  obtain ⟨wa, hwa⟩ : ∃ wa, wa = w2.alloc (.cells #[.int .i64 D.q, .int .i64 D.p, .int .i64 D.m, .int .i64 D.gen, .slice (some ⟨gm, 0, none⟩) (D.m + 1) cm] 28) := ⟨_, rfl⟩
  have HA : Hid (Box w2.heap.size D D.gen (.slice (some ⟨gm, 0, none⟩) (D.m + 1) cm) wa ∧ wa.heap.size = w2.heap.size + 1 ∧ Below w.heap.size w wa) := by
    have hb : Below w2.heap.size w2 wa := by rw [hwa]; exact (Below.refl _ _).alloc (Nat.le_refl _) _
    exact ⟨by rw [hwa]; exact box_new D D.gen _ w2, by rw [hwa]; simp, bel_up' (bel_up' HW.out.1 hb2) hb⟩
  obtain ⟨p0, p1, p2⟩ := HW.out.2.keep hb2
  have hlt0 : w.heap.size < w2.heap.size := cell_lt p0
  clear hmod hb2
  by_cases hmn : ((my : Nat) : Int) = n
  · have HV : Hid (D.nchk my y n = if anyB (fun j => !D.has (y j)) my = true then 2 else 0) := by
      show _ = _
      unfold FD.nchk
      rw [if_neg (by omega)]
    subst hmn
    go_wp2
    rw [← hwa]
    clear hwa p0 p1 p2
    go_loopw [7] (fun i wr => ∃ r : Nat, r ≤ my ∧ i = .int .i64 r ∧ Hid (anyB (fun j => !D.has (y j)) r = false ∧ Below wa.heap.size wa wr)) (fun i _ => my - (intOf i).toNat)
    case atStart => exact ⟨0, by omega, rfl, rfl, Below.refl _ _⟩
    case round =>
      obtain ⟨r, hr, rfl, HP⟩ := hrel
      rename World => wr
      by_cases hlt : r < my
      · have hib : (r : Int) < (my : Int) := by omega
        have hib0 : (0 : Int) ≤ (r : Int) := by omega
        have hArg := HF.out.2.below (bel_up' HA.out.2.2 HP.out.2)
        obtain ⟨bx, ox, hxo, hcx⟩ := hArg.sl r hlt
        subst hxo
        obtain ⟨x, hx⟩ : ∃ x, x = y r := ⟨_, rfl⟩
        rw [← hx] at hcx
        obtain ⟨hb0, hh0⟩ : ∃ hb0, hb0 = D.has x := ⟨_, rfl⟩
        have HC1 : Hid (∀ d os, Calls Try.prog 45 #[.agg #[.int .i64 D.q, .int .i64 D.p, .int .i64 D.m, .int .i64 D.gen, .slice (some ⟨gm, 0, none⟩) (D.m + 1) cm], .int .i64 x] (grow (redrawn wr d) os) fun e w'' => e = .returned (.bool hb0) ∧ ∃ p : Regrown, w'' = grow (redrawn wr p.d) p.os) := fun d os => by
          rw [hh0]
          exact Calls.regrown_of (rhas_any D D.gen _ x _)
        have HN : Hid (anyB (fun j => !D.has (y j)) (r + 1) = !hb0) := by
          show (anyB (fun j => !D.has (y j)) r || !D.has (y r)) = _
          rw [HP.out.1, Bool.false_or, hh0, hx]
        have hbx := HA.out.1.below (B := wa.heap.size) HP.out.2 (by have := HA.out.2.1; omega)
        have k0 := cell_regrown hbx.c0
        have k1 := cell_regrown hbx.c1
        have k2 := cell_regrown hbx.c2
        have k3 := cell_regrown hbx.c3
        have k4 := cell_regrown hbx.c4
        have k5 := cell_regrown hcx
        have HB2 : Hid (Below w.heap.size w wr ∧ Below wa.heap.size wa wr) := ⟨bel_up' HA.out.2.2 HP.out.2, HP.out.2⟩
        clear hx hh0 hArg hbx hcx
        cases hb0 with
        | true =>
          go_wp2
          refine wp_region_quiet_below (by kernel_rfl) (by kernel_rfl) ?_
          repeat (go_big_quiet_step (first | (go_at_call 45; exact HC1.out _ _)))
          refine wpQuiet_nil ?_
          intro _ hw'
          obtain ⟨⟨dr, osr⟩, hw''⟩ := hw'
          subst hw''
          go_wp2
          go_roundw
          case rel => exact ⟨r + 1, by omega, by go_num, HN.out, bel_up' HB2.out.2 (below_regrown wr dr osr)⟩
          case measure => simp [intOf]; omega
        | false =>
          have HV2 : Hid (D.nchk my y my = 2) := by
            show _ = _
            have h3 : (fun j => !D.has (y j)) r = true := by
              have h4 : (anyB (fun j => !D.has (y j)) r || !D.has (y r)) = true := HN.out
              rw [HP.out.1, Bool.false_or] at h4; exact h4
            rw [HV.out, anyB_yes h3 my hlt]; rfl
          go_wp2
          refine wp_region_quiet_below (by kernel_rfl) (by kernel_rfl) ?_
          repeat (go_big_quiet_step (first | (go_at_call 45; exact HC1.out _ _)))
          refine wpQuiet_nil ?_
          intro _ hw'
          obtain ⟨⟨dr, osr⟩, hw''⟩ := hw'
          subst hw''
          go_wp2
          go_ret
          exact ⟨ret_int (by rw [HV2.out]), bel_up' HB2.out.1 (below_regrown wr dr osr)⟩
      · have hib : ¬ (r : Int) < (my : Int) := by omega
        have hre : my = r := by omega
        subst hre
        have HV2 : Hid (D.nchk my y my = 0) := by show _ = _; rw [HV.out, HP.out.1]; rfl
        have H3 : Hid (Below w.heap.size w wr) := bel_up' HA.out.2.2 HP.out.2
        go_wp2
        go_ret
        exact ⟨ret_int (by rw [HV2.out]), H3.out⟩
  · have HV : Hid (D.nchk my y n = 6) := by show _ = _; unfold FD.nchk; rw [if_pos hmn]
    have hz : (((my : Nat) : Int) != n) = true := by rw [bne_iff_ne]; exact hmn
    clear hmn
    go_wp2
    rw [← hwa]
    go_ret
    exact ⟨ret_int (by rw [HV.out]), HA.out.2.2⟩

set_option maxHeartbeats 8000000 in
set_option maxRecDepth 100000 in
theorem rdot_any {D : FD} (hD : D ∈ fieldsL) (gen gm cm : Nat) {ao bo : Option Addr} {n ca cb : Nat} {a b : Nat → Nat} {w : World} (hn : n ≤ 1000) (ha : ∀ i, i < n → a i < D.q) (hb : ∀ i, i < n → b i < D.q) (hA : Sl ao n a w) (hla : LtB ao w.heap.size) (hB : Sl bo n b w) (hlb : LtB bo w.heap.size) (hM : ModAt D (.slice (some ⟨gm, 0, none⟩) (D.m + 1) cm) D.md w) :
    Calls Try.prog 44 #[.agg #[.int .i64 D.q, .int .i64 D.p, .int .i64 D.m, .int .i64 gen, .slice (some ⟨gm, 0, none⟩) (D.m + 1) cm], .slice ao n ca, .slice bo n cb] w fun e w' => e = .returned (.int .i64 (dot D a b n : Nat)) ∧ Below w.heap.size w w' := by
  obtain ⟨wa, hwa⟩ : ∃ wa, wa = w.alloc (.cells #[.int .i64 D.q, .int .i64 D.p, .int .i64 D.m, .int .i64 gen, .slice (some ⟨gm, 0, none⟩) (D.m + 1) cm] 28) := ⟨_, rfl⟩
  have hba : Below w.heap.size w wa := by rw [hwa]; exact (Below.refl _ _).alloc (Nat.le_refl _) _
  have HF : Hid (D ∈ fieldsL ∧ Sl ao n a wa ∧ Sl bo n b wa ∧ LtB ao wa.heap.size ∧ LtB bo wa.heap.size ∧ (∀ i, i < n → a i < D.q) ∧ (∀ i, i < n → b i < D.q) ∧ ModAt D (.slice (some ⟨gm, 0, none⟩) (D.m + 1) cm) D.md w ∧ Below w.heap.size w wa) := ⟨hD, hA.below hba hla, hB.below hba hlb, fun x hx => Nat.lt_of_lt_of_le (hla x hx) hba.size, fun x hx => Nat.lt_of_lt_of_le (hlb x hx) hba.size, ha, hb, hM, hba⟩
  have HX : Hid (Box w.heap.size D gen (.slice (some ⟨gm, 0, none⟩) (D.m + 1) cm) wa ∧ wa.heap.size = w.heap.size + 1) := ⟨by rw [hwa]; exact box_new D gen _ w, by rw [hwa]; simp⟩
  clear hD ha hb hA hla hB hlb hM hba
  go_enter Try.func44, Try.ntmps44
  go_wp2
  rw [← hwa]
  clear hwa
  go_loopw [7, 8] (fun vs vi wr => ∃ i s : Nat, i ≤ n ∧ vs = .int .i64 (s : Nat) ∧ vi = .int .i64 i ∧ Hid (s = dot D a b i ∧ Below wa.heap.size wa wr)) (fun _ vi _ => n - (intOf vi).toNat)
  case atStart => exact ⟨0, 0, by omega, rfl, rfl, rfl, Below.refl _ _⟩
  case round =>
    obtain ⟨i, s, hi, rfl, rfl, HG⟩ := hrel
    rename World => wr
    by_cases hlt : i < n
    · have hib : (i : Int) < (n : Int) := by omega
      have hib0 : (0 : Int) ≤ (i : Int) := by omega
      obtain ⟨bx, ox, hxo, hcx⟩ := (HF.out.2.1.below HG.out.2 HF.out.2.2.2.1) i hlt
      subst hxo
      obtain ⟨bY, oY, hyo, hcy⟩ := (HF.out.2.2.1.below HG.out.2 HF.out.2.2.2.2.1) i hlt
      subst hyo
      obtain ⟨x, hx⟩ : ∃ x, x = a i := ⟨_, rfl⟩
      obtain ⟨y, hy⟩ : ∃ y, y = b i := ⟨_, rfl⟩
      rw [← hx] at hcx
      rw [← hy] at hcy
      have F := fld HF.out.1
      obtain ⟨p, hp⟩ : ∃ p, p = D.mul x y := ⟨_, rfl⟩
      obtain ⟨u, hu⟩ : ∃ u, u = D.ad s p := ⟨_, rfl⟩
      have hxq : x < D.q := by rw [hx]; exact HF.out.2.2.2.2.2.1 i hlt
      have hyq : y < D.q := by rw [hy]; exact HF.out.2.2.2.2.2.2.1 i hlt
      have hsq : s < D.q := by rw [HG.out.1]; exact dot_lt F _ _ _
      have hpq : p < D.q := by rw [hp]; exact F.mul_lt _ _
      have hbx := HX.out.1.below HG.out.2 (by have := HX.out.2; omega)
      have k0 := cell_regrown hbx.c0
      have k1 := cell_regrown hbx.c1
      have k2 := cell_regrown hbx.c2
      have k3 := cell_regrown hbx.c3
      have k4 := cell_regrown hbx.c4
      have k5 := cell_regrown hcx
      have k6 := cell_regrown hcy
      have hbw : Below w.heap.size w wr := bel_up' HF.out.2.2.2.2.2.2.2.2 HG.out.2
      have HC1 : Hid (∀ d os, Calls Try.prog 50 #[.agg #[.int .i64 D.q, .int .i64 D.p, .int .i64 D.m, .int .i64 gen, .slice (some ⟨gm, 0, none⟩) (D.m + 1) cm], .int .i64 (x : Nat), .int .i64 (y : Nat)] (grow (redrawn wr d) os) fun e w'' => e = .returned (.int .i64 (p : Nat)) ∧ ∃ p : Regrown, w'' = grow (redrawn wr p.d) p.os) := fun d os => by
        rw [hp]
        exact Calls.regrown_of (rmul_nat HF.out.1 gen HF.out.2.2.2.2.2.2.2.1 x y hxq hyq _ (bel_up' hbw (below_regrown wr d os)))
      have HC2 : Hid (∀ d os, Calls Try.prog 49 #[.agg #[.int .i64 D.q, .int .i64 D.p, .int .i64 D.m, .int .i64 gen, .slice (some ⟨gm, 0, none⟩) (D.m + 1) cm], .int .i64 (s : Nat), .int .i64 (p : Nat)] (grow (redrawn wr d) os) fun e w'' => e = .returned (.int .i64 (u : Nat)) ∧ ∃ p : Regrown, w'' = grow (redrawn wr p.d) p.os) := fun d os => by
        have h := radd_nat HF.out.1 gen (.slice (some ⟨gm, 0, none⟩) (D.m + 1) cm) s p hsq hpq (grow (redrawn wr d) os)
        rw [hu]
        exact Calls.regrown_of h
      have HV : Hid (u = dot D a b (i + 1) ∧ Below wa.heap.size wa wr) := ⟨by rw [hu, hp, hx, hy, HG.out.1]; rfl, HG.out.2⟩
      clear hx hy hp hu hbx hbw F hcx hcy HG
      go_wp2
      refine wp_region_quiet_below (by kernel_rfl) (by kernel_rfl) ?_
      repeat (go_big_quiet_step (first | (go_at_call 50; exact HC1.out _ _) | (go_at_call 49; exact HC2.out _ _)))
      refine wpQuiet_nil ?_
      intro _ hw'
      obtain ⟨⟨dr, osr⟩, hw''⟩ := hw'
      subst hw''
      go_wp2
      go_roundw
      case rel => exact ⟨i + 1, u, by omega, rfl, by go_num, HV.out.1, bel_up' HV.out.2 (below_regrown wr dr osr)⟩
      case measure => simp [intOf]; omega
    · have hib : ¬ (i : Int) < (n : Int) := by omega
      have hre : n = i := by omega
      subst hre
      have H3 : Hid (Below w.heap.size w wr) := bel_up' HF.out.2.2.2.2.2.2.2.2 HG.out.2
      go_wp2
      go_ret
      exact ⟨by rw [HG.out.1]; rfl, H3.out⟩
end Go.Proofs.Ytbpeahhhkcljeaa
