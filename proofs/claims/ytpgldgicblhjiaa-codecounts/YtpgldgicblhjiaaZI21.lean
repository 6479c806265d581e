/- Texts of ours, one behind the other: I21 I22 I23 S12 I24 I25 I26 I27 I28 I29 I30 I31 S13 S14 S15 S16 S17 S18 I32 I33 I34 I35. -/
import Derived.Test.YtpgldgicblhjiaaZI12
import Derived.Test.YtpgldgicblhjiaaZL12
import Derived.Test.YtpgldgicblhjiaaZS4
import Derived.Lib.AppendZerosOnto
import Derived.Test.YtpgldgicblhjiaaZI3
import Derived.Test.YtpgldgicblhjiaaZX18
import Derived.Test.YtpgldgicblhjiaaZI5
/- Encode: the sum of the rows of the one form. -/
namespace Go.Proofs.Ytpgldgicblhjiaa
open Go.RowKit Go.Sort

/-- The sum of the first rows, each so many times. -/
def enw (D : FD) (R : Nat → Nat → Nat) (z : Nat → Nat) : Nat → Nat → Nat
  | 0 => pnil
  | k + 1 => padd D (enw D R z k) (pscale D (z k) (R k))
theorem enw_el {D : FD} (F : Fld D) {R : Nat → Nat → Nat} {z : Nat → Nat} : ∀ k, El D (enw D R z k)
  | 0 => el_nil F
  | k + 1 => el_add F (enw_el F k) (el_scale F _ _)
theorem enw_congr {D : FD} {R R' : Nat → Nat → Nat} {z : Nat → Nat} : ∀ {k : Nat}, (∀ i, i < k → R i = R' i) → enw D R z k = enw D R' z k
  | 0, _ => rfl
  | k + 1, h => by
    show padd D (enw D R z k) _ = padd D (enw D R' z k) _
    rw [enw_congr (fun i hi => h i (by omega)), h k (by omega)]
end Go.Proofs.Ytpgldgicblhjiaa

/- Encoded: the reference's sum of rows. -/
namespace Go.Proofs.Ytpgldgicblhjiaa
open Go.RowKit Go.Sort

theorem enw_zero {D : FD} (F : Fld D) {R : Nat → Nat → Nat} {z : Nat → Nat} {k : Nat} (h : z k = 0) : enw D R z (k + 1) = enw D R z k := by
  funext c
  show D.ad (enw D R z k c) (D.mul (z k) (R k c)) = _
  rw [h, zero_mul' D, ad_zero F (enw_el F k c)]

set_option maxHeartbeats 16000000 in
set_option maxRecDepth 100000 in
theorem rencoded_any {D : FD} (hD : D ∈ fieldsL) (gen gm cm : Nat) {ro yo : Option Addr} {k n rc cy : Nat} {R : Nat → Nat → Nat} {z : Nat → Nat} {w : World} (hn : n ≤ 64) (hk : k ≤ 64) (hR : ∀ i, i < k → El D (R i)) (hz : ∀ i, i < k → z i < D.q) (hL : RL (.slice ro k rc) k n R w) (hY : Sl yo k z w) (hly : LtB yo w.heap.size) (hM : ModAt D (.slice (some ⟨gm, 0, none⟩) (D.m + 1) cm) D.md w) :
    Calls Try.prog 65 #[.agg #[.int .i64 D.q, .int .i64 D.p, .int .i64 D.m, .int .i64 gen, .slice (some ⟨gm, 0, none⟩) (D.m + 1) cm], .agg #[.int .i64 D.q, .int .i64 (n : Nat), .slice ro k rc], .slice yo k cy] w fun e w' => e = .returned (.slice (some ⟨w.heap.size + 1 + 1, 0, none⟩) n n) ∧ Row (w.heap.size + 1 + 1) n (enw D R z k) w' ∧ Below w.heap.size w w' := by
  obtain ⟨w0, hw0⟩ : ∃ w0, w0 = (w.alloc (.cells #[.int .i64 D.q, .int .i64 D.p, .int .i64 D.m, .int .i64 gen, .slice (some ⟨gm, 0, none⟩) (D.m + 1) cm] 62)).alloc (.cells #[.int .i64 D.q, .int .i64 (n : Nat), .slice ro k rc] 24) := ⟨_, rfl⟩
  have HW : Hid (Below w.heap.size w w0 ∧ Box w.heap.size D gen (.slice (some ⟨gm, 0, none⟩) (D.m + 1) cm) w0 ∧ CB (w.heap.size + 1) D.q n (.slice ro k rc) w0) ∧ w0.heap.size = w.heap.size + 1 + 1 := by
    have h1 : Below w.heap.size w (w.alloc (.cells #[.int .i64 D.q, .int .i64 D.p, .int .i64 D.m, .int .i64 gen, .slice (some ⟨gm, 0, none⟩) (D.m + 1) cm] 62)) := (Below.refl _ _).alloc (Nat.le_refl _) _
    have h2 := CB.new D.q n (.slice ro k rc) (w.alloc (.cells #[.int .i64 D.q, .int .i64 D.p, .int .i64 D.m, .int .i64 gen, .slice (some ⟨gm, 0, none⟩) (D.m + 1) cm] 62))
    rw [show (w.alloc (.cells #[.int .i64 D.q, .int .i64 D.p, .int .i64 D.m, .int .i64 gen, .slice (some ⟨gm, 0, none⟩) (D.m + 1) cm] 62)).heap.size = w.heap.size + 1 by simp] at h2
    have h3 : Below (w.alloc (.cells #[.int .i64 D.q, .int .i64 D.p, .int .i64 D.m, .int .i64 gen, .slice (some ⟨gm, 0, none⟩) (D.m + 1) cm] 62)).heap.size (w.alloc (.cells #[.int .i64 D.q, .int .i64 D.p, .int .i64 D.m, .int .i64 gen, .slice (some ⟨gm, 0, none⟩) (D.m + 1) cm] 62)) w0 := by rw [hw0]; exact (Below.refl _ _).alloc (Nat.le_refl _) _
    refine ⟨⟨bel_up' h1 h3, (box_new D gen _ w).below h3 (by simp), ?_⟩, by rw [hw0]; simp⟩
    rw [hw0]; exact h2
  obtain ⟨HW, hw0s⟩ := HW
  have HF : Hid (D ∈ fieldsL ∧ (∀ i, i < k → El D (R i)) ∧ (∀ i, i < k → z i < D.q) ∧ RL (.slice ro k rc) k n R w0 ∧ Sl yo k z w0 ∧ LtB yo w0.heap.size ∧ ModAt D (.slice (some ⟨gm, 0, none⟩) (D.m + 1) cm) D.md w) := ⟨hD, hR, hz, hL.below HW.out.1, hY.below HW.out.1 hly, fun x hx => Nat.lt_of_lt_of_le (hly x hx) HW.out.1.size, hM⟩
  clear hD hR hz hL hY hly hM
  go_enter Try.func65, Try.ntmps65
  obtain ⟨p0, p1, p2⟩ := HW.out.2.2
  rw [hw0] at p0 p1 p2
  go_wp2_with (at_make; refine make_int rfl _ _ rfl _ n rfl rfl (by omega) (by omega) ?_; intro w1 hown1 hgrow1)
  have H1 : Hid (Row (w.heap.size + 1 + 1) n pnil w1 ∧ Below w0.heap.size w0 w1) := by
    rw [← hw0s, hw0]
    exact ⟨row_zeros hown1, below_grown hgrow1 (Nat.le_refl _) (fun k hk => by simp at hk)⟩
  clear hown1 hgrow1 hw0 p0 p1 p2
  obtain ⟨G, hG⟩ : ∃ G, G = w.heap.size + 1 + 1 := ⟨_, rfl⟩
  rw [← hG] at H1 hw0s
  first | rw [← hG] | skip
  have HG0 : Hid (G = w.heap.size + 1 + 1) := hG
  have hGw : w.heap.size + 1 < G := by omega
  have hG0 : w0.heap.size ≤ G := by omega
  have hW0 : w.heap.size < w0.heap.size := by omega
  clear hG hw0s
  go_wp2_with fail
  go_loopw [8] (fun vi wr => ∃ i : Nat, i ≤ k ∧ vi = .int .i64 i ∧ Hid (Row G n (enw D R z i) wr ∧ Below w0.heap.size w0 wr)) (fun vi _ => k - (intOf vi).toNat)
  case atStart => exact ⟨0, by omega, rfl, H1.out⟩
  case round =>
    clear H1
    obtain ⟨i, hi, rfl, HG⟩ := hrel
    rename World => wA
    by_cases hlt : i < k
    · have hib : (i : Int) < (k : Int) := by omega
      have hib0 : (0 : Int) ≤ (i : Int) := by omega
      obtain ⟨x, hx⟩ : ∃ x, x = z i := ⟨_, rfl⟩
      have HX : Hid (x = z i ∧ x < D.q) := ⟨hx, by rw [hx]; exact HF.out.2.2.1 i hlt⟩
      clear hx
      go_wp2_with fail
      go_loopw [9] (fun vj wi => ∃ j : Nat, j ≤ n ∧ vj = .int .i64 j ∧ Hid (Row G n (fun c => if c < j then enw D R z (i + 1) c else enw D R z i c) wi ∧ Below w0.heap.size w0 wi)) (fun vj _ => n - (intOf vj).toNat)
      case atStart => exact ⟨0, by omega, rfl, HG.out.1.congr (fun c _ => by rw [if_neg (by omega)]), HG.out.2⟩
      case round =>
        clear HG
        obtain ⟨j, hj, rfl, HJ⟩ := hrel
        rename World => wC
        have hb := HJ.out.2
        obtain ⟨p0, p1, p2⟩ := HW.out.2.2.keep hb
        by_cases hjn : j < n
        · have hjb : (j : Int) < (n : Int) := by omega
          have hjb0 : (0 : Int) ≤ (j : Int) := by omega
          obtain ⟨bY, oY, hyo, hcy⟩ := (HF.out.2.2.2.2.1.below hb HF.out.2.2.2.2.2.1) i hlt
          subst hyo
          rw [← HX.out.1] at hcy
          by_cases hx0 : x = 0
          · have hxz : (((x : Nat) : Int) != 0) = false := by rw [hx0]; rfl
            have HK2 : Hid (Row G n (enw D R z (i + 1)) wC) := HJ.out.1.congr (fun c _ => by
              have e := enw_zero (fld HF.out.1) (R := R) (z := z) (k := i) (by rw [← HX.out.1]; exact hx0)
              rw [e]; split <;> rfl)
            clear hx0 hb
            go_wp2
            go_roundw
            case rel => exact ⟨i + 1, by omega, by go_num, HK2.out, HJ.out.2⟩
            case measure => simp [intOf]; omega
          · have hxz : (((x : Nat) : Int) != 0) = true := by rw [bne_iff_ne]; omega
            clear hx0
            obtain ⟨ro', rc', ev, hrl⟩ := HF.out.2.2.2.1.below hb
            cases ev
            obtain ⟨bR, oR, xr, cx, hro, hcr, hsr⟩ := hrl i hlt
            subst hro
            obtain ⟨bx, ox, hxr, hcx⟩ := hsr j hjn
            subst hxr
            obtain ⟨y, hy⟩ : ∃ y, y = R i j := ⟨_, rfl⟩
            rw [← hy] at hcx
            obtain ⟨t, ht⟩ : ∃ t, t = enw D R z i j := ⟨_, rfl⟩
            obtain ⟨p, hp⟩ : ∃ p, p = D.mul x y := ⟨_, rfl⟩
            obtain ⟨u, hu⟩ : ∃ u, u = D.ad t p := ⟨_, rfl⟩
            have hct : wC.cell? ⟨G, j, none⟩ = some (.int .i64 (t : Nat)) := by
              have h := HJ.out.1.cell j hjn
              rw [if_neg (by omega), ← ht] at h; exact h
            have F := fld HF.out.1
            have hyq : y < D.q := by rw [hy]; exact HF.out.2.1 i hlt j
            have htq : t < D.q := by rw [ht]; exact enw_el F _ _
            have hpq : p < D.q := by rw [hp]; exact F.mul_lt _ _
            have hxq := HX.out.2
            have hbx := HW.out.2.1.below hb (by omega)
            have k0 := cell_regrown hbx.c0
            have k1 := cell_regrown hbx.c1
            have k2 := cell_regrown hbx.c2
            have k3 := cell_regrown hbx.c3
            have k4 := cell_regrown hbx.c4
            have k5 := cell_regrown hct
            have k6 := cell_regrown hcy
            have k7 := cell_regrown p2
            have k8 := cell_regrown hcr
            have k9 := cell_regrown hcx
            have k10 := free_regrown HJ.out.1.lt (HJ.out.1.free j)
            have hbw : Below w.heap.size w wC := bel_up' HW.out.1 hb
            have HC1 : Hid (∀ d os, Calls Try.prog 87 #[.agg #[.int .i64 D.q, .int .i64 D.p, .int .i64 D.m, .int .i64 gen, .slice (some ⟨gm, 0, none⟩) (D.m + 1) cm], .int .i64 (x : Nat), .int .i64 (y : Nat)] (grow (redrawn wC d) os) fun e w'' => e = .returned (.int .i64 (p : Nat)) ∧ ∃ p : Regrown, w'' = grow (redrawn wC p.d) p.os) := fun d os => by
              rw [hp]
              exact Calls.regrown_of (rmul_nat HF.out.1 gen HF.out.2.2.2.2.2.2 x y hxq hyq _ (bel_up' hbw (below_regrown wC d os)))
            have HC2 : Hid (∀ d os, Calls Try.prog 88 #[.agg #[.int .i64 D.q, .int .i64 D.p, .int .i64 D.m, .int .i64 gen, .slice (some ⟨gm, 0, none⟩) (D.m + 1) cm], .int .i64 (t : Nat), .int .i64 (p : Nat)] (grow (redrawn wC d) os) fun e w'' => e = .returned (.int .i64 (u : Nat)) ∧ ∃ p : Regrown, w'' = grow (redrawn wC p.d) p.os) := fun d os => by
              have h := radd_nat HF.out.1 gen (.slice (some ⟨gm, 0, none⟩) (D.m + 1) cm) t p htq hpq (grow (redrawn wC d) os)
              rw [hu]
              exact Calls.regrown_of h
            have HV : Hid (∀ c, c < n → (if c < j + 1 then enw D R z (i + 1) c else enw D R z i c) = if c = j then u else if c < j then enw D R z (i + 1) c else enw D R z i c) := fun c _ => by
              by_cases e : c = j
              · rw [if_pos e, if_pos (by omega), hu, e, ht, hp, hy, HX.out.1]; rfl
              · rw [if_neg e]
                by_cases e2 : c < j
                · rw [if_pos e2, if_pos (by omega)]
                · rw [if_neg e2, if_neg (by omega)]
            clear hy ht hp hu hct hrl hsr hbx hbw F hb
            go_wp2
            refine below_tail 23 (by kernel_rfl) (by kernel_rfl) ?_
            simp only [List.take_succ_cons, List.take_zero, List.drop_succ_cons, List.drop_zero]
            repeat (go_big_quiet_step (first | (go_at_call 87; exact HC1.out _ _) | (go_at_call 88; exact HC2.out _ _)))
            refine wpQuiet_nil ?_
            intro _ hw'
            obtain ⟨⟨ds, oss⟩, hw''⟩ := hw'
            subst hw''
            have hb7 := below_regrown wC ds oss
            have H7 : Hid (Row G n (fun c => if c < j then enw D R z (i + 1) c else enw D R z i c) (grow (redrawn wC ds) oss) ∧ Below w0.heap.size w0 (grow (redrawn wC ds) oss)) := ⟨HJ.out.1.below hb7 HJ.out.1.lt, bel_up' HJ.out.2 hb7⟩
            clear hb7
            go_wp2
            go_roundw
            case rel => exact ⟨j + 1, by omega, by go_num, H7.out.1.store j u HV.out, H7.out.2.setCell (show w0.heap.size ≤ G from hG0) _⟩
            case measure => simp [intOf]; omega
        · have hjb : ¬ (j : Int) < (n : Int) := by omega
          have HK2 : Hid (Row G n (enw D R z (i + 1)) wC) := HJ.out.1.congr (fun c hc => by rw [if_pos (by omega)])
          clear hb
          go_wp2
          go_roundw
          case rel => exact ⟨i + 1, by omega, by go_num, HK2.out, HJ.out.2⟩
          case measure => simp [intOf]; omega
    · have hib : ¬ (i : Int) < (k : Int) := by omega
      have hie : k = i := by omega
      subst hie
      have HZ : Hid (Below w.heap.size w wA) := bel_up' HW.out.1 HG.out.2
      go_wp2
      go_ret
      exact ⟨by rw [← HG0.out]; rfl, by rw [← HG0.out]; exact HG.out.1, HZ.out⟩
end Go.Proofs.Ytpgldgicblhjiaa

/- Encode: where there is nothing to tell. -/
namespace Go.Proofs.Ytpgldgicblhjiaa
open Go.RowKit Go.Sort

end Go.Proofs.Ytpgldgicblhjiaa

/- Plain mathematics: products of rows; what makes rows 0. No Go text here. -/
namespace Go.Proofs.Ytpgldgicblhjiaa

end Go.Proofs.Ytpgldgicblhjiaa

/- WordMay and Dot of the reference. -/
namespace Go.Proofs.Ytpgldgicblhjiaa
open Go.RowKit Go.Sort

set_option maxHeartbeats 8000000 in
set_option maxRecDepth 100000 in
theorem wordMay_any {D : FD} (hD : D ∈ fieldsL) {ro yo : Option Addr} {m my rc cy : Nat} {y : Nat → Int} (n : Int) {w : World} (hY : Arg yo my cy y w) :
    Calls Try.prog 14 #[.agg #[.int .i64 D.q, .int .i64 n, .slice ro m rc], .slice yo my cy] w fun e w' => e = .returned (.int .i64 (D.nchk my y n)) ∧ Below w.heap.size w w' := by
  obtain ⟨w0, hw0⟩ : ∃ w0, w0 = w.alloc (.cells #[.int .i64 D.q, .int .i64 n, .slice ro m rc] 24) := ⟨_, rfl⟩
  have HW : Hid (Below w.heap.size w w0 ∧ CB w.heap.size D.q n (.slice ro m rc) w0) := by
    rw [hw0]; exact ⟨(Below.refl _ _).alloc (Nat.le_refl _) _, CB.new _ _ _ _⟩
  have HF : Hid (D ∈ fieldsL ∧ Arg yo my cy y w) := ⟨hD, hY⟩
  have hm6 := hY.few
  clear hD hY
  go_enter Try.func14, Try.ntmps14
  go_wp2_with fail
  rw [← hw0]
  clear hw0
  refine (rfield_sl HF.out.1 w0).mono ?_
  rintro e w2 ⟨gm, cm, rfl, hmod, hb2⟩
  unfold rf
  obtain ⟨wa, hwa⟩ : ∃ wa, wa = w2.alloc (.cells #[.int .i64 D.q, .int .i64 D.p, .int .i64 D.m, .int .i64 D.gen, .slice (some ⟨gm, 0, none⟩) (D.m + 1) cm] 62) := ⟨_, rfl⟩
  have HA : Hid (Box w2.heap.size D D.gen (.slice (some ⟨gm, 0, none⟩) (D.m + 1) cm) wa ∧ wa.heap.size = w2.heap.size + 1 ∧ Below w.heap.size w wa) := by
    have hb : Below w2.heap.size w2 wa := by rw [hwa]; exact (Below.refl _ _).alloc (Nat.le_refl _) _
    exact ⟨by rw [hwa]; exact box_new D D.gen _ w2, by rw [hwa]; simp, bel_up' (bel_up' HW.out.1 hb2) hb⟩
  obtain ⟨p0, p1, p2⟩ := HW.out.2.keep hb2
  have hlt0 : w.heap.size < w2.heap.size := cell_lt p0
  clear hmod hb2
  by_cases hmn : ((my : Nat) : Int) = n
  · have HV : Hid (D.nchk my y n = if anyB (fun j => !D.has (y j)) my = true then 2 else 0) := by
      show _ = _
      unfold FD.nchk
      rw [if_neg (by omega)]
    subst hmn
    go_wp2
    rw [← hwa]
    clear hwa p0 p1 p2
    go_loopw [7] (fun i wr => ∃ r : Nat, r ≤ my ∧ i = .int .i64 r ∧ Hid (anyB (fun j => !D.has (y j)) r = false ∧ Below wa.heap.size wa wr)) (fun i _ => my - (intOf i).toNat)
    case atStart => exact ⟨0, by omega, rfl, rfl, Below.refl _ _⟩
    case round =>
      obtain ⟨r, hr, rfl, HP⟩ := hrel
      rename World => wr
      by_cases hlt : r < my
      · have hib : (r : Int) < (my : Int) := by omega
        have hib0 : (0 : Int) ≤ (r : Int) := by omega
        have hArg := HF.out.2.below (bel_up' HA.out.2.2 HP.out.2)
        obtain ⟨bx, ox, hxo, hcx⟩ := hArg.sl r hlt
        subst hxo
        obtain ⟨x, hx⟩ : ∃ x, x = y r := ⟨_, rfl⟩
        rw [← hx] at hcx
        obtain ⟨hb0, hh0⟩ : ∃ hb0, hb0 = D.has x := ⟨_, rfl⟩
        have HC1 : Hid (∀ d os, Calls Try.prog 40 #[.agg #[.int .i64 D.q, .int .i64 D.p, .int .i64 D.m, .int .i64 D.gen, .slice (some ⟨gm, 0, none⟩) (D.m + 1) cm], .int .i64 x] (grow (redrawn wr d) os) fun e w'' => e = .returned (.bool hb0) ∧ ∃ p : Regrown, w'' = grow (redrawn wr p.d) p.os) := fun d os => by
          rw [hh0]
          exact Calls.regrown_of (rhas_any D D.gen _ x _)
        have HN : Hid (anyB (fun j => !D.has (y j)) (r + 1) = !hb0) := by
          show (anyB (fun j => !D.has (y j)) r || !D.has (y r)) = _
          rw [HP.out.1, Bool.false_or, hh0, hx]
        have hbx := HA.out.1.below (B := wa.heap.size) HP.out.2 (by have := HA.out.2.1; omega)
        have k0 := cell_regrown hbx.c0
        have k1 := cell_regrown hbx.c1
        have k2 := cell_regrown hbx.c2
        have k3 := cell_regrown hbx.c3
        have k4 := cell_regrown hbx.c4
        have k5 := cell_regrown hcx
        have HB2 : Hid (Below w.heap.size w wr ∧ Below wa.heap.size wa wr) := ⟨bel_up' HA.out.2.2 HP.out.2, HP.out.2⟩
        clear hx hh0 hArg hbx hcx
        cases hb0 with
        | true =>
          go_wp2
          refine wp_region_quiet_below (by kernel_rfl) (by kernel_rfl) ?_
          repeat (go_big_quiet_step (first | (go_at_call 40; exact HC1.out _ _)))
          refine wpQuiet_nil ?_
          intro _ hw'
          obtain ⟨⟨dr, osr⟩, hw''⟩ := hw'
          subst hw''
          go_wp2
          go_roundw
          case rel => exact ⟨r + 1, by omega, by go_num, HN.out, bel_up' HB2.out.2 (below_regrown wr dr osr)⟩
          case measure => simp [intOf]; omega
        | false =>
          have HV2 : Hid (D.nchk my y my = 2) := by
            show _ = _
            have h3 : (fun j => !D.has (y j)) r = true := by
              have h4 : (anyB (fun j => !D.has (y j)) r || !D.has (y r)) = true := HN.out
              rw [HP.out.1, Bool.false_or] at h4; exact h4
            rw [HV.out, anyB_yes h3 my hlt]; rfl
          go_wp2
          refine wp_region_quiet_below (by kernel_rfl) (by kernel_rfl) ?_
          repeat (go_big_quiet_step (first | (go_at_call 40; exact HC1.out _ _)))
          refine wpQuiet_nil ?_
          intro _ hw'
          obtain ⟨⟨dr, osr⟩, hw''⟩ := hw'
          subst hw''
          go_wp2
          go_ret
          exact ⟨ret_int (by rw [HV2.out]), bel_up' HB2.out.1 (below_regrown wr dr osr)⟩
      · have hib : ¬ (r : Int) < (my : Int) := by omega
        have hre : my = r := by omega
        subst hre
        have HV2 : Hid (D.nchk my y my = 0) := by show _ = _; rw [HV.out, HP.out.1]; rfl
        have H3 : Hid (Below w.heap.size w wr) := bel_up' HA.out.2.2 HP.out.2
        go_wp2
        go_ret
        exact ⟨ret_int (by rw [HV2.out]), H3.out⟩
  · have HV : Hid (D.nchk my y n = 6) := by show _ = _; unfold FD.nchk; rw [if_pos hmn]
    have hz : (((my : Nat) : Int) != n) = true := by rw [bne_iff_ne]; exact hmn
    clear hmn
    go_wp2
    rw [← hwa]
    go_ret
    exact ⟨ret_int (by rw [HV.out]), HA.out.2.2⟩

end Go.Proofs.Ytpgldgicblhjiaa

/- Syndrome and Has. -/
namespace Go.Proofs.Ytpgldgicblhjiaa
open Go.RowKit Go.Sort

end Go.Proofs.Ytpgldgicblhjiaa

/- Has. -/
namespace Go.Proofs.Ytpgldgicblhjiaa
open Go.RowKit Go.Sort

end Go.Proofs.Ytpgldgicblhjiaa

/- CodeSays: the words of a code. -/
namespace Go.Proofs.Ytpgldgicblhjiaa
open Go.RowKit Go.Sort

end Go.Proofs.Ytpgldgicblhjiaa

/- CodeSays: the words of a code that may be. -/
namespace Go.Proofs.Ytpgldgicblhjiaa
open Go.RowKit Go.Sort

/-- The three codes' variables and the field's. -/
def CW (b : Nat) (D : FD) (n : Nat) (vc vo vd : Value) (f gm cm : Nat) (wx : World) : Prop := CB b D.q n vc wx ∧ CB (b + 1) D.q n vo wx ∧ CB (b + 1 + 1) D.q n vd wx ∧ Box f D D.gen (.slice (some ⟨gm, 0, none⟩) (D.m + 1) cm) wx ∧ f < wx.heap.size
theorem CW.keep {b : Nat} {D : FD} {n : Nat} {vc vo vd : Value} {f gm cm : Nat} {wx wy : World} (h : CW b D n vc vo vd f gm cm wx) (hb : Below wx.heap.size wx wy) : CW b D n vc vo vd f gm cm wy :=
  ⟨h.1.keep hb, h.2.1.keep hb, h.2.2.1.keep hb, h.2.2.2.1.below hb h.2.2.2.2, Nat.lt_of_lt_of_le h.2.2.2.2 hb.size⟩
end Go.Proofs.Ytpgldgicblhjiaa

/- Places that a code may lose. -/
namespace Go.Proofs.Ytpgldgicblhjiaa
open Go.RowKit Go.Sort

end Go.Proofs.Ytpgldgicblhjiaa

/- Room ahead (slices.Grow of nothing). -/
namespace Go.Proofs.Ytpgldgicblhjiaa
open Go.RowKit Go.Sort

end Go.Proofs.Ytpgldgicblhjiaa

/- TwoL lists behind one another (slices.Concat). -/
namespace Go.Proofs.Ytpgldgicblhjiaa
open Go.RowKit Go.Sort

def cat2 (n1 n2 : Nat) (a b : Nat → Int) : Nat → List Int
  | 0 => []
  | 1 => zl n1 a
  | _ => zl n1 a ++ zl n2 b
def sum2 (n1 n2 : Nat) : Nat → Nat
  | 0 => 0
  | 1 => n1
  | _ => n1 + n2
/-- One of two lists that lie in an array of two. -/
structure TwoL (B : Nat) (n1 n2 : Nat) (a b : Nat → Int) (w : World) : Prop where
  get : ∀ r, r < 2 → ∃ x n c z, w.cell? ⟨B, r, none⟩ = some (.slice x n c) ∧ SlZ x n z w ∧ LtB x w.heap.size ∧ (x = none → c = 0) ∧ sum2 n1 n2 r + n = sum2 n1 n2 (r + 1) ∧ cat2 n1 n2 a b r ++ zl n z = cat2 n1 n2 a b (r + 1)
theorem TwoL.below {B : Nat} {n1 n2 : Nat} {a b : Nat → Int} {w w' : World} (h : TwoL B n1 n2 a b w) (hb : Below w.heap.size w w') : TwoL B n1 n2 a b w' := ⟨fun r hr => by
  obtain ⟨x, n, c, z, h1, h2, h3, h4, h5, h6⟩ := h.get r hr
  exact ⟨x, n, c, z, ((bcell hb).1 B r (cell_lt h1)).trans h1, h2.below hb h3, fun y hy => Nat.lt_of_lt_of_le (h3 y hy) hb.size, h4, h5, h6⟩⟩
end Go.Proofs.Ytpgldgicblhjiaa

/- Plain mathematics: what makes rows 0 is what the null rows span; the dual of the dual. No Go text here. -/
namespace Go.Proofs.Ytpgldgicblhjiaa

theorem lcR_spn {D : FD} (F : Fld D) {K : Nat} {R : Nat → Nat → Nat} (p v : Nat → Nat) (hR : ∀ i, i < K → El D (R i)) : ∀ k, k ≤ K → Spn D (RowsOf K R) (lcR D R p v k)
  | 0, _ => spn_nil D _
  | k + 1, h => spn_add F (lcR_spn F p v hR k (by omega)) (spn_scale F _ (spn_mem F (hR k (by omega)) ⟨k, by omega, rfl⟩))
/-- At its own place a sum of rows is what was asked for. -/
theorem lcR_own {D : FD} (F : Fld D) {K : Nat} {R : Nat → Nat → Nat} {p v : Nat → Nat} (hv : El D v) (ho : ∀ i j, i < K → j < K → R i (p j) = if i = j then 1 else 0) {j : Nat} (hj : j < K) : ∀ k, k ≤ K → lcR D R p v k (p j) = if j < k then v (p j) else 0
  | 0, _ => by rw [if_neg (by omega)]; rfl
  | k + 1, h => by
    show D.ad (lcR D R p v k (p j)) (D.mul (v (p k)) (R k (p j))) = _
    rw [lcR_own F hv ho hj k (by omega), ho k j (by omega) hj]
    by_cases e : k = j
    · subst e
      rw [if_neg (by omega), if_pos rfl, if_pos (by omega), mul1 F (hv _), zero_ad F (hv _)]
    · rw [if_neg e, mul0 F]
      by_cases e2 : j < k
      · rw [if_pos e2, if_pos (by omega), ad_zero F (hv _)]
      · rw [if_neg e2, if_neg (by omega), ad_zero F (zero_lt' F)]
end Go.Proofs.Ytpgldgicblhjiaa

/- Plain mathematics: the dual of the dual. No Go text here. -/
namespace Go.Proofs.Ytpgldgicblhjiaa

/-- Of two increasing sequences of one length, the one within the other, none is left out. -/
theorem mono_within {p q : Nat → Nat} : ∀ k, (∀ i j, i < j → j < k → p i < p j) → (∀ i j, i < j → j < k → q i < q j) → (∀ i, i < k → ∃ j, j < k ∧ p i = q j) → ∀ i, i < k → p i = q i := by
  intro k hp hq hs
  have up : ∀ i, i < k → ∀ j, j < k → p i = q j → i ≤ j := fun i => by
    induction i with
    | zero => intro _ j _ _; exact Nat.zero_le _
    | succ i ih =>
      intro hi j hj e
      obtain ⟨l, hl, el⟩ := hs i (by omega)
      have h1 := ih (by omega) l hl el
      have h2 := hp i (i + 1) (by omega) hi
      have h3 : l < j := by
        rcases Nat.lt_or_ge l j with h | h
        · exact h
        · rcases Nat.lt_or_eq_of_le h with h | h
          · have := hq j l h hl; omega
          · subst h; omega
      omega
  have down : ∀ d i, i + d + 1 = k → ∀ j, j < k → p i = q j → j ≤ i := fun d => by
    induction d with
    | zero => intro i hi j hj _; omega
    | succ d ih =>
      intro i hi j hj e
      obtain ⟨l, hl, el⟩ := hs (i + 1) (by omega)
      have h1 := ih (i + 1) (by omega) l hl el
      have h2 := hp i (i + 1) (by omega) (by omega)
      have h3 : j < l := by
        rcases Nat.lt_or_ge j l with h | h
        · exact h
        · rcases Nat.lt_or_eq_of_le h with h | h
          · have := hq l j h hj; omega
          · subst h; omega
      omega
  intro i hi
  obtain ⟨j, hj, e⟩ := hs i hi
  have h1 := up i hi j hj e
  have h2 := down (k - 1 - i) i (by omega) j hj e
  have : j = i := by omega
  rw [e, this]
/-- Rows within others', as many in their one form: they span the same. -/
theorem rre_within {D : FD} (F : Fld D) {n k : Nat} {R R' : Nat → Nat → Nat} {p p' : Nat → Nat} (h : RRE D n k R p) (h' : RRE D n k R' p') (hs : ∀ v, Spn D (RowsOf k R) v → Spn D (RowsOf k R') v) (v : Nat → Nat) : Spn D (RowsOf k R) v ↔ Spn D (RowsOf k R') v := by
  refine ⟨hs v, fun hv => ?_⟩
  have hp : ∀ i, i < k → p i = p' i := mono_within k h.mono h'.mono (fun i hi => by
    have hl : Lead D (RowsOf k R) (p i) := (rre_lead F h (p i)).2 ⟨i, hi, rfl⟩
    obtain ⟨u, h1, h2⟩ := hl
    obtain ⟨j, hj, e⟩ := (rre_lead F h' (p i)).1 ⟨u, hs u h1, h2⟩
    exact ⟨j, hj, e⟩)
  have hc := lcR_spn F (K := k) (R := R) p v h.el k (Nat.le_refl _)
  have hd : Spn D (RowsOf k R') (psub D v (lcR D R p v k)) := spn_sub F hv (hs _ hc)
  have hz := rre_nil F h' hd (fun j hj => by
    show D.sb (v (p' j)) (lcR D R p v k (p' j)) = 0
    rw [← hp j hj, lcR_own F (hv.el F) (fun a b ha hb => by
      by_cases e : a = b
      · subst e; rw [if_pos rfl, h.one a ha]
      · rw [if_neg e, h.zero a b ha hb e]) hj k (Nat.le_refl _), if_pos hj, sb_self F (hv.el F _)])
  rw [psub_eq_nil F (hv.el F) (hc.el F) hz]
  exact hc
end Go.Proofs.Ytpgldgicblhjiaa

/- Plain mathematics: how many rows sums and meets of codes have. No Go text here. -/
namespace Go.Proofs.Ytpgldgicblhjiaa

theorem mono_few {p q : Nat → Nat} {k k' : Nat} (hp : ∀ i j, i < j → j < k → p i < p j) (hq : ∀ i j, i < j → j < k' → q i < q j) (hs : ∀ i, i < k → ∃ j, j < k' ∧ p i = q j) : k ≤ k' := by
  have up : ∀ i, i < k → ∀ j, j < k' → p i = q j → i ≤ j := fun i => by
    induction i with
    | zero => intro _ j _ _; exact Nat.zero_le _
    | succ i ih =>
      intro hi j hj e
      obtain ⟨l, hl, el⟩ := hs i (by omega)
      have h1 := ih (by omega) l hl el
      have h2 := hp i (i + 1) (by omega) hi
      have h3 : l < j := by
        rcases Nat.lt_or_ge l j with h | h
        · exact h
        · rcases Nat.lt_or_eq_of_le h with h | h
          · have := hq j l h hl; omega
          · subst h; omega
      omega
  rcases Nat.eq_zero_or_pos k with e | e
  · omega
  · obtain ⟨j, hj, ej⟩ := hs (k - 1) (by omega)
    have := up (k - 1) (by omega) j hj ej
    omega
/-- So many rows span it. -/
def Dim (D : FD) (n : Nat) (Q : (Nat → Nat) → Prop) (k : Nat) : Prop := ∃ R p, RRE D n k R p ∧ ∀ v, Spn D (RowsOf k R) v ↔ Q v
theorem Dim.uniq {D : FD} (F : Fld D) {n k k' : Nat} {Q Q' : (Nat → Nat) → Prop} (h : Dim D n Q k) (h' : Dim D n Q' k') (e : ∀ v, Q v ↔ Q' v) : k = k' := by
  obtain ⟨R, p, h1, h2⟩ := h
  obtain ⟨R', p', h3, h4⟩ := h'
  exact (rre_uniq F h1 h3 (fun v => (h2 v).trans ((e v).trans (h4 v).symm))).1
theorem Dim.congr {D : FD} {n k : Nat} {Q Q' : (Nat → Nat) → Prop} (h : Dim D n Q k) (e : ∀ v, Q v ↔ Q' v) : Dim D n Q' k := by
  obtain ⟨R, p, h1, h2⟩ := h
  exact ⟨R, p, h1, fun v => (h2 v).trans (e v)⟩
theorem Dim.spn {D : FD} (F : Fld D) {n k : Nat} {Q : (Nat → Nat) → Prop} (h : Dim D n Q k) (v : Nat → Nat) : Spn D Q v ↔ Q v := by
  obtain ⟨R, p, h1, h2⟩ := h
  refine ⟨fun hv => (h2 v).1 (spn_le F (fun u hu => (h2 u).2 hu) hv), fun hv => spn_mem F (((h2 v).2 hv).el F) hv⟩
theorem Dim.el {D : FD} (F : Fld D) {n k : Nat} {Q : (Nat → Nat) → Prop} (h : Dim D n Q k) {v : Nat → Nat} (hv : Q v) : El D v := ((h.spn F v).2 hv).el F
theorem Dim.add {D : FD} (F : Fld D) {n k : Nat} {Q : (Nat → Nat) → Prop} (h : Dim D n Q k) {u v : Nat → Nat} (hu : Q u) (hv : Q v) : Q (padd D u v) := (h.spn F _).1 (spn_add F ((h.spn F u).2 hu) ((h.spn F v).2 hv))
/-- A row more that it has not. -/
theorem Dim.next {D : FD} (hD : D ∈ fieldsL) {n k : Nat} {Q : (Nat → Nat) → Prop} (h : Dim D n Q k) {x : Nat → Nat} (ex : El D x) (bx : Bd n x) (hx : ¬ Q x) : Dim D n (Spn D (Wth Q x)) (k + 1) := by
  have F := fld hD
  obtain ⟨R, p, h1, h2⟩ := h
  obtain ⟨M, hM⟩ : ∃ M : Nat → Nat → Nat, M = fun i => if i < k then R i else x := ⟨_, rfl⟩
  have hrow : ∀ v, RowsOf (k + 1) M v ↔ Wth (RowsOf k R) x v := fun v => by
    rw [wth_rows]
    have a1 : ∀ i, i < k → M i = R i := fun i hi => by rw [hM]; exact if_pos hi
    have a2 : M k = x := by rw [hM]; exact if_neg (by omega)
    rw [a2]
    exact or_congr ⟨fun ⟨i, hi, e⟩ => ⟨i, hi, by rw [e, a1 i hi]⟩, fun ⟨i, hi, e⟩ => ⟨i, hi, by rw [a1 i hi]; exact e⟩⟩ Iff.rfl
  have hME : ∀ i, i < k + 1 → El D (M i) := fun i hi => by
    rw [hM]; show El D (if i < k then R i else x); split
    · exact h1.el i (by omega)
    · exact ex
  have hMB : ∀ i, i < k + 1 → Bd n (M i) := fun i hi => by
    rw [hM]; show Bd n (if i < k then R i else x); split
    · exact h1.bd i (by omega)
    · exact bx
  obtain ⟨k', R', p', hk', g1, g2⟩ := rre_ex hD hME hMB
  have hspan : ∀ v, Spn D (RowsOf k' R') v ↔ Spn D (Wth (RowsOf k R) x) v := fun v => (g2 v).trans (spn_congr hrow v)
  have hsub : ∀ v, Spn D (RowsOf k R) v → Spn D (RowsOf k' R') v := fun v hv => (hspan v).2 (spn_in hv)
  have hk : k ≤ k' := mono_few h1.mono g1.mono (fun i hi => by
    obtain ⟨u, u1, u2⟩ := (rre_lead F h1 (p i)).2 ⟨i, hi, rfl⟩
    obtain ⟨j, hj, e⟩ := (rre_lead F g1 (p i)).1 ⟨u, hsub u u1, u2⟩
    exact ⟨j, hj, e⟩)
  have hne : k ≠ k' := fun e => by
    subst e
    have := (rre_within F h1 g1 hsub x).2 ((hspan x).2 (spn_mem F ex (Or.inr rfl)))
    exact hx ((h2 x).1 this)
  have e : k' = k + 1 := by omega
  subst e
  refine ⟨R', p', g1, fun v => (hspan v).trans ⟨fun hv => ?_, fun hv => ?_⟩⟩
  · refine spn_le F (fun u hu => ?_) hv
    rcases hu with ⟨i, hi, e⟩ | e
    · exact spn_mem F (by rw [e]; exact h1.el i hi) (Or.inl ((h2 u).1 (by rw [e]; exact spn_mem F (h1.el i hi) ⟨i, hi, rfl⟩)))
    · rw [e]; exact spn_mem F ex (Or.inr rfl)
  · refine spn_le F (fun u hu => ?_) hv
    rcases hu with hu | e
    · exact spn_in ((h2 u).2 hu)
    · rw [e]; exact spn_mem F ex (Or.inr rfl)
end Go.Proofs.Ytpgldgicblhjiaa

/- Plain mathematics: the rows of sum and meet together are both's. No Go text here. -/
namespace Go.Proofs.Ytpgldgicblhjiaa

theorem RRE.take {D : FD} {n k j : Nat} {R : Nat → Nat → Nat} {p : Nat → Nat} (h : RRE D n k R p) (hj : j ≤ k) : RRE D n j R p :=
  ⟨fun i hi => h.el i (by omega), fun i hi => h.bd i (by omega), fun i hi => h.lt i (by omega), fun a b h1 h2 => h.mono a b h1 (by omega), fun i hi => h.one i (by omega), fun a b h1 h2 => h.zero a b (by omega) (by omega), fun i c hi => h.lead i c (by omega)⟩
end Go.Proofs.Ytpgldgicblhjiaa

/- Plain mathematics: words without a place; the dual of the punctured dual. No Go text here. -/
namespace Go.Proofs.Ytpgldgicblhjiaa

/-- A word with 0 put in at place a. -/
def wi (a : Nat) (u : Nat → Nat) : Nat → Nat := fun j => if j < a then u j else if j = a then 0 else u (j - 1)
end Go.Proofs.Ytpgldgicblhjiaa

/- Plain mathematics: the rows that are left where one place is 0. No Go text here. -/
namespace Go.Proofs.Ytpgldgicblhjiaa

/-- The first of i rows that is not 0 at place a. -/
def shF (M : Nat → Nat → Nat) (a : Nat) : Nat → Option Nat
  | 0 => none
  | i + 1 => match shF M a i with
    | some f => some f
    | none => if M i a = 0 then none else some i
end Go.Proofs.Ytpgldgicblhjiaa

/- A word without a place (the reference's Without). -/
namespace Go.Proofs.Ytpgldgicblhjiaa
open Go.RowKit Go.Sort

end Go.Proofs.Ytpgldgicblhjiaa

/- A code without a place (the reference's Punctured). -/
namespace Go.Proofs.Ytpgldgicblhjiaa
open Go.RowKit Go.Sort

end Go.Proofs.Ytpgldgicblhjiaa

/- A code without a place (the program's puncture). -/
namespace Go.Proofs.Ytpgldgicblhjiaa
open Go.RowKit Go.Sort

end Go.Proofs.Ytpgldgicblhjiaa

/- Puncture, with its check. -/
namespace Go.Proofs.Ytpgldgicblhjiaa
open Go.RowKit Go.Sort

end Go.Proofs.Ytpgldgicblhjiaa
