/- Texts of ours, one behind the other: I22 I23 S12 I24 I25 I26 I27 I28 I29 I30 I31 S13 S14 S15 S16 S17 S18 I32 I33 I34 I35 I36 K6 K7 K8 W12. -/
import Derived.Test.YtdfneklnpghhmaaGreatDoorZI6
import Derived.Test.YtdfneklnpghhmaaGreatDoorZX12
import Derived.Lib.AppendZerosOnto
import Derived.Test.YtdfneklnpghhmaaGreatDoorZW11
import Derived.Test.YtdfneklnpghhmaaGreatDoorZO2
/- Encoded: the reference's sum of rows. -/
namespace Go.Proofs.YtdfneklnpghhmaaGreatDoor
open Go.RowKit Go.Sort

theorem enw_zero {D : FD} (F : Fld D) {R : Nat → Nat → Nat} {z : Nat → Nat} {k : Nat} (h : z k = 0) : enw D R z (k + 1) = enw D R z k := by
  funext c
  show D.ad (enw D R z k c) (D.mul (z k) (R k c)) = _
  rw [h, zero_mul' D, ad_zero F (enw_el F k c)]

set_option maxHeartbeats 16000000 in
set_option maxRecDepth 100000 in
theorem rencoded_any {D : FD} (hD : D ∈ fieldsL) (gen gm cm : Nat) {ro yo : Option Addr} {k n rc cy : Nat} {R : Nat → Nat → Nat} {z : Nat → Nat} {w : World} (hn : n ≤ 64) (hk : k ≤ 64) (hR : ∀ i, i < k → El D (R i)) (hz : ∀ i, i < k → z i < D.q) (hL : RL (.slice ro k rc) k n R w) (hY : Sl yo k z w) (hly : LtB yo w.heap.size) (hM : ModAt D (.slice (some ⟨gm, 0, none⟩) (D.m + 1) cm) D.md w) :
    Calls Tryz.prog 42 #[.agg #[.int .i64 D.q, .int .i64 D.p, .int .i64 D.m, .int .i64 gen, .slice (some ⟨gm, 0, none⟩) (D.m + 1) cm], .agg #[.int .i64 D.q, .int .i64 (n : Nat), .slice ro k rc], .slice yo k cy] w fun e w' => e = .returned (.slice (some ⟨w.heap.size + 1 + 1, 0, none⟩) n n) ∧ Row (w.heap.size + 1 + 1) n (enw D R z k) w' ∧ Below w.heap.size w w' := by
  obtain ⟨w0, hw0⟩ : ∃ w0, w0 = (w.alloc (.cells #[.int .i64 D.q, .int .i64 D.p, .int .i64 D.m, .int .i64 gen, .slice (some ⟨gm, 0, none⟩) (D.m + 1) cm] 65)).alloc (.cells #[.int .i64 D.q, .int .i64 (n : Nat), .slice ro k rc] 24) := ⟨_, rfl⟩
  have HW : Hid (Below w.heap.size w w0 ∧ Box w.heap.size D gen (.slice (some ⟨gm, 0, none⟩) (D.m + 1) cm) w0 ∧ CB (w.heap.size + 1) D.q n (.slice ro k rc) w0) ∧ w0.heap.size = w.heap.size + 1 + 1 := by
    have h1 : Below w.heap.size w (w.alloc (.cells #[.int .i64 D.q, .int .i64 D.p, .int .i64 D.m, .int .i64 gen, .slice (some ⟨gm, 0, none⟩) (D.m + 1) cm] 65)) := (Below.refl _ _).alloc (Nat.le_refl _) _
    have h2 := CB.new D.q n (.slice ro k rc) (w.alloc (.cells #[.int .i64 D.q, .int .i64 D.p, .int .i64 D.m, .int .i64 gen, .slice (some ⟨gm, 0, none⟩) (D.m + 1) cm] 65))
    rw [show (w.alloc (.cells #[.int .i64 D.q, .int .i64 D.p, .int .i64 D.m, .int .i64 gen, .slice (some ⟨gm, 0, none⟩) (D.m + 1) cm] 65)).heap.size = w.heap.size + 1 by simp] at h2
    have h3 : Below (w.alloc (.cells #[.int .i64 D.q, .int .i64 D.p, .int .i64 D.m, .int .i64 gen, .slice (some ⟨gm, 0, none⟩) (D.m + 1) cm] 65)).heap.size (w.alloc (.cells #[.int .i64 D.q, .int .i64 D.p, .int .i64 D.m, .int .i64 gen, .slice (some ⟨gm, 0, none⟩) (D.m + 1) cm] 65)) w0 := by rw [hw0]; exact (Below.refl _ _).alloc (Nat.le_refl _) _
    refine ⟨⟨bel_up' h1 h3, (box_new D gen _ w).below h3 (by simp), ?_⟩, by rw [hw0]; simp⟩
    rw [hw0]; exact h2
  obtain ⟨HW, hw0s⟩ := HW
  have HF : Hid (D ∈ fieldsL ∧ (∀ i, i < k → El D (R i)) ∧ (∀ i, i < k → z i < D.q) ∧ RL (.slice ro k rc) k n R w0 ∧ Sl yo k z w0 ∧ LtB yo w0.heap.size ∧ ModAt D (.slice (some ⟨gm, 0, none⟩) (D.m + 1) cm) D.md w) := ⟨hD, hR, hz, hL.below HW.out.1, hY.below HW.out.1 hly, fun x hx => Nat.lt_of_lt_of_le (hly x hx) HW.out.1.size, hM⟩
  clear hD hR hz hL hY hly hM
  go_enter Tryz.func42, Tryz.ntmps42
  obtain ⟨p0, p1, p2⟩ := HW.out.2.2
  rw [hw0] at p0 p1 p2
  go_wp2_with (at_make; refine make_int rfl _ _ rfl _ n rfl rfl (by omega) (by omega) ?_; intro w1 hown1 hgrow1)
  have H1 : Hid (Row (w.heap.size + 1 + 1) n pnil w1 ∧ Below w0.heap.size w0 w1) := by
    rw [← hw0s, hw0]
    exact ⟨row_zeros hown1, below_grown hgrow1 (Nat.le_refl _) (fun k hk => by simp at hk)⟩
  clear hown1 hgrow1 hw0 p0 p1 p2
  obtain ⟨G, hG⟩ : ∃ G, G = w.heap.size + 1 + 1 := ⟨_, rfl⟩
  rw [← hG] at H1 hw0s
  first | rw [← hG] | skip
  have HG0 : Hid (G = w.heap.size + 1 + 1) := hG
  have hGw : w.heap.size + 1 < G := by omega
  have hG0 : w0.heap.size ≤ G := by omega
  have hW0 : w.heap.size < w0.heap.size := by omega
  clear hG hw0s
  go_wp2_with fail
  go_loopw [8] (fun vi wr => ∃ i : Nat, i ≤ k ∧ vi = .int .i64 i ∧ Hid (Row G n (enw D R z i) wr ∧ Below w0.heap.size w0 wr)) (fun vi _ => k - (intOf vi).toNat)
  case atStart => exact ⟨0, by omega, rfl, H1.out⟩
  case round =>
    clear H1
    obtain ⟨i, hi, rfl, HG⟩ := hrel
    rename World => wA
    by_cases hlt : i < k
    · have hib : (i : Int) < (k : Int) := by omega
      have hib0 : (0 : Int) ≤ (i : Int) := by omega
      obtain ⟨x, hx⟩ : ∃ x, x = z i := ⟨_, rfl⟩
      have HX : Hid (x = z i ∧ x < D.q) := ⟨hx, by rw [hx]; exact HF.out.2.2.1 i hlt⟩
      clear hx
      go_wp2_with fail
      go_loopw [9] (fun vj wi => ∃ j : Nat, j ≤ n ∧ vj = .int .i64 j ∧ Hid (Row G n (fun c => if c < j then enw D R z (i + 1) c else enw D R z i c) wi ∧ Below w0.heap.size w0 wi)) (fun vj _ => n - (intOf vj).toNat)
      case atStart => exact ⟨0, by omega, rfl, HG.out.1.congr (fun c _ => by rw [if_neg (by omega)]), HG.out.2⟩
      case round =>
        clear HG
        obtain ⟨j, hj, rfl, HJ⟩ := hrel
        rename World => wC
        have hb := HJ.out.2
        obtain ⟨p0, p1, p2⟩ := HW.out.2.2.keep hb
        by_cases hjn : j < n
        · have hjb : (j : Int) < (n : Int) := by omega
          have hjb0 : (0 : Int) ≤ (j : Int) := by omega
          obtain ⟨bY, oY, hyo, hcy⟩ := (HF.out.2.2.2.2.1.below hb HF.out.2.2.2.2.2.1) i hlt
          subst hyo
          rw [← HX.out.1] at hcy
          by_cases hx0 : x = 0
          · have hxz : (((x : Nat) : Int) != 0) = false := by rw [hx0]; rfl
            have HK2 : Hid (Row G n (enw D R z (i + 1)) wC) := HJ.out.1.congr (fun c _ => by
              have e := enw_zero (fld HF.out.1) (R := R) (z := z) (k := i) (by rw [← HX.out.1]; exact hx0)
              rw [e]; split <;> rfl)
            clear hx0 hb
            go_wp2
            go_roundw
            case rel => exact ⟨i + 1, by omega, by go_num, HK2.out, HJ.out.2⟩
            case measure => simp [intOf]; omega
          · have hxz : (((x : Nat) : Int) != 0) = true := by rw [bne_iff_ne]; omega
            clear hx0
            obtain ⟨ro', rc', ev, hrl⟩ := HF.out.2.2.2.1.below hb
            cases ev
            obtain ⟨bR, oR, xr, cx, hro, hcr, hsr⟩ := hrl i hlt
            subst hro
            obtain ⟨bx, ox, hxr, hcx⟩ := hsr j hjn
            subst hxr
            obtain ⟨y, hy⟩ : ∃ y, y = R i j := ⟨_, rfl⟩
            rw [← hy] at hcx
            obtain ⟨t, ht⟩ : ∃ t, t = enw D R z i j := ⟨_, rfl⟩
            obtain ⟨p, hp⟩ : ∃ p, p = D.mul x y := ⟨_, rfl⟩
            obtain ⟨u, hu⟩ : ∃ u, u = D.ad t p := ⟨_, rfl⟩
            have hct : wC.cell? ⟨G, j, none⟩ = some (.int .i64 (t : Nat)) := by
              have h := HJ.out.1.cell j hjn
              rw [if_neg (by omega), ← ht] at h; exact h
            have F := fld HF.out.1
            have hyq : y < D.q := by rw [hy]; exact HF.out.2.1 i hlt j
            have htq : t < D.q := by rw [ht]; exact enw_el F _ _
            have hpq : p < D.q := by rw [hp]; exact F.mul_lt _ _
            have hxq := HX.out.2
            have hbx := HW.out.2.1.below hb (by omega)
            have k0 := cell_regrown hbx.c0
            have k1 := cell_regrown hbx.c1
            have k2 := cell_regrown hbx.c2
            have k3 := cell_regrown hbx.c3
            have k4 := cell_regrown hbx.c4
            have k5 := cell_regrown hct
            have k6 := cell_regrown hcy
            have k7 := cell_regrown p2
            have k8 := cell_regrown hcr
            have k9 := cell_regrown hcx
            have k10 := free_regrown HJ.out.1.lt (HJ.out.1.free j)
            have hbw : Below w.heap.size w wC := bel_up' HW.out.1 hb
            have HC1 : Hid (∀ d os, Calls Tryz.prog 65 #[.agg #[.int .i64 D.q, .int .i64 D.p, .int .i64 D.m, .int .i64 gen, .slice (some ⟨gm, 0, none⟩) (D.m + 1) cm], .int .i64 (x : Nat), .int .i64 (y : Nat)] (grow (redrawn wC d) os) fun e w'' => e = .returned (.int .i64 (p : Nat)) ∧ ∃ p : Regrown, w'' = grow (redrawn wC p.d) p.os) := fun d os => by
              rw [hp]
              exact Calls.regrown_of (rmul_nat HF.out.1 gen HF.out.2.2.2.2.2.2 x y hxq hyq _ (bel_up' hbw (below_regrown wC d os)))
            have HC2 : Hid (∀ d os, Calls Tryz.prog 68 #[.agg #[.int .i64 D.q, .int .i64 D.p, .int .i64 D.m, .int .i64 gen, .slice (some ⟨gm, 0, none⟩) (D.m + 1) cm], .int .i64 (t : Nat), .int .i64 (p : Nat)] (grow (redrawn wC d) os) fun e w'' => e = .returned (.int .i64 (u : Nat)) ∧ ∃ p : Regrown, w'' = grow (redrawn wC p.d) p.os) := fun d os => by
              have h := radd_nat HF.out.1 gen (.slice (some ⟨gm, 0, none⟩) (D.m + 1) cm) t p htq hpq (grow (redrawn wC d) os)
              rw [hu]
              exact Calls.regrown_of h
            have HV : Hid (∀ c, c < n → (if c < j + 1 then enw D R z (i + 1) c else enw D R z i c) = if c = j then u else if c < j then enw D R z (i + 1) c else enw D R z i c) := fun c _ => by
              by_cases e : c = j
              · rw [if_pos e, if_pos (by omega), hu, e, ht, hp, hy, HX.out.1]; rfl
              · rw [if_neg e]
                by_cases e2 : c < j
                · rw [if_pos e2, if_pos (by omega)]
                · rw [if_neg e2, if_neg (by omega)]
            clear hy ht hp hu hct hrl hsr hbx hbw F hb
            go_wp2
            refine below_tail 23 (by kernel_rfl) (by kernel_rfl) ?_
            simp only [List.take_succ_cons, List.take_zero, List.drop_succ_cons, List.drop_zero]
            repeat (go_big_quiet_step (first | (go_at_call 65; exact HC1.out _ _) | (go_at_call 68; exact HC2.out _ _)))
            refine wpQuiet_nil ?_
            intro _ hw'
            obtain ⟨⟨ds, oss⟩, hw''⟩ := hw'
            subst hw''
            have hb7 := below_regrown wC ds oss
            have H7 : Hid (Row G n (fun c => if c < j then enw D R z (i + 1) c else enw D R z i c) (grow (redrawn wC ds) oss) ∧ Below w0.heap.size w0 (grow (redrawn wC ds) oss)) := ⟨HJ.out.1.below hb7 HJ.out.1.lt, bel_up' HJ.out.2 hb7⟩
            clear hb7
            go_wp2
            go_roundw
            case rel => exact ⟨j + 1, by omega, by go_num, H7.out.1.store j u HV.out, H7.out.2.setCell (show w0.heap.size ≤ G from hG0) _⟩
            case measure => simp [intOf]; omega
        · have hjb : ¬ (j : Int) < (n : Int) := by omega
          have HK2 : Hid (Row G n (enw D R z (i + 1)) wC) := HJ.out.1.congr (fun c hc => by rw [if_pos (by omega)])
          clear hb
          go_wp2
          go_roundw
          case rel => exact ⟨i + 1, by omega, by go_num, HK2.out, HJ.out.2⟩
          case measure => simp [intOf]; omega
    · have hib : ¬ (i : Int) < (k : Int) := by omega
      have hie : k = i := by omega
      subst hie
      have HZ : Hid (Below w.heap.size w wA) := bel_up' HW.out.1 HG.out.2
      go_wp2
      go_ret
      exact ⟨by rw [← HG0.out]; rfl, by rw [← HG0.out]; exact HG.out.1, HZ.out⟩
end Go.Proofs.YtdfneklnpghhmaaGreatDoor

/- Encode: where there is nothing to tell. -/
namespace Go.Proofs.YtdfneklnpghhmaaGreatDoor
open Go.RowKit Go.Sort

end Go.Proofs.YtdfneklnpghhmaaGreatDoor

/- Plain mathematics: products of rows; what makes rows 0. No Go text here. -/
namespace Go.Proofs.YtdfneklnpghhmaaGreatDoor

end Go.Proofs.YtdfneklnpghhmaaGreatDoor

/- WordMay and Dot of the reference. -/
namespace Go.Proofs.YtdfneklnpghhmaaGreatDoor
open Go.RowKit Go.Sort

end Go.Proofs.YtdfneklnpghhmaaGreatDoor

/- Syndrome and Has. -/
namespace Go.Proofs.YtdfneklnpghhmaaGreatDoor
open Go.RowKit Go.Sort

end Go.Proofs.YtdfneklnpghhmaaGreatDoor

/- Has. -/
namespace Go.Proofs.YtdfneklnpghhmaaGreatDoor
open Go.RowKit Go.Sort

end Go.Proofs.YtdfneklnpghhmaaGreatDoor

/- CodeSays: the words of a code. -/
namespace Go.Proofs.YtdfneklnpghhmaaGreatDoor
open Go.RowKit Go.Sort

end Go.Proofs.YtdfneklnpghhmaaGreatDoor

/- CodeSays: the words of a code that may be. -/
namespace Go.Proofs.YtdfneklnpghhmaaGreatDoor
open Go.RowKit Go.Sort

end Go.Proofs.YtdfneklnpghhmaaGreatDoor

/- Places that a code may lose. -/
namespace Go.Proofs.YtdfneklnpghhmaaGreatDoor
open Go.RowKit Go.Sort

end Go.Proofs.YtdfneklnpghhmaaGreatDoor

/- Room ahead (slices.Grow of nothing). -/
namespace Go.Proofs.YtdfneklnpghhmaaGreatDoor
open Go.RowKit Go.Sort

end Go.Proofs.YtdfneklnpghhmaaGreatDoor

/- TwoL lists behind one another (slices.Concat). -/
namespace Go.Proofs.YtdfneklnpghhmaaGreatDoor
open Go.RowKit Go.Sort

end Go.Proofs.YtdfneklnpghhmaaGreatDoor

/- Plain mathematics: what makes rows 0 is what the null rows span; the dual of the dual. No Go text here. -/
namespace Go.Proofs.YtdfneklnpghhmaaGreatDoor

end Go.Proofs.YtdfneklnpghhmaaGreatDoor

/- Plain mathematics: the dual of the dual. No Go text here. -/
namespace Go.Proofs.YtdfneklnpghhmaaGreatDoor

end Go.Proofs.YtdfneklnpghhmaaGreatDoor

/- Plain mathematics: how many rows sums and meets of codes have. No Go text here. -/
namespace Go.Proofs.YtdfneklnpghhmaaGreatDoor

end Go.Proofs.YtdfneklnpghhmaaGreatDoor

/- Plain mathematics: the rows of sum and meet together are both's. No Go text here. -/
namespace Go.Proofs.YtdfneklnpghhmaaGreatDoor

theorem RRE.take {D : FD} {n k j : Nat} {R : Nat → Nat → Nat} {p : Nat → Nat} (h : RRE D n k R p) (hj : j ≤ k) : RRE D n j R p :=
  ⟨fun i hi => h.el i (by omega), fun i hi => h.bd i (by omega), fun i hi => h.lt i (by omega), fun a b h1 h2 => h.mono a b h1 (by omega), fun i hi => h.one i (by omega), fun a b h1 h2 => h.zero a b (by omega) (by omega), fun i c hi => h.lead i c (by omega)⟩
end Go.Proofs.YtdfneklnpghhmaaGreatDoor

/- Plain mathematics: words without a place; the dual of the punctured dual. No Go text here. -/
namespace Go.Proofs.YtdfneklnpghhmaaGreatDoor

end Go.Proofs.YtdfneklnpghhmaaGreatDoor

/- Plain mathematics: the rows that are left where one place is 0. No Go text here. -/
namespace Go.Proofs.YtdfneklnpghhmaaGreatDoor

end Go.Proofs.YtdfneklnpghhmaaGreatDoor

/- A word without a place (the reference's Without). -/
namespace Go.Proofs.YtdfneklnpghhmaaGreatDoor
open Go.RowKit Go.Sort

end Go.Proofs.YtdfneklnpghhmaaGreatDoor

/- A code without a place (the reference's Punctured). -/
namespace Go.Proofs.YtdfneklnpghhmaaGreatDoor
open Go.RowKit Go.Sort

end Go.Proofs.YtdfneklnpghhmaaGreatDoor

/- A code without a place (the program's puncture). -/
namespace Go.Proofs.YtdfneklnpghhmaaGreatDoor
open Go.RowKit Go.Sort

end Go.Proofs.YtdfneklnpghhmaaGreatDoor

/- Puncture, with its check. -/
namespace Go.Proofs.YtdfneklnpghhmaaGreatDoor
open Go.RowKit Go.Sort

end Go.Proofs.YtdfneklnpghhmaaGreatDoor

/- Shorten, with its check. -/
namespace Go.Proofs.YtdfneklnpghhmaaGreatDoor
open Go.RowKit Go.Sort

end Go.Proofs.YtdfneklnpghhmaaGreatDoor

/- Codes out of raw numbers (Few, CodeOf). -/
namespace Go.Proofs.YtdfneklnpghhmaaGreatDoor
open Go.RowKit Go.Sort

theorem fewR_le {q i k : Nat} (hq : 1 ≤ q) (h : i ≤ k) : q ^ i ≤ q ^ k := Nat.pow_le_pow_right hq h
/-- What Few tells. -/
def FewP (q k : Nat) (w : World) (e : Ending) (w' : World) : Prop := ∃ b, e = .returned (.bool b) ∧ (b = true ↔ q ^ k ≤ 4096) ∧ w' = w
set_option maxHeartbeats 2000000 in
theorem fewR_any (q k : Nat) (hq : 1 ≤ q) (hq2 : q ≤ 64) (hk : k ≤ 1000000) (w : World) :
    Calls Tryz.prog 20 #[.int .i64 (q : Nat), .int .i64 (k : Nat)] w (FewP q k w) := by
  go_enter Tryz.func20, Tryz.ntmps20
  go_wp2
  go_loopw [5, 6] (fun vn vi wr => ∃ i x : Nat, i ≤ k ∧ vi = .int .i64 i ∧ vn = .int .i64 (x : Nat) ∧ x ≤ 4096 ∧ Hid (x = q ^ i) ∧ wr = w) (fun _ vi _ => k - (intOf vi).toNat)
  case atStart => exact ⟨0, 1, by omega, rfl, rfl, by omega, by show 1 = q ^ 0; simp, rfl⟩
  case round =>
    obtain ⟨i, x, hi, rfl, rfl, hx, HX, hw⟩ := hrel
    have hw := hw.symm
    subst hw
    by_cases hlt : i < k
    · have hib : (i : Int) < (k : Int) := by omega
      obtain ⟨y, hy⟩ : ∃ y, y = x * q := ⟨_, rfl⟩
      have hy2 : y ≤ 4096 * 64 := by rw [hy]; exact Nat.mul_le_mul hx hq2
      have hwr : IntKind.i64.wrap ((x : Int) * (q : Int)) = (y : Int) := wrap_to (by rw [hy]; simp) (by omega)
      have HY : Hid (y = q ^ (i + 1)) := by show y = _; rw [hy, HX.out, Nat.pow_succ]
      clear hy
      by_cases hf : y ≤ 4096
      · have hfb : ¬ (y : Int) > 4096 := by omega
        have hfb2 : ¬ (4096 : Int) < (y : Int) := by omega
        go_wp2
        go_roundw
        case rel => exact ⟨i + 1, y, by omega, by go_num, by first | rfl | simp [hwr], hf, HY.out, by first | rfl | trivial⟩
        case measure => simp [intOf]; omega
      · have hfb : (y : Int) > 4096 := by omega
        have hfb2 : (4096 : Int) < (y : Int) := by omega
        have HNo : Hid (¬ q ^ k ≤ 4096) := by
          show ¬ _
          have := fewR_le hq (show i + 1 ≤ k by omega)
          rw [← HY.out] at this
          omega
        go_wp2
        go_ret
        exact ⟨false, rfl, ⟨fun h => Bool.noConfusion h, fun h => absurd h HNo.out⟩, rfl⟩
    · have hib : ¬ (i : Int) < (k : Int) := by omega
      have hie : i = k := by omega
      subst hie
      have HYes : Hid (q ^ i ≤ 4096) := by show q ^ i ≤ 4096; rw [← HX.out]; exact hx
      go_wp2
      go_ret
      exact ⟨true, rfl, ⟨fun _ => HYes.out, fun _ => rfl⟩, rfl⟩

theorem blw_mchk6 {D : FD} {m c : Nat} {Z : Nat → Nat → Int} (hm : m ≤ 64) (hc0 : 1 ≤ c) (hc : c ≤ 64) (h : ∀ i, i < m → Blw D.q c (Z i)) : D.mchk m (fun _ => c) Z = 0 := by
  refine mchk_of hm (fun i hi => ?_)
  unfold FD.mrow
  rw [if_neg (by omega), if_neg (by omega), if_pos]
  refine allHas_iff.2 (fun j hj => ?_)
  have := h i hi j hj
  unfold FD.has
  rw [decide_eq_true_eq]; exact this
theorem pick_nat6 {m : Int} {k : Nat} (hk : 0 < k) : ∃ M : Nat, pick m (k : Int) = (M : Int) ∧ M < k := by
  have h1 := pick_lo m (k : Int) (by omega)
  have h2 := pick_hi m (k : Int) (by omega)
  exact ⟨(pick m (k : Int)).toNat, by omega, by omega⟩
/-- Rows of raw numbers are rows of a code. -/
theorem MkS.cdz {D : FD} {base n r : Nat} {v : Value} {vs : Nat → Value} {Z : Nat → Nat → Int} {w : World} (h : MkS base D.q n r v vs Z w) (hr : r ≤ 64) (hn1 : 1 ≤ n) (hn : n ≤ 64) : ∃ mo mc, v = .slice mo r mc ∧ CdZ D mo r n (fun j => slA (vs j)) (fun _ => n) (fun j => slC (vs j)) Z w := by
  obtain ⟨mo, mc, rfl, hz⟩ := h.matZ (by omega)
  exact ⟨mo, mc, rfl, hz, blw_mchk6 hr hn1 hn h.blw, fun _ => rfl, hn1, hn⟩
/-- The sizes of which CodeOf takes one. -/
theorem small_field : ∀ P : Nat, P < 6 → ∃ D ∈ fieldsL, ([2, 2, 3, 4, 5, 8] : List Nat).getD P 0 = D.q ∧ D.q ≤ 8 := by
  have h : ([2, 2, 3, 4, 5, 8] : List Nat).all (fun z => fieldsL.any fun D => D.q == z) = true := by decide +kernel
  intro P hP
  have hm : ([2, 2, 3, 4, 5, 8] : List Nat).getD P 0 ∈ ([2, 2, 3, 4, 5, 8] : List Nat) ∧ ([2, 2, 3, 4, 5, 8] : List Nat).getD P 0 ≤ 8 := by
    have : P = 0 ∨ P = 1 ∨ P = 2 ∨ P = 3 ∨ P = 4 ∨ P = 5 := by omega
    rcases this with rfl | rfl | rfl | rfl | rfl | rfl <;> decide
  have h2 := List.all_eq_true.1 h _ hm.1
  obtain ⟨D, hD, he⟩ := List.any_eq_true.1 h2
  have he := eq_of_beq he
  exact ⟨D, hD, he.symm, by rw [he]; exact hm.2⟩
end Go.Proofs.YtdfneklnpghhmaaGreatDoor

/- Codes in hand: what was told is handed in again (Sum, Meet, Make, Dual). -/
namespace Go.Proofs.YtdfneklnpghhmaaGreatDoor
open Go.RowKit Go.Sort

/-- A code that can be handed in, of the rows M. -/
def Cod (D : FD) (n : Nat) (ao : Option Addr) (m : Nat) (M : Nat → Nat → Nat) (w : World) : Prop := ∃ A N C Z, CdZ D ao m n A N C Z w ∧ ∀ i, i < m → mzc N Z i = M i
theorem Cod.below {D : FD} {n m : Nat} {ao : Option Addr} {M : Nat → Nat → Nat} {w w' : World} (h : Cod D n ao m M w) (hb : Below w.heap.size w w') : Cod D n ao m M w' := by
  obtain ⟨A, N, C, Z, h1, h2⟩ := h
  exact ⟨A, N, C, Z, h1.below hb, h2⟩
theorem Cod.rows {D : FD} (F : Fld D) {n m : Nat} {ao : Option Addr} {M : Nat → Nat → Nat} {w : World} (h : Cod D n ao m M w) : m ≤ 64 ∧ (1 ≤ n ∧ n ≤ 64) ∧ ∀ i, i < m → El D (M i) ∧ Bd n (M i) := by
  obtain ⟨A, N, C, Z, h1, h2⟩ := h
  obtain ⟨g1, g2, g3, _⟩ := h1.rows F
  exact ⟨g1, ⟨h1.n1, h1.n64⟩, fun i hi => by rw [← h2 i hi]; exact ⟨g2 i hi, g3 i hi⟩⟩
theorem Cod.chk {D : FD} (hD : D ∈ fieldsL) {n m : Nat} (ca : Nat) {ao : Option Addr} {M : Nat → Nat → Nat} {w : World} (h : Cod D n ao m M w) (wx : World) (hx : Below w.heap.size w wx) :
    Calls Tryz.prog 47 #[.agg #[.int .i64 D.q, .int .i64 (n : Nat), .slice ao m ca]] wx fun x w' => x = .returned (.int .i64 0) ∧ Below wx.heap.size wx w' := by
  obtain ⟨A, N, C, Z, h1, _⟩ := h.below hx
  have e : D.cchk (n : Nat) m N Z = 0 := by
    have a1 := h1.n1
    have a2 := h1.n64
    unfold FD.cchk
    rw [if_neg (by omega), h1.chk, if_neg (fun h => h rfl), if_neg]
    rintro ⟨b1, b2⟩
    exact b2 (by rw [h1.wd b1])
  have := ccheck_any hD (ca := ca) (n : Nat) h1.mat (h1.few (fld hD))
  rw [e] at this
  exact this
theorem Red.of_eq {D : FD} {n m k : Nat} {M M' R : Nat → Nat → Nat} (h : Red D n m M k R) (e : ∀ i, i < m → M i = M' i) : Red D n m M' k R := by
  obtain ⟨p, h1, h2⟩ := h
  exact ⟨p, h1, fun v => (h2 v).trans (rows_congr e v)⟩
/-- A code's variable, newly made. -/
theorem box_at (q n : Int) (v : Value) (w : World) : Below w.heap.size w (w.alloc (.cells #[.int .i64 q, .int .i64 n, v] 24)) ∧ CB w.heap.size q n v (w.alloc (.cells #[.int .i64 q, .int .i64 n, v] 24)) ∧ (w.alloc (.cells #[.int .i64 q, .int .i64 n, v] 24)).heap.size = w.heap.size + 1 :=
  ⟨(Below.refl _ _).alloc (Nat.le_refl _) _, CB.new _ _ _ _, by simp⟩
end Go.Proofs.YtdfneklnpghhmaaGreatDoor

/- Codes out of raw numbers (CodeOf). -/
namespace Go.Proofs.YtdfneklnpghhmaaGreatDoor
open Go.RowKit Go.Sort

theorem MkS.laid {base q c i b : Nat} {v : Value} {vs : Nat → Value} {Z : Nat → Nat → Int} {w : World} (h : MkS base q c i v vs Z w) (hb : b < base) (x y : Int) (u : Value) : MkS base q c i v vs Z (laid w b x y u) :=
  ⟨h.own.same (fun g hg => laid_heap w b x y u (by have := h.own.open_ge g hg; omega)), fun j hj => (h.row j hj).same (fun g hg => laid_heap w b x y u (by have := ((h.row j hj).lt g hg).1; omega)), h.blw⟩

set_option maxHeartbeats 8000000 in
set_option maxRecDepth 100000 in
theorem codeOf_any {ao : Option Addr} {n ca : Nat} {z : Nat → Int} (q m r : Int) {w : World} (ha : Arg ao n ca z w) (hn : n ≤ 256) (hq : I64 q) (hm : I64 m) (hr : I64 r) :
    Calls Tryz.prog 17 #[.slice ao n ca, .int .i64 q, .int .i64 m, .int .i64 r] w fun e w' => ∃ D N r' mo mc A C Z, D ∈ fieldsL ∧ D.q ≤ 8 ∧ N ≤ 12 ∧ r' ≤ 5 ∧ D.q ^ r' ≤ 4096 ∧ e = .returned (.agg #[.int .i64 D.q, .int .i64 (N : Nat), .slice mo r' mc]) ∧ CdZ D mo r' N A (fun _ => N) C Z w' ∧ Below w.heap.size w w' := by
  obtain ⟨P0, hP0, hP1⟩ := pick_nat6 (m := q) (k := 6) (by omega)
  obtain ⟨N0, hN0, hN1⟩ := pick_nat6 (m := m) (k := 12) (by omega)
  obtain ⟨D, hD, hDq, hD8⟩ := small_field P0 hP1
  have h2q := (fld hD).q2
  obtain ⟨w1, hw1⟩ : ∃ w1, w1 = (w.alloc (.cells #[.int .i64 0, .int .i64 0, .slice none 0 0] 24)).alloc (.cells #[.int .i64 2, .int .i64 2, .int .i64 3, .int .i64 4, .int .i64 5, .int .i64 8] 3) := ⟨_, rfl⟩
  have hcell : w1.cell? ⟨w.heap.size + 1, P0, none⟩ = some (.int .i64 (D.q : Nat)) := by
    rw [hw1, ← hDq]
    have : P0 = 0 ∨ P0 = 1 ∨ P0 = 2 ∨ P0 = 3 ∨ P0 = 4 ∨ P0 = 5 := by omega
    have hsz : (w.alloc (.cells #[.int .i64 0, .int .i64 0, .slice none 0 0] 24)).heap.size = w.heap.size + 1 := by simp
    rcases this with rfl | rfl | rfl | rfl | rfl | rfl <;> (rw [← hsz, cell_of_row _ _ _ _ _ (0, 0) (two_new _)]; rfl)
  have HW : Hid (Below w.heap.size w w1 ∧ RB w.heap.size w1) := by
    rw [hw1]
    have h1 : Below w.heap.size w (w.alloc (.cells #[.int .i64 0, .int .i64 0, .slice none 0 0] 24)) := (Below.refl _ _).alloc (Nat.le_refl _) _
    have h2 : Below (w.alloc (.cells #[.int .i64 0, .int .i64 0, .slice none 0 0] 24)).heap.size (w.alloc (.cells #[.int .i64 0, .int .i64 0, .slice none 0 0] 24)) ((w.alloc (.cells #[.int .i64 0, .int .i64 0, .slice none 0 0] 24)).alloc (.cells #[.int .i64 2, .int .i64 2, .int .i64 3, .int .i64 4, .int .i64 5, .int .i64 8] 3)) := (Below.refl _ _).alloc (Nat.le_refl _) _
    exact ⟨bel_up' h1 h2, (RB.new _ _ _ w).keep h2⟩
  have HA : Hid (Arg ao n ca z w ∧ D ∈ fieldsL) := ⟨ha, hD⟩
  have HP1 : Hid (∀ w : World, Calls Tryz.prog 18 #[.int .i64 q, .int .i64 6] w fun e w' => e = .returned (.int .i64 P0) ∧ w' = w) := fun w => by rw [← hP0]; exact pick_any q 6 w hq.1 hq.2 (by omega) (by omega)
  have HP2 : Hid (∀ w : World, Calls Tryz.prog 18 #[.int .i64 m, .int .i64 12] w fun e w' => e = .returned (.int .i64 N0) ∧ w' = w) := fun w => by rw [← hN0]; exact pick_any m 12 w hm.1 hm.2 (by omega) (by omega)
  obtain ⟨N, hNe⟩ : ∃ N, N = 1 + N0 := ⟨_, rfl⟩
  have hwN : IntKind.i64.wrap (1 + (N0 : Int)) = (N : Int) := wrap_to (by omega) (by omega)
  have hNb : 1 ≤ N ∧ N ≤ 12 := by omega
  have HR : Hid (I64 r) := hr
  have hP1i : (P0 : Int) < 6 := by omega
  have hP1j : (0 : Int) ≤ (P0 : Int) := by omega
  clear hD hP0 hN0 ha hq hm hr hNe hDq
  go_enter Tryz.func17, Tryz.ntmps17
  go_wp2_with fail
  rw [← hw1]
  clear hw1
  refine (HP1.out w1).mono ?_
  rintro e w' ⟨rfl, hw⟩
  have hw := hw.symm
  subst hw
  go_wp2_with fail
  clear hcell
  refine (HP2.out w1).mono ?_
  rintro e w' ⟨rfl, hw⟩
  have hw := hw.symm
  subst hw
  go_wp2
  go_loopw [9] (fun vi wr => ∃ t : Nat, t ≤ 5 ∧ vi = .int .i64 t ∧ Hid (D.q ^ t ≤ 4096) ∧ wr = w1) (fun vi _ => 5 - (intOf vi).toNat)
  case atStart => exact ⟨0, by omega, rfl, by show D.q ^ 0 ≤ 4096; simp, rfl⟩
  case round =>
    obtain ⟨t, ht, rfl, HT, hw⟩ := hrel
    have hw := hw.symm
    subst hw
    obtain ⟨T, hTe⟩ : ∃ T, T = t + 1 := ⟨_, rfl⟩
    have HTi : Hid ((t : Int) + 1 = (T : Int) ∧ T = t + 1) := ⟨by omega, hTe⟩
    have hTb : 1 ≤ T ∧ T ≤ 6 := by omega
    have HF : Hid (Calls Tryz.prog 20 #[.int .i64 (D.q : Nat), .int .i64 (T : Nat)] w1 (FewP D.q T w1)) := fewR_any D.q T (by omega) (by omega) (by omega) w1
    clear hTe
    go_wp2_with fail
    rw [HTi.out.1]
    refine HF.out.mono ?_
    rintro e w' ⟨fb, rfl, hfb, hw⟩
    have HFB : Hid (fb = true ↔ D.q ^ T ≤ 4096) := hfb
    clear hfb
    have hw := hw.symm
    subst hw
    by_cases hc : fb = true ∧ t < 5
    · have ht5 : (t : Int) < 5 := by omega
      have hT2 := HFB.out.1 hc.1
      have HT2 : Hid (D.q ^ T ≤ 4096) := hT2
      obtain ⟨hfe, htl⟩ := hc
      subst hfe
      clear hT2 HFB
      go_wp2
      go_roundw
      case rel => exact ⟨T, by have := HTi.out.2; omega, by have h := HTi.out.1; first | rfl | rw [h] | simp [h], HT2.out, by first | rfl | trivial⟩
      case measure => have h := HTi.out; simp [intOf]; omega
    · obtain ⟨r', hr', hr2⟩ := pick_nat6 (m := r) (k := T) (by omega)
      have HP3 : Hid (∀ w : World, Calls Tryz.prog 18 #[.int .i64 r, .int .i64 (T : Nat)] w fun e w' => e = .returned (.int .i64 r') ∧ w' = w) := fun w => by rw [← hr']; exact pick_any r T w HR.out.1 HR.out.2 (by omega) (by omega)
      have HR2 : Hid (D.q ^ r' ≤ 4096) := Nat.le_trans (fewR_le (by omega) (show r' ≤ t by have := HTi.out.2; omega)) HT.out
      clear hr'
      have HM : Hid (∀ wx, Below w.heap.size w wx → Calls Tryz.prog 40 #[.slice ao n ca, .int .i64 0, .int .i64 (D.q : Nat), .int .i64 (r' : Nat), .int .i64 (N : Nat)] wx fun e w' => ∃ mo mc vs Z, e = .returned (.slice mo r' mc) ∧ MkS wx.heap.size D.q N r' (.slice mo r' mc) vs Z w' ∧ Below wx.heap.size wx w') := fun wx hx => by
        refine (matrixOf_any (HA.out.1.below hx) (by omega) 0 D.q r' N (by omega) (by omega) (by omega) (by omega) (by omega)).mono ?_
        rintro e w' ⟨v, vs, Z, rfl, hmk, hb⟩
        obtain ⟨mo, mc, rfl, hz⟩ := hmk.cdz (D := D) (by omega) hNb.1 (by omega)
        exact ⟨mo, mc, _, Z, rfl, hmk, hb⟩
      cases fb
      · clear hc HFB
        go_wp2_with fail
        rw [HTi.out.1]
        refine (HP3.out w1).mono ?_
        rintro e w' ⟨rfl, hw⟩
        have hw := hw.symm
        subst hw
        go_wp2_with fail
        refine (HM.out w1 HW.out.1).mono ?_
        rintro e w2 ⟨mo, mc, vs, Z, rfl, hmk, hb2⟩
        have H2 : Hid (MkS w1.heap.size D.q N r' (.slice mo r' mc) vs Z w2 ∧ Below w1.heap.size w1 w2 ∧ RB w.heap.size w2 ∧ w.heap.size < w1.heap.size) := ⟨hmk, hb2, HW.out.2.keep hb2, by obtain ⟨⟨x0, c0⟩, _⟩ := HW.out.2; exact cell_lt c0⟩
        clear hmk hb2
        obtain ⟨⟨x0, c0⟩, ⟨x1, c1⟩, ⟨x2, c2⟩, f0, f1, f2⟩ := H2.out.2.2.1
        go_wp2
        obtain ⟨w3, hw3⟩ : ∃ w3, w3 = laid w2 w.heap.size D.q (N : Nat) (.slice mo r' mc) := ⟨_, rfl⟩
        have H3 : Hid (CB w.heap.size D.q (N : Nat) (.slice mo r' mc) w3 ∧ MkS w1.heap.size D.q N r' (.slice mo r' mc) vs Z w3 ∧ Below w.heap.size w w3) := by
          rw [hw3]; exact ⟨laid_cb H2.out.2.2.1 _ _ _, H2.out.1.laid H2.out.2.2.2 _ _ _, laid_below (bel_up' HW.out.1 H2.out.2.1) (Nat.le_refl _) _ _ _⟩
        unfold laid at hw3
        rw [← hw3]
        clear hw3 c0 c1 c2 f0 f1 f2
        obtain ⟨c0, c1, c2⟩ := H3.out.1
        refine bodyPost_ret (v := .agg #[.int .i64 D.q, .int .i64 (N : Nat), .slice mo r' mc]) (by simp [results, Tryz.results17, go_sem, c0, c1, c2]) rfl ?_
        obtain ⟨mo', mc', he, hz⟩ := H3.out.2.1.cdz (D := D) (by omega) hNb.1 (by omega)
        cases he
        exact ⟨D, N, r', _, _, _, _, Z, HA.out.2, hD8, hNb.2, by omega, HR2.out, rfl, hz, H3.out.2.2⟩
      · have ht5 : ¬ (t : Int) < 5 := fun h => hc ⟨rfl, by omega⟩
        clear hc HFB
        go_wp2_with fail
        rw [HTi.out.1]
        refine (HP3.out w1).mono ?_
        rintro e w' ⟨rfl, hw⟩
        have hw := hw.symm
        subst hw
        go_wp2_with fail
        refine (HM.out w1 HW.out.1).mono ?_
        rintro e w2 ⟨mo, mc, vs, Z, rfl, hmk, hb2⟩
        have H2 : Hid (MkS w1.heap.size D.q N r' (.slice mo r' mc) vs Z w2 ∧ Below w1.heap.size w1 w2 ∧ RB w.heap.size w2 ∧ w.heap.size < w1.heap.size) := ⟨hmk, hb2, HW.out.2.keep hb2, by obtain ⟨⟨x0, c0⟩, _⟩ := HW.out.2; exact cell_lt c0⟩
        clear hmk hb2
        obtain ⟨⟨x0, c0⟩, ⟨x1, c1⟩, ⟨x2, c2⟩, f0, f1, f2⟩ := H2.out.2.2.1
        go_wp2
        obtain ⟨w3, hw3⟩ : ∃ w3, w3 = laid w2 w.heap.size D.q (N : Nat) (.slice mo r' mc) := ⟨_, rfl⟩
        have H3 : Hid (CB w.heap.size D.q (N : Nat) (.slice mo r' mc) w3 ∧ MkS w1.heap.size D.q N r' (.slice mo r' mc) vs Z w3 ∧ Below w.heap.size w w3) := by
          rw [hw3]; exact ⟨laid_cb H2.out.2.2.1 _ _ _, H2.out.1.laid H2.out.2.2.2 _ _ _, laid_below (bel_up' HW.out.1 H2.out.2.1) (Nat.le_refl _) _ _ _⟩
        unfold laid at hw3
        rw [← hw3]
        clear hw3 c0 c1 c2 f0 f1 f2
        obtain ⟨c0, c1, c2⟩ := H3.out.1
        refine bodyPost_ret (v := .agg #[.int .i64 D.q, .int .i64 (N : Nat), .slice mo r' mc]) (by simp [results, Tryz.results17, go_sem, c0, c1, c2]) rfl ?_
        obtain ⟨mo', mc', he, hz⟩ := H3.out.2.1.cdz (D := D) (by omega) hNb.1 (by omega)
        cases he
        exact ⟨D, N, r', _, _, _, _, Z, HA.out.2, hD8, hNb.2, by omega, HR2.out, rfl, hz, H3.out.2.2⟩
end Go.Proofs.YtdfneklnpghhmaaGreatDoor

/- A region that draws its order: one of two operations comes next. No Go text here. -/
namespace Go.Proofs.YtdfneklnpghhmaaGreatDoor
open Go

end Go.Proofs.YtdfneklnpghhmaaGreatDoor
