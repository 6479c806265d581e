/- Texts of ours, one behind the other: I22 I23 S12 I24 I25 I26 I27 I28 I29 I30 I31 S13 S14 S15 S16 S17 S18 I32 I33 I34 I35 I36 K6 K7 K8 W12 K9 E7 I37 S19 I38 I39 I40 G2 G3 G4 G5 S20. -/
import Derived.Test.YtdfneklnpghhmaaGreatDoorZI6
import Derived.Test.YtdfneklnpghhmaaGreatDoorZX12
import Derived.Lib.AppendZerosOnto
import Derived.Test.YtdfneklnpghhmaaGreatDoorZW11
import Derived.Test.YtdfneklnpghhmaaGreatDoorZO2
import Derived.Test.YtdfneklnpghhmaaGreatDoorZT1
import Derived.Test.YtdfneklnpghhmaaGreatDoorZU2
import Derived.Test.YtdfneklnpghhmaaGreatDoorZV7
import Derived.Test.YtdfneklnpghhmaaGreatDoorZA1
/- Encoded: the reference's sum of rows. -/
namespace Go.Proofs.YtdfneklnpghhmaaGreatDoor
open Go.RowKit Go.Sort

theorem enw_zero {D : FD} (F : Fld D) {R : Nat → Nat → Nat} {z : Nat → Nat} {k : Nat} (h : z k = 0) : enw D R z (k + 1) = enw D R z k := by
  funext c
  show D.ad (enw D R z k c) (D.mul (z k) (R k c)) = _
  rw [h, zero_mul' D, ad_zero F (enw_el F k c)]

set_option maxHeartbeats 16000000 in
set_option maxRecDepth 100000 in
theorem rencoded_any {D : FD} (hD : D ∈ fieldsL) (gen gm cm : Nat) {ro yo : Option Addr} {k n rc cy : Nat} {R : Nat → Nat → Nat} {z : Nat → Nat} {w : World} (hn : n ≤ 64) (hk : k ≤ 64) (hR : ∀ i, i < k → El D (R i)) (hz : ∀ i, i < k → z i < D.q) (hL : RL (.slice ro k rc) k n R w) (hY : Sl yo k z w) (hly : LtB yo w.heap.size) (hM : ModAt D (.slice (some ⟨gm, 0, none⟩) (D.m + 1) cm) D.md w) :
    Calls Tryz.prog 42 #[.agg #[.int .i64 D.q, .int .i64 D.p, .int .i64 D.m, .int .i64 gen, .slice (some ⟨gm, 0, none⟩) (D.m + 1) cm], .agg #[.int .i64 D.q, .int .i64 (n : Nat), .slice ro k rc], .slice yo k cy] w fun e w' => e = .returned (.slice (some ⟨w.heap.size + 1 + 1, 0, none⟩) n n) ∧ Row (w.heap.size + 1 + 1) n (enw D R z k) w' ∧ Below w.heap.size w w' := by
  obtain ⟨w0, hw0⟩ : ∃ w0, w0 = (w.alloc (.cells #[.int .i64 D.q, .int .i64 D.p, .int .i64 D.m, .int .i64 gen, .slice (some ⟨gm, 0, none⟩) (D.m + 1) cm] 65)).alloc (.cells #[.int .i64 D.q, .int .i64 (n : Nat), .slice ro k rc] 24) := ⟨_, rfl⟩
  have HW : Hid (Below w.heap.size w w0 ∧ Box w.heap.size D gen (.slice (some ⟨gm, 0, none⟩) (D.m + 1) cm) w0 ∧ CB (w.heap.size + 1) D.q n (.slice ro k rc) w0) ∧ w0.heap.size = w.heap.size + 1 + 1 := by
    have h1 : Below w.heap.size w (w.alloc (.cells #[.int .i64 D.q, .int .i64 D.p, .int .i64 D.m, .int .i64 gen, .slice (some ⟨gm, 0, none⟩) (D.m + 1) cm] 65)) := (Below.refl _ _).alloc (Nat.le_refl _) _
    have h2 := CB.new D.q n (.slice ro k rc) (w.alloc (.cells #[.int .i64 D.q, .int .i64 D.p, .int .i64 D.m, .int .i64 gen, .slice (some ⟨gm, 0, none⟩) (D.m + 1) cm] 65))
    rw [show (w.alloc (.cells #[.int .i64 D.q, .int .i64 D.p, .int .i64 D.m, .int .i64 gen, .slice (some ⟨gm, 0, none⟩) (D.m + 1) cm] 65)).heap.size = w.heap.size + 1 by simp] at h2
    have h3 : Below (w.alloc (.cells #[.int .i64 D.q, .int .i64 D.p, .int .i64 D.m, .int .i64 gen, .slice (some ⟨gm, 0, none⟩) (D.m + 1) cm] 65)).heap.size (w.alloc (.cells #[.int .i64 D.q, .int .i64 D.p, .int .i64 D.m, .int .i64 gen, .slice (some ⟨gm, 0, none⟩) (D.m + 1) cm] 65)) w0 := by rw [hw0]; exact (Below.refl _ _).alloc (Nat.le_refl _) _
    refine ⟨⟨bel_up' h1 h3, (box_new D gen _ w).below h3 (by simp), ?_⟩, by rw [hw0]; simp⟩
    rw [hw0]; exact h2
  obtain ⟨HW, hw0s⟩ := HW
  have HF : Hid (D ∈ fieldsL ∧ (∀ i, i < k → El D (R i)) ∧ (∀ i, i < k → z i < D.q) ∧ RL (.slice ro k rc) k n R w0 ∧ Sl yo k z w0 ∧ LtB yo w0.heap.size ∧ ModAt D (.slice (some ⟨gm, 0, none⟩) (D.m + 1) cm) D.md w) := ⟨hD, hR, hz, hL.below HW.out.1, hY.below HW.out.1 hly, fun x hx => Nat.lt_of_lt_of_le (hly x hx) HW.out.1.size, hM⟩
  clear hD hR hz hL hY hly hM
  go_enter Tryz.func42, Tryz.ntmps42
  obtain ⟨p0, p1, p2⟩ := HW.out.2.2
  rw [hw0] at p0 p1 p2
  go_wp2_with (at_make; refine make_int rfl _ _ rfl _ n rfl rfl (by omega) (by omega) ?_; intro w1 hown1 hgrow1)
  have H1 : Hid (Row (w.heap.size + 1 + 1) n pnil w1 ∧ Below w0.heap.size w0 w1) := by
    rw [← hw0s, hw0]
    exact ⟨row_zeros hown1, below_grown hgrow1 (Nat.le_refl _) (fun k hk => by simp at hk)⟩
  clear hown1 hgrow1 hw0 p0 p1 p2
  obtain ⟨G, hG⟩ : ∃ G, G = w.heap.size + 1 + 1 := ⟨_, rfl⟩
  rw [← hG] at H1 hw0s
  first | rw [← hG] | skip
  have HG0 : Hid (G = w.heap.size + 1 + 1) := hG
  have hGw : w.heap.size + 1 < G := by omega
  have hG0 : w0.heap.size ≤ G := by omega
  have hW0 : w.heap.size < w0.heap.size := by omega
  clear hG hw0s
  go_wp2_with fail
  go_loopw [8] (fun vi wr => ∃ i : Nat, i ≤ k ∧ vi = .int .i64 i ∧ Hid (Row G n (enw D R z i) wr ∧ Below w0.heap.size w0 wr)) (fun vi _ => k - (intOf vi).toNat)
  case atStart => exact ⟨0, by omega, rfl, H1.out⟩
  case round =>
    clear H1
    obtain ⟨i, hi, rfl, HG⟩ := hrel
    rename World => wA
    by_cases hlt : i < k
    · have hib : (i : Int) < (k : Int) := by omega
      have hib0 : (0 : Int) ≤ (i : Int) := by omega
      obtain ⟨x, hx⟩ : ∃ x, x = z i := ⟨_, rfl⟩
      have HX : Hid (x = z i ∧ x < D.q) := ⟨hx, by rw [hx]; exact HF.out.2.2.1 i hlt⟩
      clear hx
      go_wp2_with fail
      go_loopw [9] (fun vj wi => ∃ j : Nat, j ≤ n ∧ vj = .int .i64 j ∧ Hid (Row G n (fun c => if c < j then enw D R z (i + 1) c else enw D R z i c) wi ∧ Below w0.heap.size w0 wi)) (fun vj _ => n - (intOf vj).toNat)
      case atStart => exact ⟨0, by omega, rfl, HG.out.1.congr (fun c _ => by rw [if_neg (by omega)]), HG.out.2⟩
      case round =>
        clear HG
        obtain ⟨j, hj, rfl, HJ⟩ := hrel
        rename World => wC
        have hb := HJ.out.2
        obtain ⟨p0, p1, p2⟩ := HW.out.2.2.keep hb
        by_cases hjn : j < n
        · have hjb : (j : Int) < (n : Int) := by omega
          have hjb0 : (0 : Int) ≤ (j : Int) := by omega
          obtain ⟨bY, oY, hyo, hcy⟩ := (HF.out.2.2.2.2.1.below hb HF.out.2.2.2.2.2.1) i hlt
          subst hyo
          rw [← HX.out.1] at hcy
          by_cases hx0 : x = 0
          · have hxz : (((x : Nat) : Int) != 0) = false := by rw [hx0]; rfl
            have HK2 : Hid (Row G n (enw D R z (i + 1)) wC) := HJ.out.1.congr (fun c _ => by
              have e := enw_zero (fld HF.out.1) (R := R) (z := z) (k := i) (by rw [← HX.out.1]; exact hx0)
              rw [e]; split <;> rfl)
            clear hx0 hb
            go_wp2
            go_roundw
            case rel => exact ⟨i + 1, by omega, by go_num, HK2.out, HJ.out.2⟩
            case measure => simp [intOf]; omega
          · have hxz : (((x : Nat) : Int) != 0) = true := by rw [bne_iff_ne]; omega
            clear hx0
            obtain ⟨ro', rc', ev, hrl⟩ := HF.out.2.2.2.1.below hb
            cases ev
            obtain ⟨bR, oR, xr, cx, hro, hcr, hsr⟩ := hrl i hlt
            subst hro
            obtain ⟨bx, ox, hxr, hcx⟩ := hsr j hjn
            subst hxr
            obtain ⟨y, hy⟩ : ∃ y, y = R i j := ⟨_, rfl⟩
            rw [← hy] at hcx
            obtain ⟨t, ht⟩ : ∃ t, t = enw D R z i j := ⟨_, rfl⟩
            obtain ⟨p, hp⟩ : ∃ p, p = D.mul x y := ⟨_, rfl⟩
            obtain ⟨u, hu⟩ : ∃ u, u = D.ad t p := ⟨_, rfl⟩
            have hct : wC.cell? ⟨G, j, none⟩ = some (.int .i64 (t : Nat)) := by
              have h := HJ.out.1.cell j hjn
              rw [if_neg (by omega), ← ht] at h; exact h
            have F := fld HF.out.1
            have hyq : y < D.q := by rw [hy]; exact HF.out.2.1 i hlt j
            have htq : t < D.q := by rw [ht]; exact enw_el F _ _
            have hpq : p < D.q := by rw [hp]; exact F.mul_lt _ _
            have hxq := HX.out.2
            have hbx := HW.out.2.1.below hb (by omega)
            have k0 := cell_regrown hbx.c0
            have k1 := cell_regrown hbx.c1
            have k2 := cell_regrown hbx.c2
            have k3 := cell_regrown hbx.c3
            have k4 := cell_regrown hbx.c4
            have k5 := cell_regrown hct
            have k6 := cell_regrown hcy
            have k7 := cell_regrown p2
            have k8 := cell_regrown hcr
            have k9 := cell_regrown hcx
            have k10 := free_regrown HJ.out.1.lt (HJ.out.1.free j)
            have hbw : Below w.heap.size w wC := bel_up' HW.out.1 hb
            have HC1 : Hid (∀ d os, Calls Tryz.prog 65 #[.agg #[.int .i64 D.q, .int .i64 D.p, .int .i64 D.m, .int .i64 gen, .slice (some ⟨gm, 0, none⟩) (D.m + 1) cm], .int .i64 (x : Nat), .int .i64 (y : Nat)] (grow (redrawn wC d) os) fun e w'' => e = .returned (.int .i64 (p : Nat)) ∧ ∃ p : Regrown, w'' = grow (redrawn wC p.d) p.os) := fun d os => by
              rw [hp]
              exact Calls.regrown_of (rmul_nat HF.out.1 gen HF.out.2.2.2.2.2.2 x y hxq hyq _ (bel_up' hbw (below_regrown wC d os)))
            have HC2 : Hid (∀ d os, Calls Tryz.prog 68 #[.agg #[.int .i64 D.q, .int .i64 D.p, .int .i64 D.m, .int .i64 gen, .slice (some ⟨gm, 0, none⟩) (D.m + 1) cm], .int .i64 (t : Nat), .int .i64 (p : Nat)] (grow (redrawn wC d) os) fun e w'' => e = .returned (.int .i64 (u : Nat)) ∧ ∃ p : Regrown, w'' = grow (redrawn wC p.d) p.os) := fun d os => by
              have h := radd_nat HF.out.1 gen (.slice (some ⟨gm, 0, none⟩) (D.m + 1) cm) t p htq hpq (grow (redrawn wC d) os)
              rw [hu]
              exact Calls.regrown_of h
            have HV : Hid (∀ c, c < n → (if c < j + 1 then enw D R z (i + 1) c else enw D R z i c) = if c = j then u else if c < j then enw D R z (i + 1) c else enw D R z i c) := fun c _ => by
              by_cases e : c = j
              · rw [if_pos e, if_pos (by omega), hu, e, ht, hp, hy, HX.out.1]; rfl
              · rw [if_neg e]
                by_cases e2 : c < j
                · rw [if_pos e2, if_pos (by omega)]
                · rw [if_neg e2, if_neg (by omega)]
            clear hy ht hp hu hct hrl hsr hbx hbw F hb
            go_wp2
            refine below_tail 23 (by kernel_rfl) (by kernel_rfl) ?_
            simp only [List.take_succ_cons, List.take_zero, List.drop_succ_cons, List.drop_zero]
            repeat (go_big_quiet_step (first | (go_at_call 65; exact HC1.out _ _) | (go_at_call 68; exact HC2.out _ _)))
            refine wpQuiet_nil ?_
            intro _ hw'
            obtain ⟨⟨ds, oss⟩, hw''⟩ := hw'
            subst hw''
            have hb7 := below_regrown wC ds oss
            have H7 : Hid (Row G n (fun c => if c < j then enw D R z (i + 1) c else enw D R z i c) (grow (redrawn wC ds) oss) ∧ Below w0.heap.size w0 (grow (redrawn wC ds) oss)) := ⟨HJ.out.1.below hb7 HJ.out.1.lt, bel_up' HJ.out.2 hb7⟩
            clear hb7
            go_wp2
            go_roundw
            case rel => exact ⟨j + 1, by omega, by go_num, H7.out.1.store j u HV.out, H7.out.2.setCell (show w0.heap.size ≤ G from hG0) _⟩
            case measure => simp [intOf]; omega
        · have hjb : ¬ (j : Int) < (n : Int) := by omega
          have HK2 : Hid (Row G n (enw D R z (i + 1)) wC) := HJ.out.1.congr (fun c hc => by rw [if_pos (by omega)])
          clear hb
          go_wp2
          go_roundw
          case rel => exact ⟨i + 1, by omega, by go_num, HK2.out, HJ.out.2⟩
          case measure => simp [intOf]; omega
    · have hib : ¬ (i : Int) < (k : Int) := by omega
      have hie : k = i := by omega
      subst hie
      have HZ : Hid (Below w.heap.size w wA) := bel_up' HW.out.1 HG.out.2
      go_wp2
      go_ret
      exact ⟨by rw [← HG0.out]; rfl, by rw [← HG0.out]; exact HG.out.1, HZ.out⟩
end Go.Proofs.YtdfneklnpghhmaaGreatDoor

/- Encode: where there is nothing to tell. -/
namespace Go.Proofs.YtdfneklnpghhmaaGreatDoor
open Go.RowKit Go.Sort

end Go.Proofs.YtdfneklnpghhmaaGreatDoor

/- Plain mathematics: products of rows; what makes rows 0. No Go text here. -/
namespace Go.Proofs.YtdfneklnpghhmaaGreatDoor

end Go.Proofs.YtdfneklnpghhmaaGreatDoor

/- WordMay and Dot of the reference. -/
namespace Go.Proofs.YtdfneklnpghhmaaGreatDoor
open Go.RowKit Go.Sort

end Go.Proofs.YtdfneklnpghhmaaGreatDoor

/- Syndrome and Has. -/
namespace Go.Proofs.YtdfneklnpghhmaaGreatDoor
open Go.RowKit Go.Sort

end Go.Proofs.YtdfneklnpghhmaaGreatDoor

/- Has. -/
namespace Go.Proofs.YtdfneklnpghhmaaGreatDoor
open Go.RowKit Go.Sort

end Go.Proofs.YtdfneklnpghhmaaGreatDoor

/- CodeSays: the words of a code. -/
namespace Go.Proofs.YtdfneklnpghhmaaGreatDoor
open Go.RowKit Go.Sort

end Go.Proofs.YtdfneklnpghhmaaGreatDoor

/- CodeSays: the words of a code that may be. -/
namespace Go.Proofs.YtdfneklnpghhmaaGreatDoor
open Go.RowKit Go.Sort

end Go.Proofs.YtdfneklnpghhmaaGreatDoor

/- Places that a code may lose. -/
namespace Go.Proofs.YtdfneklnpghhmaaGreatDoor
open Go.RowKit Go.Sort

end Go.Proofs.YtdfneklnpghhmaaGreatDoor

/- Room ahead (slices.Grow of nothing). -/
namespace Go.Proofs.YtdfneklnpghhmaaGreatDoor
open Go.RowKit Go.Sort

end Go.Proofs.YtdfneklnpghhmaaGreatDoor

/- TwoL lists behind one another (slices.Concat). -/
namespace Go.Proofs.YtdfneklnpghhmaaGreatDoor
open Go.RowKit Go.Sort

end Go.Proofs.YtdfneklnpghhmaaGreatDoor

/- Plain mathematics: what makes rows 0 is what the null rows span; the dual of the dual. No Go text here. -/
namespace Go.Proofs.YtdfneklnpghhmaaGreatDoor

end Go.Proofs.YtdfneklnpghhmaaGreatDoor

/- Plain mathematics: the dual of the dual. No Go text here. -/
namespace Go.Proofs.YtdfneklnpghhmaaGreatDoor

end Go.Proofs.YtdfneklnpghhmaaGreatDoor

/- Plain mathematics: how many rows sums and meets of codes have. No Go text here. -/
namespace Go.Proofs.YtdfneklnpghhmaaGreatDoor

end Go.Proofs.YtdfneklnpghhmaaGreatDoor

/- Plain mathematics: the rows of sum and meet together are both's. No Go text here. -/
namespace Go.Proofs.YtdfneklnpghhmaaGreatDoor

theorem RRE.take {D : FD} {n k j : Nat} {R : Nat → Nat → Nat} {p : Nat → Nat} (h : RRE D n k R p) (hj : j ≤ k) : RRE D n j R p :=
  ⟨fun i hi => h.el i (by omega), fun i hi => h.bd i (by omega), fun i hi => h.lt i (by omega), fun a b h1 h2 => h.mono a b h1 (by omega), fun i hi => h.one i (by omega), fun a b h1 h2 => h.zero a b (by omega) (by omega), fun i c hi => h.lead i c (by omega)⟩
end Go.Proofs.YtdfneklnpghhmaaGreatDoor

/- Plain mathematics: words without a place; the dual of the punctured dual. No Go text here. -/
namespace Go.Proofs.YtdfneklnpghhmaaGreatDoor

end Go.Proofs.YtdfneklnpghhmaaGreatDoor

/- Plain mathematics: the rows that are left where one place is 0. No Go text here. -/
namespace Go.Proofs.YtdfneklnpghhmaaGreatDoor

end Go.Proofs.YtdfneklnpghhmaaGreatDoor

/- A word without a place (the reference's Without). -/
namespace Go.Proofs.YtdfneklnpghhmaaGreatDoor
open Go.RowKit Go.Sort

end Go.Proofs.YtdfneklnpghhmaaGreatDoor

/- A code without a place (the reference's Punctured). -/
namespace Go.Proofs.YtdfneklnpghhmaaGreatDoor
open Go.RowKit Go.Sort

end Go.Proofs.YtdfneklnpghhmaaGreatDoor

/- A code without a place (the program's puncture). -/
namespace Go.Proofs.YtdfneklnpghhmaaGreatDoor
open Go.RowKit Go.Sort

end Go.Proofs.YtdfneklnpghhmaaGreatDoor

/- Puncture, with its check. -/
namespace Go.Proofs.YtdfneklnpghhmaaGreatDoor
open Go.RowKit Go.Sort

end Go.Proofs.YtdfneklnpghhmaaGreatDoor

/- Shorten, with its check. -/
namespace Go.Proofs.YtdfneklnpghhmaaGreatDoor
open Go.RowKit Go.Sort

end Go.Proofs.YtdfneklnpghhmaaGreatDoor

/- Codes out of raw numbers (Few, CodeOf). -/
namespace Go.Proofs.YtdfneklnpghhmaaGreatDoor
open Go.RowKit Go.Sort

theorem fewR_le {q i k : Nat} (hq : 1 ≤ q) (h : i ≤ k) : q ^ i ≤ q ^ k := Nat.pow_le_pow_right hq h
/-- What Few tells. -/
def FewP (q k : Nat) (w : World) (e : Ending) (w' : World) : Prop := ∃ b, e = .returned (.bool b) ∧ (b = true ↔ q ^ k ≤ 4096) ∧ w' = w
set_option maxHeartbeats 2000000 in
theorem fewR_any (q k : Nat) (hq : 1 ≤ q) (hq2 : q ≤ 64) (hk : k ≤ 1000000) (w : World) :
    Calls Tryz.prog 20 #[.int .i64 (q : Nat), .int .i64 (k : Nat)] w (FewP q k w) := by
  go_enter Tryz.func20, Tryz.ntmps20
  go_wp2
  go_loopw [5, 6] (fun vn vi wr => ∃ i x : Nat, i ≤ k ∧ vi = .int .i64 i ∧ vn = .int .i64 (x : Nat) ∧ x ≤ 4096 ∧ Hid (x = q ^ i) ∧ wr = w) (fun _ vi _ => k - (intOf vi).toNat)
  case atStart => exact ⟨0, 1, by omega, rfl, rfl, by omega, by show 1 = q ^ 0; simp, rfl⟩
  case round =>
    obtain ⟨i, x, hi, rfl, rfl, hx, HX, hw⟩ := hrel
    have hw := hw.symm
    subst hw
    by_cases hlt : i < k
    · have hib : (i : Int) < (k : Int) := by omega
      obtain ⟨y, hy⟩ : ∃ y, y = x * q := ⟨_, rfl⟩
      have hy2 : y ≤ 4096 * 64 := by rw [hy]; exact Nat.mul_le_mul hx hq2
      have hwr : IntKind.i64.wrap ((x : Int) * (q : Int)) = (y : Int) := wrap_to (by rw [hy]; simp) (by omega)
      have HY : Hid (y = q ^ (i + 1)) := by show y = _; rw [hy, HX.out, Nat.pow_succ]
      clear hy
      by_cases hf : y ≤ 4096
      · have hfb : ¬ (y : Int) > 4096 := by omega
        have hfb2 : ¬ (4096 : Int) < (y : Int) := by omega
        go_wp2
        go_roundw
        case rel => exact ⟨i + 1, y, by omega, by go_num, by first | rfl | simp [hwr], hf, HY.out, by first | rfl | trivial⟩
        case measure => simp [intOf]; omega
      · have hfb : (y : Int) > 4096 := by omega
        have hfb2 : (4096 : Int) < (y : Int) := by omega
        have HNo : Hid (¬ q ^ k ≤ 4096) := by
          show ¬ _
          have := fewR_le hq (show i + 1 ≤ k by omega)
          rw [← HY.out] at this
          omega
        go_wp2
        go_ret
        exact ⟨false, rfl, ⟨fun h => Bool.noConfusion h, fun h => absurd h HNo.out⟩, rfl⟩
    · have hib : ¬ (i : Int) < (k : Int) := by omega
      have hie : i = k := by omega
      subst hie
      have HYes : Hid (q ^ i ≤ 4096) := by show q ^ i ≤ 4096; rw [← HX.out]; exact hx
      go_wp2
      go_ret
      exact ⟨true, rfl, ⟨fun _ => HYes.out, fun _ => rfl⟩, rfl⟩

end Go.Proofs.YtdfneklnpghhmaaGreatDoor

/- Codes in hand: what was told is handed in again (Sum, Meet, Make, Dual). -/
namespace Go.Proofs.YtdfneklnpghhmaaGreatDoor
open Go.RowKit Go.Sort

/-- A code that can be handed in, of the rows M. -/
def Cod (D : FD) (n : Nat) (ao : Option Addr) (m : Nat) (M : Nat → Nat → Nat) (w : World) : Prop := ∃ A N C Z, CdZ D ao m n A N C Z w ∧ ∀ i, i < m → mzc N Z i = M i
theorem Cod.below {D : FD} {n m : Nat} {ao : Option Addr} {M : Nat → Nat → Nat} {w w' : World} (h : Cod D n ao m M w) (hb : Below w.heap.size w w') : Cod D n ao m M w' := by
  obtain ⟨A, N, C, Z, h1, h2⟩ := h
  exact ⟨A, N, C, Z, h1.below hb, h2⟩
theorem Cod.rows {D : FD} (F : Fld D) {n m : Nat} {ao : Option Addr} {M : Nat → Nat → Nat} {w : World} (h : Cod D n ao m M w) : m ≤ 64 ∧ (1 ≤ n ∧ n ≤ 64) ∧ ∀ i, i < m → El D (M i) ∧ Bd n (M i) := by
  obtain ⟨A, N, C, Z, h1, h2⟩ := h
  obtain ⟨g1, g2, g3, _⟩ := h1.rows F
  exact ⟨g1, ⟨h1.n1, h1.n64⟩, fun i hi => by rw [← h2 i hi]; exact ⟨g2 i hi, g3 i hi⟩⟩
theorem Cod.chk {D : FD} (hD : D ∈ fieldsL) {n m : Nat} (ca : Nat) {ao : Option Addr} {M : Nat → Nat → Nat} {w : World} (h : Cod D n ao m M w) (wx : World) (hx : Below w.heap.size w wx) :
    Calls Tryz.prog 47 #[.agg #[.int .i64 D.q, .int .i64 (n : Nat), .slice ao m ca]] wx fun x w' => x = .returned (.int .i64 0) ∧ Below wx.heap.size wx w' := by
  obtain ⟨A, N, C, Z, h1, _⟩ := h.below hx
  have e : D.cchk (n : Nat) m N Z = 0 := by
    have a1 := h1.n1
    have a2 := h1.n64
    unfold FD.cchk
    rw [if_neg (by omega), h1.chk, if_neg (fun h => h rfl), if_neg]
    rintro ⟨b1, b2⟩
    exact b2 (by rw [h1.wd b1])
  have := ccheck_any hD (ca := ca) (n : Nat) h1.mat (h1.few (fld hD))
  rw [e] at this
  exact this
theorem Red.of_eq {D : FD} {n m k : Nat} {M M' R : Nat → Nat → Nat} (h : Red D n m M k R) (e : ∀ i, i < m → M i = M' i) : Red D n m M' k R := by
  obtain ⟨p, h1, h2⟩ := h
  exact ⟨p, h1, fun v => (h2 v).trans (rows_congr e v)⟩
/-- A code's variable, newly made. -/
theorem box_at (q n : Int) (v : Value) (w : World) : Below w.heap.size w (w.alloc (.cells #[.int .i64 q, .int .i64 n, v] 24)) ∧ CB w.heap.size q n v (w.alloc (.cells #[.int .i64 q, .int .i64 n, v] 24)) ∧ (w.alloc (.cells #[.int .i64 q, .int .i64 n, v] 24)).heap.size = w.heap.size + 1 :=
  ⟨(Below.refl _ _).alloc (Nat.le_refl _) _, CB.new _ _ _ _, by simp⟩
end Go.Proofs.YtdfneklnpghhmaaGreatDoor

/- Codes out of raw numbers (CodeOf). -/
namespace Go.Proofs.YtdfneklnpghhmaaGreatDoor
open Go.RowKit Go.Sort

end Go.Proofs.YtdfneklnpghhmaaGreatDoor

/- A region that draws its order: one of two operations comes next. No Go text here. -/
namespace Go.Proofs.YtdfneklnpghhmaaGreatDoor
open Go

end Go.Proofs.YtdfneklnpghhmaaGreatDoor

/- Codes in hand: Encode, Has; words of a code and of its dual. -/
namespace Go.Proofs.YtdfneklnpghhmaaGreatDoor
open Go.RowKit Go.Sort

end Go.Proofs.YtdfneklnpghhmaaGreatDoor

/- TopDual: the walk of the statement, whatever raw numbers it is given. -/
namespace Go.Proofs.YtdfneklnpghhmaaGreatDoor
open Go.RowKit Go.Sort

end Go.Proofs.YtdfneklnpghhmaaGreatDoor

/- A row less another, wherever they lie (the reference's less). -/
namespace Go.Proofs.YtdfneklnpghhmaaGreatDoor
open Go.RowKit Go.Sort

end Go.Proofs.YtdfneklnpghhmaaGreatDoor

/- Plain mathematics: words with one number more, so that all together are 0. No Go text here. -/
namespace Go.Proofs.YtdfneklnpghhmaaGreatDoor

end Go.Proofs.YtdfneklnpghhmaaGreatDoor

/- Words that are 0 at a place, without it (the reference's Shortened). -/
namespace Go.Proofs.YtdfneklnpghhmaaGreatDoor
open Go.RowKit Go.Sort

end Go.Proofs.YtdfneklnpghhmaaGreatDoor

/- Words with one number more (the reference's Extended). -/
namespace Go.Proofs.YtdfneklnpghhmaaGreatDoor
open Go.RowKit Go.Sort

end Go.Proofs.YtdfneklnpghhmaaGreatDoor

/- Extend (the program's). -/
namespace Go.Proofs.YtdfneklnpghhmaaGreatDoor
open Go.RowKit Go.Sort

end Go.Proofs.YtdfneklnpghhmaaGreatDoor

/- Golay's codes: all multiples of a polynomial, turned (the program's cyclic.Of, of a polynomial that divides x^n - 1). -/
namespace Go.Proofs.YtdfneklnpghhmaaGreatDoor
open Go.RowKit Go.Sort

end Go.Proofs.YtdfneklnpghhmaaGreatDoor

/- Golay's codes: the program's golay.extended. -/
namespace Go.Proofs.YtdfneklnpghhmaaGreatDoor
open Go.RowKit Go.Sort

end Go.Proofs.YtdfneklnpghhmaaGreatDoor

/- Golay's codes: the reference's Golay. -/
namespace Go.Proofs.YtdfneklnpghhmaaGreatDoor
open Go.RowKit Go.Sort

end Go.Proofs.YtdfneklnpghhmaaGreatDoor

/- Golay's two codes: GolayIs' walk. -/
namespace Go.Proofs.YtdfneklnpghhmaaGreatDoor
open Go.RowKit Go.Sort

end Go.Proofs.YtdfneklnpghhmaaGreatDoor

/- Plain mathematics: how many sets there are; Krawtchouk's numbers. No Go text here. -/
namespace Go.Proofs.YtdfneklnpghhmaaGreatDoor

/-- How many sets of k there are of n. -/
def chs : Nat → Nat → Nat
  | _, 0 => 1
  | 0, _ + 1 => 0
  | n + 1, k + 1 => chs n k + chs n (k + 1)
theorem chs_zero (n : Nat) : chs n 0 = 1 := by cases n <;> rfl
theorem chs_over : ∀ n k, n < k → chs n k = 0
  | _, 0, h => by omega
  | 0, _ + 1, _ => rfl
  | n + 1, k + 1, h => by
    show chs n k + chs n (k + 1) = 0
    rw [chs_over n k (by omega), chs_over n (k + 1) (by omega)]
/-- One more in the set. -/
theorem chs_step : ∀ n k, (k + 1) * chs n (k + 1) = (n - k) * chs n k
  | 0, k => by
    rw [show chs 0 (k + 1) = 0 from rfl, Nat.zero_sub]; omega
  | n + 1, 0 => by
    have h := chs_step n 0
    rw [chs_zero] at h ⊢
    show (0 + 1) * (chs n 0 + chs n (0 + 1)) = _
    rw [chs_zero]
    omega
  | n + 1, k + 1 => by
    have h1 := chs_step n k
    have h2 := chs_step n (k + 1)
    show (k + 1 + 1) * (chs n (k + 1) + chs n (k + 1 + 1)) = (n + 1 - (k + 1)) * (chs n k + chs n (k + 1))
    by_cases e : k + 1 ≤ n
    · rw [Nat.mul_add, h2, show n + 1 - (k + 1) = n - k by omega, Nat.mul_add, ← h1, ← Nat.add_mul, ← Nat.add_mul, show k + 1 + 1 + (n - (k + 1)) = n + 1 by omega, show k + 1 + (n - k) = n + 1 by omega]
    · rw [chs_over n (k + 1) (by omega), chs_over n (k + 1 + 1) (by omega), show n + 1 - (k + 1) = 0 by omega]
      omega
theorem chs_pw (b : Nat) : ∀ n k, b ^ k * chs n k ≤ (b + 1) ^ n
  | n, 0 => by
    rw [chs_zero, Nat.pow_zero]
    exact Nat.one_le_pow _ _ (by omega)
  | 0, k + 1 => by rw [show chs 0 (k + 1) = 0 from rfl]; exact Nat.zero_le _
  | n + 1, k + 1 => by
    have h1 := chs_pw b n k
    have h2 := chs_pw b n (k + 1)
    show b ^ (k + 1) * (chs n k + chs n (k + 1)) ≤ _
    have e1 : b ^ (k + 1) * chs n k = b * (b ^ k * chs n k) := by rw [Nat.pow_succ, Nat.mul_comm (b ^ k) b, Nat.mul_assoc]
    have h3 : b * (b ^ k * chs n k) ≤ b * (b + 1) ^ n := Nat.mul_le_mul_left _ h1
    have e2 : (b + 1) ^ (n + 1) = b * (b + 1) ^ n + (b + 1) ^ n := by rw [Nat.pow_succ, Nat.mul_add, Nat.mul_one, Nat.mul_comm ((b + 1) ^ n) b]
    rw [Nat.mul_add, e1, e2]
    omega
theorem chs_le (n k : Nat) : chs n k ≤ 2 ^ n := by
  have h := chs_pw 1 n k
  rw [Nat.one_pow, Nat.one_mul] at h
  exact h

/-- The coefficients of a product of (1 + c z). -/
def kc (c : Nat → Int) : Nat → Nat → Int
  | 0, 0 => 1
  | 0, _ + 1 => 0
  | i + 1, 0 => kc c i 0
  | i + 1, k + 1 => kc c i (k + 1) + c i * kc c i k
theorem kc_zero (c : Nat → Int) : ∀ i, kc c i 0 = 1
  | 0 => rfl
  | i + 1 => kc_zero c i
/-- Of a product of two, the first j terms. -/
def cv (A B : Nat → Int) (k : Nat) : Nat → Int
  | 0 => 0
  | j + 1 => cv A B k j + A j * B (k - j)
theorem cv_congr {A A' B B' : Nat → Int} {k : Nat} : ∀ j, (∀ i, i < j → A i = A' i ∧ B (k - i) = B' (k - i)) → cv A B k j = cv A' B' k j
  | 0, _ => rfl
  | j + 1, h => by
    show cv A B k j + A j * B (k - j) = cv A' B' k j + A' j * B' (k - j)
    rw [cv_congr j (fun i hi => h i (by omega)), (h j (by omega)).1, (h j (by omega)).2]
/-- b^l times how many sets of l there are of m. -/
def bl (b : Int) (m l : Nat) : Int := b ^ l * (chs m l : Nat)
theorem bl_zero (b : Int) (m : Nat) : bl b m 0 = 1 := by unfold bl; rw [chs_zero]; simp
theorem bl_succ (b : Int) (m l : Nat) : bl b (m + 1) (l + 1) = bl b m (l + 1) + b * bl b m l := by
  unfold bl
  rw [show chs (m + 1) (l + 1) = chs m l + chs m (l + 1) from rfl, Int.natCast_add, Int.mul_add, Int.pow_succ]
  have : b ^ l * b * (chs m l : Nat) = b * (b ^ l * (chs m l : Nat)) := by rw [Int.mul_comm (b ^ l) b, Int.mul_assoc]
  rw [this, Int.add_comm]
theorem cv_step (A : Nat → Int) (b : Int) (m k : Nat) : ∀ j, j ≤ k + 1 → cv A (bl b (m + 1)) (k + 1) j = cv A (bl b m) (k + 1) j + b * cv A (bl b m) k j
  | 0, _ => by show (0 : Int) = 0 + b * 0; simp
  | j + 1, h => by
    show cv A (bl b (m + 1)) (k + 1) j + A j * bl b (m + 1) (k + 1 - j) = cv A (bl b m) (k + 1) j + A j * bl b m (k + 1 - j) + b * (cv A (bl b m) k j + A j * bl b m (k - j))
    rw [cv_step A b m k j (by omega), show k + 1 - j = (k - j) + 1 by omega, bl_succ, Int.mul_add, Int.mul_add, ← Int.mul_assoc (A j) b, Int.mul_comm (A j) b, Int.mul_assoc b (A j)]
    omega
/-- The coefficients of (1 - z)^x (1 + b z)^(n - x). -/
def kwc (b : Int) (x : Nat) : Nat → Int := fun i => if i < x then -1 else b
theorem kc_lo (b : Int) (x : Nat) : ∀ i k, i ≤ x → kc (kwc b x) i k = (-1) ^ k * (chs i k : Nat)
  | 0, 0, _ => rfl
  | 0, k + 1, _ => by
    show (0 : Int) = (-1) ^ (k + 1) * ((0 : Nat) : Int)
    simp
  | i + 1, 0, h => by
    rw [kc_zero, chs_zero]; simp
  | i + 1, k + 1, h => by
    show kc (kwc b x) i (k + 1) + kwc b x i * kc (kwc b x) i k = (-1) ^ (k + 1) * ((chs i k + chs i (k + 1) : Nat) : Int)
    rw [kc_lo b x i (k + 1) (by omega), kc_lo b x i k (by omega), show kwc b x i = -1 from if_pos (by omega), Int.natCast_add, Int.mul_add, Int.pow_succ]
    have : (-1 : Int) * ((-1) ^ k * (chs i k : Nat)) = (-1) ^ k * -1 * (chs i k : Nat) := by rw [← Int.mul_assoc, Int.mul_comm (-1 : Int)]
    rw [this]
    omega
theorem kc_hi (b : Int) (x : Nat) : ∀ m k, kc (kwc b x) (x + m) k = cv (kc (kwc b x) x) (bl b m) k (k + 1)
  | 0, k => by
    have h : ∀ j, j ≤ k → cv (kc (kwc b x) x) (bl b 0) k j = 0 := fun j => by
      induction j with
      | zero => intro _; rfl
      | succ j ih =>
        intro hj
        show cv (kc (kwc b x) x) (bl b 0) k j + kc (kwc b x) x j * bl b 0 (k - j) = 0
        rw [ih (by omega), show k - j = (k - j - 1) + 1 by omega]
        have : bl b 0 (k - j - 1 + 1) = 0 := by unfold bl; rw [show chs 0 (k - j - 1 + 1) = 0 from rfl]; simp
        rw [this]; simp
    show kc (kwc b x) x k = cv (kc (kwc b x) x) (bl b 0) k k + kc (kwc b x) x k * bl b 0 (k - k)
    rw [h k (Nat.le_refl _), Nat.sub_self, bl_zero]; simp
  | m + 1, 0 => by
    show kc (kwc b x) (x + m) 0 = cv (kc (kwc b x) x) (bl b (m + 1)) 0 0 + kc (kwc b x) x 0 * bl b (m + 1) (0 - 0)
    rw [kc_zero, kc_zero, bl_zero]
    show (1 : Int) = 0 + 1 * 1
    rfl
  | m + 1, k + 1 => by
    show kc (kwc b x) (x + m) (k + 1) + kwc b x (x + m) * kc (kwc b x) (x + m) k = cv (kc (kwc b x) x) (bl b (m + 1)) (k + 1) (k + 1) + kc (kwc b x) x (k + 1) * bl b (m + 1) (k + 1 - (k + 1))
    rw [kc_hi b x m (k + 1), kc_hi b x m k, show kwc b x (x + m) = b from if_neg (by omega), cv_step _ _ _ _ _ (Nat.le_refl _), Nat.sub_self, bl_zero]
    show cv (kc (kwc b x) x) (bl b m) (k + 1) (k + 1) + kc (kwc b x) x (k + 1) * bl b m (k + 1 - (k + 1)) + b * cv (kc (kwc b x) x) (bl b m) k (k + 1) = _
    rw [Nat.sub_self, bl_zero]
    omega
/-- Krawtchouk's number, as a sum. -/
def krw (q n k x : Nat) : Nat → Int := cv (fun j => (-1) ^ j * (chs x j : Nat)) (bl ((q : Int) - 1) (n - x)) k
theorem krw_is (q n k x : Nat) (hx : x ≤ n) : krw q n k x (k + 1) = kc (kwc ((q : Int) - 1) x) n k := by
  have h := kc_hi ((q : Int) - 1) x (n - x) k
  rw [show x + (n - x) = n by omega] at h
  rw [h]
  exact cv_congr _ (fun i _ => ⟨(kc_lo _ x x i (Nat.le_refl _)).symm, rfl⟩)
end Go.Proofs.YtdfneklnpghhmaaGreatDoor
