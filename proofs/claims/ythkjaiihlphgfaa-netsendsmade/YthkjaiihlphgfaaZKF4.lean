/- Nets: the reference's Heard. -/
import Derived.Test.YthkjaiihlphgfaaZKF3
namespace Go.Proofs.Ythkjaiihlphgfaa
open Go.RowKit Go.Sort

/-- What both sides tell of a matrix and a list, wherever they lie. -/
def SvA (D : FD) (m : Nat) (N : Nat → Nat) (Z : Nat → Nat → Int) (y : Nat → Int) (okb : Bool) (L : Nat) (s : Nat → Int) (k : Nat) : Prop := ∀ (ao : Option Addr) (A : Nat → Option Addr) (C : Nat → Nat) (ca : Nat) (bo : Option Addr) (cb : Nat) (w : World), MatZ ao m A N C Z w → SlZ bo m y w →
    (∀ (gen gm cm : Nat), ModAt D (.slice (some ⟨gm, 0, none⟩) (D.m + 1) cm) D.md w → Calls Try.prog 61 #[.agg #[.int .i64 D.q, .int .i64 D.p, .int .i64 D.m, .int .i64 gen, .slice (some ⟨gm, 0, none⟩) (D.m + 1) cm], .slice ao m ca, .slice bo m cb] w fun e w' => (∃ xo xc, e = .returned (.tuple #[.slice xo L xc, .bool okb]) ∧ KI (.slice xo L xc) (zl L s) w') ∧ Below w.heap.size w w') ∧
    (Calls Try.prog 99 #[.int .i64 D.q, .slice ao m ca, .slice bo m cb] w fun e w' => (∃ xo xc, e = .returned (.tuple #[.slice xo L xc, .bool okb, .int .i64 0]) ∧ KI (.slice xo L xc) (zl L s) w') ∧ Below w.heap.size w w') ∧
    (Calls Try.prog 98 #[.int .i64 D.q, .slice ao m ca] w fun e w' => e = .returned (.tuple #[.int .i64 (k : Nat), .int .i64 0]) ∧ Below w.heap.size w w') ∧
    (∀ (gen gm cm : Nat), ModAt D (.slice (some ⟨gm, 0, none⟩) (D.m + 1) cm) D.md w → Calls Try.prog 62 #[.agg #[.int .i64 D.q, .int .i64 D.p, .int .i64 D.m, .int .i64 gen, .slice (some ⟨gm, 0, none⟩) (D.m + 1) cm], .slice ao m ca] w fun e w' => (∃ ro rc po pc, e = .returned (.tuple #[.slice ro k rc, .slice po k pc])) ∧ Below w.heap.size w w')
/-- What the reference tells that was heard. -/
def HdP (ok : Bool) (L : List Int) (w : World) (x : Ending) (w' : World) : Prop := Below w.heap.size w w' ∧ ∃ vo vn vc, x = .returned (.tuple #[.slice vo vn vc, .bool ok]) ∧ ((ok = false ∧ vn = 0) ∨ (ok = true ∧ KI (.slice vo vn vc) L w'))

set_option maxHeartbeats 8000000 in
set_option maxRecDepth 100000 in
theorem rheard_any {D : FD} (n x : Int) {eo ao co : Option Addr} {m ec ca cc : Nat} {F T : Nat → Int} {A : Nat → Option Addr} {N C : Nat → Nat} {Z : Nat → Nat → Int} {y : Nat → Int} (gen gm cm : Nat) {w : World} (hE : EdZ eo m F T w) (hA : MatZ ao m A N C Z w) (hY : SlZ co m y w) (hm : m ≤ 64) (hM : ModAt D (.slice (some ⟨gm, 0, none⟩) (D.m + 1) cm) D.md w) {okb : Bool} {L k : Nat} {s : Nat → Int}
    (hS : 0 < (tlN T x m).length → SvA D (tlN T x m).length (fun i => N ((tlN T x m).getD i 0)) (fun i => Z ((tlN T x m).getD i 0)) (fun i => y ((tlN T x m).getD i 0)) okb L s k) :
    Calls Try.prog 17 #[.agg #[.int .i64 D.q, .int .i64 D.p, .int .i64 D.m, .int .i64 gen, .slice (some ⟨gm, 0, none⟩) (D.m + 1) cm], .agg #[.int .i64 n, .slice eo m ec], .slice ao m ca, .slice co m cc, .int .i64 x] w (HdP (decide (0 < (tlN T x m).length) && (okb && !decide (k < N ((tlN T x m).getD 0 0)))) (zl L s) w) := by
  obtain ⟨l, hl⟩ : ∃ l, l = tlN T x m := ⟨_, rfl⟩
  obtain ⟨Kn, hKn⟩ : ∃ Kn, Kn = l.length := ⟨_, rfl⟩
  obtain ⟨N0, hN0⟩ : ∃ N0, N0 = N (l.getD 0 0) := ⟨_, rfl⟩
  obtain ⟨wa, hwa⟩ : ∃ wa, wa = w.alloc (.cells #[.int .i64 D.q, .int .i64 D.p, .int .i64 D.m, .int .i64 gen, .slice (some ⟨gm, 0, none⟩) (D.m + 1) cm] 31) := ⟨_, rfl⟩
  have hba : Below w.heap.size w wa := by rw [hwa]; exact (Below.refl _ _).alloc (Nat.le_refl _) _
  obtain ⟨wb, hwb⟩ : ∃ wb, wb = wa.alloc (.cells #[.int .i64 n, .slice eo m ec] 24) := ⟨_, rfl⟩
  have hbb : Below wa.heap.size wa wb := by rw [hwb]; exact (Below.refl _ _).alloc (Nat.le_refl _) _
  obtain ⟨Bf, hBf⟩ : ∃ Bf, Bf = w.heap.size := ⟨_, rfl⟩
  obtain ⟨B, hB⟩ : ∃ B, B = w.heap.size + 1 := ⟨_, rfl⟩
  have hsa : wa.heap.size = w.heap.size + 1 := by rw [hwa]; simp
  have hsb : wb.heap.size = w.heap.size + 2 := by rw [hwb]; simp [hsa]
  have hKm : Kn ≤ m := by rw [hKn, hl]; exact tlN_len T x m
  have HA : Hid (NB B n (.slice eo m ec) wb ∧ Box Bf D gen (.slice (some ⟨gm, 0, none⟩) (D.m + 1) cm) wb ∧ EdZ eo m F T wb ∧ MatZ ao m A N C Z wb ∧ SlZ co m y wb ∧ ModAt D (.slice (some ⟨gm, 0, none⟩) (D.m + 1) cm) D.md wb ∧ Below w.heap.size w wb ∧ (∀ i ∈ l, i < m) ∧ l = tlN T x m ∧ Kn = l.length ∧ N0 = N (l.getD 0 0) ∧ Bf < wb.heap.size) := by
    have hbx := bel_up' hba hbb
    refine ⟨by rw [hB, ← hsa, hwb]; exact NB.new _ _ _, ?_, hE.below hbx, hA.below hbx, slz_below hY hbx, hM.below hbx, hbx, by rw [hl]; exact tlN_lt m, hl, hKn, hN0, by omega⟩
    have h1 : Box w.heap.size D gen (.slice (some ⟨gm, 0, none⟩) (D.m + 1) cm) wa := by rw [hwa]; exact box_new D gen _ w
    rw [hBf]
    exact h1.below hbb (by omega)
  have HS : Hid (0 < Kn → SvA D Kn (fun i => N (l.getD i 0)) (fun i => Z (l.getD i 0)) (fun i => y (l.getD i 0)) okb L s k) := by rw [hKn, hl]; exact hS
  rw [← hl, ← hKn, ← hN0]
  clear hE hA hY hM hS hba hbb hl hKn hN0
  go_enter Try.func17, Try.ntmps17
  have hc := HA.out.1
  have hd := HA.out.2.1
  obtain ⟨c0, c1⟩ := hc
  obtain ⟨d0, d1, d2, d3, d4⟩ := hd
  rw [hwb, hwa, hB] at c0 c1
  rw [hwb, hwa, hBf] at d0 d1 d2 d3 d4
  go_wp2_with fail
  clear c0 c1 d0 d1 d2 d3 d4
  rw [← hwa, ← hwb]
  refine (rinto_any n x HA.out.2.2.1 HA.out.2.2.2.1 hm).mono ?_
  rintro e w1 ⟨v, rfl, hov, hb1⟩
  rw [← HA.out.2.2.2.2.2.2.2.2.1] at hov
  obtain ⟨vo, vc, hvv, hmz⟩ := sel_mat hov (HA.out.2.2.2.1.below hb1) HA.out.2.2.2.2.2.2.2.1
  subst hvv
  rw [← HA.out.2.2.2.2.2.2.2.2.2.1] at hmz ⊢
  rw [← hB, ← hBf]
  have H1 : Hid (MatZ vo Kn (fun i => A (l.getD i 0)) (fun i => N (l.getD i 0)) (fun i => C (l.getD i 0)) (fun i => Z (l.getD i 0)) w1 ∧ NB B n (.slice eo m ec) w1 ∧ Box Bf D gen (.slice (some ⟨gm, 0, none⟩) (D.m + 1) cm) w1 ∧ EdZ eo m F T w1 ∧ SlZ co m y w1 ∧ ModAt D (.slice (some ⟨gm, 0, none⟩) (D.m + 1) cm) D.md w1 ∧ Below w.heap.size w w1 ∧ Bf < w1.heap.size) := ⟨hmz, HA.out.1.keep hb1, HA.out.2.1.below hb1 HA.out.2.2.2.2.2.2.2.2.2.2.2, HA.out.2.2.1.below hb1, slz_below HA.out.2.2.2.2.1 hb1, HA.out.2.2.2.2.2.1.below hb1, bel_up' HA.out.2.2.2.2.2.2.1 hb1, by have := HA.out.2.2.2.2.2.2.2.2.2.2.2; have := hb1.size; omega⟩
  clear hov hmz hb1 hwa hwb hBf hB hsa hsb
  go_wp2
  go_loopw [13, 14] (fun vb vi wx => ∃ i : Nat, i ≤ m ∧ vi = .int .i64 (i : Nat) ∧ Hid (OwnI w1.heap.size vb ((tlN T x i).map y) wx ∧ Below w1.heap.size w1 wx)) (fun _ vi _ => m - (intOf vi).toNat)
  case atStart => exact ⟨0, by omega, rfl, OwnI.nil _ _, Below.refl _ _⟩
  case round =>
    obtain ⟨i, hi, rfl, HI⟩ := hrel
    rename World => wr
    have hcb := H1.out.2.1.keep HI.out.2
    obtain ⟨c0, c1⟩ := hcb
    have hszr := HI.out.2.size
    by_cases hlt : i < m
    · have hib : (i : Int) < (m : Int) := by omega
      have hib0 : (0 : Int) ≤ (i : Int) := by omega
      obtain ⟨b, off, rfl, e0, e1⟩ := (H1.out.2.2.2.1.below HI.out.2) i hlt
      obtain ⟨t, ht⟩ : ∃ t, t = T i := ⟨_, rfl⟩
      rw [← ht] at e1
      by_cases hyx : t = x
      · have hz : (t == x) = true := by rw [hyx]; simp
        obtain ⟨bv, ov, rfl, hcv⟩ := (slz_below H1.out.2.2.2.2.1 HI.out.2) i hlt
        obtain ⟨z, hz2⟩ : ∃ z, z = y i := ⟨_, rfl⟩
        rw [← hz2] at hcv
        have HV : Hid ((tlN T x (i + 1)).map y = (tlN T x i).map y ++ [z]) := by
          show (if T i = x then tlN T x i ++ [i] else tlN T x i).map y = _
          rw [if_pos (by rw [← ht]; exact hyx), hz2, List.map_append]; rfl
        have hll : ((tlN T x i).map y).length ≤ 1000 := by rw [List.length_map]; have := tlN_len T x i; omega
        clear hyx ht hz2
        go_wp2_with (at_builtin; refine append_int rfl _ _ rfl w1.heap.size _ ((tlN T x i).map y) rfl (HI.out.1.alloc _) ⟨_, 0, none⟩ 1 z rfl (by simp) (by omega) (by simp; omega) ?_; intro v' w6 hown6 hg6)
        have HR : Hid (OwnI w1.heap.size v' ((tlN T x (i + 1)).map y) w6 ∧ Below w1.heap.size w1 w6) := ⟨by rw [HV.out]; exact hown6, (HI.out.2.alloc hszr _).grown hg6 (by simp; omega) (fun k hk => (HI.out.1.lt k hk).1)⟩
        clear hown6 hg6
        go_roundw
        case rel => exact ⟨i + 1, by omega, by go_num, HR.out⟩
        case measure => simp [intOf]; omega
      · have hz : (t == x) = false := beq_eq_false_iff_ne.2 hyx
        have HV : Hid (tlN T x (i + 1) = tlN T x i) := if_neg (by rw [← ht]; exact hyx)
        clear hyx ht
        go_wp2
        go_roundw
        case rel => exact ⟨i + 1, by omega, by go_num, by rw [HV.out]; exact HI.out.1, HI.out.2⟩
        case measure => simp [intOf]; omega
    · have hib : ¬ (i : Int) < (m : Int) := by omega
      have hie : m = i := by omega
      subst hie
      have hob := HI.out.1
      rw [← HA.out.2.2.2.2.2.2.2.2.1, map_zlN l y, ← HA.out.2.2.2.2.2.2.2.2.2.1] at hob
      obtain ⟨uo, uc, hvb, hAb⟩ := hob.argL
      subst hvb
      have H2 : Hid (SlZ uo Kn (fun i => y (l.getD i 0)) wr ∧ MatZ vo Kn (fun i => A (l.getD i 0)) (fun i => N (l.getD i 0)) (fun i => C (l.getD i 0)) (fun i => Z (l.getD i 0)) wr ∧ Box Bf D gen (.slice (some ⟨gm, 0, none⟩) (D.m + 1) cm) wr ∧ ModAt D (.slice (some ⟨gm, 0, none⟩) (D.m + 1) cm) D.md wr ∧ Below w.heap.size w wr ∧ Bf < wr.heap.size) := ⟨hAb.sl, H1.out.1.below HI.out.2, H1.out.2.2.1.below HI.out.2 H1.out.2.2.2.2.2.2.2, H1.out.2.2.2.2.2.1.below HI.out.2, bel_up' H1.out.2.2.2.2.2.2.1 HI.out.2, by have := H1.out.2.2.2.2.2.2.2; omega⟩
      clear hob hAb
      by_cases hK0 : Kn = 0
      · have hkz : ((Kn : Int) == 0) = true := by rw [hK0]; rfl
        have HV : Hid ((decide (0 < Kn) && (okb && !decide (k < N0))) = false) := by show _ = _; rw [hK0]; rfl
        clear hK0
        go_wp2
        go_ret2
        exact ⟨H2.out.2.2.2.2.1, none, 0, 0, by rw [HV.out]; rfl, Or.inl ⟨HV.out, rfl⟩⟩
      · have hkz : ((Kn : Int) == 0) = false := by rw [beq_eq_false_iff_ne]; omega
        have hkp : 0 < Kn := by omega
        have hkb : (0 : Int) < (Kn : Int) := by omega
        have HSv : Hid _ := HS.out hkp
        obtain ⟨b0, o0, rfl, hcr⟩ := H2.out.2.1.cell 0 hkp
        have hcr0 : wr.cell? ⟨b0, o0, none⟩ = some (.slice (A (l.getD 0 0)) N0 (C (l.getD 0 0))) := by rw [HA.out.2.2.2.2.2.2.2.2.2.2.1]; exact hcr
        have HV : Hid ((decide (0 < Kn) && (okb && !decide (k < N0))) = (okb && !decide (k < N0))) := by show _ = _; rw [decide_eq_true hkp]; rfl
        have HCr : Hid (wr.cell? ⟨b0, o0, none⟩ = some (.slice (A (l.getD 0 0)) N0 (C (l.getD 0 0)))) := hcr0
        clear hK0 hcr hcr0
        have hd := H2.out.2.2.1
        obtain ⟨d0, d1, d2, d3, d4⟩ := hd
        go_wp2_with fail
        clear d0 d1 d2 d3 d4
        refine ((HSv.out _ _ _ vc uo uc wr H2.out.2.1 H2.out.1).1 gen gm cm H2.out.2.2.2.1).mono ?_
        rintro e w2 ⟨⟨xo, xc, rfl, hki⟩, hb2⟩
        have H3 : Hid (KI (.slice xo L xc) (zl L s) w2 ∧ Below wr.heap.size wr w2 ∧ Box Bf D gen (.slice (some ⟨gm, 0, none⟩) (D.m + 1) cm) w2) := ⟨hki, hb2, H2.out.2.2.1.below hb2 H2.out.2.2.2.2.2⟩
        clear hki hb2
        have hd := H3.out.2.2
        obtain ⟨d0, d1, d2, d3, d4⟩ := hd
        go_wp2_with fail
        clear d0 d1 d2 d3 d4
        refine ((HSv.out _ _ _ vc uo uc w2 (H2.out.2.1.below H3.out.2.1) (slz_below H2.out.1 H3.out.2.1)).2.2.2 gen gm cm (H2.out.2.2.2.1.below H3.out.2.1)).mono ?_
        rintro e w3 ⟨⟨qo, qc, po, pc, rfl⟩, hb3⟩
        have H4 : Hid (KI (.slice xo L xc) (zl L s) w3 ∧ Below w.heap.size w w3) := ⟨H3.out.1.below hb3, bel_up' H2.out.2.2.2.2.1 (bel_up' H3.out.2.1 hb3)⟩
        have hcr0 : w3.cell? ⟨b0, o0, none⟩ = some (.slice (A (l.getD 0 0)) N0 (C (l.getD 0 0))) := ((bcell (bel_up' H3.out.2.1 hb3)).1 b0 o0 (cell_lt HCr.out)).trans HCr.out
        clear hb3
        cases okb with
        | false =>
          have HV2 : Hid ((decide (0 < Kn) && (false && !decide (k < N0))) = false) := by show _ = _; rw [HV.out]; rfl
          go_wp2
          go_ret2
          exact ⟨H4.out.2, none, 0, 0, by rw [HV2.out]; rfl, Or.inl ⟨HV2.out, rfl⟩⟩
        | true =>
          by_cases hkN : k < N0
          · have hkNb : (k : Int) < (N0 : Int) := by omega
            have HV2 : Hid ((decide (0 < Kn) && (true && !decide (k < N0))) = false) := by show _ = _; rw [HV.out, decide_eq_true hkN]; rfl
            clear hkN
            go_wp2
            go_ret2
            exact ⟨H4.out.2, none, 0, 0, by rw [HV2.out]; rfl, Or.inl ⟨HV2.out, rfl⟩⟩
          · have hkNb : ¬ (k : Int) < (N0 : Int) := by omega
            have HV2 : Hid ((decide (0 < Kn) && (true && !decide (k < N0))) = true) := by show _ = _; rw [HV.out, decide_eq_false hkN]; rfl
            clear hkN
            go_wp2
            go_ret2
            exact ⟨H4.out.2, xo, L, xc, by rw [HV2.out]; rfl, Or.inr ⟨HV2.out, H4.out.1⟩⟩
end Go.Proofs.Ythkjaiihlphgfaa
