/- Gray's lists: all of them (the reference's Grays). -/
import Derived.Test.YthkjaiihlphgfaaZKH3
import Derived.Test.YthkjaiihlphgfaaZL10
namespace Go.Proofs.Ythkjaiihlphgfaa
open Go.RowKit Go.Sort

/-- i lists of c numbers, in a list of the call's own. -/
structure GrS (base c i : Nat) (v : Value) (vs : Nat → Value) (Z : Nat → Nat → Int) (w : World) : Prop where
  own : OwnV base v (vl i vs) w
  row : ∀ j, j < i → OwnI base (vs j) (zl c (Z j)) w
theorem GrS.below {base c i : Nat} {v : Value} {vs : Nat → Value} {Z : Nat → Nat → Int} {w w' : World} (h : GrS base c i v vs Z w) (hb : Below w.heap.size w w') : GrS base c i v vs Z w' :=
  ⟨h.own.below hb (Nat.le_refl _), fun j hj => (h.row j hj).below hb (fun k hk => ((h.row j hj).lt k hk).2)⟩
theorem GrS.mono {base base' c i : Nat} {v : Value} {vs : Nat → Value} {Z : Nat → Nat → Int} {w : World} (h : GrS base c i v vs Z w) (hb : base' ≤ base) : GrS base' c i v vs Z w := ⟨h.own.mono hb, fun j hj => (h.row j hj).mono hb⟩
theorem GrS.push {base c i : Nat} {v v' u : Value} {vs : Nat → Value} {Z : Nat → Nat → Int} {y : Nat → Int} {w w' : World} (h : GrS base c i v vs Z w) (hu : OwnI base u (zl c y) w) (hy : ∀ t, t < c → y t = Z i t) (ho : OwnV base v' (vl i vs ++ [u]) w') (hg : w.grownBy w' v.ownBlock) :
    GrS base c (i + 1) v' (fun j => if j = i then u else vs j) Z w' := by
  refine ⟨?_, fun j hj => ?_⟩
  · have e : vl (i + 1) (fun j => if j = i then u else vs j) = vl i vs ++ [u] := by
      unfold vl
      rw [List.range_succ, List.map_append]
      congr 1
      · exact List.map_congr_left (fun j hj => by rw [if_neg (by have := List.mem_range.1 hj; omega)])
      · simp
    rw [e]; exact ho
  · by_cases e : j = i
    · simp only [if_pos e]
      rw [e, ← zl_congr hy]
      exact hu.kept hg (hu.apart h.own)
    · simp only [if_neg e]; exact (h.row j (by omega)).kept hg ((h.row j (by omega)).apart h.own)
theorem GrS.at {base c i j lc : Nat} {lo : Option Addr} {vs : Nat → Value} {Z : Nat → Nat → Int} {w : World} (h : GrS base c i (.slice lo i lc) vs Z w) (hj : j < i) : ∃ g ro rc, lo = some ⟨g, 0, none⟩ ∧ w.cell? ⟨g, j, none⟩ = some (.slice ro c rc) ∧ ArgL ro c rc (Z j) w := by
  obtain ⟨mo, mc, hv, _, _, _, hcell⟩ := h.own.open
  rw [vl_len] at hv
  cases hv
  obtain ⟨g, e, hc, _⟩ := hcell j (vs j) (vl_get i vs j hj)
  obtain ⟨so, sc, e2, ha⟩ := (h.row j hj).argL
  exact ⟨g, so, sc, e, by rw [hc, e2], ha⟩
theorem szOk_shf : ∀ (c : Nat) (z : Nat → Int), szOk z (c + 1) = true → szOk (fun j => z (j + 1)) c = true
  | 0, _, _ => rfl
  | c + 1, z, h => by
    have h : (szOk z (c + 1) && decide (2 ≤ z (c + 1) ∧ z (c + 1) ≤ 10)) = true := h
    rw [Bool.and_eq_true] at h
    show (szOk (fun j => z (j + 1)) c && decide (2 ≤ z (c + 1) ∧ z (c + 1) ≤ 10)) = true
    rw [szOk_shf c z h.1, h.2]; rfl
theorem gry_front {c : Nat} {b : Nat → Nat} {v i : Nat} (hi : i < prd c (shf b)) : gry (c + 1) b (v * prd c (shf b) + i) 0 = v ∧ ∀ t, gry (c + 1) b (v * prd c (shf b) + i) (t + 1) = gry c (shf b) (bhd v i (prd c (shf b))) t := by
  have hP : 0 < prd c (shf b) := by omega
  have h1 : (v * prd c (shf b) + i) / prd c (shf b) = v := by rw [Nat.mul_comm, Nat.mul_add_div hP, Nat.div_eq_of_lt hi, Nat.add_zero]
  have h2 : (v * prd c (shf b) + i) % prd c (shf b) = i := by rw [Nat.mul_comm, Nat.mul_add_mod, Nat.mod_eq_of_lt hi]
  refine ⟨h1, fun t => ?_⟩
  show gry c (shf b) (bhd ((v * prd c (shf b) + i) / prd c (shf b)) ((v * prd c (shf b) + i) % prd c (shf b)) (prd c (shf b))) t = _
  rw [h1, h2]
theorem zl_front (c : Nat) (a : Int) (y : Nat → Int) : [a] ++ zl c y = zl (c + 1) (fun t => match t with | 0 => a | t + 1 => y t) := by
  unfold zl
  rw [List.range_succ_eq_map, List.map_cons, List.map_map]; rfl

set_option maxHeartbeats 8000000 in
set_option maxRecDepth 100000 in
theorem grays_any (n : Nat) : ∀ {ao : Option Addr} {ca : Nat} {z : Nat → Int} {w : World}, Arg ao n ca z w → szOk z n = true → n ≤ 10 → prd n (szB z) ≤ 1024 →
    Calls Try.prog 43 #[.slice ao n ca] w fun e w' => ∃ v vs, e = .returned v ∧ GrS w.heap.size n (prd n (szB z)) v vs (fun j t => ((gry n (szB z) j t : Nat) : Int)) w' ∧ Below w.heap.size w w' := by
  induction n with
  | zero =>
    intro ao ca z w ha hz hn hp
    clear ha hz hn hp
    go_enter Try.func43, Try.ntmps43
    go_wp2
    go_ret
    refine ⟨_, fun _ => .slice none 0 0, rfl, ⟨?_, fun j hj => OwnI.nil _ _⟩, (Below.refl _ _).alloc (Nat.le_refl _) _⟩
    exact World.ownsRow_lit w #[.slice none 0 0] 1 (Nat.le_refl _) (by unfold maxLen; omega) rfl
  | succ c ih =>
    intro ao ca z w ha hz hn hp
    have HIH : Hid _ := @ih
    clear ih
    obtain ⟨b0, o0, hao, hc0⟩ := ha.sl 0 (by omega)
    subst hao
    obtain ⟨x, hx⟩ : ∃ x, x = szB z 0 := ⟨_, rfl⟩
    have hx2 := szB_at hz 0 (by omega)
    have hxz : z 0 = (x : Int) := by have := szOk_at _ hz 0 (by omega); rw [hx]; unfold szB; omega
    rw [hxz, Nat.add_zero] at hc0
    obtain ⟨P, hP⟩ : ∃ P, P = prd c (shf (szB z)) := ⟨_, rfl⟩
    have hpx : prd (c + 1) (szB z) = x * P := by rw [hP, hx]; rfl
    have HF : Hid (Arg (some ⟨b0, o0, none⟩) (c + 1) ca z w ∧ x = szB z 0 ∧ P = prd c (shf (szB z)) ∧ prd (c + 1) (szB z) = x * P) := ⟨ha, hx, hP, hpx⟩
    have hcc := ha.le
    have hlen : (1 : Int) ≤ ((c + 1 : Nat) : Int) := by omega
    have hz0 : (((c + 1 : Nat) : Int) == 0) = false := by rw [beq_eq_false_iff_ne]; omega
    have HT : Hid (szOk (fun j => z (j + 1)) c = true ∧ prd c (szB fun j => z (j + 1)) ≤ 1024) := by
      refine ⟨szOk_shf c z hz, ?_⟩
      show prd c (shf (szB z)) ≤ 1024
      have h1 : 1 ≤ x := by omega
      have h2 := Nat.le_mul_of_pos_left P h1
      rw [← hP]
      omega
    have HT2 : Hid (Arg (some ⟨b0, o0 + 1, none⟩) c (ca - 1) (fun j => z (j + 1)) w) := by
      refine ⟨fun j hj => ?_, fun a ha2 => ?_, by omega, (fun e => by cases e), by omega, by have := ha.cap; omega⟩
      · obtain ⟨b1, o1, e1, h1⟩ := ha.sl (j + 1) (by omega)
        cases e1
        exact ⟨_, _, rfl, by rw [show o0 + 1 + j = o0 + (j + 1) by omega]; exact h1⟩
      · cases ha2
        exact ha.lt ⟨b0, o0, none⟩ rfl
    have hP1024 : P ≤ 1024 := by
      have h1 : 1 ≤ x := by omega
      have h2 := Nat.le_mul_of_pos_left P h1
      omega
    have hx10 : x ≤ 10 := by omega
    clear hx hx2 hxz hP hpx ha hz
    go_enter Try.func43, Try.ntmps43
    go_wp2_with fail
    · refine (HIH.out (ao := some ⟨b0, o0, none⟩) (ca := 0) (z := fun j => z (j + 1)) (w := w) ⟨fun j hj => absurd hj (by omega), HF.out.1.lt, by omega, (fun e => by cases e), by omega, by omega⟩ HT.out.1 (by omega) HT.out.2).mono ?_
      rintro e w1 ⟨lv, lvs, rfl, hgr, hb1⟩
      obtain ⟨lo, lcap, hlv⟩ : ∃ lo lcap, lv = .slice lo P lcap := by
        obtain ⟨mo, mc, hv, _⟩ := hgr.own.open
        rw [vl_len] at hv
        exact ⟨mo, mc, by rw [hv, HF.out.2.2.1]; rfl⟩
      subst hlv
      have G1 : Hid (GrS w.heap.size c P (.slice lo P lcap) lvs (fun j t => ((gry c (shf (szB z)) j t : Nat) : Int)) w1 ∧ Below w.heap.size w w1 ∧ w1.cell? ⟨b0, o0, none⟩ = some (.int .i64 (x : Nat))) := ⟨by rw [HF.out.2.2.1]; rw [HF.out.2.2.1] at hgr; exact hgr, hb1, ((bcell hb1).1 b0 o0 (cell_lt hc0)).trans hc0⟩
      clear hgr hb1 hc0 HIH
      go_wp2
      go_loopw [4, 5] (fun vo vv wr => ∃ (v : Nat) (vs : Nat → Value), v ≤ x ∧ vv = .int .i64 (v : Nat) ∧ Hid (GrS w1.heap.size (c + 1) (v * P) vo vs (fun j t => ((gry (c + 1) (szB z) j t : Nat) : Int)) wr ∧ Below w1.heap.size w1 wr)) (fun _ vv _ => x - (intOf vv).toNat)
      case atStart => exact ⟨0, fun _ => undef, by omega, rfl, ⟨by rw [Nat.zero_mul]; exact OwnV.nil _ _, fun j hj => absurd hj (by rw [Nat.zero_mul]; omega)⟩, Below.refl _ _⟩
      case round =>
        obtain ⟨v, vs, hv, rfl, HO⟩ := hrel
        rename World => wr
        have hcr : wr.cell? ⟨b0, o0, none⟩ = some (.int .i64 (x : Nat)) := ((bcell HO.out.2).1 b0 o0 (cell_lt G1.out.2.2)).trans G1.out.2.2
        by_cases hvx : v < x
        · have hvb : (v : Int) < (x : Int) := by omega
          have HW : Hid (GrS w1.heap.size (c + 1) (v * P + 0) u4 vs (fun j t => ((gry (c + 1) (szB z) j t : Nat) : Int)) wr ∧ Below w1.heap.size w1 wr) := HO.out
          go_wp2
          clear hcr
          go_loopw [4, 6] (fun vo vi wx => ∃ (i : Nat) (vs : Nat → Value), i ≤ P ∧ vi = .int .i64 (i : Nat) ∧ Hid (GrS w1.heap.size (c + 1) (v * P + i) vo vs (fun j t => ((gry (c + 1) (szB z) j t : Nat) : Int)) wx ∧ Below w1.heap.size w1 wx)) (fun _ vi _ => P - (intOf vi).toNat)
          case atStart => exact ⟨0, vs, by omega, rfl, HW.out⟩
          case round =>
            obtain ⟨i, vs2, hi, rfl, HJ⟩ := hrel
            rename World => wx
            by_cases hip : i < P
            · have hib : (i : Int) < (P : Int) := by omega
              obtain ⟨k, hk⟩ : ∃ k, k = bhd v i P := ⟨_, rfl⟩
              have hkP : k < P := by rw [hk]; exact bhd_lt hip
              have hkb : (k : Int) < (P : Int) := by omega
              have hkb0 : (0 : Int) ≤ (k : Int) := by omega
              obtain ⟨gl, ro, rc, hlo, hcl, hrow⟩ := (G1.out.1.below HJ.out.2).at hkP
              subst hlo
              obtain ⟨cnt, hcnt⟩ : ∃ cnt, cnt = v * P + i := ⟨_, rfl⟩
              have hcb : cnt < 1024 := by
                have h1 : v * P + P ≤ x * P := by rw [← Nat.succ_mul]; exact Nat.mul_le_mul_right P hvx
                have h2 := HF.out.2.2.2
                omega
              have hsz1 := HJ.out.2.size
              have HRow : Hid (ArgL ro c rc (fun t => ((gry c (shf (szB z)) k t : Nat) : Int)) wx) := hrow
              have HGr : Hid (GrS w1.heap.size (c + 1) cnt u4 vs2 (fun j t => ((gry (c + 1) (szB z) j t : Nat) : Int)) wx) := by rw [hcnt]; exact HJ.out.1
              have HY : Hid (∀ t, t < c + 1 → (fun t => match t with | 0 => (v : Int) | t + 1 => ((gry c (shf (szB z)) k t : Nat) : Int)) t = ((gry (c + 1) (szB z) cnt t : Nat) : Int)) := fun t ht => by
                have hf := gry_front (b := szB z) (v := v) (i := i) (c := c) (by rw [← HF.out.2.2.1]; exact hip)
                rw [← HF.out.2.2.1, ← hcnt, ← hk] at hf
                cases t with
                | zero => show (v : Int) = _; rw [hf.1]
                | succ t => show ((gry c (shf (szB z)) k t : Nat) : Int) = _; rw [hf.2 t]
              have HNx : Hid (v * P + (i + 1) = cnt + 1) := by show v * P + (i + 1) = cnt + 1; omega
              obtain ⟨md, hmd⟩ : ∃ md : Nat, md = v % 2 := ⟨_, rfl⟩
              have h1 : Int.tmod (v : Int) 2 = (md : Int) := by rw [hmd]; rfl
              have HA1 : Hid (Below wx.heap.size wx (wx.alloc (.cells #[.int .i64 (v : Nat)] 3)) ∧ OwnI w1.heap.size (.slice (some ⟨wx.heap.size, 0, none⟩) 1 1) [(v : Int)] (wx.alloc (.cells #[.int .i64 (v : Nat)] 3))) := ⟨(Below.refl _ _).alloc (Nat.le_refl _) _, World.ownsRow_lit wx #[.int .i64 (v : Nat)] 1 hsz1 (by unfold maxLen; omega) rfl⟩
              have hclA : (wx.alloc (.cells #[.int .i64 (v : Nat)] 3)).cell? ⟨gl, k, none⟩ = some (.slice ro c rc) := ((bcell HA1.out.1).1 gl k (cell_lt hcl)).trans hcl
              clear hrow hcnt
              by_cases e : v % 2 = 0
              · have hz : ((md : Int) == 1) = false := by rw [hmd, e]; rfl
                have hki : k = i := by rw [hk]; unfold bhd; rw [if_pos e]
                clear e hmd hk hcl
                subst hki
                go_wp2_with (first
                  | (at_builtin; refine append_ints rfl _ _ rfl w1.heap.size (.slice (some ⟨wx.heap.size, 0, none⟩) 1 1) [(v : Int)] rfl HA1.out.2 ro c rc (fun t => ((gry c (shf (szB z)) k t : Nat) : Int)) rfl (slz_below HRow.out.sl HA1.out.1) HRow.out.nil (by simp; omega) (by simp; omega) ?_; intro v2 w3 hown3 hg3; rw [zl_front] at hown3; obtain ⟨ro2, rc2, hv2, _⟩ := hown3.argL; subst hv2; have hb3 : Below wx.heap.size wx w3 := Below.grown (Below.mono HA1.out.1 (Nat.le_refl _)) hg3 (by simp) (fun k hk => by cases hk; exact Nat.le_refl _); have hb4 := bel_up' hb3 ((Below.refl w3.heap.size w3).alloc (Nat.le_refl _) (.cells #[.slice ro2 (c + 1) rc2] 26)); have HG4 : Hid _ := HGr.out.below hb4; have HO4 : Hid _ := OwnI.alloc hown3 (.cells #[.slice ro2 (c + 1) rc2] 26); have HB4 : Hid _ := hb4; clear hown3 hg3 hb3 hb4)
                  | (at_builtin; refine append_sl rfl _ _ rfl w1.heap.size u4 (vl cnt vs2) rfl HG4.out.own ⟨w3.heap.size, 0, none⟩ 1 (.slice ro2 (c + 1) rc2) rfl rfl (by rw [cell_of_row _ _ _ _ _ (0, 0) (two_new _)]; rfl) (by rw [vl_len]; omega) (by have := HB4.out.size; simp at this ⊢; omega) ?_; intro v' w6 hown6 hg6))
                have HR : Hid (GrS w1.heap.size (c + 1) (cnt + 1) v' (fun j => if j = cnt then .slice ro2 (c + 1) rc2 else vs2 j) (fun j t => ((gry (c + 1) (szB z) j t : Nat) : Int)) w6 ∧ Below w1.heap.size w1 w6) := ⟨HG4.out.push HO4.out HY.out hown6 hg6, (bel_up' HJ.out.2 HB4.out).grown hg6 (by have := HB4.out.size; simp at this ⊢; omega) (fun k hk => HG4.out.own.open_ge k hk)⟩
                clear hown6 hg6
                go_roundw
                case rel => exact ⟨k + 1, _, by omega, by go_num, by rw [HNx.out]; exact HR.out.1, HR.out.2⟩
                case measure => simp [intOf]; omega
              · have hz : ((md : Int) == 1) = true := by rw [show md = 1 by omega]; rfl
                have hki : k = P - 1 - i := by rw [hk]; unfold bhd; rw [if_neg e]
                obtain ⟨P1, hP1⟩ : ∃ P1, P1 = P - 1 := ⟨_, rfl⟩
                have w1' : IntKind.i64.wrap ((P : Int) - 1) = (P1 : Int) := wrap_to (by omega) (by omega)
                have w2' : IntKind.i64.wrap ((P1 : Int) - (i : Int)) = (k : Int) := wrap_to (by omega) (by omega)
                clear e hmd hk hki hP1 hcl
                go_wp2_with (first
                  | (at_builtin; refine append_ints rfl _ _ rfl w1.heap.size (.slice (some ⟨wx.heap.size, 0, none⟩) 1 1) [(v : Int)] rfl HA1.out.2 ro c rc (fun t => ((gry c (shf (szB z)) k t : Nat) : Int)) rfl (slz_below HRow.out.sl HA1.out.1) HRow.out.nil (by simp; omega) (by simp; omega) ?_; intro v2 w3 hown3 hg3; rw [zl_front] at hown3; obtain ⟨ro2, rc2, hv2, _⟩ := hown3.argL; subst hv2; have hb3 : Below wx.heap.size wx w3 := Below.grown (Below.mono HA1.out.1 (Nat.le_refl _)) hg3 (by simp) (fun k hk => by cases hk; exact Nat.le_refl _); have hb4 := bel_up' hb3 ((Below.refl w3.heap.size w3).alloc (Nat.le_refl _) (.cells #[.slice ro2 (c + 1) rc2] 26)); have HG4 : Hid _ := HGr.out.below hb4; have HO4 : Hid _ := OwnI.alloc hown3 (.cells #[.slice ro2 (c + 1) rc2] 26); have HB4 : Hid _ := hb4; clear hown3 hg3 hb3 hb4)
                  | (at_builtin; refine append_sl rfl _ _ rfl w1.heap.size u4 (vl cnt vs2) rfl HG4.out.own ⟨w3.heap.size, 0, none⟩ 1 (.slice ro2 (c + 1) rc2) rfl rfl (by rw [cell_of_row _ _ _ _ _ (0, 0) (two_new _)]; rfl) (by rw [vl_len]; omega) (by have := HB4.out.size; simp at this ⊢; omega) ?_; intro v' w6 hown6 hg6))
                have HR : Hid (GrS w1.heap.size (c + 1) (cnt + 1) v' (fun j => if j = cnt then .slice ro2 (c + 1) rc2 else vs2 j) (fun j t => ((gry (c + 1) (szB z) j t : Nat) : Int)) w6 ∧ Below w1.heap.size w1 w6) := ⟨HG4.out.push HO4.out HY.out hown6 hg6, (bel_up' HJ.out.2 HB4.out).grown hg6 (by have := HB4.out.size; simp at this ⊢; omega) (fun k hk => HG4.out.own.open_ge k hk)⟩
                clear hown6 hg6
                go_roundw
                case rel => exact ⟨i + 1, _, by omega, by go_num, by rw [HNx.out]; exact HR.out.1, HR.out.2⟩
                case measure => simp [intOf]; omega
            · have hib : ¬ (i : Int) < (P : Int) := by omega
              have hie : P = i := by omega
              have HX : Hid (GrS w1.heap.size (c + 1) ((v + 1) * P) u4 vs2 (fun j t => ((gry (c + 1) (szB z) j t : Nat) : Int)) wx ∧ Below w1.heap.size w1 wx) := by
                rw [Nat.succ_mul]
                have h1 := HJ.out
                rw [← hie] at h1
                exact h1
              clear hie
              go_wp2
              go_roundw
              case rel => exact ⟨v + 1, vs2, by omega, by go_num, HX.out⟩
              case measure => simp [intOf]; omega
        · have hvb : ¬ (v : Int) < (x : Int) := by omega
          have hvx2 : v = x := by omega
          have HX : Hid (GrS w.heap.size (c + 1) (prd (c + 1) (szB z)) u4 vs (fun j t => ((gry (c + 1) (szB z) j t : Nat) : Int)) wr ∧ Below w.heap.size w wr) := by
            have h1 := HO.out
            rw [hvx2, ← HF.out.2.2.2] at h1
            exact ⟨h1.1.mono G1.out.2.1.size, bel_up' G1.out.2.1 h1.2⟩
          clear hvx2
          go_wp2
          go_ret
          exact ⟨_, rfl, ⟨vs, HX.out.1⟩, HX.out.2⟩
    · refine (HIH.out (ao := some ⟨b0, o0 + 1, none⟩) (ca := ca - 1) (z := fun j => z (j + 1)) (w := w) HT2.out HT.out.1 (by omega) HT.out.2).mono ?_
      rintro e w1 ⟨lv, lvs, rfl, hgr, hb1⟩
      obtain ⟨lo, lcap, hlv⟩ : ∃ lo lcap, lv = .slice lo P lcap := by
        obtain ⟨mo, mc, hv, _⟩ := hgr.own.open
        rw [vl_len] at hv
        exact ⟨mo, mc, by rw [hv, HF.out.2.2.1]; rfl⟩
      subst hlv
      have G1 : Hid (GrS w.heap.size c P (.slice lo P lcap) lvs (fun j t => ((gry c (shf (szB z)) j t : Nat) : Int)) w1 ∧ Below w.heap.size w w1 ∧ w1.cell? ⟨b0, o0, none⟩ = some (.int .i64 (x : Nat))) := ⟨by rw [HF.out.2.2.1]; rw [HF.out.2.2.1] at hgr; exact hgr, hb1, ((bcell hb1).1 b0 o0 (cell_lt hc0)).trans hc0⟩
      clear hgr hb1 hc0 HIH
      go_wp2
      go_loopw [4, 5] (fun vo vv wr => ∃ (v : Nat) (vs : Nat → Value), v ≤ x ∧ vv = .int .i64 (v : Nat) ∧ Hid (GrS w1.heap.size (c + 1) (v * P) vo vs (fun j t => ((gry (c + 1) (szB z) j t : Nat) : Int)) wr ∧ Below w1.heap.size w1 wr)) (fun _ vv _ => x - (intOf vv).toNat)
      case atStart => exact ⟨0, fun _ => undef, by omega, rfl, ⟨by rw [Nat.zero_mul]; exact OwnV.nil _ _, fun j hj => absurd hj (by rw [Nat.zero_mul]; omega)⟩, Below.refl _ _⟩
      case round =>
        obtain ⟨v, vs, hv, rfl, HO⟩ := hrel
        rename World => wr
        have hcr : wr.cell? ⟨b0, o0, none⟩ = some (.int .i64 (x : Nat)) := ((bcell HO.out.2).1 b0 o0 (cell_lt G1.out.2.2)).trans G1.out.2.2
        by_cases hvx : v < x
        · have hvb : (v : Int) < (x : Int) := by omega
          have HW : Hid (GrS w1.heap.size (c + 1) (v * P + 0) u4 vs (fun j t => ((gry (c + 1) (szB z) j t : Nat) : Int)) wr ∧ Below w1.heap.size w1 wr) := HO.out
          go_wp2
          clear hcr
          go_loopw [4, 6] (fun vo vi wx => ∃ (i : Nat) (vs : Nat → Value), i ≤ P ∧ vi = .int .i64 (i : Nat) ∧ Hid (GrS w1.heap.size (c + 1) (v * P + i) vo vs (fun j t => ((gry (c + 1) (szB z) j t : Nat) : Int)) wx ∧ Below w1.heap.size w1 wx)) (fun _ vi _ => P - (intOf vi).toNat)
          case atStart => exact ⟨0, vs, by omega, rfl, HW.out⟩
          case round =>
            obtain ⟨i, vs2, hi, rfl, HJ⟩ := hrel
            rename World => wx
            by_cases hip : i < P
            · have hib : (i : Int) < (P : Int) := by omega
              obtain ⟨k, hk⟩ : ∃ k, k = bhd v i P := ⟨_, rfl⟩
              have hkP : k < P := by rw [hk]; exact bhd_lt hip
              have hkb : (k : Int) < (P : Int) := by omega
              have hkb0 : (0 : Int) ≤ (k : Int) := by omega
              obtain ⟨gl, ro, rc, hlo, hcl, hrow⟩ := (G1.out.1.below HJ.out.2).at hkP
              subst hlo
              obtain ⟨cnt, hcnt⟩ : ∃ cnt, cnt = v * P + i := ⟨_, rfl⟩
              have hcb : cnt < 1024 := by
                have h1 : v * P + P ≤ x * P := by rw [← Nat.succ_mul]; exact Nat.mul_le_mul_right P hvx
                have h2 := HF.out.2.2.2
                omega
              have hsz1 := HJ.out.2.size
              have HRow : Hid (ArgL ro c rc (fun t => ((gry c (shf (szB z)) k t : Nat) : Int)) wx) := hrow
              have HGr : Hid (GrS w1.heap.size (c + 1) cnt u4 vs2 (fun j t => ((gry (c + 1) (szB z) j t : Nat) : Int)) wx) := by rw [hcnt]; exact HJ.out.1
              have HY : Hid (∀ t, t < c + 1 → (fun t => match t with | 0 => (v : Int) | t + 1 => ((gry c (shf (szB z)) k t : Nat) : Int)) t = ((gry (c + 1) (szB z) cnt t : Nat) : Int)) := fun t ht => by
                have hf := gry_front (b := szB z) (v := v) (i := i) (c := c) (by rw [← HF.out.2.2.1]; exact hip)
                rw [← HF.out.2.2.1, ← hcnt, ← hk] at hf
                cases t with
                | zero => show (v : Int) = _; rw [hf.1]
                | succ t => show ((gry c (shf (szB z)) k t : Nat) : Int) = _; rw [hf.2 t]
              have HNx : Hid (v * P + (i + 1) = cnt + 1) := by show v * P + (i + 1) = cnt + 1; omega
              obtain ⟨md, hmd⟩ : ∃ md : Nat, md = v % 2 := ⟨_, rfl⟩
              have h1 : Int.tmod (v : Int) 2 = (md : Int) := by rw [hmd]; rfl
              have HA1 : Hid (Below wx.heap.size wx (wx.alloc (.cells #[.int .i64 (v : Nat)] 3)) ∧ OwnI w1.heap.size (.slice (some ⟨wx.heap.size, 0, none⟩) 1 1) [(v : Int)] (wx.alloc (.cells #[.int .i64 (v : Nat)] 3))) := ⟨(Below.refl _ _).alloc (Nat.le_refl _) _, World.ownsRow_lit wx #[.int .i64 (v : Nat)] 1 hsz1 (by unfold maxLen; omega) rfl⟩
              have hclA : (wx.alloc (.cells #[.int .i64 (v : Nat)] 3)).cell? ⟨gl, k, none⟩ = some (.slice ro c rc) := ((bcell HA1.out.1).1 gl k (cell_lt hcl)).trans hcl
              clear hrow hcnt
              by_cases e : v % 2 = 0
              · have hz : ((md : Int) == 1) = false := by rw [hmd, e]; rfl
                have hki : k = i := by rw [hk]; unfold bhd; rw [if_pos e]
                clear e hmd hk hcl
                subst hki
                go_wp2_with (first
                  | (at_builtin; refine append_ints rfl _ _ rfl w1.heap.size (.slice (some ⟨wx.heap.size, 0, none⟩) 1 1) [(v : Int)] rfl HA1.out.2 ro c rc (fun t => ((gry c (shf (szB z)) k t : Nat) : Int)) rfl (slz_below HRow.out.sl HA1.out.1) HRow.out.nil (by simp; omega) (by simp; omega) ?_; intro v2 w3 hown3 hg3; rw [zl_front] at hown3; obtain ⟨ro2, rc2, hv2, _⟩ := hown3.argL; subst hv2; have hb3 : Below wx.heap.size wx w3 := Below.grown (Below.mono HA1.out.1 (Nat.le_refl _)) hg3 (by simp) (fun k hk => by cases hk; exact Nat.le_refl _); have hb4 := bel_up' hb3 ((Below.refl w3.heap.size w3).alloc (Nat.le_refl _) (.cells #[.slice ro2 (c + 1) rc2] 26)); have HG4 : Hid _ := HGr.out.below hb4; have HO4 : Hid _ := OwnI.alloc hown3 (.cells #[.slice ro2 (c + 1) rc2] 26); have HB4 : Hid _ := hb4; clear hown3 hg3 hb3 hb4)
                  | (at_builtin; refine append_sl rfl _ _ rfl w1.heap.size u4 (vl cnt vs2) rfl HG4.out.own ⟨w3.heap.size, 0, none⟩ 1 (.slice ro2 (c + 1) rc2) rfl rfl (by rw [cell_of_row _ _ _ _ _ (0, 0) (two_new _)]; rfl) (by rw [vl_len]; omega) (by have := HB4.out.size; simp at this ⊢; omega) ?_; intro v' w6 hown6 hg6))
                have HR : Hid (GrS w1.heap.size (c + 1) (cnt + 1) v' (fun j => if j = cnt then .slice ro2 (c + 1) rc2 else vs2 j) (fun j t => ((gry (c + 1) (szB z) j t : Nat) : Int)) w6 ∧ Below w1.heap.size w1 w6) := ⟨HG4.out.push HO4.out HY.out hown6 hg6, (bel_up' HJ.out.2 HB4.out).grown hg6 (by have := HB4.out.size; simp at this ⊢; omega) (fun k hk => HG4.out.own.open_ge k hk)⟩
                clear hown6 hg6
                go_roundw
                case rel => exact ⟨k + 1, _, by omega, by go_num, by rw [HNx.out]; exact HR.out.1, HR.out.2⟩
                case measure => simp [intOf]; omega
              · have hz : ((md : Int) == 1) = true := by rw [show md = 1 by omega]; rfl
                have hki : k = P - 1 - i := by rw [hk]; unfold bhd; rw [if_neg e]
                obtain ⟨P1, hP1⟩ : ∃ P1, P1 = P - 1 := ⟨_, rfl⟩
                have w1' : IntKind.i64.wrap ((P : Int) - 1) = (P1 : Int) := wrap_to (by omega) (by omega)
                have w2' : IntKind.i64.wrap ((P1 : Int) - (i : Int)) = (k : Int) := wrap_to (by omega) (by omega)
                clear e hmd hk hki hP1 hcl
                go_wp2_with (first
                  | (at_builtin; refine append_ints rfl _ _ rfl w1.heap.size (.slice (some ⟨wx.heap.size, 0, none⟩) 1 1) [(v : Int)] rfl HA1.out.2 ro c rc (fun t => ((gry c (shf (szB z)) k t : Nat) : Int)) rfl (slz_below HRow.out.sl HA1.out.1) HRow.out.nil (by simp; omega) (by simp; omega) ?_; intro v2 w3 hown3 hg3; rw [zl_front] at hown3; obtain ⟨ro2, rc2, hv2, _⟩ := hown3.argL; subst hv2; have hb3 : Below wx.heap.size wx w3 := Below.grown (Below.mono HA1.out.1 (Nat.le_refl _)) hg3 (by simp) (fun k hk => by cases hk; exact Nat.le_refl _); have hb4 := bel_up' hb3 ((Below.refl w3.heap.size w3).alloc (Nat.le_refl _) (.cells #[.slice ro2 (c + 1) rc2] 26)); have HG4 : Hid _ := HGr.out.below hb4; have HO4 : Hid _ := OwnI.alloc hown3 (.cells #[.slice ro2 (c + 1) rc2] 26); have HB4 : Hid _ := hb4; clear hown3 hg3 hb3 hb4)
                  | (at_builtin; refine append_sl rfl _ _ rfl w1.heap.size u4 (vl cnt vs2) rfl HG4.out.own ⟨w3.heap.size, 0, none⟩ 1 (.slice ro2 (c + 1) rc2) rfl rfl (by rw [cell_of_row _ _ _ _ _ (0, 0) (two_new _)]; rfl) (by rw [vl_len]; omega) (by have := HB4.out.size; simp at this ⊢; omega) ?_; intro v' w6 hown6 hg6))
                have HR : Hid (GrS w1.heap.size (c + 1) (cnt + 1) v' (fun j => if j = cnt then .slice ro2 (c + 1) rc2 else vs2 j) (fun j t => ((gry (c + 1) (szB z) j t : Nat) : Int)) w6 ∧ Below w1.heap.size w1 w6) := ⟨HG4.out.push HO4.out HY.out hown6 hg6, (bel_up' HJ.out.2 HB4.out).grown hg6 (by have := HB4.out.size; simp at this ⊢; omega) (fun k hk => HG4.out.own.open_ge k hk)⟩
                clear hown6 hg6
                go_roundw
                case rel => exact ⟨i + 1, _, by omega, by go_num, by rw [HNx.out]; exact HR.out.1, HR.out.2⟩
                case measure => simp [intOf]; omega
            · have hib : ¬ (i : Int) < (P : Int) := by omega
              have hie : P = i := by omega
              have HX : Hid (GrS w1.heap.size (c + 1) ((v + 1) * P) u4 vs2 (fun j t => ((gry (c + 1) (szB z) j t : Nat) : Int)) wx ∧ Below w1.heap.size w1 wx) := by
                rw [Nat.succ_mul]
                have h1 := HJ.out
                rw [← hie] at h1
                exact h1
              clear hie
              go_wp2
              go_roundw
              case rel => exact ⟨v + 1, vs2, by omega, by go_num, HX.out⟩
              case measure => simp [intOf]; omega
        · have hvb : ¬ (v : Int) < (x : Int) := by omega
          have hvx2 : v = x := by omega
          have HX : Hid (GrS w.heap.size (c + 1) (prd (c + 1) (szB z)) u4 vs (fun j t => ((gry (c + 1) (szB z) j t : Nat) : Int)) wr ∧ Below w.heap.size w wr) := by
            have h1 := HO.out
            rw [hvx2, ← HF.out.2.2.2] at h1
            exact ⟨h1.1.mono G1.out.2.1.size, bel_up' G1.out.2.1 h1.2⟩
          clear hvx2
          go_wp2
          go_ret
          exact ⟨_, rfl, ⟨vs, HX.out.1⟩, HX.out.2⟩
end Go.Proofs.Ythkjaiihlphgfaa
