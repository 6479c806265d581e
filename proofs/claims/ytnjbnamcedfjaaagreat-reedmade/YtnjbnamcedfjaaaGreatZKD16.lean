/- The reference's Recovered (printed by make/kd16.py). -/
import Derived.Test.YtnjbnamcedfjaaaGreatZKD15
namespace Go.Proofs.YtnjbnamcedfjaaaGreat
open Go.RowKit Go.Sort

/-- Rows laid so far. -/
def RcI (D : FD) (y : Nat → Int) (c' y' : Nat → Nat) (n t k base : Nat) (w1 : World) (vm vi : Value) (wx : World) : Prop := ∃ (i : Nat) (vs : Nat → Value), i ≤ n ∧ vi = .int .i64 (i : Nat) ∧ Hid (MkS base D.q (t + 1 + (t + k)) (hix y i).length vm vs (fun j d => ((rvq D (c' j) (y' j) t (t + k) d : Nat) : Int)) wx ∧ Below w1.heap.size w1 wx)
/-- The row of one place, its first part. -/
def RcJ (D : FD) (x yv t k : Nat) (wA : World) (vr vx vd : Value) (wx : World) : Prop := ∃ d : Nat, d ≤ t + 1 ∧ vd = .int .i64 (d : Nat) ∧ vx = .int .i64 (D.xp x d : Nat) ∧ Hid (OwnI wA.heap.size vr (zl d fun j => ((rvq D x yv t (t + k) j : Nat) : Int)) wx ∧ Below wA.heap.size wA wx)
/-- Its second part. -/
def RcK (D : FD) (x yv t k : Nat) (wA : World) (vr vx vd : Value) (wx : World) : Prop := ∃ d : Nat, d ≤ t + k ∧ vd = .int .i64 (d : Nat) ∧ vx = .int .i64 (D.ng (D.xp x d) : Nat) ∧ Hid (OwnI wA.heap.size vr (zl (t + 1 + d) fun j => ((rvq D x yv t (t + k) j : Nat) : Int)) wx ∧ Below wA.heap.size wA wx)

set_option maxHeartbeats 16000000 in
set_option maxRecDepth 100000 in
theorem recovered_any {D : FD} (hD : D ∈ fieldsL) (gen gm cm : Nat) {xo wo : Option Addr} {n cx cw k m : Nat} {c c' y' : Nat → Nat} {y : Nat → Int} {w : World} (hX : Arg xo n cx (fun j => ((c j : Nat) : Int)) w) (hY : Arg wo n cw y w) (hn : n ≤ 64) (hk1 : 1 ≤ k) (hk : k ≤ n) (hc : ∀ i, i < n → c i < D.q) (hH : Heard D n c y m c' y') (hM : ModAt D (.slice (some ⟨gm, 0, none⟩) (D.m + 1) cm) D.md w) :
    Calls Tryz.prog 39 #[.agg #[.int .i64 D.q, .int .i64 D.p, .int .i64 D.m, .int .i64 gen, .slice (some ⟨gm, 0, none⟩) (D.m + 1) cm], .slice xo n cx, .int .i64 (k : Nat), .slice wo n cw] w (RecP D m k c' y' w) := by
  obtain ⟨wa, hwa⟩ : ∃ wa, wa = w.alloc (.cells #[.int .i64 D.q, .int .i64 D.p, .int .i64 D.m, .int .i64 gen, .slice (some ⟨gm, 0, none⟩) (D.m + 1) cm] 28) := ⟨_, rfl⟩
  have hba : Below w.heap.size w wa := by rw [hwa]; exact (Below.refl _ _).alloc (Nat.le_refl _) _
  have HF : Hid (D ∈ fieldsL ∧ Arg xo n cx (fun j => ((c j : Nat) : Int)) wa ∧ Arg wo n cw y wa ∧ (∀ i, i < n → c i < D.q) ∧ Heard D n c y m c' y' ∧ ModAt D (.slice (some ⟨gm, 0, none⟩) (D.m + 1) cm) D.md wa ∧ Below w.heap.size w wa) := ⟨hD, hX.below hba, hY.below hba, hc, hH, hM.below hba, hba⟩
  have HX : Hid (Box w.heap.size D gen (.slice (some ⟨gm, 0, none⟩) (D.m + 1) cm) wa ∧ wa.heap.size = w.heap.size + 1) := ⟨by rw [hwa]; exact box_new D gen _ w, by rw [hwa]; simp⟩
  have hmn : m ≤ n := hH.le
  have HBx : Hid (∀ wx, Below wa.heap.size wa wx → Box w.heap.size D gen (.slice (some ⟨gm, 0, none⟩) (D.m + 1) cm) wx) := fun wx hb => HX.out.1.below (B := wa.heap.size) hb (by have := HX.out.2; omega)
  clear hD hX hY hc hH hM hba
  go_enter Tryz.func39, Tryz.ntmps39
  go_wp2
  rw [← hwa]
  clear hwa
  go_loopw [11, 12] (fun vn vi wx => ∃ (i f : Nat), i ≤ n ∧ f ≤ i ∧ vn = .int .i64 (f : Nat) ∧ vi = .int .i64 (i : Nat) ∧ Hid (f = ct (fun i => !decide (y i = -1)) i) ∧ wx = wa) (fun _ vi _ => n - (intOf vi).toNat)
  case atStart => exact ⟨0, 0, by omega, by omega, rfl, rfl, rfl, rfl⟩
  case round =>
    obtain ⟨i, f, hi, hfi, rfl, rfl, HG, hwx⟩ := hrel
    have hwx := hwx.symm
    subst hwx
    by_cases hlt : i < n
    · have hib : (i : Int) < (n : Int) := by omega
      have hi0 : (0 : Int) ≤ (i : Int) := by omega
      obtain ⟨bw, ow, rfl, hcw⟩ := HF.out.2.2.1.sl i hlt
      obtain ⟨yv, hyv⟩ : ∃ yv, yv = y i := ⟨_, rfl⟩
      rw [← hyv] at hcw
      by_cases hl : yv = -1
      · have hz : (yv != -1) = false := by rw [hl]; rfl
        have HV : Hid (f = ct (fun i => !decide (y i = -1)) (i + 1)) := by
          show f = ct _ i + if (!decide (y i = -1)) = true then 1 else 0
          rw [← hyv, hl, ← HG.out]; rfl
        clear hyv hl
        go_wp2
        go_roundw
        case rel => exact ⟨i + 1, f, by omega, by omega, rfl, by go_num, HV.out, by first | rfl | trivial⟩
        case measure => simp [intOf]; omega
      · have hz : (yv != -1) = true := bne_iff_ne.2 hl
        have HV : Hid (f + 1 = ct (fun i => !decide (y i = -1)) (i + 1)) := by
          show f + 1 = ct _ i + if (!decide (y i = -1)) = true then 1 else 0
          rw [← hyv, decide_eq_false hl, ← HG.out]; rfl
        clear hyv hl
        go_wp2
        go_roundw
        case rel => exact ⟨i + 1, f + 1, by omega, by omega, by go_num, by go_num, HV.out, by first | rfl | trivial⟩
        case measure => simp [intOf]; omega
    · have hib : ¬ (i : Int) < (n : Int) := by omega
      have hie : n = i := by omega
      subst hie
      have hfm : m = f := by rw [HF.out.2.2.2.2.1.many, HG.out]
      subst hfm
      by_cases hmk : m < k
      · have hmb : (m : Int) < (k : Int) := by omega
        have HR : Hid (RecP D m k c' y' w (.returned (.tuple #[.slice none 0 0, .int .i64 0, .bool false])) wa) := ⟨HF.out.2.2.2.2.2.2, Or.inr ⟨fun a ha => by have := ha.2.2.1; omega, rfl⟩⟩
        go_wp2
        go_ret3
        exact HR.out
      · have hmb : ¬ (m : Int) < (k : Int) := by omega
        obtain ⟨t, ht⟩ : ∃ t, t = (m - k) / 2 := ⟨_, rfl⟩
        have hq2 : Int.tdiv ((m : Int) - (k : Int)) 2 = (t : Int) := by
          rw [Int.tdiv_eq_ediv_of_nonneg (by omega)]; omega
        have ht32 : t ≤ 32 := by omega
        have hw2 : k + t + t ≤ m := by omega
        have HT : Hid (t = (m - k) / 2) := ht
        clear ht
        go_wp2
        go_loopw [14, 15] (fun vm vi wx => RcI D y c' y' n t k wa.heap.size wa vm vi wx) (fun _ vi _ => n - (intOf vi).toNat)
        case atStart => exact ⟨0, fun _ => undef, by omega, rfl, ⟨OwnV.nil _ _, fun j hj => absurd hj (by simp [hix]), fun j hj => absurd hj (by simp [hix])⟩, Below.refl _ _⟩
        case round =>
          obtain ⟨i, vs, hi, rfl, HI⟩ := hrel
          rename World => wA
          by_cases hlt2 : i < n
          · have hib2 : (i : Int) < (n : Int) := by omega
            have hi0 : (0 : Int) ≤ (i : Int) := by omega
            obtain ⟨bw, ow, hwo, hcw⟩ := (HF.out.2.2.1.below HI.out.2).sl i hlt2
            subst hwo
            obtain ⟨yv, hyv⟩ : ∃ yv, yv = y i := ⟨_, rfl⟩
            rw [← hyv] at hcw
            by_cases hl : yv = -1
            · have hz : (yv == -1) = true := by rw [hl]; rfl
              have HV : Hid (hix y (i + 1) = hix y i) := if_pos (by rw [← hyv]; exact hl)
              clear hyv hl
              go_wp2
              go_roundw
              case rel => exact ⟨i + 1, vs, by omega, by go_num, by rw [HV.out]; exact HI.out.1, HI.out.2⟩
              case measure => simp [intOf]; omega
            · have hz : (yv == -1) = false := beq_eq_false_iff_ne.2 hl
              obtain ⟨hr1, hr2, hr3⟩ := HF.out.2.2.2.2.1.at i hlt2 (by rw [← hyv]; exact hl)
              have hle : hix y (i + 1) = hix y i ++ [i] := if_neg (by rw [← hyv]; exact hl)
              obtain ⟨r, hr⟩ : ∃ r, r = (hix y i).length := ⟨_, rfl⟩
              obtain ⟨yn, hyn⟩ : ∃ yn, yn = y' r := ⟨_, rfl⟩
              obtain ⟨x, hx⟩ : ∃ x, x = c i := ⟨_, rfl⟩
              have hyy : yv = (yn : Int) := by rw [hyv, ← hr3, hyn, hr]
              subst hyy
              rw [← hr] at hr1 hr2
              obtain ⟨bx, ox, hxo, hcx⟩ := (HF.out.2.1.below HI.out.2).sl i hlt2
              subst hxo
              have hcx : wA.cell? ⟨bx, ox + i, none⟩ = some (.int .i64 ((x : Nat) : Int)) := by rw [hx]; exact hcx
              have HC : Hid ((hix y (i + 1)).length = r + 1 ∧ r < m ∧ c' r = x ∧ yn = y' r ∧ x < D.q ∧ yn < D.q) := ⟨by rw [hle, List.length_append, hr]; rfl, hr1, by rw [hr2, hx], hyn, by rw [hx]; exact HF.out.2.2.2.1 i hlt2, by rw [hyn]; exact HF.out.2.2.2.2.1.yq r hr1⟩
              rw [← hr] at HI
              have hr64 : r ≤ 64 := by omega
              have hsA := HI.out.2.size
              have HCx : Hid (∀ wx, Below wA.heap.size wA wx → RcS w.heap.size D gen gm cm bw (ow + i) (yn : Nat) wx ∧ RcS w.heap.size D gen gm cm bx (ox + i) (x : Nat) wx) := fun wx hb => by
                have hbx := HBx.out wx (bel_up' HI.out.2 hb)
                exact ⟨⟨hbx.c0, hbx.c1, hbx.c2, hbx.c3, hbx.c4, ((bcell hb).1 bw (ow + i) (cell_lt hcw)).trans hcw⟩, ⟨hbx.c0, hbx.c1, hbx.c2, hbx.c3, hbx.c4, ((bcell hb).1 bx (ox + i) (cell_lt hcx)).trans hcx⟩⟩
              have HMu : Hid (∀ wx a b, Below wA.heap.size wA wx → a < D.q → b < D.q → Calls Tryz.prog 25 #[.agg #[.int .i64 D.q, .int .i64 D.p, .int .i64 D.m, .int .i64 gen, .slice (some ⟨gm, 0, none⟩) (D.m + 1) cm], .int .i64 (a : Nat), .int .i64 (b : Nat)] wx fun e w' => e = .returned (.int .i64 (D.mul a b : Nat)) ∧ Below wx.heap.size wx w') := fun wx a b hb ha hb' => rmul_nat HF.out.1 gen HF.out.2.2.2.2.2.1 a b ha hb' wx (bel_up' HI.out.2 hb)
              clear hyv hl hyn hx hr hr1 hr2 hr3 hle
              go_wp2
              go_loopw [16, 17, 18] (fun vr vx vd wx => RcJ D x yn t k wA vr vx vd wx) (fun _ _ vd _ => t + 1 - (intOf vd).toNat)
              case atStart => exact ⟨0, by omega, rfl, rfl, OwnI.nil _ _, Below.refl _ _⟩
              case round =>
                obtain ⟨d, hd, rfl, rfl, HJ⟩ := hrel
                rename World => wB
                have hsB := HJ.out.2.size
                by_cases hdt : d ≤ t
                · have hdb : (d : Int) ≤ (t : Int) := by omega
                  obtain ⟨px, hpx⟩ : ∃ px, px = D.xp x d := ⟨_, rfl⟩
                  obtain ⟨pm, hpm⟩ : ∃ pm, pm = D.mul yn px := ⟨_, rfl⟩
                  obtain ⟨pn, hpn⟩ : ∃ pn, pn = D.mul px x := ⟨_, rfl⟩
                  have HP : Hid (px < D.q ∧ pm = rvq D x yn t (t + k) d ∧ pn = D.xp x (d + 1)) := by
                    refine ⟨by rw [hpx]; exact xp_lt (fld HF.out.1) _ _, ?_, by rw [hpn, hpx]; rfl⟩
                    unfold rvq
                    rw [if_pos (by omega), hpm, hpx]
                  have HM1 : Hid (∀ wx, Below wA.heap.size wA wx → Calls Tryz.prog 25 #[.agg #[.int .i64 D.q, .int .i64 D.p, .int .i64 D.m, .int .i64 gen, .slice (some ⟨gm, 0, none⟩) (D.m + 1) cm], .int .i64 (yn : Nat), .int .i64 (px : Nat)] wx fun e w' => e = .returned (.int .i64 (pm : Nat)) ∧ Below wx.heap.size wx w') := fun wx hb => by rw [hpm]; exact HMu.out wx yn px hb HC.out.2.2.2.2.2 HP.out.1
                  have HM2 : Hid (∀ wx, Below wA.heap.size wA wx → Calls Tryz.prog 25 #[.agg #[.int .i64 D.q, .int .i64 D.p, .int .i64 D.m, .int .i64 gen, .slice (some ⟨gm, 0, none⟩) (D.m + 1) cm], .int .i64 (px : Nat), .int .i64 (x : Nat)] wx fun e w' => e = .returned (.int .i64 (pn : Nat)) ∧ Below wx.heap.size wx w') := fun wx hb => by rw [hpn]; exact HMu.out wx px x hb HP.out.1 HC.out.2.2.2.2.1
                  rw [← hpx]
                  clear hpx hpm hpn
                  obtain ⟨q0, q1, q2, q3, q4, q5⟩ := (HCx.out wB HJ.out.2).1
                  go_upto_region 20 with fail
                  clear q0 q1 q2 q3 q4 q5
                  refine wp_region_noPanic ?_
                  have hS0 := (HCx.out wB.drew (HJ.out.2.trans ((Below.refl _ _).drew.mono hsB))).1
                  refine wp_region_L (S := RcS w.heap.size D gen gm cm bw (ow + i) (yn : Nat)) [] (by kernel_rfl) ?_
                  refine wpAnyL_take (i := 0) (v := ?_) (by rw [List.getElem?_toArray]; rfl) (by decide +kernel) (by decide +kernel) (by decide +kernel) (by decide +kernel) (by decide +kernel) (fun _ _ _ h => h) hS0 (Or.inl ⟨by rfl, ?_⟩) ?_
                  rotate_left
                  · intro wz hSz; obtain ⟨z0, z1, z2, z3, z4, z5⟩ := hSz; go_simp; first | done | with_reducible rfl
                  try simp only [Act.put, List.setIfInBounds_toArray, List.set_cons_zero, List.set_cons_succ]
                  refine wpAnyL_take (i := 1) (v := ?_) (by rw [List.getElem?_toArray]; rfl) (by decide +kernel) (by decide +kernel) (by decide +kernel) (by decide +kernel) (by decide +kernel) (fun _ _ _ h => h) hS0 (Or.inl ⟨by rfl, ?_⟩) ?_
                  rotate_left
                  · intro wz hSz; obtain ⟨z0, z1, z2, z3, z4, z5⟩ := hSz; go_simp; first | done | with_reducible rfl
                  try simp only [Act.put, List.setIfInBounds_toArray, List.set_cons_zero, List.set_cons_succ]
                  refine wpAnyL_take (i := 2) (v := ?_) (by rw [List.getElem?_toArray]; rfl) (by decide +kernel) (by decide +kernel) (by decide +kernel) (by decide +kernel) (by decide +kernel) (fun _ _ _ h => h) hS0 (Or.inl ⟨by rfl, ?_⟩) ?_
                  rotate_left
                  · intro wz hSz; obtain ⟨z0, z1, z2, z3, z4, z5⟩ := hSz; go_simp; first | done | with_reducible rfl
                  try simp only [Act.put, List.setIfInBounds_toArray, List.set_cons_zero, List.set_cons_succ]
                  refine wpAnyL_take (i := 3) (v := ?_) (by rw [List.getElem?_toArray]; rfl) (by decide +kernel) (by decide +kernel) (by decide +kernel) (by decide +kernel) (by decide +kernel) (fun _ _ _ h => h) hS0 (Or.inl ⟨by rfl, ?_⟩) ?_
                  rotate_left
                  · intro wz hSz; obtain ⟨z0, z1, z2, z3, z4, z5⟩ := hSz; go_simp; first | done | with_reducible rfl
                  try simp only [Act.put, List.setIfInBounds_toArray, List.set_cons_zero, List.set_cons_succ]
                  refine wpAnyL_take (i := 4) (v := ?_) (by rw [List.getElem?_toArray]; rfl) (by decide +kernel) (by decide +kernel) (by decide +kernel) (by decide +kernel) (by decide +kernel) (fun _ _ _ h => h) hS0 (Or.inl ⟨by rfl, ?_⟩) ?_
                  rotate_left
                  · intro wz hSz; obtain ⟨z0, z1, z2, z3, z4, z5⟩ := hSz; go_simp; first | done | with_reducible rfl
                  try simp only [Act.put, List.setIfInBounds_toArray, List.set_cons_zero, List.set_cons_succ]
                  refine wpAnyL_take (i := 5) (v := ?_) (by rw [List.getElem?_toArray]; rfl) (by decide +kernel) (by decide +kernel) (by decide +kernel) (by decide +kernel) (by decide +kernel) (fun _ _ _ h => h) hS0 (Or.inl ⟨by rfl, ?_⟩) ?_
                  rotate_left
                  · intro wz hSz; obtain ⟨z0, z1, z2, z3, z4, z5⟩ := hSz; go_simp; first | done | with_reducible rfl
                  try simp only [Act.put, List.setIfInBounds_toArray, List.set_cons_zero, List.set_cons_succ]
                  refine wpAnyL_take (i := 6) (v := ?_) (by rw [List.getElem?_toArray]; rfl) (by decide +kernel) (by decide +kernel) (by decide +kernel) (by decide +kernel) (by decide +kernel) (fun _ _ _ h => h) hS0 (Or.inl ⟨by rfl, ?_⟩) ?_
                  rotate_left
                  · intro wz hSz; obtain ⟨z0, z1, z2, z3, z4, z5⟩ := hSz; go_simp; first | done | with_reducible rfl
                  try simp only [Act.put, List.setIfInBounds_toArray, List.set_cons_zero, List.set_cons_succ]
                  refine wpAnyL_one (i := 7) (by kernel_rfl) (by rw [List.getElem?_toArray]; rfl) (fun K hK => ?_)
                  have HK : Hid _ := hK
                  clear hK
                  go_simp
                  refine (HM1.out wB.drew (HJ.out.2.trans ((Below.refl _ _).drew.mono hsB))).mono ?_
                  rintro e w4 ⟨rfl, hb4⟩
                  have H4 : Hid (Below wB.heap.size wB w4) := bel_up' (Below.refl _ _).drew hb4
                  have hS4 := (HCx.out w4 (HJ.out.2.trans (H4.out.mono hsB))).1
                  clear hb4
                  refine HK.out _ _ (fun _ => hS4) ?_
                  clear HK K
                  try simp only [Act.put, List.setIfInBounds_toArray, List.set_cons_zero, List.set_cons_succ]
                  refine wpAnyL_one (i := 8) (by kernel_rfl) (by rw [List.getElem?_toArray]; rfl) (fun K hK => ?_)
                  have HK : Hid _ := hK
                  clear hK
                  go_simp
                  obtain ⟨w5, hw5⟩ : ∃ w5, w5 = w4.alloc (.cells #[.int .i64 (pm : Nat)] 3) := ⟨_, rfl⟩
                  have G5 : Hid (Below wB.heap.size wB w5 ∧ w5.cell? ⟨w4.heap.size, 0, none⟩ = some (.int .i64 ((pm : Nat) : Int))) := by
                    rw [hw5]; exact ⟨H4.out.alloc H4.out.size _, by simp⟩
                  have hS5 := (HCx.out w5 (HJ.out.2.trans (G5.out.1.mono hsB))).1
                  first | rw [← hw5] | skip
                  refine HK.out _ _ (fun _ => hS5) ?_
                  clear HK K
                  try simp only [Act.put, List.setIfInBounds_toArray, List.set_cons_zero, List.set_cons_succ]
                  clear hw5
                  refine wpAnyL_one (i := 9) (by kernel_rfl) (by rw [List.getElem?_toArray]; rfl) (fun K hK => ?_)
                  have HK : Hid _ := hK
                  clear hK
                  refine step_append_int_at (by rfl) _ _ (by rfl) wA.heap.size _ (zl d fun j => ((rvq D x yn t (t + k) j : Nat) : Int)) (by rfl) (HJ.out.1.below G5.out.1 (fun b hb => (HJ.out.1.lt b hb).2)) ⟨w4.heap.size, 0, none⟩ 1 (pm : Nat) (by rfl) G5.out.2 (by rw [zl_len]; omega) (by have := G5.out.1.size; omega) ?_
                  intro g6 c6 w6 hown6 hgrow6 hat6
                  have H6 : Hid (OwnI wA.heap.size (.slice (some ⟨g6, 0, none⟩) ((zl d fun j => ((rvq D x yn t (t + k) j : Nat) : Int)).length + 1) c6) ((zl d fun j => ((rvq D x yn t (t + k) j : Nat) : Int)) ++ [((pm : Nat) : Int)]) w6 ∧ Below wA.heap.size wA w6) := ⟨hown6, (HJ.out.2.trans (G5.out.1.mono hsB)).grown hgrow6 (by have := G5.out.1.size; omega) (fun b hb => (HJ.out.1.lt b hb).1)⟩
                  have hS6 := (HCx.out w6 H6.out.2).1
                  clear hown6 hgrow6 hat6
                  refine HK.out _ _ (fun _ => hS6) ?_
                  clear HK K
                  try simp only [Act.put, List.setIfInBounds_toArray, List.set_cons_zero, List.set_cons_succ]
                  refine wpAnyL_take (i := 10) (v := ?_) (by rw [List.getElem?_toArray]; rfl) (by decide +kernel) (by decide +kernel) (by decide +kernel) (by decide +kernel) (by decide +kernel) (fun _ _ _ h => h) hS6 (Or.inl ⟨by rfl, ?_⟩) ?_
                  rotate_left
                  · intro wz hSz; obtain ⟨z0, z1, z2, z3, z4, z5⟩ := hSz; go_simp; first | done | with_reducible rfl
                  try simp only [Act.put, List.setIfInBounds_toArray, List.set_cons_zero, List.set_cons_succ]
                  refine wpAnyL_done (by kernel_rfl) (NoPanic.normal ?_)
                  clear hS0 hS4 hS5 hS6
                  obtain ⟨q0, q1, q2, q3, q4, q5⟩ := (HCx.out w6 H6.out.2).2
                  go_upto_region 21 with fail
                  clear q0 q1 q2 q3 q4 q5
                  refine wp_region_noPanic ?_
                  have hS0 := (HCx.out w6.drew (H6.out.2.trans ((Below.refl _ _).drew.mono (by have := H6.out.2.size; omega)))).2
                  refine wp_region_L (S := RcS w.heap.size D gen gm cm bx (ox + i) (x : Nat)) [] (by kernel_rfl) ?_
                  refine wpAnyL_take (i := 0) (v := ?_) (by rw [List.getElem?_toArray]; rfl) (by decide +kernel) (by decide +kernel) (by decide +kernel) (by decide +kernel) (by decide +kernel) (fun _ _ _ h => h) hS0 (Or.inl ⟨by rfl, ?_⟩) ?_
                  rotate_left
                  · intro wz hSz; obtain ⟨z0, z1, z2, z3, z4, z5⟩ := hSz; go_simp; first | done | with_reducible rfl
                  try simp only [Act.put, List.setIfInBounds_toArray, List.set_cons_zero, List.set_cons_succ]
                  refine wpAnyL_take (i := 1) (v := ?_) (by rw [List.getElem?_toArray]; rfl) (by decide +kernel) (by decide +kernel) (by decide +kernel) (by decide +kernel) (by decide +kernel) (fun _ _ _ h => h) hS0 (Or.inl ⟨by rfl, ?_⟩) ?_
                  rotate_left
                  · intro wz hSz; obtain ⟨z0, z1, z2, z3, z4, z5⟩ := hSz; go_simp; first | done | with_reducible rfl
                  try simp only [Act.put, List.setIfInBounds_toArray, List.set_cons_zero, List.set_cons_succ]
                  refine wpAnyL_take (i := 2) (v := ?_) (by rw [List.getElem?_toArray]; rfl) (by decide +kernel) (by decide +kernel) (by decide +kernel) (by decide +kernel) (by decide +kernel) (fun _ _ _ h => h) hS0 (Or.inl ⟨by rfl, ?_⟩) ?_
                  rotate_left
                  · intro wz hSz; obtain ⟨z0, z1, z2, z3, z4, z5⟩ := hSz; go_simp; first | done | with_reducible rfl
                  try simp only [Act.put, List.setIfInBounds_toArray, List.set_cons_zero, List.set_cons_succ]
                  refine wpAnyL_take (i := 3) (v := ?_) (by rw [List.getElem?_toArray]; rfl) (by decide +kernel) (by decide +kernel) (by decide +kernel) (by decide +kernel) (by decide +kernel) (fun _ _ _ h => h) hS0 (Or.inl ⟨by rfl, ?_⟩) ?_
                  rotate_left
                  · intro wz hSz; obtain ⟨z0, z1, z2, z3, z4, z5⟩ := hSz; go_simp; first | done | with_reducible rfl
                  try simp only [Act.put, List.setIfInBounds_toArray, List.set_cons_zero, List.set_cons_succ]
                  refine wpAnyL_take (i := 4) (v := ?_) (by rw [List.getElem?_toArray]; rfl) (by decide +kernel) (by decide +kernel) (by decide +kernel) (by decide +kernel) (by decide +kernel) (fun _ _ _ h => h) hS0 (Or.inl ⟨by rfl, ?_⟩) ?_
                  rotate_left
                  · intro wz hSz; obtain ⟨z0, z1, z2, z3, z4, z5⟩ := hSz; go_simp; first | done | with_reducible rfl
                  try simp only [Act.put, List.setIfInBounds_toArray, List.set_cons_zero, List.set_cons_succ]
                  refine wpAnyL_take (i := 5) (v := ?_) (by rw [List.getElem?_toArray]; rfl) (by decide +kernel) (by decide +kernel) (by decide +kernel) (by decide +kernel) (by decide +kernel) (fun _ _ _ h => h) hS0 (Or.inl ⟨by rfl, ?_⟩) ?_
                  rotate_left
                  · intro wz hSz; obtain ⟨z0, z1, z2, z3, z4, z5⟩ := hSz; go_simp; first | done | with_reducible rfl
                  try simp only [Act.put, List.setIfInBounds_toArray, List.set_cons_zero, List.set_cons_succ]
                  refine wpAnyL_one (i := 6) (by kernel_rfl) (by rw [List.getElem?_toArray]; rfl) (fun K hK => ?_)
                  have HK : Hid _ := hK
                  clear hK
                  go_simp
                  refine (HM2.out w6.drew (H6.out.2.trans ((Below.refl _ _).drew.mono (by have := H6.out.2.size; omega)))).mono ?_
                  rintro e w7 ⟨rfl, hb7⟩
                  have H7 : Hid (Below w6.heap.size w6 w7) := bel_up' (Below.refl _ _).drew hb7
                  have hS7 := (HCx.out w7 (bel_up' H6.out.2 H7.out)).2
                  clear hb7
                  refine HK.out _ _ (fun _ => hS7) ?_
                  clear HK K
                  try simp only [Act.put, List.setIfInBounds_toArray, List.set_cons_zero, List.set_cons_succ]
                  refine wpAnyL_take (i := 7) (v := ?_) (by rw [List.getElem?_toArray]; rfl) (by decide +kernel) (by decide +kernel) (by decide +kernel) (by decide +kernel) (by decide +kernel) (fun _ _ _ h => h) hS7 (Or.inl ⟨by rfl, ?_⟩) ?_
                  rotate_left
                  · intro wz hSz; obtain ⟨z0, z1, z2, z3, z4, z5⟩ := hSz; go_simp; first | done | with_reducible rfl
                  try simp only [Act.put, List.setIfInBounds_toArray, List.set_cons_zero, List.set_cons_succ]
                  refine wpAnyL_done (by kernel_rfl) (NoPanic.normal ?_)
                  clear hS0 hS7
                  have HR : Hid (OwnI wA.heap.size (.slice (some ⟨g6, 0, none⟩) ((zl d fun j => ((rvq D x yn t (t + k) j : Nat) : Int)).length + 1) c6) (zl (d + 1) fun j => ((rvq D x yn t (t + k) j : Nat) : Int)) w7 ∧ Below wA.heap.size wA w7) := by
                    refine ⟨?_, bel_up' H6.out.2 H7.out⟩
                    rw [zl_succ, ← HP.out.2.1]
                    exact H6.out.1.below H7.out (fun b hb => (H6.out.1.lt b hb).2)
                  go_wp2
                  go_roundw
                  case rel => exact ⟨d + 1, by omega, by go_num, by rw [HP.out.2.2], HR.out⟩
                  case measure => simp [intOf]; omega
                · have hdb : ¬ (d : Int) ≤ (t : Int) := by omega
                  have hde : d = t + 1 := by omega
                  subst hde
                  have HN1 : Hid (∀ wx, Calls Tryz.prog 50 #[.agg #[.int .i64 D.q, .int .i64 D.p, .int .i64 D.m, .int .i64 gen, .slice (some ⟨gm, 0, none⟩) (D.m + 1) cm], .int .i64 1] wx fun e w' => e = .returned (.int .i64 (D.ng 1 : Nat)) ∧ Below wx.heap.size wx w') := fun wx => rneg_nat HF.out.1 gen _ 1 (one_lt' (fld HF.out.1)) wx
                  obtain ⟨q0, q1, q2, q3, q4, q5⟩ := (HCx.out wB HJ.out.2).1
                  go_wp2_with fail
                  clear q0 q1 q2 q3 q4 q5
                  refine (HN1.out wB).mono ?_
                  rintro e wC ⟨rfl, hbC⟩
                  have HJ2 : Hid (OwnI wA.heap.size u16 (zl (t + 1 + 0) fun j => ((rvq D x yn t (t + k) j : Nat) : Int)) wC ∧ Below wA.heap.size wA wC) := ⟨HJ.out.1.below hbC (fun b hb => (HJ.out.1.lt b hb).2), bel_up' HJ.out.2 hbC⟩
                  clear hbC HJ
                  go_wp2
                  go_loopw [16, 17, 19] (fun vr vx vd wx => RcK D x yn t k wA vr vx vd wx) (fun _ _ vd _ => t + k - (intOf vd).toNat)
                  case atStart => exact ⟨0, by omega, rfl, rfl, HJ2.out⟩
                  case round =>
                    clear HJ2
                    obtain ⟨d, hd, rfl, rfl, HJ⟩ := hrel
                    rename World => wB
                    have hsB := HJ.out.2.size
                    by_cases hdt : d < t + k
                    · have hdb : (d : Int) < (t : Int) + (k : Int) := by omega
                      obtain ⟨px, hpx⟩ : ∃ px, px = D.ng (D.xp x d) := ⟨_, rfl⟩
                      obtain ⟨pn, hpn⟩ : ∃ pn, pn = D.mul px x := ⟨_, rfl⟩
                      have HP : Hid (px < D.q ∧ px = rvq D x yn t (t + k) (t + 1 + d) ∧ pn = D.ng (D.xp x (d + 1))) := by
                        refine ⟨by rw [hpx]; exact ng_lt (fld HF.out.1) (xp_lt (fld HF.out.1) _ _), ?_, ?_⟩
                        · unfold rvq
                          rw [if_neg (by omega), if_pos (by omega), Nat.add_sub_cancel_left, hpx]
                        · rw [hpn, hpx, (fld HF.out.1).mul_comm, mul_ng (fld HF.out.1) (xp_lt (fld HF.out.1) _ _), (fld HF.out.1).mul_comm]; rfl
                      have HM2 : Hid (∀ wx, Below wA.heap.size wA wx → Calls Tryz.prog 25 #[.agg #[.int .i64 D.q, .int .i64 D.p, .int .i64 D.m, .int .i64 gen, .slice (some ⟨gm, 0, none⟩) (D.m + 1) cm], .int .i64 (px : Nat), .int .i64 (x : Nat)] wx fun e w' => e = .returned (.int .i64 (pn : Nat)) ∧ Below wx.heap.size wx w') := fun wx hb => by rw [hpn]; exact HMu.out wx px x hb HP.out.1 HC.out.2.2.2.2.1
                      rw [← hpx]
                      clear hpx hpn
                      go_upto_region 27 with (at_builtin; refine append_int rfl _ _ rfl wA.heap.size _ (zl (t + 1 + d) fun j => ((rvq D x yn t (t + k) j : Nat) : Int)) rfl (HJ.out.1.alloc _) ⟨_, 0, none⟩ 1 ((px : Nat) : Int) rfl (by simp) (by rw [zl_len]; omega) (by simp; omega) ?_; intro v6 w6 hown6 hgrow6; have H6 : Hid (OwnI wA.heap.size v6 (zl (t + 1 + d) (fun j => ((rvq D x yn t (t + k) j : Nat) : Int)) ++ [((px : Nat) : Int)]) w6 ∧ Below wA.heap.size wA w6) := ⟨hown6, (HJ.out.2.alloc hsB _).grown hgrow6 (by simp; omega) (fun b hb => (HJ.out.1.lt b hb).1)⟩; clear hown6 hgrow6; obtain ⟨q0, q1, q2, q3, q4, q5⟩ := (HCx.out w6 H6.out.2).2)
                      clear q0 q1 q2 q3 q4 q5
                      refine wp_region_noPanic ?_
                      have hS0 := (HCx.out w6.drew (H6.out.2.trans ((Below.refl _ _).drew.mono (by have := H6.out.2.size; omega)))).2
                      refine wp_region_L (S := RcS w.heap.size D gen gm cm bx (ox + i) (x : Nat)) [] (by kernel_rfl) ?_
                      refine wpAnyL_take (i := 0) (v := ?_) (by rw [List.getElem?_toArray]; rfl) (by decide +kernel) (by decide +kernel) (by decide +kernel) (by decide +kernel) (by decide +kernel) (fun _ _ _ h => h) hS0 (Or.inl ⟨by rfl, ?_⟩) ?_
                      rotate_left
                      · intro wz hSz; obtain ⟨z0, z1, z2, z3, z4, z5⟩ := hSz; go_simp; first | done | with_reducible rfl
                      try simp only [Act.put, List.setIfInBounds_toArray, List.set_cons_zero, List.set_cons_succ]
                      refine wpAnyL_take (i := 1) (v := ?_) (by rw [List.getElem?_toArray]; rfl) (by decide +kernel) (by decide +kernel) (by decide +kernel) (by decide +kernel) (by decide +kernel) (fun _ _ _ h => h) hS0 (Or.inl ⟨by rfl, ?_⟩) ?_
                      rotate_left
                      · intro wz hSz; obtain ⟨z0, z1, z2, z3, z4, z5⟩ := hSz; go_simp; first | done | with_reducible rfl
                      try simp only [Act.put, List.setIfInBounds_toArray, List.set_cons_zero, List.set_cons_succ]
                      refine wpAnyL_take (i := 2) (v := ?_) (by rw [List.getElem?_toArray]; rfl) (by decide +kernel) (by decide +kernel) (by decide +kernel) (by decide +kernel) (by decide +kernel) (fun _ _ _ h => h) hS0 (Or.inl ⟨by rfl, ?_⟩) ?_
                      rotate_left
                      · intro wz hSz; obtain ⟨z0, z1, z2, z3, z4, z5⟩ := hSz; go_simp; first | done | with_reducible rfl
                      try simp only [Act.put, List.setIfInBounds_toArray, List.set_cons_zero, List.set_cons_succ]
                      refine wpAnyL_take (i := 3) (v := ?_) (by rw [List.getElem?_toArray]; rfl) (by decide +kernel) (by decide +kernel) (by decide +kernel) (by decide +kernel) (by decide +kernel) (fun _ _ _ h => h) hS0 (Or.inl ⟨by rfl, ?_⟩) ?_
                      rotate_left
                      · intro wz hSz; obtain ⟨z0, z1, z2, z3, z4, z5⟩ := hSz; go_simp; first | done | with_reducible rfl
                      try simp only [Act.put, List.setIfInBounds_toArray, List.set_cons_zero, List.set_cons_succ]
                      refine wpAnyL_take (i := 4) (v := ?_) (by rw [List.getElem?_toArray]; rfl) (by decide +kernel) (by decide +kernel) (by decide +kernel) (by decide +kernel) (by decide +kernel) (fun _ _ _ h => h) hS0 (Or.inl ⟨by rfl, ?_⟩) ?_
                      rotate_left
                      · intro wz hSz; obtain ⟨z0, z1, z2, z3, z4, z5⟩ := hSz; go_simp; first | done | with_reducible rfl
                      try simp only [Act.put, List.setIfInBounds_toArray, List.set_cons_zero, List.set_cons_succ]
                      refine wpAnyL_take (i := 5) (v := ?_) (by rw [List.getElem?_toArray]; rfl) (by decide +kernel) (by decide +kernel) (by decide +kernel) (by decide +kernel) (by decide +kernel) (fun _ _ _ h => h) hS0 (Or.inl ⟨by rfl, ?_⟩) ?_
                      rotate_left
                      · intro wz hSz; obtain ⟨z0, z1, z2, z3, z4, z5⟩ := hSz; go_simp; first | done | with_reducible rfl
                      try simp only [Act.put, List.setIfInBounds_toArray, List.set_cons_zero, List.set_cons_succ]
                      refine wpAnyL_one (i := 6) (by kernel_rfl) (by rw [List.getElem?_toArray]; rfl) (fun K hK => ?_)
                      have HK : Hid _ := hK
                      clear hK
                      go_simp
                      refine (HM2.out w6.drew (H6.out.2.trans ((Below.refl _ _).drew.mono (by have := H6.out.2.size; omega)))).mono ?_
                      rintro e w7 ⟨rfl, hb7⟩
                      have H7 : Hid (Below w6.heap.size w6 w7) := bel_up' (Below.refl _ _).drew hb7
                      have hS7 := (HCx.out w7 (bel_up' H6.out.2 H7.out)).2
                      clear hb7
                      refine HK.out _ _ (fun _ => hS7) ?_
                      clear HK K
                      try simp only [Act.put, List.setIfInBounds_toArray, List.set_cons_zero, List.set_cons_succ]
                      refine wpAnyL_take (i := 7) (v := ?_) (by rw [List.getElem?_toArray]; rfl) (by decide +kernel) (by decide +kernel) (by decide +kernel) (by decide +kernel) (by decide +kernel) (fun _ _ _ h => h) hS7 (Or.inl ⟨by rfl, ?_⟩) ?_
                      rotate_left
                      · intro wz hSz; obtain ⟨z0, z1, z2, z3, z4, z5⟩ := hSz; go_simp; first | done | with_reducible rfl
                      try simp only [Act.put, List.setIfInBounds_toArray, List.set_cons_zero, List.set_cons_succ]
                      refine wpAnyL_done (by kernel_rfl) (NoPanic.normal ?_)
                      clear hS0 hS7
                      have HR : Hid (OwnI wA.heap.size v6 (zl (t + 1 + (d + 1)) fun j => ((rvq D x yn t (t + k) j : Nat) : Int)) w7 ∧ Below wA.heap.size wA w7) := by
                        refine ⟨?_, bel_up' H6.out.2 H7.out⟩
                        rw [← Nat.add_assoc, zl_succ, ← HP.out.2.1]
                        exact H6.out.1.below H7.out (fun b hb => (H6.out.1.lt b hb).2)
                      go_wp2
                      go_roundw
                      case rel => exact ⟨d + 1, by omega, by go_num, by rw [HP.out.2.2], HR.out⟩
                      case measure => simp [intOf]; omega
                    · have hdb : ¬ (d : Int) < (t : Int) + (k : Int) := by omega
                      have hde : d = t + k := by omega
                      subst hde
                      obtain ⟨bo, cb, hbo, _⟩ := HJ.out.1.argL
                      subst hbo
                      have hll : (vl r vs).length ≤ 1000000 := by rw [vl_len]; omega
                      have H2 : Hid (MkS wa.heap.size D.q (t + 1 + (t + k)) r u14 vs (fun j d => ((rvq D (c' j) (y' j) t (t + k) d : Nat) : Int)) wB) := HI.out.1.below HJ.out.2
                      go_wp2_with (at_builtin; refine append_sl rfl _ _ rfl wa.heap.size u14 (vl r vs) rfl (H2.out.own.below ((Below.refl _ _).alloc (Nat.le_refl _) _) (Nat.le_refl _)) ⟨wB.heap.size, 0, none⟩ 1 (.slice bo (t + 1 + (t + k) : Nat) cb) rfl rfl (by rw [cell_of_row _ _ _ _ _ (0, 0) (two_new _)]; rfl) hll (by simp; omega) ?_; intro v' w6 hown6 hg6)
                      have HR : Hid (RcI D y c' y' n t k wa.heap.size wa v' (.int .i64 ((i : Nat) + 1 : Int)) w6) := by
                        have hal : Below wB.heap.size wB (wB.alloc (.cells #[.slice bo (t + 1 + (t + k) : Nat) cb] 22)) := (Below.refl _ _).alloc (Nat.le_refl _) _
                        have ho := H2.out.below hal
                        have F' := fld HF.out.1
                        have hp := ho.push (y := fun d => ((rvq D x yn t (t + k) d : Nat) : Int)) ((HJ.out.1.below hal (fun b hb => (HJ.out.1.lt b hb).2)).mono hsA) (fun j _ => ⟨Int.natCast_nonneg _, by have := rvq_el F' x yn t (t + k) j; show ((rvq D x yn t (t + k) j : Nat) : Int) < _; omega⟩) hown6 hg6
                        refine ⟨i + 1, fun j => if j = r then .slice bo (t + 1 + (t + k) : Nat) cb else vs j, by omega, rfl, ?_, (bel_up' (bel_up' HI.out.2 HJ.out.2) hal).grown hg6 (by simp; omega) (fun b hb => ho.own.open_ge b hb)⟩
                        rw [HC.out.1]
                        have e : (fun j => if j = r then (fun d => ((rvq D x yn t (t + k) d : Nat) : Int)) else fun d => ((rvq D (c' j) (y' j) t (t + k) d : Nat) : Int)) = fun j d => ((rvq D (c' j) (y' j) t (t + k) d : Nat) : Int) := by
                          funext j d
                          by_cases e : j = r
                          · rw [if_pos e, e, HC.out.2.2.1, ← HC.out.2.2.2.1]
                          · rw [if_neg e]
                        rw [e] at hp
                        exact hp
                      clear hown6 hg6
                      go_roundw
                      case rel => exact HR.out
                      case measure => simp [intOf]; omega
          · have hib2 : ¬ (i : Int) < (n : Int) := by omega
            have hie2 : n = i := by omega
            subst hie2
            have hlen := HF.out.2.2.2.2.1.len
            rw [hlen] at HI
            clear hlen
            obtain ⟨N1, hN1⟩ : ∃ N1, N1 = t + 1 + (t + k) := ⟨_, rfl⟩
            obtain ⟨t1, ht1⟩ : ∃ t1, t1 = t + 1 := ⟨_, rfl⟩
            obtain ⟨K1, hK1⟩ : ∃ K1, K1 = t + k := ⟨_, rfl⟩
            obtain ⟨mo, mc, hmv, hMat⟩ := HI.out.1.matR (n := t + (t + k)) (M := fun i => rvq D (c' i) (y' i) t (t + k)) (by omega) (fun j _ d _ => rfl)
            subst hmv
            have HNu : Hid (Calls Tryz.prog 51 #[.agg #[.int .i64 D.q, .int .i64 D.p, .int .i64 D.m, .int .i64 gen, .slice (some ⟨gm, 0, none⟩) (D.m + 1) cm], .slice mo m mc, .int .i64 (N1 : Nat)] wA fun e w' => ∃ no k2 nc R2, e = .returned (.slice no k2 nc) ∧ Dul D N1 m (fun i => rvq D (c' i) (y' i) t (t + k)) k2 R2 ∧ LLs wA.heap.size (.slice no k2 nc) (rl k2 (t + (t + k)) R2) w' ∧ k2 ≤ N1 ∧ Below wA.heap.size wA w') := by
              have F' := fld HF.out.1
              refine (rnull_any HF.out.1 gen gm cm (N := N1) (n := t + (t + k)) (by omega) (by omega) (by omega) (fun i _ => ⟨rvq_el F' _ _ _ _, (rvq_bd D _ _ _ _).mono (by omega)⟩) hMat (HF.out.2.2.2.2.2.1.below HI.out.2)).mono ?_
              rintro e w' ⟨v, k1, R, p, R2, p2, rfl, _, h1, h2, h3, h4, h5, h6⟩
              obtain ⟨no, nc, hv⟩ := h3.slice
              rw [rl_len] at hv
              subst hv
              exact ⟨no, _, nc, R2, rfl, ⟨k1, R, p, p2, h1, h2, h4, h5, rfl⟩, h3, nct_le _ _ _, h6⟩
            have HN : Hid (N1 = t + 1 + (t + k) ∧ t1 = t + 1 ∧ K1 = t + k ∧ Below wa.heap.size wa wA) := ⟨hN1, ht1, hK1, HI.out.2⟩
            have hNw : 2 * (t : Int) + 1 + (k : Int) = (N1 : Int) := by omega
            have hN64 : N1 ≤ 200 := by omega
            have ht1w : (t : Int) + 1 = (t1 : Int) := by omega
            have ht1N : (t1 : Int) ≤ (N1 : Int) := by omega
            have hNt : N1 - t1 = K1 := by omega
            have hK64 : K1 ≤ 200 := by omega
            have ht164 : t1 ≤ 200 := by omega
            have ht10 : (0 : Int) ≤ (t1 : Int) := by omega
            clear hMat hN1 ht1 hK1
            obtain ⟨q0, q1, q2, q3, q4⟩ := HBx.out wA HN.out.2.2.2
            go_wp2_with fail
            clear q0 q1 q2 q3 q4
            refine HNu.out.mono ?_
            rintro e w5 ⟨no, k2, nc, R2, rfl, hdul, hll, hk2N, hb5⟩
            have H5 : Hid (Below wa.heap.size wa w5 ∧ Below w.heap.size w w5) := ⟨bel_up' HN.out.2.2.2 hb5, bel_up' HF.out.2.2.2.2.2.2 (bel_up' HN.out.2.2.2 hb5)⟩
            have HTd := null_told (fld HF.out.1) hw2 HT.out HF.out.2.2.2.2.1.cq HF.out.2.2.2.2.1.ne (by rw [← HN.out.1]; exact hdul)
            have HTd : Hid _ := HTd
            clear hdul hb5 HNu HI
            by_cases hk2 : k2 = 0
            · have hkz : ((k2 : Int) == 0) = true := by rw [hk2]; rfl
              have HR : Hid (RecP D m k c' y' w (.returned (.tuple #[.slice none 0 0, .int .i64 0, .bool false])) w5) := ⟨H5.out.2, Or.inr ⟨HTd.out.1 hk2, rfl⟩⟩
              go_wp2
              go_ret3
              exact HR.out
            · have hkz : ((k2 : Int) == 0) = false := by rw [beq_eq_false_iff_ne]; omega
              have hk2b : (0 : Int) < (k2 : Int) := by omega
              obtain ⟨s, hs⟩ : ∃ s, s = R2 0 := ⟨_, rfl⟩
              obtain ⟨g, b, cp, hno, hcell, hrow, hcp1, hcp2⟩ := lls_at hll (rl_get k2 (t + (t + k)) R2 0 (by omega))
              subst hno
              replace hcp1 : t + (t + k) + 1 ≤ cp := hcp1
              replace hcell : w5.cell? ⟨g, 0, none⟩ = some (.slice (some ⟨b, 0, none⟩) (t + (t + k) + 1) cp) := hcell
              replace hrow : Row b (t + (t + k) + 1) s w5 := by rw [hs]; exact hrow
              rw [show t + (t + k) + 1 = N1 by have := HN.out.1; omega] at hcell hrow hcp1
              have H6 : Hid (Row b N1 s w5 ∧ El D s ∧ Bd N1 s ∧ ∀ a, NearH D m k c' y' a → rst2 t s = pmul D k a (cutN t1 s) ∧ dgn (cutN t1 s) t1 ≠ 0) := by
                obtain ⟨j1, j2, j3⟩ := HTd.out.2 (by omega)
                rw [← hs, ← HN.out.1] at j2
                rw [← hs] at j1 j3
                rw [← HN.out.2.1] at j3
                exact ⟨hrow, j1, j2, j3⟩
              clear hll hrow hs HTd
              obtain ⟨E, hE⟩ : ∃ E, E = cutN t1 s := ⟨_, rfl⟩
              obtain ⟨le, hle⟩ : ∃ le, le = dgn E t1 := ⟨_, rfl⟩
              have hle1 : le ≤ t1 := by rw [hle]; exact dgn_le _ _
              have ht1cp : (t1 : Int) ≤ (cp : Int) := by omega
              obtain ⟨cq, hcq⟩ : ∃ cq, cp - t1 = cq := ⟨_, rfl⟩
              have hcq0 : ¬ cq = 0 := by have := HN.out; omega
              have hcqK : K1 ≤ cq := by omega
              have hcqm : cq ≤ 9223372036854775807 := by omega
              have hcpN : (N1 : Int) ≤ (cp : Int) := by omega
              have hwt1 : IntKind.i64.wrap (t1 : Int) = (t1 : Int) := wrap_ka (by omega) (by omega)
              have hcpt : ¬ cp = t1 := by have := HN.out; omega
              have HE : Hid (E = cutN t1 s ∧ le = dgn E t1 ∧ El D E ∧ Bd t1 E ∧ Trd le E) := by
                have h1 : El D E := fun j => by
                  rw [hE]; unfold cutN
                  split
                  · exact H6.out.2.1 j
                  · exact zero_lt' (fld HF.out.1)
                have h2 : Bd t1 E := fun j hj => by rw [hE]; unfold cutN; exact if_neg (by omega)
                exact ⟨hE, hle, h1, h2, by rw [hle]; exact trd_dgn h2⟩
              have HTr : Hid (Calls Tryz.prog 52 #[.slice (some ⟨b, 0, none⟩) t1 cp] w5 fun e w' => ∃ v, e = .returned v ∧ OwnP w5.heap.size v le E w' ∧ Below w5.heap.size w5 w') := by
                have h := rtrim_any (c := E) (n := t1) (cap := cp) ((H6.out.1.sl (show t1 ≤ N1 by omega)).congr (fun j hj => by rw [HE.out.1]; exact (if_pos hj).symm)) (by omega) hcp2 (fun e => by cases e) (fun x hx => by cases hx; exact H6.out.1.lt) (by omega)
                rw [← HE.out.2.1] at h
                exact h
              clear hE hle
              go_wp2_with fail
              refine HTr.out.mono ?_
              rintro e w6 ⟨v, rfl, hown6, hb6⟩
              obtain ⟨eo, ec, hev, he1, he2, _, he4, he5, he6⟩ := hown6.open
              subst hev
              have H7 : Hid (Below w5.heap.size w5 w6 ∧ Sl eo le E w6 ∧ LtB eo w6.heap.size ∧ (eo = none → ec = 0) ∧ Below wa.heap.size wa w6 ∧ Below w.heap.size w w6) := ⟨hb6, he6, he4, he5, bel_up' H5.out.1 hb6, bel_up' H5.out.2 hb6⟩
              clear hown6 hb6 he4 he5 he6 HTr hcell
              by_cases hle0 : le = 0
              · have hlz : ((le : Int) == 0) = true := by rw [hle0]; rfl
                have HR : Hid (RecP D m k c' y' w (.returned (.tuple #[.slice none 0 0, .int .i64 0, .bool false])) w6) := ⟨H7.out.2.2.2.2.2, Or.inr ⟨fun a ha => (H6.out.2.2.2 a ha).2 (by rw [← HE.out.1, ← HE.out.2.1]; exact hle0), rfl⟩⟩
                go_wp2
                go_ret3
                exact HR.out
              · have hlz : ((le : Int) == 0) = false := by rw [beq_eq_false_iff_ne]; omega
                obtain ⟨A, hA⟩ : ∃ A, A = rst2 t s := ⟨_, rfl⟩
                obtain ⟨Q, hQ⟩ : ∃ Q, Q = D.quo A K1 E le := ⟨_, rfl⟩
                obtain ⟨Z, hZ⟩ : ∃ Z, Z = D.rst A K1 E le := ⟨_, rfl⟩
                obtain ⟨lq, hlq⟩ : ∃ lq, lq = dgn Q (K1 - (le - 1)) := ⟨_, rfl⟩
                obtain ⟨lr, hlr⟩ : ∃ lr, lr = dgn Z K1 := ⟨_, rfl⟩
                have hlq1 : lq ≤ K1 := by rw [hlq]; have := dgn_le Q (K1 - (le - 1)); omega
                have hlr1 : lr ≤ K1 := by rw [hlr]; exact dgn_le _ _
                have hdE : dgn E le = le := dgn_self HE.out.2.2.2.2.2
                have elA : El D A := fun j => by rw [hA]; exact H6.out.2.1 _
                have bdA : Bd K1 A := fun j hj => by rw [hA]; exact H6.out.2.2.1 _ (by have := HN.out; omega)
                have HA : Hid (El D Q ∧ Trd lq Q ∧ ∀ a, NearH D m k c' y' a → Q = a ∧ lr = 0 ∧ lq ≤ k) := by
                  have qs := quo_short HF.out.1 A E K1 le
                  rw [hdE, ← hQ] at qs
                  refine ⟨qs.1, by rw [hlq]; exact trd_dgn qs.2, fun a ha => ?_⟩
                  have hB := (H6.out.2.2.2 a ha).1
                  rw [← hA, ← HE.out.1] at hB
                  obtain ⟨u1, u2⟩ := quo_exact HF.out.1 (N := A) (n := K1) elA bdA HE.out.2.2.1 HE.out.2.2.2.2.1 (by rw [hdE]; exact hle0) ha.1 ha.2.1 hB
                  rw [← hQ] at u1
                  rw [← hZ] at u2
                  refine ⟨u1, by rw [hlr, u2]; exact dgn_nil K1, ?_⟩
                  rw [hlq, u1]
                  have := dgn_from ha.2.1 (show k ≤ K1 + k by omega)
                  have h3 := trd_le (trd_dgn (c := a) (n := K1 - (le - 1)) (by rw [← u1]; exact qs.2)) ha.2.1
                  exact h3
                have HDv : Hid (∀ wx, Below w6.heap.size w6 wx → Calls Tryz.prog 53 #[.agg #[.int .i64 D.q, .int .i64 D.p, .int .i64 D.m, .int .i64 gen, .slice (some ⟨gm, 0, none⟩) (D.m + 1) cm], .slice (some ⟨b, t1, none⟩) K1 cq, .slice eo le ec] wx fun e w' => ∃ qo qc ro rc, e = .returned (.tuple #[.slice qo lq qc, .slice ro lr rc]) ∧ OwnQt wx.heap.size (.slice qo lq qc) lq Q w' ∧ Below wx.heap.size wx w') := fun wx hb => by
                  have hb5x := bel_up' H7.out.1 hb
                  have hrw := H6.out.1.below hb5x H6.out.1.lt
                  have hSl : Sl (some ⟨b, t1, none⟩) K1 A wx := fun j hj => ⟨b, t1, rfl, by rw [hA]; show wx.cell? ⟨b, t1 + j, none⟩ = some (Value.int .i64 ((s (t + 1 + j) : Nat) : Int)); rw [← HN.out.2.1]; exact hrw.cell (t1 + j) (by omega)⟩
                  have h := rpdiv_own HF.out.1 gen gm cm (ca := cq) (cb := ec) (by omega) (by omega) elA HE.out.2.2.1 bdA HE.out.2.2.2.2.1 hSl (H7.out.2.1.below hb H7.out.2.2.1) (fun x hx => by cases hx; exact hrw.lt) (H7.out.2.2.1.mono hb.size) hcqK hcqm (fun e => by cases e) he1 he2 H7.out.2.2.2.1 (HF.out.2.2.2.2.2.1.below (bel_up' H7.out.2.2.2.2.1 hb)) (le - 1) (by rw [hdE]; omega)
                  refine h.mono ?_
                  rintro e w' ⟨vq, vr, rfl, h1, h2, h3⟩
                  have eQ : divQ D E (le - 1) (D.iv (E (le - 1))) (K1 - (le - 1)) A = Q := by rw [hQ]; unfold FD.quo; rw [hdE]
                  have eZ : divR D E (le - 1) (D.iv (E (le - 1))) (K1 - (le - 1)) A = Z := by rw [hZ]; unfold FD.rst; rw [hdE]
                  rw [eQ, ← hlq] at h1
                  rw [eZ, ← hlr] at h2
                  obtain ⟨qo, qc, e1, _⟩ := OwnI.argN h1 (by omega)
                  obtain ⟨ro, rc, e2, _⟩ := h2.arg (by omega)
                  subst e1 e2
                  exact ⟨qo, qc, ro, rc, rfl, h1, h3⟩
                clear hA hQ hZ hlq hlr hdE elA bdA
                obtain ⟨q0, q1, q2, q3, q4⟩ := HBx.out w6 H7.out.2.2.2.2.1
                go_upto_region 36 with fail
                clear q0 q1 q2 q3 q4
                refine wp_region_noPanic ?_
                have hS0 := HBx.out w6.drew (bel_up' H7.out.2.2.2.2.1 (Below.refl _ _).drew)
                refine wp_region_L (S := Box w.heap.size D gen (.slice (some ⟨gm, 0, none⟩) (D.m + 1) cm)) [] (by kernel_rfl) ?_
                refine wpAnyL_take (i := 0) (v := ?_) (by rw [List.getElem?_toArray]; rfl) (by decide +kernel) (by decide +kernel) (by decide +kernel) (by decide +kernel) (by decide +kernel) (fun _ _ _ h => h) hS0 (Or.inl ⟨by rfl, ?_⟩) ?_
                rotate_left
                · intro wz hSz; obtain ⟨z0, z1, z2, z3, z4⟩ := hSz; go_simp; first | done | with_reducible rfl
                try simp only [Act.put, List.setIfInBounds_toArray, List.set_cons_zero, List.set_cons_succ]
                refine wpAnyL_take (i := 1) (v := ?_) (by rw [List.getElem?_toArray]; rfl) (by decide +kernel) (by decide +kernel) (by decide +kernel) (by decide +kernel) (by decide +kernel) (fun _ _ _ h => h) hS0 (Or.inl ⟨by rfl, ?_⟩) ?_
                rotate_left
                · intro wz hSz; obtain ⟨z0, z1, z2, z3, z4⟩ := hSz; go_simp; first | done | with_reducible rfl
                try simp only [Act.put, List.setIfInBounds_toArray, List.set_cons_zero, List.set_cons_succ]
                refine wpAnyL_take (i := 2) (v := ?_) (by rw [List.getElem?_toArray]; rfl) (by decide +kernel) (by decide +kernel) (by decide +kernel) (by decide +kernel) (by decide +kernel) (fun _ _ _ h => h) hS0 (Or.inl ⟨by rfl, ?_⟩) ?_
                rotate_left
                · intro wz hSz; obtain ⟨z0, z1, z2, z3, z4⟩ := hSz; go_simp; first | done | with_reducible rfl
                try simp only [Act.put, List.setIfInBounds_toArray, List.set_cons_zero, List.set_cons_succ]
                refine wpAnyL_take (i := 3) (v := ?_) (by rw [List.getElem?_toArray]; rfl) (by decide +kernel) (by decide +kernel) (by decide +kernel) (by decide +kernel) (by decide +kernel) (fun _ _ _ h => h) hS0 (Or.inl ⟨by rfl, ?_⟩) ?_
                rotate_left
                · intro wz hSz; obtain ⟨z0, z1, z2, z3, z4⟩ := hSz; go_simp; first | done | with_reducible rfl
                try simp only [Act.put, List.setIfInBounds_toArray, List.set_cons_zero, List.set_cons_succ]
                refine wpAnyL_take (i := 4) (v := ?_) (by rw [List.getElem?_toArray]; rfl) (by decide +kernel) (by decide +kernel) (by decide +kernel) (by decide +kernel) (by decide +kernel) (fun _ _ _ h => h) hS0 (Or.inl ⟨by rfl, ?_⟩) ?_
                rotate_left
                · intro wz hSz; obtain ⟨z0, z1, z2, z3, z4⟩ := hSz; go_simp; first | done | with_reducible rfl
                try simp only [Act.put, List.setIfInBounds_toArray, List.set_cons_zero, List.set_cons_succ]
                refine wpAnyL_take (i := 5) (v := ?_) (by rw [List.getElem?_toArray]; rfl) (by decide +kernel) (by decide +kernel) (by decide +kernel) (by decide +kernel) (by decide +kernel) (fun _ _ _ h => h) hS0 (Or.inl ⟨by rfl, ?_⟩) ?_
                rotate_left
                · intro wz hSz; obtain ⟨z0, z1, z2, z3, z4⟩ := hSz; go_simp; first | done | with_reducible rfl
                try simp only [Act.put, List.setIfInBounds_toArray, List.set_cons_zero, List.set_cons_succ]
                refine wpAnyL_one (i := 6) (by kernel_rfl) (by rw [List.getElem?_toArray]; rfl) (fun K hK => ?_)
                have HK : Hid _ := hK
                clear hK
                go_simp
                refine (HDv.out w6.drew (Below.refl _ _).drew).mono ?_
                rintro e w7 ⟨qo, qc, ro, rc, rfl, hq7, hb7⟩
                have H8 : Hid (OwnQt w6.heap.size (.slice qo lq qc) lq Q w7 ∧ Below wa.heap.size wa w7 ∧ Below w.heap.size w w7 ∧ w6.heap.size ≤ w7.heap.size) := ⟨hq7, bel_up' H7.out.2.2.2.2.1 (bel_up' (Below.refl _ _).drew hb7), bel_up' H7.out.2.2.2.2.2 (bel_up' (Below.refl _ _).drew hb7), hb7.size⟩
                have hS7 := HBx.out w7 H8.out.2.1
                clear hq7 hb7
                refine HK.out _ _ (fun _ => hS7) ?_
                clear HK K
                try simp only [Act.put, List.setIfInBounds_toArray, List.set_cons_zero, List.set_cons_succ]
                refine wpAnyL_take (i := 7) (v := ?_) (by rw [List.getElem?_toArray]; rfl) (by decide +kernel) (by decide +kernel) (by decide +kernel) (by decide +kernel) (by decide +kernel) (fun _ _ _ h => h) hS7 (Or.inl ⟨by rfl, ?_⟩) ?_
                rotate_left
                · intro wz hSz; obtain ⟨z0, z1, z2, z3, z4⟩ := hSz; go_simp; first | done | with_reducible rfl
                try simp only [Act.put, List.setIfInBounds_toArray, List.set_cons_zero, List.set_cons_succ]
                refine wpAnyL_take (i := 8) (v := ?_) (by rw [List.getElem?_toArray]; rfl) (by decide +kernel) (by decide +kernel) (by decide +kernel) (by decide +kernel) (by decide +kernel) (fun _ _ _ h => h) hS7 (Or.inl ⟨by rfl, ?_⟩) ?_
                rotate_left
                · intro wz hSz; obtain ⟨z0, z1, z2, z3, z4⟩ := hSz; go_simp; first | done | with_reducible rfl
                try simp only [Act.put, List.setIfInBounds_toArray, List.set_cons_zero, List.set_cons_succ]
                refine wpAnyL_take (i := 9) (v := ?_) (by rw [List.getElem?_toArray]; rfl) (by decide +kernel) (by decide +kernel) (by decide +kernel) (by decide +kernel) (by decide +kernel) (fun _ _ _ h => h) hS7 (Or.inl ⟨by rfl, ?_⟩) ?_
                rotate_left
                · intro wz hSz; obtain ⟨z0, z1, z2, z3, z4⟩ := hSz; go_simp; first | done | with_reducible rfl
                try simp only [Act.put, List.setIfInBounds_toArray, List.set_cons_zero, List.set_cons_succ]
                refine wpAnyL_take (i := 10) (v := ?_) (by rw [List.getElem?_toArray]; rfl) (by decide +kernel) (by decide +kernel) (by decide +kernel) (by decide +kernel) (by decide +kernel) (fun _ _ _ h => h) hS7 (Or.inl ⟨by rfl, ?_⟩) ?_
                rotate_left
                · intro wz hSz; obtain ⟨z0, z1, z2, z3, z4⟩ := hSz; go_simp; first | done | with_reducible rfl
                try simp only [Act.put, List.setIfInBounds_toArray, List.set_cons_zero, List.set_cons_succ]
                refine wpAnyL_take (i := 11) (v := ?_) (by rw [List.getElem?_toArray]; rfl) (by decide +kernel) (by decide +kernel) (by decide +kernel) (by decide +kernel) (by decide +kernel) (fun _ _ _ h => h) hS7 (Or.inl ⟨by rfl, ?_⟩) ?_
                rotate_left
                · intro wz hSz; obtain ⟨z0, z1, z2, z3, z4⟩ := hSz; go_simp; first | done | with_reducible rfl
                try simp only [Act.put, List.setIfInBounds_toArray, List.set_cons_zero, List.set_cons_succ]
                refine wpAnyL_done (by kernel_rfl) (NoPanic.normal ?_)
                clear hS0 hS7 HDv
                by_cases hlr0 : lr = 0
                · have hlrz : ¬ (0 : Int) < (lr : Int) := by omega
                  have hlrz2 : ¬ (lr : Int) > 0 := hlrz
                  have HLr : Hid (lr = 0) := hlr0
                  clear hlr0
                  by_cases hlqk : lq ≤ k
                  · have hqb : ¬ (k : Int) < (lq : Int) := by omega
                    have hqb2 : ¬ (lq : Int) > (k : Int) := hqb
                    obtain ⟨d, hd⟩ : ∃ d, d = k - lq := ⟨_, rfl⟩
                    have hdw : (k : Int) - (lq : Int) = (d : Int) := by omega
                    have hd64 : d ≤ 64 := by omega
                    have HD2 : Hid (lq + d = k) := by show _ = _; omega
                    clear hd
                    go_wp2_with (at_builtin; refine append_noughts rfl _ _ rfl w6.heap.size _ (zl lq fun j => ((Q j : Nat) : Int)) rfl H8.out.1 d rfl (by rw [zl_len]; omega) H8.out.2.2.2 ?_; intro v8 w8 hown8 hgrow8; have hb8 : Below wa.heap.size wa w8 := H8.out.2.1.grown hgrow8 H8.out.2.1.size (fun b hb => by have := (OwnI.lt H8.out.1 b hb).1; have := H7.out.2.2.2.2.1.size; omega); have H9 : Hid (OwnQt w6.heap.size v8 k Q w8 ∧ Below wa.heap.size wa w8 ∧ Below w.heap.size w w8) := ⟨zl_pad HA.out.2.1.1 HD2.out hown8, hb8, bel_up' HF.out.2.2.2.2.2.2 hb8⟩; clear hown8 hgrow8 hb8; obtain ⟨vo, vc, hv8, hva⟩ := OwnI.argN H9.out.1 (by omega); subst hv8; have HVA : Hid _ := hva; clear hva; obtain ⟨q0, q1, q2, q3, q4⟩ := HBx.out w8 H9.out.2.1)
                    clear q0 q1 q2 q3 q4
                    obtain ⟨O1, hO1⟩ : ∃ O1, O1 = ofs D k m c' y' Q := ⟨_, rfl⟩
                    have hO64 : O1 ≤ m := by
                      rw [hO1]; unfold ofs
                      have := ct_not (fun i => decide (D.ev Q (c' i) k = y' i)) m
                      omega
                    have HO : Hid (Calls Tryz.prog 54 #[.agg #[.int .i64 D.q, .int .i64 D.p, .int .i64 D.m, .int .i64 gen, .slice (some ⟨gm, 0, none⟩) (D.m + 1) cm], .slice xo n cx, .slice wo n cw, .slice vo k vc] w8 fun e w' => e = .returned (.tuple #[.int .i64 (O1 : Nat), .int .i64 (m : Nat)]) ∧ Below w8.heap.size w8 w') := by
                      have hx8 := HF.out.2.1.below H9.out.2.1
                      have hy8 := HF.out.2.2.1.below H9.out.2.1
                      have h := roffl_any HF.out.1 gen gm cm (cx := cx) (cy := cw) (ca := vc) (a := Q) (y := y) (xs := c) hn (by omega) hx8.sl hy8.sl HVA.out.sl hx8.lt hy8.lt HVA.out.lt HF.out.2.2.2.1 HA.out.1 (HF.out.2.2.2.2.2.1.below H9.out.2.1)
                      rw [← HF.out.2.2.2.2.1.many, ← HF.out.2.2.2.2.1.ofs k Q, ← hO1] at h
                      exact h
                    have HO1 : Hid (O1 = ofs D k m c' y' Q) := hO1
                    clear hO1
                    have hO2 : IntKind.i64.wrap (2 * (O1 : Int)) = 2 * (O1 : Int) := wrap_ka (by omega) (by omega)
                    refine HO.out.mono ?_
                    rintro e w9 ⟨rfl, hb9⟩
                    have H10 : Hid (Below w.heap.size w w9 ∧ OwnQt w6.heap.size (.slice vo k vc) k Q w9) := ⟨bel_up' H9.out.2.2 hb9, OwnI.below H9.out.1 hb9 (fun b hb => (OwnI.lt H9.out.1 b hb).2)⟩
                    clear hb9 HO
                    by_cases hgt : (m : Int) - (k : Int) < 2 * (O1 : Int)
                    · have hgt2 : 2 * (O1 : Int) > (m : Int) - (k : Int) := hgt
                      have HR : Hid (RecP D m k c' y' w (.returned (.tuple #[.slice none 0 0, .int .i64 0, .bool false])) w9) := ⟨H10.out.1, Or.inr ⟨fun a ha => by have h1 := (HA.out.2.2 a ha).1; have h2 := HO1.out; rw [h1] at h2; have := ha.2.2.2; omega, rfl⟩⟩
                      go_wp2
                      go_ret3
                      exact HR.out
                    · have hgt2 : ¬ 2 * (O1 : Int) > (m : Int) - (k : Int) := hgt
                      have HR : Hid (RecP D m k c' y' w (.returned (.tuple #[.slice vo k vc, .int .i64 (O1 : Nat), .bool true])) w9) := by
                        have hw6 := H7.out.2.2.2.2.2.size
                        exact ⟨H10.out.1, Or.inl ⟨Q, ⟨HA.out.1, HA.out.2.1.1.mono hlqk, by omega, by rw [← HO1.out]; omega⟩, _, by rw [← HO1.out], OwnI.mono H10.out.2 hw6⟩⟩
                      go_wp2
                      go_ret3
                      exact HR.out
                  · have hqb : (k : Int) < (lq : Int) := by omega
                    have hqb2 : (lq : Int) > (k : Int) := hqb
                    have HR : Hid (RecP D m k c' y' w (.returned (.tuple #[.slice none 0 0, .int .i64 0, .bool false])) w7) := ⟨H8.out.2.2.1, Or.inr ⟨fun a ha => hlqk (HA.out.2.2 a ha).2.2, rfl⟩⟩
                    go_wp2
                    go_ret3
                    exact HR.out
                · have hlrz : (0 : Int) < (lr : Int) := by omega
                  have hlrz2 : (lr : Int) > 0 := hlrz
                  have HR : Hid (RecP D m k c' y' w (.returned (.tuple #[.slice none 0 0, .int .i64 0, .bool false])) w7) := ⟨H8.out.2.2.1, Or.inr ⟨fun a ha => hlr0 (HA.out.2.2 a ha).2.1, rfl⟩⟩
                  go_wp2
                  go_ret3
                  exact HR.out
end Go.Proofs.YtnjbnamcedfjaaaGreat
